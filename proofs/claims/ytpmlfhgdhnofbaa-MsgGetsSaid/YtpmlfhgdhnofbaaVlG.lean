/- Lists of votes, plain: one more by its slot, one more in a log; what records say, one behind the other. Lists of votes, as slices; the reference's Same of votes. The reference's Put1 of layer 17. The reference's add of layer 18. The reference's Put of layer 18. The reference's Read of layer 18. -/
import Derived.Test.YtpmlfhgdhnofbaaVoG
import Derived.BigQuiet
import Derived.Test.YtpmlfhgdhnofbaaFrmRQ
import Derived.Deep.Cut
set_option maxHeartbeats 8000000
set_option maxRecDepth 100000
namespace Go.Proofs.Ytpmlfhgdhnofbaa.Ce
open Go.RowKit
def offV (c : Vt) : List Vt → List Vt
 | [] => []
 | x :: r => if x.slot = c.slot then r else x :: r
def ltV (c x : Vt) : Bool := decide (x.slot < c.slot)
def put1V (l : List Vt) (c : Vt) : List Vt := l.takeWhile (ltV c) ++ c :: offV c (l.dropWhile (ltV c))
theorem put1V_nil (c : Vt) : put1V [] c = [c] := rfl
theorem put1V_lt {x c : Vt} {l : List Vt} (h : x.slot < c.slot) : put1V (x :: l) c = x :: put1V l c := by
 unfold put1V
 have hx : ltV c x = true := decide_eq_true h
 rw [List.takeWhile_cons_of_pos hx, List.dropWhile_cons_of_pos hx]
 rfl
theorem put1V_eq {x c : Vt} {l : List Vt} (h : x.slot = c.slot) : put1V (x :: l) c = c :: l := by
 unfold put1V
 have hx : ¬ ltV c x = true := by unfold ltV; rw [decide_eq_true_iff]; omega
 rw [List.takeWhile_cons_of_neg hx, List.dropWhile_cons_of_neg hx, offV, if_pos h]
 rfl
theorem put1V_gt {x c : Vt} {l : List Vt} (h : c.slot < x.slot) : put1V (x :: l) c = c :: x :: l := by
 unfold put1V
 have hx : ¬ ltV c x = true := by unfold ltV; rw [decide_eq_true_iff]; omega
 rw [List.takeWhile_cons_of_neg hx, List.dropWhile_cons_of_neg hx, offV, if_neg (by omega)]
 rfl
def SrtV (l : List Vt) : Prop := l.Pairwise fun a b => a.slot < b.slot
theorem mem_put1V {c : Vt} : ∀ {l : List Vt}, SrtV l → ∀ x, x ∈ put1V l c ↔ x = c ∨ (x ∈ l ∧ x.slot ≠ c.slot)
 | [], _, x => by simp [put1V_nil]
 | y :: l, h, x => by
  obtain ⟨h1, h2⟩ := List.pairwise_cons.1 h
  by_cases e1 : y.slot < c.slot
  ·rw [put1V_lt e1, List.mem_cons, mem_put1V h2, List.mem_cons]
   constructor
   ·rintro (rfl | rfl | ⟨a, b⟩)
    ·exact .inr ⟨.inl rfl, by omega⟩
    ·exact .inl rfl
    ·exact .inr ⟨.inr a, b⟩
   ·rintro (rfl | ⟨rfl | a, b⟩)
    ·exact .inr (.inl rfl)
    ·exact .inl rfl
    ·exact .inr (.inr ⟨a, b⟩)
  ·by_cases e2 : y.slot = c.slot
   ·rw [put1V_eq e2, List.mem_cons, List.mem_cons]
    constructor
    ·rintro (rfl | a)
     ·exact .inl rfl
     ·exact .inr ⟨.inr a, by have := h1 x a; omega⟩
    ·rintro (rfl | ⟨rfl | a, b⟩)
     ·exact .inl rfl
     ·exact absurd e2 b
     ·exact .inr a
   ·rw [put1V_gt (by omega), List.mem_cons]
    constructor
    ·rintro (rfl | a)
     ·exact .inl rfl
     ·refine .inr ⟨a, ?_⟩
      rcases List.mem_cons.1 a with rfl | a
      ·exact e2
      ·have := h1 x a; omega
    ·rintro (rfl | ⟨a, b⟩)
     ·exact .inl rfl
     ·exact .inr a
theorem put1V_srt {c : Vt} : ∀ {l : List Vt}, SrtV l → SrtV (put1V l c)
 | [], _ => by rw [put1V_nil]; exact List.pairwise_singleton _ _
 | y :: l, h => by
  obtain ⟨h1, h2⟩ := List.pairwise_cons.1 h
  by_cases e1 : y.slot < c.slot
  ·rw [put1V_lt e1]
   refine List.pairwise_cons.2 ⟨fun x hx => ?_, put1V_srt h2⟩
   rcases (mem_put1V h2 x).1 hx with rfl | ⟨a, -⟩
   ·exact e1
   ·exact h1 x a
  ·by_cases e2 : y.slot = c.slot
   ·rw [put1V_eq e2]
    exact List.pairwise_cons.2 ⟨fun x hx => by have := h1 x hx; omega, h2⟩
   ·rw [put1V_gt (by omega)]
    refine List.pairwise_cons.2 ⟨fun x hx => ?_, h⟩
    rcases List.mem_cons.1 hx with rfl | a
    ·omega
    ·have := h1 x a; omega
def overV (l : List Vt) (c : Vt) : Prop := ∃ x ∈ l, x.slot = c.slot ∧ c.ballot < x.ballot
noncomputable instance (l : List Vt) (c : Vt) : Decidable (overV l c) := Classical.propDecidable _
noncomputable def addV (l : List Vt) (c : Vt) : List Vt := if overV l c then l else put1V l c
theorem addV_srt {l : List Vt} {c : Vt} (h : SrtV l) : SrtV (addV l c) := by
 unfold addV
 split
 ·exact h
 ·exact put1V_srt h
theorem mem_addV {l : List Vt} {c x : Vt} (h : SrtV l) (hx : x ∈ addV l c) : x = c ∨ x ∈ l := by
 unfold addV at hx
 split at hx
 ·exact .inr hx
 ·rcases (mem_put1V h x).1 hx with e | ⟨e, -⟩
  ·exact .inl e
  ·exact .inr e
noncomputable def getS (s : List UInt8) : Option (Int × Vt) := @dite _ (∃ p : Int × Vt, Says s p.1 p.2 true) (Classical.propDecidable _) (fun h => some (Classical.choose h)) fun _ => none
theorem getS_some {s : List UInt8} {n : Int} {c : Vt} (h : Says s n c true) : getS s = some (n, c) := by
 have hx : ∃ p : Int × Vt, Says s p.1 p.2 true := ⟨(n, c), h⟩
 unfold getS
 rw [dif_pos hx]
 obtain ⟨h1, h2, -⟩ := (Classical.choose_spec hx).uniq h
 exact congrArg some (Prod.ext h1 h2)
structure Lg where
 most : Int
 votes : List Vt
 used : Nat
noncomputable def Lg.one (g : Lg) (n : Int) (c : Vt) (k : Nat) : Lg := if 0 < n then ⟨max g.most n, g.votes, g.used + (12 + k)⟩ else ⟨max g.most c.ballot, addV g.votes c, g.used + (12 + k)⟩
noncomputable def Lg.reads : Lg → List (List UInt8) → Lg
 | g, [] => g
 | g, r :: R => match getS r with
  | none => g
  | some p => (g.one p.1 p.2 r.length).reads R
theorem Lg.reads_some {g : Lg} {r : List UInt8} {R : List (List UInt8)} {n : Int} {c : Vt} (h : getS r = some (n, c)) : g.reads (r :: R) = (g.one n c r.length).reads R := by
 rw [Lg.reads, h]
theorem Lg.reads_none {g : Lg} {r : List UInt8} {R : List (List UInt8)} (h : getS r = none) : g.reads (r :: R) = g := by
 rw [Lg.reads, h]
theorem Lg.reads_app : ∀ {R : List (List UInt8)} {g : Lg} {T : List (List UInt8)}, (∀ r ∈ R, getS r ≠ none) → g.reads (R ++ T) = (g.reads R).reads T
 | [], _, _, _ => rfl
 | r :: R, g, T, h => by
  cases hr : getS r with
  | none => exact absurd hr (h r (by simp))
  | some p =>
   rw [List.cons_append, Lg.reads_some hr, Lg.reads_some hr]
   exact Lg.reads_app fun q hq => h q (by simp [hq])
theorem Lg.reads_snoc {R : List (List UInt8)} {g : Lg} {r : List UInt8} {n : Int} {c : Vt} (h : ∀ r ∈ R, getS r ≠ none) (hr : getS r = some (n, c)) : g.reads (R ++ [r]) = (g.reads R).one n c r.length := by
 rw [Lg.reads_app h, Lg.reads_some hr]
 rfl
def Lg.nil : Lg := ⟨0, [], 0⟩
structure Lg.Ok (g : Lg) : Prop where
 srt : SrtV g.votes
 right : ∀ c ∈ g.votes, c.Right ∧ c.ballot ≤ g.most
 m0 : 0 ≤ g.most
 m1 : g.most ≤ 2147483647
theorem Lg.nil_ok : Lg.nil.Ok := ⟨List.Pairwise.nil, by simp [Lg.nil], by simp [Lg.nil], by simp [Lg.nil]⟩
theorem Lg.Ok.one {g : Lg} (h : g.Ok) {s : List UInt8} {n : Int} {c : Vt} {k : Nat} (hs : Says s n c true) : (g.one n c k).Ok := by
 cases hs with
 | prom _ hp =>
  have hb := hp.1
  unfold Lg.one
  rw [if_pos (by have := hb.1; omega)]
  refine ⟨h.srt, fun d hd => ⟨(h.right d hd).1, by have := (h.right d hd).2; simp only; omega⟩, by have := h.m0; simp only; omega, by have := h.m1; have := hb.2; simp only; omega⟩
 | vote _ hv =>
  obtain ⟨r1, r2, r3, r4, r5, r6⟩ := hv.1
  unfold Lg.one
  rw [if_neg (by omega)]
  refine ⟨addV_srt h.srt, fun d hd => ?_, by have := h.m0; simp only; omega, by have := h.m1; simp only; omega⟩
  rcases mem_addV h.srt hd with rfl | hd
  ·exact ⟨hv.1, by simp only; omega⟩
  ·exact ⟨(h.right d hd).1, by have := (h.right d hd).2; simp only; omega⟩
theorem says_of {s : List UInt8} {n : Int} {c : Vt} (h : getS s = some (n, c)) : Says s n c true := by
 unfold getS at h
 split at h
 ·rename_i hx
  have := Classical.choose_spec hx
  rw [Option.some.inj h] at this
  exact this
 ·cases h
theorem Lg.Ok.reads : ∀ {R : List (List UInt8)} {g : Lg}, g.Ok → (g.reads R).Ok
 | [], _, h => h
 | r :: R, g, h => by
  cases hr : getS r with
  | none => rw [Lg.reads_none hr]; exact h
  | some p => rw [Lg.reads_some (n := p.1) (c := p.2) hr]; exact Lg.Ok.reads (h.one (says_of hr))
end Go.Proofs.Ytpmlfhgdhnofbaa.Ce
namespace Go.Proofs.Ytpmlfhgdhnofbaa.St
open Go.RowKit
theorem loadOpAt {P : Program} {α : Type} {D : Sp α} (hD : D.Ok P) {o : Oper} {a : Act} {w : World} {c : α} (x : Operand) (ho : o.op = .load D.t x) (ad : Addr) (hx : a.eval x = .pointer (some ad)) (hc : ∀ (k : Nat) (v : Value), (D.f c)[k]? = some v → w.cell? (ad.add k) = some v) : (execOp a.eval o).run P w = .ok (.value (.agg (D.f c))) w := by
 unfold execOp
 simp only [ho, hx, Instr.loadAt, Instr.sureAddr, Sem.run_bind, Sem.run_pure, Result.andThen_ok, run_load hD w ad c hc]
theorem neOp {P : Program} {t : Nat} {sp : List (Nat × Nat)} {xs ys : Array Value} {o : Oper} {a : Act} {w : World} {b : Bool} (hE : Eqs P t sp) (ht : Typed P sp xs ys) (x y : Operand) (T' : TypeId) (ho : o.op = .binOp .neq t x y T') (hx : a.eval x = .agg xs) (hy : a.eval y = .agg ys) (hb : (!allAlike sp xs ys) = b) : (execOp a.eval o).run P w = .ok (.value (.bool b)) w := by
 subst hb
 unfold execOp
 simp only [ho, hx, hy, Sem.run_bind, Sem.run_pure, run_eqGuard_agg w _ _ _ _ _ _ hE.guard, Result.andThen_ok, run_neq_struct, run_equal hE ht]
end Go.Proofs.Ytpmlfhgdhnofbaa.St
namespace Go.Proofs.Ytpmlfhgdhnofbaa.Ce
open Go.RowKit
abbrev vtL : St.Sp Vt := ⟨23, 24, 5, 48, Vt.cs, Vt.zero⟩
theorem vlOk : vtL.Ok Try.prog := ⟨⟨_, Try.underlying23, rfl⟩, by kernel_rfl, by decide, fun _ => rfl, fun x => by simp [Vt.cs, Value.oneCell']⟩
theorem vlS : Try.prog.underlying vtL.ts = some (.slice vtL.t) := Try.underlying24
theorem take_next {α : Type} {L M : List α} {k : Nat} {f g : α} (hf : L[k]? = some f) (hg : M[k]? = some g) (h : L.take k = M.take k) (e : f = g) : L.take (k + 1) = M.take (k + 1) := by
 obtain ⟨h1, rfl⟩ := List.getElem?_eq_some_iff.1 hf
 obtain ⟨h2, rfl⟩ := List.getElem?_eq_some_iff.1 hg
 rw [List.take_succ_eq_append_getElem h1, List.take_succ_eq_append_getElem h2, h, e]
theorem rvsame_any (v u : Value) (L M : List Vt) (w : World) (hv : St.RdS vtL w [] v L) (hu : St.RdS vtL w [] u M) (hl : L.length ≤ 1000000000) :
  Calls Try.prog 24 #[v, u] w fun e w' => e = .returned (.bool (decide (L = M))) ∧ Below w.heap.size w w' := by
 obtain ⟨A, cp, rfl, hc, hm⟩ := hv.shape
 obtain ⟨A', cp', rfl, hc', hm'⟩ := hu.shape
 unfold maxLen at hm hm'
 have HV := Lib.hid hv
 have HV' := Lib.hid hu
 clear hv hu
 by_cases hlen : L.length = M.length
 ·have HLEN := Lib.hid hlen
  have hln : ((L.length : Int) != (M.length : Int)) = false := by simp [hlen]
  clear hlen
  go_enter Try.func24, Try.ntmps24
  go_wp2_with fail
  go_loopw [5] (fun i wr => ∃ k : Nat, k ≤ L.length ∧ i = .int .i64 (k : Int) ∧ Hid (L.take k = M.take k) ∧ Below w.heap.size w wr) (fun i _ => L.length - (intOf i).toNat)
  case atStart => exact ⟨0, by omega, rfl, Lib.hid (by simp), Below.refl _ _⟩
  case round =>
   obtain ⟨k, hk, rfl, HE, hbw⟩ := hrel
   by_cases hlt : k < L.length
   ·have hlt' : k < M.length := by have := HLEN.out; omega
    obtain ⟨b, off, rfl, -, -⟩ := HV.out.open_ (by omega)
    obtain ⟨b', off', rfl, -, -⟩ := HV'.out.open_ (by omega)
    have hh3 : (0 : Int) ≤ (k : Int) := by omega
    have hh4 : (k : Int) < (L.length : Int) := by omega
    have hh5 : (k : Int) < (M.length : Int) := by omega
    have hfk : L[k]? = some (L[k]'hlt) := List.getElem?_eq_getElem _
    have hgk : M[k]? = some (M[k]'hlt') := List.getElem?_eq_getElem _
    generalize L[k]'hlt = f at hfk
    generalize M[k]'hlt' = g at hgk
    have HNX : Hid (f = g → L.take (k + 1) = M.take (k + 1)) := Lib.hid fun e => take_next hfk hgk HE.out e
    have HNE : Hid (f ≠ g → decide (L = M) = false) := Lib.hid fun e => decide_eq_false fun h => e (by rw [h, hgk] at hfk; exact (Option.some.inj hfk).symm)
    have HF := Lib.hid fun z (hz : Below w.heap.size w z) => (HV.out.bel hz).all vlOk hfk
    have HG := Lib.hid fun z (hz : Below w.heap.size w z) => (HV'.out.bel hz).all vlOk hgk
    have HAL := Lib.hid (congrArg Bool.not (vtAlike f g))
    clear hfk hgk hlt hlt' HE
    go_upto_region 6 with fail
    refine wp_region_held_drew (S := fun z => Below w.heap.size w z) (by kernel_rfl) hbw.drew (fun hHeld => ?_)
    refine takeL 0 (h := ?_)
    refine takeL 1 (h := ?_)
    refine takeL 2 (h := ?_)
    refine takeL 3 (hy := by intro z hSz; exact St.loadOpAt vlOk (.tmp 19) rfl _ rfl (HF.out z hSz)) (h := ?_)
    refine takeL 4 (h := ?_)
    refine takeL 5 (h := ?_)
    refine takeL 6 (h := ?_)
    refine takeL 7 (hy := by intro z hSz; exact St.loadOpAt vlOk (.tmp 23) rfl _ rfl (HG.out z hSz)) (h := ?_)
    refine takeL 8 (hy := by intro z hSz; exact St.neOp vtEqs (vtTyped f g) (.tmp 20) (.tmp 24) _ rfl rfl rfl HAL.out) (h := ?_)
    refine wpAnyH_done (by kernel_rfl) ?_ _
    by_cases e : f = g
    ·rw [decide_eq_true e]
     have HN := Lib.hid (HNX.out e)
     clear HNX HNE HF HG HAL e
     go_wp2_with fail
     go_roundw
     case rel => exact ⟨k + 1, by omega, by go_num, HN, hHeld⟩
     case measure => simp [intOf]; omega
    ·rw [decide_eq_false e]
     have HD := Lib.hid (HNE.out e)
     clear HNX HNE HF HG HAL e
     go_wp2_with fail
     go_ret
     exact ⟨ret1 (vb HD.out.symm), hHeld⟩
   ·obtain rfl : k = L.length := by omega
    have hd : decide (L = M) = true := decide_eq_true (by
     have := HE.out
     rw [List.take_length, HLEN.out, List.take_length] at this
     exact this)
    have HD := Lib.hid hd
    clear HE hlt hd
    go_wp2_with fail
    go_ret
    exact ⟨ret1 (vb HD.out.symm), hbw⟩
 ·have hd : decide (L = M) = false := decide_eq_false fun h => hlen (by rw [h])
  have hln : ((L.length : Int) != (M.length : Int)) = true := by simp; omega
  rw [hd]
  clear hd hlen
  go_enter Try.func24, Try.ntmps24
  go_wp2_with fail
  go_ret
  exact ⟨rfl, Below.refl _ _⟩
end Go.Proofs.Ytpmlfhgdhnofbaa.Ce
namespace Go.Proofs.Ytpmlfhgdhnofbaa.Ce
open Go.RowKit
end Go.Proofs.Ytpmlfhgdhnofbaa.Ce
namespace Go.Proofs.Ytpmlfhgdhnofbaa.Ce
open Go.RowKit
end Go.Proofs.Ytpmlfhgdhnofbaa.Ce
namespace Go.Proofs.Ytpmlfhgdhnofbaa.Ce
open Go.RowKit
end Go.Proofs.Ytpmlfhgdhnofbaa.Ce
namespace Go.Proofs.Ytpmlfhgdhnofbaa.Ce
open Go.RowKit Frm
theorem reads_used : ∀ (R : List (List UInt8)) (g : Lg), (g.reads R).used ≤ g.used + (Frm.flat R).length
 | [], g => by simp [Lg.reads]
 | r :: R, g => by
  cases hr : getS r with
  | none => rw [Lg.reads_none hr]; omega
  | some p =>
   have h1 := reads_used R (g.one p.1 p.2 r.length)
   have h2 : (g.one p.1 p.2 r.length).used = g.used + (12 + r.length) := by unfold Lg.one; split <;> rfl
   rw [Lg.reads_some (n := p.1) (c := p.2) hr, Frm.flat_cons, List.length_append, Frm.frm_len]
   omega
structure ReadAt (R : List (List UInt8)) (k : Nat) (g : Lg) : Prop where
 says : ∀ r ∈ R.take k, getS r ≠ none
 e : Lg.nil.reads (R.take k) = g
theorem ReadAt.ok {R : List (List UInt8)} {k : Nat} {g : Lg} (h : ReadAt R k g) : g.Ok := h.e ▸ Lg.nil_ok.reads
theorem ReadAt.used {R : List (List UInt8)} {k : Nat} {g : Lg} (h : ReadAt R k g) : g.used ≤ (Frm.flat R).length := by
 have h1 := reads_used (R.take k) Lg.nil
 have h2 := Frm.flat_take_le R k
 rw [h.e] at h1
 have h3 : Lg.nil.used = 0 := rfl
 omega
theorem ReadAt.next {R : List (List UInt8)} {k : Nat} {g : Lg} {r : List UInt8} {n : Int} {c : Vt} (h : ReadAt R k g) (hr : R[k]? = some r) (hs : Says r n c true) : ReadAt R (k + 1) (g.one n c r.length) := by
 obtain ⟨h1, rfl⟩ := List.getElem?_eq_some_iff.1 hr
 have hg := getS_some hs
 refine ⟨fun q hq => ?_, ?_⟩
 ·rw [List.take_succ_eq_append_getElem h1] at hq
  rcases List.mem_append.1 hq with hq | hq
  ·exact h.says q hq
  ·rw [List.mem_singleton.1 hq, hg]
   intro e
   cases e
 ·rw [List.take_succ_eq_append_getElem h1, Lg.reads_snoc h.says hg, h.e]
theorem ReadAt.all {R : List (List UInt8)} {g : Lg} (h : ReadAt R R.length g) : Lg.nil.reads R = g := by
 have := h.e
 rwa [List.take_length] at this
theorem ReadAt.start (R : List (List UInt8)) : ReadAt R 0 Lg.nil := ⟨by simp, rfl⟩
theorem put1V_len {c : Vt} : ∀ l : List Vt, (put1V l c).length ≤ l.length + 1
 | [] => by simp [put1V_nil]
 | y :: l => by
  by_cases e1 : y.slot < c.slot
  ·rw [put1V_lt e1]; have := put1V_len (c := c) l; simp only [List.length_cons]; omega
  ·by_cases e2 : y.slot = c.slot
   ·rw [put1V_eq e2]; simp only [List.length_cons]; omega
   ·rw [put1V_gt (by omega)]; simp only [List.length_cons]; omega
theorem addV_len (l : List Vt) (c : Vt) : (addV l c).length ≤ l.length + 1 := by
 unfold addV
 split
 ·omega
 ·exact put1V_len l
theorem reads_len : ∀ (R : List (List UInt8)) (g : Lg), (g.reads R).votes.length ≤ g.votes.length + R.length
 | [], g => by simp [Lg.reads]
 | r :: R, g => by
  cases hr : getS r with
  | none => rw [Lg.reads_none hr]; omega
  | some p =>
   have h1 := reads_len R (g.one p.1 p.2 r.length)
   have h2 : (g.one p.1 p.2 r.length).votes.length ≤ g.votes.length + 1 := by
    unfold Lg.one
    split
    ·exact Nat.le_succ _
    ·exact addV_len _ _
   rw [Lg.reads_some (n := p.1) (c := p.2) hr, List.length_cons]
   omega
theorem ReadAt.len {R : List (List UInt8)} {k : Nat} {g : Lg} (h : ReadAt R k g) : g.votes.length ≤ R.length := by
 have h1 := reads_len (R.take k) Lg.nil
 rw [h.e, List.length_take] at h1
 have h3 : Lg.nil.votes.length = 0 := rfl
 omega
end Go.Proofs.Ytpmlfhgdhnofbaa.Ce
