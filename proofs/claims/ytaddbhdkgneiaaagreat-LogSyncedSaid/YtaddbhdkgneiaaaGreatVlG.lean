/- Lists of votes, plain: one more by its slot, one more in a log; what records say, one behind the other. Lists of votes, as slices; the reference's Same of votes. The reference's Put1 of layer 17. The reference's add of layer 18. The reference's Put of layer 18. The reference's Read of layer 18. -/
import Derived.Test.YtaddbhdkgneiaaaGreatVoG
import Derived.BigQuiet
import Derived.Test.YtaddbhdkgneiaaaGreatFrmRQ
import Derived.Deep.Cut
set_option maxHeartbeats 8000000
set_option maxRecDepth 100000
namespace Go.Proofs.YtaddbhdkgneiaaaGreat.Ce
open Go.RowKit
def offV (c : Vt) : List Vt → List Vt
 | [] => []
 | x :: r => if x.slot = c.slot then r else x :: r
def ltV (c x : Vt) : Bool := decide (x.slot < c.slot)
def put1V (l : List Vt) (c : Vt) : List Vt := l.takeWhile (ltV c) ++ c :: offV c (l.dropWhile (ltV c))
theorem put1V_nil (c : Vt) : put1V [] c = [c] := rfl
theorem put1V_lt {x c : Vt} {l : List Vt} (h : x.slot < c.slot) : put1V (x :: l) c = x :: put1V l c := by
 unfold put1V
 have hx : ltV c x = true := decide_eq_true h
 rw [List.takeWhile_cons_of_pos hx, List.dropWhile_cons_of_pos hx]
 rfl
theorem put1V_eq {x c : Vt} {l : List Vt} (h : x.slot = c.slot) : put1V (x :: l) c = c :: l := by
 unfold put1V
 have hx : ¬ ltV c x = true := by unfold ltV; rw [decide_eq_true_iff]; omega
 rw [List.takeWhile_cons_of_neg hx, List.dropWhile_cons_of_neg hx, offV, if_pos h]
 rfl
theorem put1V_gt {x c : Vt} {l : List Vt} (h : c.slot < x.slot) : put1V (x :: l) c = c :: x :: l := by
 unfold put1V
 have hx : ¬ ltV c x = true := by unfold ltV; rw [decide_eq_true_iff]; omega
 rw [List.takeWhile_cons_of_neg hx, List.dropWhile_cons_of_neg hx, offV, if_neg (by omega)]
 rfl
theorem put1V_at {c : Vt} : ∀ {l : List Vt} {k : Nat}, k ≤ l.length → (∀ (j : Nat) (x : Vt), j < k → l[j]? = some x → x.slot < c.slot) → (∀ x, l[k]? = some x → ¬ x.slot < c.slot) → put1V l c = l.take k ++ c :: offV c (l.drop k)
 | l, 0, _, _, h => by
  cases l with
  | nil => rfl
  | cons x r =>
   have hx := h x rfl
   by_cases e : x.slot = c.slot
   ·rw [put1V_eq e]; simp [offV, e]
   ·rw [put1V_gt (by omega)]; simp [offV, e]
 | [], k + 1, hk, _, _ => by simp at hk
 | x :: r, k + 1, hk, hj, h => by
  rw [put1V_lt (hj 0 x (by omega) rfl), put1V_at (l := r) (k := k) (by simpa using hk) (fun j y hjk hy => hj (j + 1) y (by omega) (by simpa using hy)) (fun y hy => h y (by simpa using hy))]
  simp
def SrtV (l : List Vt) : Prop := l.Pairwise fun a b => a.slot < b.slot
theorem mem_put1V {c : Vt} : ∀ {l : List Vt}, SrtV l → ∀ x, x ∈ put1V l c ↔ x = c ∨ (x ∈ l ∧ x.slot ≠ c.slot)
 | [], _, x => by simp [put1V_nil]
 | y :: l, h, x => by
  obtain ⟨h1, h2⟩ := List.pairwise_cons.1 h
  by_cases e1 : y.slot < c.slot
  ·rw [put1V_lt e1, List.mem_cons, mem_put1V h2, List.mem_cons]
   constructor
   ·rintro (rfl | rfl | ⟨a, b⟩)
    ·exact .inr ⟨.inl rfl, by omega⟩
    ·exact .inl rfl
    ·exact .inr ⟨.inr a, b⟩
   ·rintro (rfl | ⟨rfl | a, b⟩)
    ·exact .inr (.inl rfl)
    ·exact .inl rfl
    ·exact .inr (.inr ⟨a, b⟩)
  ·by_cases e2 : y.slot = c.slot
   ·rw [put1V_eq e2, List.mem_cons, List.mem_cons]
    constructor
    ·rintro (rfl | a)
     ·exact .inl rfl
     ·exact .inr ⟨.inr a, by have := h1 x a; omega⟩
    ·rintro (rfl | ⟨rfl | a, b⟩)
     ·exact .inl rfl
     ·exact absurd e2 b
     ·exact .inr a
   ·rw [put1V_gt (by omega), List.mem_cons]
    constructor
    ·rintro (rfl | a)
     ·exact .inl rfl
     ·refine .inr ⟨a, ?_⟩
      rcases List.mem_cons.1 a with rfl | a
      ·exact e2
      ·have := h1 x a; omega
    ·rintro (rfl | ⟨a, b⟩)
     ·exact .inl rfl
     ·exact .inr a
theorem put1V_srt {c : Vt} : ∀ {l : List Vt}, SrtV l → SrtV (put1V l c)
 | [], _ => by rw [put1V_nil]; exact List.pairwise_singleton _ _
 | y :: l, h => by
  obtain ⟨h1, h2⟩ := List.pairwise_cons.1 h
  by_cases e1 : y.slot < c.slot
  ·rw [put1V_lt e1]
   refine List.pairwise_cons.2 ⟨fun x hx => ?_, put1V_srt h2⟩
   rcases (mem_put1V h2 x).1 hx with rfl | ⟨a, -⟩
   ·exact e1
   ·exact h1 x a
  ·by_cases e2 : y.slot = c.slot
   ·rw [put1V_eq e2]
    exact List.pairwise_cons.2 ⟨fun x hx => by have := h1 x hx; omega, h2⟩
   ·rw [put1V_gt (by omega)]
    refine List.pairwise_cons.2 ⟨fun x hx => ?_, h⟩
    rcases List.mem_cons.1 hx with rfl | a
    ·omega
    ·have := h1 x a; omega
def overV (l : List Vt) (c : Vt) : Prop := ∃ x ∈ l, x.slot = c.slot ∧ c.ballot < x.ballot
noncomputable instance (l : List Vt) (c : Vt) : Decidable (overV l c) := Classical.propDecidable _
noncomputable def addV (l : List Vt) (c : Vt) : List Vt := if overV l c then l else put1V l c
theorem addV_srt {l : List Vt} {c : Vt} (h : SrtV l) : SrtV (addV l c) := by
 unfold addV
 split
 ·exact h
 ·exact put1V_srt h
theorem mem_addV {l : List Vt} {c x : Vt} (h : SrtV l) (hx : x ∈ addV l c) : x = c ∨ x ∈ l := by
 unfold addV at hx
 split at hx
 ·exact .inr hx
 ·rcases (mem_put1V h x).1 hx with e | ⟨e, -⟩
  ·exact .inl e
  ·exact .inr e
noncomputable def getS (s : List UInt8) : Option (Int × Vt) := @dite _ (∃ p : Int × Vt, Says s p.1 p.2 true) (Classical.propDecidable _) (fun h => some (Classical.choose h)) fun _ => none
theorem getS_some {s : List UInt8} {n : Int} {c : Vt} (h : Says s n c true) : getS s = some (n, c) := by
 have hx : ∃ p : Int × Vt, Says s p.1 p.2 true := ⟨(n, c), h⟩
 unfold getS
 rw [dif_pos hx]
 obtain ⟨h1, h2, -⟩ := (Classical.choose_spec hx).uniq h
 exact congrArg some (Prod.ext h1 h2)
theorem getS_none {s : List UInt8} {n : Int} {c : Vt} (h : Says s n c false) : getS s = none := by
 unfold getS
 rw [dif_neg]
 rintro ⟨p, hp⟩
 have := (hp.uniq h).2.2
 cases this
theorem getS_pr {b : Int} (h : PrOk b) : getS (prB b) = some (b, Vt.zero) := getS_some (Says.promise h)
theorem getS_vt {c : Vt} (h : c.Right) : getS (vtB c) = some (0, c) := getS_some (Says.put h)
structure Lg where
 most : Int
 votes : List Vt
 used : Nat
noncomputable def Lg.one (g : Lg) (n : Int) (c : Vt) (k : Nat) : Lg := if 0 < n then ⟨max g.most n, g.votes, g.used + (12 + k)⟩ else ⟨max g.most c.ballot, addV g.votes c, g.used + (12 + k)⟩
noncomputable def Lg.reads : Lg → List (List UInt8) → Lg
 | g, [] => g
 | g, r :: R => match getS r with
  | none => g
  | some p => (g.one p.1 p.2 r.length).reads R
theorem Lg.reads_some {g : Lg} {r : List UInt8} {R : List (List UInt8)} {n : Int} {c : Vt} (h : getS r = some (n, c)) : g.reads (r :: R) = (g.one n c r.length).reads R := by
 rw [Lg.reads, h]
theorem Lg.reads_none {g : Lg} {r : List UInt8} {R : List (List UInt8)} (h : getS r = none) : g.reads (r :: R) = g := by
 rw [Lg.reads, h]
theorem Lg.reads_app : ∀ {R : List (List UInt8)} {g : Lg} {T : List (List UInt8)}, (∀ r ∈ R, getS r ≠ none) → g.reads (R ++ T) = (g.reads R).reads T
 | [], _, _, _ => rfl
 | r :: R, g, T, h => by
  cases hr : getS r with
  | none => exact absurd hr (h r (by simp))
  | some p =>
   rw [List.cons_append, Lg.reads_some hr, Lg.reads_some hr]
   exact Lg.reads_app fun q hq => h q (by simp [hq])
theorem Lg.reads_snoc {R : List (List UInt8)} {g : Lg} {r : List UInt8} {n : Int} {c : Vt} (h : ∀ r ∈ R, getS r ≠ none) (hr : getS r = some (n, c)) : g.reads (R ++ [r]) = (g.reads R).one n c r.length := by
 rw [Lg.reads_app h, Lg.reads_some hr]
 rfl
def Lg.nil : Lg := ⟨0, [], 0⟩
structure Lg.Ok (g : Lg) : Prop where
 srt : SrtV g.votes
 right : ∀ c ∈ g.votes, c.Right ∧ c.ballot ≤ g.most
 m0 : 0 ≤ g.most
 m1 : g.most ≤ 2147483647
theorem Lg.nil_ok : Lg.nil.Ok := ⟨List.Pairwise.nil, by simp [Lg.nil], by simp [Lg.nil], by simp [Lg.nil]⟩
theorem Lg.Ok.one {g : Lg} (h : g.Ok) {s : List UInt8} {n : Int} {c : Vt} {k : Nat} (hs : Says s n c true) : (g.one n c k).Ok := by
 cases hs with
 | prom _ hp =>
  have hb := hp.1
  unfold Lg.one
  rw [if_pos (by have := hb.1; omega)]
  refine ⟨h.srt, fun d hd => ⟨(h.right d hd).1, by have := (h.right d hd).2; simp only; omega⟩, by have := h.m0; simp only; omega, by have := h.m1; have := hb.2; simp only; omega⟩
 | vote _ hv =>
  obtain ⟨r1, r2, r3, r4, r5, r6⟩ := hv.1
  unfold Lg.one
  rw [if_neg (by omega)]
  refine ⟨addV_srt h.srt, fun d hd => ?_, by have := h.m0; simp only; omega, by have := h.m1; simp only; omega⟩
  rcases mem_addV h.srt hd with rfl | hd
  ·exact ⟨hv.1, by simp only; omega⟩
  ·exact ⟨(h.right d hd).1, by have := (h.right d hd).2; simp only; omega⟩
theorem says_of {s : List UInt8} {n : Int} {c : Vt} (h : getS s = some (n, c)) : Says s n c true := by
 unfold getS at h
 split at h
 ·rename_i hx
  have := Classical.choose_spec hx
  rw [Option.some.inj h] at this
  exact this
 ·cases h
theorem Lg.Ok.reads : ∀ {R : List (List UInt8)} {g : Lg}, g.Ok → (g.reads R).Ok
 | [], _, h => h
 | r :: R, g, h => by
  cases hr : getS r with
  | none => rw [Lg.reads_none hr]; exact h
  | some p => rw [Lg.reads_some (n := p.1) (c := p.2) hr]; exact Lg.Ok.reads (h.one (says_of hr))
theorem addV_last {l : List Vt} {c : Vt} (h : ∀ x ∈ l, x.slot < c.slot) : addV l c = l ++ [c] := by
 have hn : ¬ overV l c := fun ⟨x, hx, e, _⟩ => by have := h x hx; omega
 unfold addV
 rw [if_neg hn]
 clear hn
 induction l with
 | nil => rfl
 | cons y l ih => rw [put1V_lt (h y (by simp)), ih fun x hx => h x (by simp [hx])]; rfl
theorem reads_votes : ∀ {V : List Vt} {g : Lg}, SrtV (g.votes ++ V) → (∀ c ∈ V, c.Right ∧ c.ballot ≤ g.most) → (g.reads (V.map vtB)).most = g.most ∧ (g.reads (V.map vtB)).votes = g.votes ++ V
 | [], g, _, _ => ⟨rfl, by simp [Lg.reads]⟩
 | c :: V, g, hs, h => by
  have hc := h c (by simp)
  obtain ⟨r1, r2, r3, r4, r5, r6⟩ := hc.1
  rw [List.map_cons, Lg.reads_some (getS_vt hc.1)]
  have e : (g.one 0 c (vtB c).length).votes = g.votes ++ [c] := by
   unfold Lg.one
   rw [if_neg (by omega)]
   exact addV_last fun x hx => (List.pairwise_append.1 hs).2.2 x hx c (by simp)
  have em : (g.one 0 c (vtB c).length).most = g.most := by
   unfold Lg.one
   rw [if_neg (by omega)]
   have := hc.2
   simp only; omega
  obtain ⟨a1, a2⟩ := reads_votes (V := V) (g := g.one 0 c (vtB c).length) (by rw [e, List.append_assoc]; exact hs) (fun d hd => by rw [em]; exact h d (by simp [hd]))
  exact ⟨a1.trans em, by rw [a2, e, List.append_assoc]; rfl⟩
noncomputable def Lg.recs (g : Lg) : List (List UInt8) := (if 0 < g.most then [prB g.most] else []) ++ g.votes.map vtB
theorem Lg.Ok.compact {g : Lg} (h : g.Ok) : (Lg.nil.reads g.recs).most = g.most ∧ (Lg.nil.reads g.recs).votes = g.votes := by
 unfold Lg.recs
 by_cases hm : 0 < g.most
 ·rw [if_pos hm, List.singleton_append, Lg.reads_some (getS_pr (b := g.most) ⟨by omega, h.m1⟩)]
  have e : (Lg.nil.one g.most Vt.zero (prB g.most).length).votes = [] ∧ (Lg.nil.one g.most Vt.zero (prB g.most).length).most = g.most := by
   unfold Lg.one
   rw [if_pos hm]
   exact ⟨rfl, by simp only [Lg.nil]; omega⟩
  obtain ⟨a1, a2⟩ := reads_votes (V := g.votes) (g := Lg.nil.one g.most Vt.zero (prB g.most).length) (by rw [e.1]; exact h.srt) (fun c hc => by rw [e.2]; exact h.right c hc)
  exact ⟨a1.trans e.2, by rw [a2, e.1]; rfl⟩
 ·have hv : g.votes = [] := by
   cases hq : g.votes with
   | nil => rfl
   | cons c r =>
    obtain ⟨⟨r1, r2, r3, r4, r5, r6⟩, hb⟩ := h.right c (by rw [hq]; simp)
    omega
  have h0 := h.m0
  rw [if_neg hm, hv]
  exact ⟨by simp only [Lg.reads, Lg.nil, List.map_nil, List.append_nil]; omega, rfl⟩
end Go.Proofs.YtaddbhdkgneiaaaGreat.Ce
namespace Go.Proofs.YtaddbhdkgneiaaaGreat.St
open Go.RowKit
theorem loadOpAt {P : Program} {α : Type} {D : Sp α} (hD : D.Ok P) {o : Oper} {a : Act} {w : World} {c : α} (x : Operand) (ho : o.op = .load D.t x) (ad : Addr) (hx : a.eval x = .pointer (some ad)) (hc : ∀ (k : Nat) (v : Value), (D.f c)[k]? = some v → w.cell? (ad.add k) = some v) : (execOp a.eval o).run P w = .ok (.value (.agg (D.f c))) w := by
 unfold execOp
 simp only [ho, hx, Instr.loadAt, Instr.sureAddr, Sem.run_bind, Sem.run_pure, Result.andThen_ok, run_load hD w ad c hc]
theorem neOp {P : Program} {t : Nat} {sp : List (Nat × Nat)} {xs ys : Array Value} {o : Oper} {a : Act} {w : World} {b : Bool} (hE : Eqs P t sp) (ht : Typed P sp xs ys) (x y : Operand) (T' : TypeId) (ho : o.op = .binOp .neq t x y T') (hx : a.eval x = .agg xs) (hy : a.eval y = .agg ys) (hb : (!allAlike sp xs ys) = b) : (execOp a.eval o).run P w = .ok (.value (.bool b)) w := by
 subst hb
 unfold execOp
 simp only [ho, hx, hy, Sem.run_bind, Sem.run_pure, run_eqGuard_agg w _ _ _ _ _ _ hE.guard, Result.andThen_ok, run_neq_struct, run_equal hE ht]
end Go.Proofs.YtaddbhdkgneiaaaGreat.St
namespace Go.Proofs.YtaddbhdkgneiaaaGreat.Ce
open Go.RowKit
abbrev vtL : St.Sp Vt := ⟨33, 30, 5, 48, Vt.cs, Vt.zero⟩
theorem vlOk : vtL.Ok Tryz.prog := ⟨⟨_, Tryz.underlying33, rfl⟩, by kernel_rfl, by decide, fun _ => rfl, fun x => by simp [Vt.cs, Value.oneCell']⟩
theorem vlS : Tryz.prog.underlying vtL.ts = some (.slice vtL.t) := Tryz.underlying30
theorem take_next {α : Type} {L M : List α} {k : Nat} {f g : α} (hf : L[k]? = some f) (hg : M[k]? = some g) (h : L.take k = M.take k) (e : f = g) : L.take (k + 1) = M.take (k + 1) := by
 obtain ⟨h1, rfl⟩ := List.getElem?_eq_some_iff.1 hf
 obtain ⟨h2, rfl⟩ := List.getElem?_eq_some_iff.1 hg
 rw [List.take_succ_eq_append_getElem h1, List.take_succ_eq_append_getElem h2, h, e]
theorem rvsame_any (v u : Value) (L M : List Vt) (w : World) (hv : St.RdS vtL w [] v L) (hu : St.RdS vtL w [] u M) (hl : L.length ≤ 1000000000) :
  Calls Tryz.prog 19 #[v, u] w fun e w' => e = .returned (.bool (decide (L = M))) ∧ Below w.heap.size w w' := by
 obtain ⟨A, cp, rfl, hc, hm⟩ := hv.shape
 obtain ⟨A', cp', rfl, hc', hm'⟩ := hu.shape
 unfold maxLen at hm hm'
 have HV := Lib.hid hv
 have HV' := Lib.hid hu
 clear hv hu
 by_cases hlen : L.length = M.length
 ·have HLEN := Lib.hid hlen
  have hln : ((L.length : Int) != (M.length : Int)) = false := by simp [hlen]
  clear hlen
  go_enter Tryz.func19, Tryz.ntmps19
  go_wp2_with fail
  go_loopw [5] (fun i wr => ∃ k : Nat, k ≤ L.length ∧ i = .int .i64 (k : Int) ∧ Hid (L.take k = M.take k) ∧ Below w.heap.size w wr) (fun i _ => L.length - (intOf i).toNat)
  case atStart => exact ⟨0, by omega, rfl, Lib.hid (by simp), Below.refl _ _⟩
  case round =>
   obtain ⟨k, hk, rfl, HE, hbw⟩ := hrel
   by_cases hlt : k < L.length
   ·have hlt' : k < M.length := by have := HLEN.out; omega
    obtain ⟨b, off, rfl, -, -⟩ := HV.out.open_ (by omega)
    obtain ⟨b', off', rfl, -, -⟩ := HV'.out.open_ (by omega)
    have hh3 : (0 : Int) ≤ (k : Int) := by omega
    have hh4 : (k : Int) < (L.length : Int) := by omega
    have hh5 : (k : Int) < (M.length : Int) := by omega
    have hfk : L[k]? = some (L[k]'hlt) := List.getElem?_eq_getElem _
    have hgk : M[k]? = some (M[k]'hlt') := List.getElem?_eq_getElem _
    generalize L[k]'hlt = f at hfk
    generalize M[k]'hlt' = g at hgk
    have HNX : Hid (f = g → L.take (k + 1) = M.take (k + 1)) := Lib.hid fun e => take_next hfk hgk HE.out e
    have HNE : Hid (f ≠ g → decide (L = M) = false) := Lib.hid fun e => decide_eq_false fun h => e (by rw [h, hgk] at hfk; exact (Option.some.inj hfk).symm)
    have HF := Lib.hid fun z (hz : Below w.heap.size w z) => (HV.out.bel hz).all vlOk hfk
    have HG := Lib.hid fun z (hz : Below w.heap.size w z) => (HV'.out.bel hz).all vlOk hgk
    have HAL := Lib.hid (congrArg Bool.not (vtAlike f g))
    clear hfk hgk hlt hlt' HE
    go_upto_region 6 with fail
    refine wp_region_held_drew (S := fun z => Below w.heap.size w z) (by kernel_rfl) hbw.drew (fun hHeld => ?_)
    refine takeL 0 (h := ?_)
    refine takeL 1 (h := ?_)
    refine takeL 2 (h := ?_)
    refine takeL 3 (hy := by intro z hSz; exact St.loadOpAt vlOk (.tmp 19) rfl _ rfl (HF.out z hSz)) (h := ?_)
    refine takeL 4 (h := ?_)
    refine takeL 5 (h := ?_)
    refine takeL 6 (h := ?_)
    refine takeL 7 (hy := by intro z hSz; exact St.loadOpAt vlOk (.tmp 23) rfl _ rfl (HG.out z hSz)) (h := ?_)
    refine takeL 8 (hy := by intro z hSz; exact St.neOp vtEqs (vtTyped f g) (.tmp 20) (.tmp 24) _ rfl rfl rfl HAL.out) (h := ?_)
    refine wpAnyH_done (by kernel_rfl) ?_ _
    by_cases e : f = g
    ·rw [decide_eq_true e]
     have HN := Lib.hid (HNX.out e)
     clear HNX HNE HF HG HAL e
     go_wp2_with fail
     go_roundw
     case rel => exact ⟨k + 1, by omega, by go_num, HN, hHeld⟩
     case measure => simp [intOf]; omega
    ·rw [decide_eq_false e]
     have HD := Lib.hid (HNE.out e)
     clear HNX HNE HF HG HAL e
     go_wp2_with fail
     go_ret
     exact ⟨ret1 (vb HD.out.symm), hHeld⟩
   ·obtain rfl : k = L.length := by omega
    have hd : decide (L = M) = true := decide_eq_true (by
     have := HE.out
     rw [List.take_length, HLEN.out, List.take_length] at this
     exact this)
    have HD := Lib.hid hd
    clear HE hlt hd
    go_wp2_with fail
    go_ret
    exact ⟨ret1 (vb HD.out.symm), hbw⟩
 ·have hd : decide (L = M) = false := decide_eq_false fun h => hlen (by rw [h])
  have hln : ((L.length : Int) != (M.length : Int)) = true := by simp; omega
  rw [hd]
  clear hd hlen
  go_enter Tryz.func19, Tryz.ntmps19
  go_wp2_with fail
  go_ret
  exact ⟨rfl, Below.refl _ _⟩
end Go.Proofs.YtaddbhdkgneiaaaGreat.Ce
namespace Go.Proofs.YtaddbhdkgneiaaaGreat.Ce
open Go.RowKit
theorem rvput1_any (u : Value) (V : List Vt) (c : Vt) (w : World) (hu : St.RdS vtL w [] u V) (hl : V.length ≤ 1000000) :
  Calls Tryz.prog 65 #[u, c.v] w fun e w' => (∃ x, e = .returned x ∧ St.OwS vtL w' w.heap.size x (put1V V c)) ∧ Below w.heap.size w w' := by
 obtain ⟨A, cp, rfl, hc, hm⟩ := hu.shape
 unfold maxLen at hm
 go_enter Tryz.func65, Tryz.ntmps65
 go_wp2_with (refine St.box vtD rfl (.tmp 1) c rfl rfl ?_)
 constructor
 intro w1 hI1 hb1 hz1
 have HU := Lib.hid hu
 have HI := Lib.hid fun z (hz : Below w1.heap.size w1 z) => hI1.up hz
 have HB1 := Lib.hid hb1
 have HUB := Lib.hid fun z (hz : Below w1.heap.size w1 z) => hu.bel (bwstep hb1 hz)
 clear hz1 hb1 hI1 hu
 go_wp2_with fail
 go_loopw [5] (fun i wr => ∃ k : Nat, k ≤ V.length ∧ i = .int .i64 (k : Int) ∧ Hid (∀ (j : Nat) (x : Vt), j < k → V[j]? = some x → x.slot < c.slot) ∧ Below w1.heap.size w1 wr) (fun i _ => V.length - (intOf i).toNat)
 case atStart => exact ⟨0, Nat.zero_le _, rfl, Lib.hid (fun j x hj => by omega), Below.refl _ _⟩
 case round =>
  obtain ⟨k, hk, rfl, HJ, hbw⟩ := hrel
  have hq := (VtAt.of (HI.out _ hbw)).c0
  by_cases hlt : k < V.length
  ·obtain ⟨b, off, rfl, -, -⟩ := HU.out.open_ (by omega)
   have hh3 : (0 : Int) ≤ (k : Int) := by omega
   have hh4 : (k : Int) < (V.length : Int) := by omega
   have hfk : V[k]? = some (V[k]'hlt) := List.getElem?_eq_getElem _
   generalize V[k]'hlt = f at hfk
   have c0 : wr.cell? ⟨b, off + k * 5, none⟩ = some (.int .i64 f.slot) := ((HUB.out _ hbw).at_ vlOk hfk).1 0 _ rfl
   have HFK := Lib.hid hfk
   clear hfk
   by_cases he : f.slot < c.slot
   ·have HE := Lib.hid he
    go_wp2_with fail
    go_quiet (fail)
    go_wp2_with fail
    go_roundw
    case rel =>
     refine ⟨k + 1, by omega, by go_num, Lib.hid (fun j x hj hx => ?_), below_drewN hbw _⟩
     by_cases hjk : j = k
     ·subst hjk
      rw [HFK.out] at hx
      injection hx with hx
      subst hx
      exact HE.out
     ·exact HJ.out j x (by omega) hx
    case measure => simp [intOf]; omega
   ·have HE := Lib.hid he
    have HP := Lib.hid (put1V_at (l := V) hk HJ.out fun x hx => by rw [HFK.out] at hx; injection hx with hx; subst hx; exact he)
    have HDK : Hid (V.drop k = f :: V.drop (k + 1)) := Lib.hid (by obtain ⟨h1, rfl⟩ := List.getElem?_eq_some_iff.1 HFK.out; exact List.drop_eq_getElem_cons h1)
    go_wp2_with fail
    go_quiet (fail)
    go_wp2_with fail
    have hbA := below_drewN hbw nq
    have c1 : (wr.drewN nq).cell? ⟨b, off + k * 5, none⟩ = some (.int .i64 f.slot) := ((HUB.out _ hbA).at_ vlOk HFK.out).1 0 _ rfl
    have hq1 := (VtAt.of (HI.out _ hbA)).c0
    generalize wr.drewN nq = wa at *
    clear hbw hq c0
    by_cases hs : f.slot = c.slot
    ·have HO : Hid (put1V V c = (V.take k ++ [c]) ++ V.drop (k + 1)) := Lib.hid (by rw [HP.out, HDK.out, offV, if_pos hs]; simp)
     by_cases hcp : cp = k + 1
     ·subst hcp
      have k9 : (k : Int) ≤ (k : Int) + 1 := by omega
      have hw1 : IntKind.i64.wrap ((k : Int) + 1) = (k : Int) + 1 := IntWalk.i64_in _ (by omega)
      have k6 : (k : Int) + 1 ≤ ((k + 1 : Nat) : Int) := by omega
      have k7 : (0 : Int) ≤ (k : Int) + 1 := by omega
      have k8 : (k : Int) + 1 ≤ (V.length : Int) := by omega
      go_wp2_with fail
      go_quiet (fail)
      go_wp2_with fail
      have hbW := below_drewN hbA nq
      generalize wa.drewN nq = W at *
      have hsW := hbW.size
      have k1 : (k : Int) ≤ ((k + 1 : Nat) : Int) := by omega
      have k2 : (k : Int) ≤ (V.length : Int) := by omega
      have k5 : k ≤ k + 1 := by omega
      have HIW := Lib.hid fun z (hz : Below W.heap.size W z) => HI.out z (bwstep hbW hz)
      have HT := Lib.hid fun z (hz : Below W.heap.size W z) => (HUB.out z (bwstep hbW hz)).to_ vlOk hk
      have HD : Hid (∀ z, Below W.heap.size W z → St.RdS vtL z [] (.slice (some ⟨b, off, none⟩) 0 0) (V.drop (k + 1))) := Lib.hid fun z _ => by
       rw [List.drop_of_length_le (show V.length ≤ k + 1 by omega)]
       exact St.RdS.none_ (by simp [maxLen])
      have HW := Lib.hid (HB1.out.trans (hbW.mono HB1.out.size))
      obtain ⟨Lt, hLt⟩ : ∃ Lt, Lt = V.take k := ⟨_, rfl⟩
      obtain ⟨Ld, hLd⟩ : ∃ Ld, Ld = V.drop (k + 1) := ⟨_, rfl⟩
      have l1 : ([] : List Vt).length + Lt.length ≤ maxLen := by rw [hLt]; simp [maxLen]; omega
      have l2 : Lt.length + [c].length ≤ maxLen := by rw [hLt]; simp [maxLen]; omega
      have l3 : (Lt ++ [c]).length + Ld.length ≤ maxLen := by rw [hLt, hLd]; simp [maxLen]; omega
      have l1b : (([] : List Vt).length + Lt.length) * 48 ≤ 140737488355328 := by rw [hLt]; simp; omega
      have l2b : (Lt.length + [c].length) * 48 ≤ 140737488355328 := by rw [hLt]; simp; omega
      have l3b : ((Lt ++ [c]).length + Ld.length) * 48 ≤ 140737488355328 := by rw [hLt, hLd]; simp; omega
      have HANS := HO
      rw [← hLt, ← hLd] at HANS
      rw [← hLt] at HT
      rw [← hLd] at HD
      clear HO hLt hLd HU HUB HP HDK HFK HE HJ hq1 c1 hbA
      refine wp_region_held_drew (S := fun z => Below W.heap.size W z) (by kernel_rfl) (Below.refl _ _).drew (fun hHeld => ?_)
      refine takeL 1 (h := ?_)
      refine takeL 2 (h := ?_)
      refine takeL 3 (h := ?_)
      refine takeL 5 (v := .agg #[.int .i64 c.slot, .int .i64 c.ballot, .int .i64 c.origin, .bool c.full, .string c.bytes]) (hy := by intro z hSz; exact St.loadOp vtOk (.tmp 3) rfl rfl (HIW.out z hSz)) (h := ?_)
      refine takeL 8 (h := ?_)
      generalize W.drew = z0 at hHeld ⊢
      refine wpAnyH_ready (rs := [0, 6]) (by kernel_rfl) (by simp) ?_
      refine AllReadyH.cons (o := _) (by (try simp only [List.getElem?_toArray]); (try simp only [List.getElem?_cons_succ]); (try simp only [List.getElem?_cons_zero]); rfl) (fun K hK => ?_) ?_
      ·go_simp
       have bz1 := hHeld.alloc hHeld.size (.cells #[] 33)
       have ez1 : St.OwS vtL (z0.alloc (.cells #[] 33)) W.heap.size (.slice (some ⟨z0.heap.size, 0, none⟩) 0 0) [] := St.OwS.empty vtL z0 hHeld.size _ rfl
       have hz1 : z0.heap.size < (z0.alloc (.cells #[] 33)).heap.size := by simp
       generalize z0.alloc (.cells #[] 33) = z1 at bz1 ez1 hz1 ⊢
       refine hK.out _ _ (bz1) (fun _ => ?_)
       clear hK K
       ((try simp only [Act.put]); (try simp only [List.setIfInBounds_toArray]); (try simp only [List.set_cons_succ]); (try simp only [List.set_cons_zero]))
       refine wpAnyH_ready (rs := [4, 6]) (by kernel_rfl) (by simp) ?_
       refine AllReadyH.cons (o := _) (by (try simp only [List.getElem?_toArray]); (try simp only [List.getElem?_cons_succ]); (try simp only [List.getElem?_cons_zero]); rfl) (fun K hK => ?_) ?_
       ·refine St.step_app vlOk vlS rfl (.tmp 44) (.tmp 47) rfl (by simp [Act.eval]) ez1 (by simp [Act.eval]) (HT.out _ bz1) l1 l1b bz1.size ?_
        intro v4 z4 p4 g4 _
        rw [List.nil_append] at p4
        have b4 := bz1.grown g4 bz1.size ez1.ge
        refine hK.out _ _ (b4) (fun _ => ?_)
        clear hK K
        ((try simp only [Act.put]); (try simp only [List.setIfInBounds_toArray]); (try simp only [List.set_cons_succ]); (try simp only [List.set_cons_zero]))
        refine wpAnyH_ready (rs := [6]) (by kernel_rfl) (by simp) ?_
        refine AllReadyH.cons (o := _) (by (try simp only [List.getElem?_toArray]); (try simp only [List.getElem?_cons_succ]); (try simp only [List.getElem?_cons_zero]); rfl) (fun K hK => ?_) AllReadyH.nil
        go_simp
        have bz6 := b4.alloc b4.size (.cells #[.int .i64 c.slot, .int .i64 c.ballot, .int .i64 c.origin, .bool c.full, .string c.bytes] 33)
        have xz6 : St.RdS vtL (z4.alloc (.cells #[.int .i64 c.slot, .int .i64 c.ballot, .int .i64 c.origin, .bool c.full, .string c.bytes] 33)) [] (.slice (some ⟨z4.heap.size, 0, none⟩) 1 1) [c] := St.RdS.new z4 [] [c] _ rfl (by simp) (by simp [maxLen]) _
        have p6 := p4.below ((Below.refl z4.heap.size z4).alloc (Nat.le_refl _) (.cells #[.int .i64 c.slot, .int .i64 c.ballot, .int .i64 c.origin, .bool c.full, .string c.bytes] 33))
        generalize z4.alloc (.cells #[.int .i64 c.slot, .int .i64 c.ballot, .int .i64 c.origin, .bool c.full, .string c.bytes] 33) = z6 at bz6 xz6 p6 ⊢
        refine hK.out _ _ (bz6) (fun _ => ?_)
        clear hK K
        ((try simp only [Act.put]); (try simp only [List.setIfInBounds_toArray]); (try simp only [List.set_cons_succ]); (try simp only [List.set_cons_zero]))
        refine wpAnyH_ready (rs := [7]) (by kernel_rfl) (by simp) ?_
        refine AllReadyH.cons (o := _) (by (try simp only [List.getElem?_toArray]); (try simp only [List.getElem?_cons_succ]); (try simp only [List.getElem?_cons_zero]); rfl) (fun K hK => ?_) AllReadyH.nil
        refine St.step_app vlOk vlS rfl (.tmp 48) (.tmp 50) rfl (by simp [Act.eval]) p6 (by simp [Act.eval]) xz6 l2 l2b bz6.size ?_
        intro v7 z7 p7 g7 _
        have b7 := bz6.grown g7 bz6.size p6.ge
        have r9 := HD.out _ b7
        refine hK.out _ _ (b7) (fun _ => ?_)
        clear hK K
        ((try simp only [Act.put]); (try simp only [List.setIfInBounds_toArray]); (try simp only [List.set_cons_succ]); (try simp only [List.set_cons_zero]))
        refine wpAnyH_ready (rs := [9]) (by kernel_rfl) (by simp) ?_
        refine AllReadyH.cons (o := _) (by (try simp only [List.getElem?_toArray]); (try simp only [List.getElem?_cons_succ]); (try simp only [List.getElem?_cons_zero]); rfl) (fun K hK => ?_) AllReadyH.nil
        refine St.step_app vlOk vlS rfl (.tmp 51) (.tmp 52) rfl (by simp [Act.eval]) p7 (by simp [Act.eval]) r9 l3 l3b b7.size ?_
        intro v9 z9 p9 g9 _
        have b9 := b7.grown g9 b7.size p7.ge
        have P9 := Lib.hid p9
        refine hK.out _ _ (b9) (fun _ => ?_)
        clear hK K
        ((try simp only [Act.put]); (try simp only [List.setIfInBounds_toArray]); (try simp only [List.set_cons_succ]); (try simp only [List.set_cons_zero]))
        refine takeL 10 (h := ?_)
        refine wpAnyH_done (by kernel_rfl) ?_ _
        go_wp2_with fail
        go_ret
        exact ⟨⟨_, rfl, by rw [HANS.out]; exact P9.out.mono HW.out.size⟩, HW.out.trans (b9.mono HW.out.size)⟩
       refine AllReadyH.cons (o := _) (by (try simp only [List.getElem?_toArray]); (try simp only [List.getElem?_cons_succ]); (try simp only [List.getElem?_cons_zero]); rfl) (fun K hK => ?_) AllReadyH.nil
       go_simp
       have bz6 := bz1.alloc bz1.size (.cells #[.int .i64 c.slot, .int .i64 c.ballot, .int .i64 c.origin, .bool c.full, .string c.bytes] 33)
       have xz6 : St.RdS vtL (z1.alloc (.cells #[.int .i64 c.slot, .int .i64 c.ballot, .int .i64 c.origin, .bool c.full, .string c.bytes] 33)) [z0.heap.size] (.slice (some ⟨z1.heap.size, 0, none⟩) 1 1) [c] := St.RdS.new z1 [z0.heap.size] [c] _ rfl (by simp <;> omega) (by simp [maxLen]) _
       have e6 := ez1.below ((Below.refl z1.heap.size z1).alloc (Nat.le_refl _) (.cells #[.int .i64 c.slot, .int .i64 c.ballot, .int .i64 c.origin, .bool c.full, .string c.bytes] 33))
       generalize z1.alloc (.cells #[.int .i64 c.slot, .int .i64 c.ballot, .int .i64 c.origin, .bool c.full, .string c.bytes] 33) = z6 at bz6 xz6 e6 ⊢
       refine hK.out _ _ (bz6) (fun _ => ?_)
       clear hK K
       ((try simp only [Act.put]); (try simp only [List.setIfInBounds_toArray]); (try simp only [List.set_cons_succ]); (try simp only [List.set_cons_zero]))
       refine wpAnyH_ready (rs := [4]) (by kernel_rfl) (by simp) ?_
       refine AllReadyH.cons (o := _) (by (try simp only [List.getElem?_toArray]); (try simp only [List.getElem?_cons_succ]); (try simp only [List.getElem?_cons_zero]); rfl) (fun K hK => ?_) AllReadyH.nil
       refine St.step_app vlOk vlS rfl (.tmp 44) (.tmp 47) rfl (by simp [Act.eval]) e6 (by simp [Act.eval]) (HT.out _ bz6) l1 l1b bz6.size ?_
       intro v4 z4 p4 g4 _
       rw [List.nil_append] at p4
       have b4 := bz6.grown g4 bz6.size e6.ge
       have x4 := xz6.up (Kp.grown (S := [z0.heap.size]) g4 fun k e => List.mem_singleton.2 (Option.some.inj e).symm) (fun _ hk => .inl hk)
       refine hK.out _ _ (b4) (fun _ => ?_)
       clear hK K
       ((try simp only [Act.put]); (try simp only [List.setIfInBounds_toArray]); (try simp only [List.set_cons_succ]); (try simp only [List.set_cons_zero]))
       refine wpAnyH_ready (rs := [7]) (by kernel_rfl) (by simp) ?_
       refine AllReadyH.cons (o := _) (by (try simp only [List.getElem?_toArray]); (try simp only [List.getElem?_cons_succ]); (try simp only [List.getElem?_cons_zero]); rfl) (fun K hK => ?_) AllReadyH.nil
       refine St.step_app vlOk vlS rfl (.tmp 48) (.tmp 50) rfl (by simp [Act.eval]) p4 (by simp [Act.eval]) x4 l2 l2b b4.size ?_
       intro v7 z7 p7 g7 _
       have b7 := b4.grown g7 b4.size p4.ge
       have r9 := HD.out _ b7
       refine hK.out _ _ (b7) (fun _ => ?_)
       clear hK K
       ((try simp only [Act.put]); (try simp only [List.setIfInBounds_toArray]); (try simp only [List.set_cons_succ]); (try simp only [List.set_cons_zero]))
       refine wpAnyH_ready (rs := [9]) (by kernel_rfl) (by simp) ?_
       refine AllReadyH.cons (o := _) (by (try simp only [List.getElem?_toArray]); (try simp only [List.getElem?_cons_succ]); (try simp only [List.getElem?_cons_zero]); rfl) (fun K hK => ?_) AllReadyH.nil
       refine St.step_app vlOk vlS rfl (.tmp 51) (.tmp 52) rfl (by simp [Act.eval]) p7 (by simp [Act.eval]) r9 l3 l3b b7.size ?_
       intro v9 z9 p9 g9 _
       have b9 := b7.grown g9 b7.size p7.ge
       have P9 := Lib.hid p9
       refine hK.out _ _ (b9) (fun _ => ?_)
       clear hK K
       ((try simp only [Act.put]); (try simp only [List.setIfInBounds_toArray]); (try simp only [List.set_cons_succ]); (try simp only [List.set_cons_zero]))
       refine takeL 10 (h := ?_)
       refine wpAnyH_done (by kernel_rfl) ?_ _
       go_wp2_with fail
       go_ret
       exact ⟨⟨_, rfl, by rw [HANS.out]; exact P9.out.mono HW.out.size⟩, HW.out.trans (b9.mono HW.out.size)⟩
      refine AllReadyH.cons (o := _) (by (try simp only [List.getElem?_toArray]); (try simp only [List.getElem?_cons_succ]); (try simp only [List.getElem?_cons_zero]); rfl) (fun K hK => ?_) AllReadyH.nil
      go_simp
      have bz6 := hHeld.alloc hHeld.size (.cells #[.int .i64 c.slot, .int .i64 c.ballot, .int .i64 c.origin, .bool c.full, .string c.bytes] 33)
      have xz6 : St.RdS vtL (z0.alloc (.cells #[.int .i64 c.slot, .int .i64 c.ballot, .int .i64 c.origin, .bool c.full, .string c.bytes] 33)) [z0.heap.size + 1] (.slice (some ⟨z0.heap.size, 0, none⟩) 1 1) [c] := St.RdS.new z0 [z0.heap.size + 1] [c] _ rfl (by simp <;> omega) (by simp [maxLen]) _
      have hz6 : (z0.alloc (.cells #[.int .i64 c.slot, .int .i64 c.ballot, .int .i64 c.origin, .bool c.full, .string c.bytes] 33)).heap.size = z0.heap.size + 1 := by simp
      generalize z0.alloc (.cells #[.int .i64 c.slot, .int .i64 c.ballot, .int .i64 c.origin, .bool c.full, .string c.bytes] 33) = z6 at bz6 xz6 hz6 ⊢
      refine hK.out _ _ (bz6) (fun _ => ?_)
      clear hK K
      ((try simp only [Act.put]); (try simp only [List.setIfInBounds_toArray]); (try simp only [List.set_cons_succ]); (try simp only [List.set_cons_zero]))
      refine wpAnyH_ready (rs := [0]) (by kernel_rfl) (by simp) ?_
      refine AllReadyH.cons (o := _) (by (try simp only [List.getElem?_toArray]); (try simp only [List.getElem?_cons_succ]); (try simp only [List.getElem?_cons_zero]); rfl) (fun K hK => ?_) AllReadyH.nil
      go_simp
      have bz1 := bz6.alloc bz6.size (.cells #[] 33)
      have ez1 : St.OwS vtL (z6.alloc (.cells #[] 33)) W.heap.size (.slice (some ⟨z6.heap.size, 0, none⟩) 0 0) [] := St.OwS.empty vtL z6 bz6.size _ rfl
      have x1 := xz6.up (Kp.of_below ((Below.refl z6.heap.size z6).alloc (Nat.le_refl _) (.cells #[] 33)) _) (S' := [z0.heap.size + 1]) fun _ hk => .inl hk
      generalize z6.alloc (.cells #[] 33) = z1 at bz1 ez1 x1 ⊢
      refine hK.out _ _ (bz1) (fun _ => ?_)
      clear hK K
      ((try simp only [Act.put]); (try simp only [List.setIfInBounds_toArray]); (try simp only [List.set_cons_succ]); (try simp only [List.set_cons_zero]))
      refine wpAnyH_ready (rs := [4]) (by kernel_rfl) (by simp) ?_
      refine AllReadyH.cons (o := _) (by (try simp only [List.getElem?_toArray]); (try simp only [List.getElem?_cons_succ]); (try simp only [List.getElem?_cons_zero]); rfl) (fun K hK => ?_) AllReadyH.nil
      refine St.step_app vlOk vlS rfl (.tmp 44) (.tmp 47) rfl (by simp [Act.eval]) ez1 (by simp [Act.eval]) (HT.out _ bz1) l1 l1b bz1.size ?_
      intro v4 z4 p4 g4 _
      rw [List.nil_append] at p4
      have b4 := bz1.grown g4 bz1.size ez1.ge
      have x4 := x1.up (Kp.grown (S := [z0.heap.size + 1]) g4 fun k e => List.mem_singleton.2 (by rw [← hz6]; exact (Option.some.inj e).symm)) (fun _ hk => .inl hk)
      refine hK.out _ _ (b4) (fun _ => ?_)
      clear hK K
      ((try simp only [Act.put]); (try simp only [List.setIfInBounds_toArray]); (try simp only [List.set_cons_succ]); (try simp only [List.set_cons_zero]))
      refine wpAnyH_ready (rs := [7]) (by kernel_rfl) (by simp) ?_
      refine AllReadyH.cons (o := _) (by (try simp only [List.getElem?_toArray]); (try simp only [List.getElem?_cons_succ]); (try simp only [List.getElem?_cons_zero]); rfl) (fun K hK => ?_) AllReadyH.nil
      refine St.step_app vlOk vlS rfl (.tmp 48) (.tmp 50) rfl (by simp [Act.eval]) p4 (by simp [Act.eval]) x4 l2 l2b b4.size ?_
      intro v7 z7 p7 g7 _
      have b7 := b4.grown g7 b4.size p4.ge
      have r9 := HD.out _ b7
      refine hK.out _ _ (b7) (fun _ => ?_)
      clear hK K
      ((try simp only [Act.put]); (try simp only [List.setIfInBounds_toArray]); (try simp only [List.set_cons_succ]); (try simp only [List.set_cons_zero]))
      refine wpAnyH_ready (rs := [9]) (by kernel_rfl) (by simp) ?_
      refine AllReadyH.cons (o := _) (by (try simp only [List.getElem?_toArray]); (try simp only [List.getElem?_cons_succ]); (try simp only [List.getElem?_cons_zero]); rfl) (fun K hK => ?_) AllReadyH.nil
      refine St.step_app vlOk vlS rfl (.tmp 51) (.tmp 52) rfl (by simp [Act.eval]) p7 (by simp [Act.eval]) r9 l3 l3b b7.size ?_
      intro v9 z9 p9 g9 _
      have b9 := b7.grown g9 b7.size p7.ge
      have P9 := Lib.hid p9
      refine hK.out _ _ (b9) (fun _ => ?_)
      clear hK K
      ((try simp only [Act.put]); (try simp only [List.setIfInBounds_toArray]); (try simp only [List.set_cons_succ]); (try simp only [List.set_cons_zero]))
      refine takeL 10 (h := ?_)
      refine wpAnyH_done (by kernel_rfl) ?_ _
      go_wp2_with fail
      go_ret
      exact ⟨⟨_, rfl, by rw [HANS.out]; exact P9.out.mono HW.out.size⟩, HW.out.trans (b9.mono HW.out.size)⟩
     ·skip
      have hw1 : IntKind.i64.wrap ((k : Int) + 1) = (k : Int) + 1 := IntWalk.i64_in _ (by omega)
      have k6 : (k : Int) + 1 ≤ (cp : Int) := by omega
      have k7 : (0 : Int) ≤ (k : Int) + 1 := by omega
      have k8 : (k : Int) + 1 ≤ (V.length : Int) := by omega
      go_wp2_with fail
      go_quiet (fail)
      go_wp2_with fail
      have hbW := below_drewN hbA nq
      generalize wa.drewN nq = W at *
      have hsW := hbW.size
      have k1 : (k : Int) ≤ (cp : Int) := by omega
      have k2 : (k : Int) ≤ (V.length : Int) := by omega
      have k5 : k ≤ cp := by omega
      have HIW := Lib.hid fun z (hz : Below W.heap.size W z) => HI.out z (bwstep hbW hz)
      have HT := Lib.hid fun z (hz : Below W.heap.size W z) => (HUB.out z (bwstep hbW hz)).to_ vlOk hk
      have HD := Lib.hid fun z (hz : Below W.heap.size W z) => (HUB.out z (bwstep hbW hz)).from_ vlOk (k := k + 1) (by omega)
      have HW := Lib.hid (HB1.out.trans (hbW.mono HB1.out.size))
      obtain ⟨Lt, hLt⟩ : ∃ Lt, Lt = V.take k := ⟨_, rfl⟩
      obtain ⟨Ld, hLd⟩ : ∃ Ld, Ld = V.drop (k + 1) := ⟨_, rfl⟩
      have l1 : ([] : List Vt).length + Lt.length ≤ maxLen := by rw [hLt]; simp [maxLen]; omega
      have l2 : Lt.length + [c].length ≤ maxLen := by rw [hLt]; simp [maxLen]; omega
      have l3 : (Lt ++ [c]).length + Ld.length ≤ maxLen := by rw [hLt, hLd]; simp [maxLen]; omega
      have l1b : (([] : List Vt).length + Lt.length) * 48 ≤ 140737488355328 := by rw [hLt]; simp; omega
      have l2b : (Lt.length + [c].length) * 48 ≤ 140737488355328 := by rw [hLt]; simp; omega
      have l3b : ((Lt ++ [c]).length + Ld.length) * 48 ≤ 140737488355328 := by rw [hLt, hLd]; simp; omega
      have HANS := HO
      rw [← hLt, ← hLd] at HANS
      rw [← hLt] at HT
      rw [← hLd] at HD
      clear HO hLt hLd HU HUB HP HDK HFK HE HJ hq1 c1 hbA
      refine wp_region_held_drew (S := fun z => Below W.heap.size W z) (by kernel_rfl) (Below.refl _ _).drew (fun hHeld => ?_)
      refine takeL 1 (h := ?_)
      refine takeL 2 (h := ?_)
      refine takeL 3 (h := ?_)
      refine takeL 5 (v := .agg #[.int .i64 c.slot, .int .i64 c.ballot, .int .i64 c.origin, .bool c.full, .string c.bytes]) (hy := by intro z hSz; exact St.loadOp vtOk (.tmp 3) rfl rfl (HIW.out z hSz)) (h := ?_)
      refine takeL 8 (h := ?_)
      generalize W.drew = z0 at hHeld ⊢
      refine wpAnyH_ready (rs := [0, 6]) (by kernel_rfl) (by simp) ?_
      refine AllReadyH.cons (o := _) (by (try simp only [List.getElem?_toArray]); (try simp only [List.getElem?_cons_succ]); (try simp only [List.getElem?_cons_zero]); rfl) (fun K hK => ?_) ?_
      ·go_simp
       have bz1 := hHeld.alloc hHeld.size (.cells #[] 33)
       have ez1 : St.OwS vtL (z0.alloc (.cells #[] 33)) W.heap.size (.slice (some ⟨z0.heap.size, 0, none⟩) 0 0) [] := St.OwS.empty vtL z0 hHeld.size _ rfl
       have hz1 : z0.heap.size < (z0.alloc (.cells #[] 33)).heap.size := by simp
       generalize z0.alloc (.cells #[] 33) = z1 at bz1 ez1 hz1 ⊢
       refine hK.out _ _ (bz1) (fun _ => ?_)
       clear hK K
       ((try simp only [Act.put]); (try simp only [List.setIfInBounds_toArray]); (try simp only [List.set_cons_succ]); (try simp only [List.set_cons_zero]))
       refine wpAnyH_ready (rs := [4, 6]) (by kernel_rfl) (by simp) ?_
       refine AllReadyH.cons (o := _) (by (try simp only [List.getElem?_toArray]); (try simp only [List.getElem?_cons_succ]); (try simp only [List.getElem?_cons_zero]); rfl) (fun K hK => ?_) ?_
       ·refine St.step_app vlOk vlS rfl (.tmp 44) (.tmp 47) rfl (by simp [Act.eval]) ez1 (by simp [Act.eval]) (HT.out _ bz1) l1 l1b bz1.size ?_
        intro v4 z4 p4 g4 _
        rw [List.nil_append] at p4
        have b4 := bz1.grown g4 bz1.size ez1.ge
        refine hK.out _ _ (b4) (fun _ => ?_)
        clear hK K
        ((try simp only [Act.put]); (try simp only [List.setIfInBounds_toArray]); (try simp only [List.set_cons_succ]); (try simp only [List.set_cons_zero]))
        refine wpAnyH_ready (rs := [6]) (by kernel_rfl) (by simp) ?_
        refine AllReadyH.cons (o := _) (by (try simp only [List.getElem?_toArray]); (try simp only [List.getElem?_cons_succ]); (try simp only [List.getElem?_cons_zero]); rfl) (fun K hK => ?_) AllReadyH.nil
        go_simp
        have bz6 := b4.alloc b4.size (.cells #[.int .i64 c.slot, .int .i64 c.ballot, .int .i64 c.origin, .bool c.full, .string c.bytes] 33)
        have xz6 : St.RdS vtL (z4.alloc (.cells #[.int .i64 c.slot, .int .i64 c.ballot, .int .i64 c.origin, .bool c.full, .string c.bytes] 33)) [] (.slice (some ⟨z4.heap.size, 0, none⟩) 1 1) [c] := St.RdS.new z4 [] [c] _ rfl (by simp) (by simp [maxLen]) _
        have p6 := p4.below ((Below.refl z4.heap.size z4).alloc (Nat.le_refl _) (.cells #[.int .i64 c.slot, .int .i64 c.ballot, .int .i64 c.origin, .bool c.full, .string c.bytes] 33))
        generalize z4.alloc (.cells #[.int .i64 c.slot, .int .i64 c.ballot, .int .i64 c.origin, .bool c.full, .string c.bytes] 33) = z6 at bz6 xz6 p6 ⊢
        refine hK.out _ _ (bz6) (fun _ => ?_)
        clear hK K
        ((try simp only [Act.put]); (try simp only [List.setIfInBounds_toArray]); (try simp only [List.set_cons_succ]); (try simp only [List.set_cons_zero]))
        refine wpAnyH_ready (rs := [7]) (by kernel_rfl) (by simp) ?_
        refine AllReadyH.cons (o := _) (by (try simp only [List.getElem?_toArray]); (try simp only [List.getElem?_cons_succ]); (try simp only [List.getElem?_cons_zero]); rfl) (fun K hK => ?_) AllReadyH.nil
        refine St.step_app vlOk vlS rfl (.tmp 48) (.tmp 50) rfl (by simp [Act.eval]) p6 (by simp [Act.eval]) xz6 l2 l2b bz6.size ?_
        intro v7 z7 p7 g7 _
        have b7 := bz6.grown g7 bz6.size p6.ge
        have r9 := HD.out _ b7
        refine hK.out _ _ (b7) (fun _ => ?_)
        clear hK K
        ((try simp only [Act.put]); (try simp only [List.setIfInBounds_toArray]); (try simp only [List.set_cons_succ]); (try simp only [List.set_cons_zero]))
        refine wpAnyH_ready (rs := [9]) (by kernel_rfl) (by simp) ?_
        refine AllReadyH.cons (o := _) (by (try simp only [List.getElem?_toArray]); (try simp only [List.getElem?_cons_succ]); (try simp only [List.getElem?_cons_zero]); rfl) (fun K hK => ?_) AllReadyH.nil
        refine St.step_app vlOk vlS rfl (.tmp 51) (.tmp 52) rfl (by simp [Act.eval]) p7 (by simp [Act.eval]) r9 l3 l3b b7.size ?_
        intro v9 z9 p9 g9 _
        have b9 := b7.grown g9 b7.size p7.ge
        have P9 := Lib.hid p9
        refine hK.out _ _ (b9) (fun _ => ?_)
        clear hK K
        ((try simp only [Act.put]); (try simp only [List.setIfInBounds_toArray]); (try simp only [List.set_cons_succ]); (try simp only [List.set_cons_zero]))
        refine takeL 10 (h := ?_)
        refine wpAnyH_done (by kernel_rfl) ?_ _
        go_wp2_with fail
        go_ret
        exact ⟨⟨_, rfl, by rw [HANS.out]; exact P9.out.mono HW.out.size⟩, HW.out.trans (b9.mono HW.out.size)⟩
       refine AllReadyH.cons (o := _) (by (try simp only [List.getElem?_toArray]); (try simp only [List.getElem?_cons_succ]); (try simp only [List.getElem?_cons_zero]); rfl) (fun K hK => ?_) AllReadyH.nil
       go_simp
       have bz6 := bz1.alloc bz1.size (.cells #[.int .i64 c.slot, .int .i64 c.ballot, .int .i64 c.origin, .bool c.full, .string c.bytes] 33)
       have xz6 : St.RdS vtL (z1.alloc (.cells #[.int .i64 c.slot, .int .i64 c.ballot, .int .i64 c.origin, .bool c.full, .string c.bytes] 33)) [z0.heap.size] (.slice (some ⟨z1.heap.size, 0, none⟩) 1 1) [c] := St.RdS.new z1 [z0.heap.size] [c] _ rfl (by simp <;> omega) (by simp [maxLen]) _
       have e6 := ez1.below ((Below.refl z1.heap.size z1).alloc (Nat.le_refl _) (.cells #[.int .i64 c.slot, .int .i64 c.ballot, .int .i64 c.origin, .bool c.full, .string c.bytes] 33))
       generalize z1.alloc (.cells #[.int .i64 c.slot, .int .i64 c.ballot, .int .i64 c.origin, .bool c.full, .string c.bytes] 33) = z6 at bz6 xz6 e6 ⊢
       refine hK.out _ _ (bz6) (fun _ => ?_)
       clear hK K
       ((try simp only [Act.put]); (try simp only [List.setIfInBounds_toArray]); (try simp only [List.set_cons_succ]); (try simp only [List.set_cons_zero]))
       refine wpAnyH_ready (rs := [4]) (by kernel_rfl) (by simp) ?_
       refine AllReadyH.cons (o := _) (by (try simp only [List.getElem?_toArray]); (try simp only [List.getElem?_cons_succ]); (try simp only [List.getElem?_cons_zero]); rfl) (fun K hK => ?_) AllReadyH.nil
       refine St.step_app vlOk vlS rfl (.tmp 44) (.tmp 47) rfl (by simp [Act.eval]) e6 (by simp [Act.eval]) (HT.out _ bz6) l1 l1b bz6.size ?_
       intro v4 z4 p4 g4 _
       rw [List.nil_append] at p4
       have b4 := bz6.grown g4 bz6.size e6.ge
       have x4 := xz6.up (Kp.grown (S := [z0.heap.size]) g4 fun k e => List.mem_singleton.2 (Option.some.inj e).symm) (fun _ hk => .inl hk)
       refine hK.out _ _ (b4) (fun _ => ?_)
       clear hK K
       ((try simp only [Act.put]); (try simp only [List.setIfInBounds_toArray]); (try simp only [List.set_cons_succ]); (try simp only [List.set_cons_zero]))
       refine wpAnyH_ready (rs := [7]) (by kernel_rfl) (by simp) ?_
       refine AllReadyH.cons (o := _) (by (try simp only [List.getElem?_toArray]); (try simp only [List.getElem?_cons_succ]); (try simp only [List.getElem?_cons_zero]); rfl) (fun K hK => ?_) AllReadyH.nil
       refine St.step_app vlOk vlS rfl (.tmp 48) (.tmp 50) rfl (by simp [Act.eval]) p4 (by simp [Act.eval]) x4 l2 l2b b4.size ?_
       intro v7 z7 p7 g7 _
       have b7 := b4.grown g7 b4.size p4.ge
       have r9 := HD.out _ b7
       refine hK.out _ _ (b7) (fun _ => ?_)
       clear hK K
       ((try simp only [Act.put]); (try simp only [List.setIfInBounds_toArray]); (try simp only [List.set_cons_succ]); (try simp only [List.set_cons_zero]))
       refine wpAnyH_ready (rs := [9]) (by kernel_rfl) (by simp) ?_
       refine AllReadyH.cons (o := _) (by (try simp only [List.getElem?_toArray]); (try simp only [List.getElem?_cons_succ]); (try simp only [List.getElem?_cons_zero]); rfl) (fun K hK => ?_) AllReadyH.nil
       refine St.step_app vlOk vlS rfl (.tmp 51) (.tmp 52) rfl (by simp [Act.eval]) p7 (by simp [Act.eval]) r9 l3 l3b b7.size ?_
       intro v9 z9 p9 g9 _
       have b9 := b7.grown g9 b7.size p7.ge
       have P9 := Lib.hid p9
       refine hK.out _ _ (b9) (fun _ => ?_)
       clear hK K
       ((try simp only [Act.put]); (try simp only [List.setIfInBounds_toArray]); (try simp only [List.set_cons_succ]); (try simp only [List.set_cons_zero]))
       refine takeL 10 (h := ?_)
       refine wpAnyH_done (by kernel_rfl) ?_ _
       go_wp2_with fail
       go_ret
       exact ⟨⟨_, rfl, by rw [HANS.out]; exact P9.out.mono HW.out.size⟩, HW.out.trans (b9.mono HW.out.size)⟩
      refine AllReadyH.cons (o := _) (by (try simp only [List.getElem?_toArray]); (try simp only [List.getElem?_cons_succ]); (try simp only [List.getElem?_cons_zero]); rfl) (fun K hK => ?_) AllReadyH.nil
      go_simp
      have bz6 := hHeld.alloc hHeld.size (.cells #[.int .i64 c.slot, .int .i64 c.ballot, .int .i64 c.origin, .bool c.full, .string c.bytes] 33)
      have xz6 : St.RdS vtL (z0.alloc (.cells #[.int .i64 c.slot, .int .i64 c.ballot, .int .i64 c.origin, .bool c.full, .string c.bytes] 33)) [z0.heap.size + 1] (.slice (some ⟨z0.heap.size, 0, none⟩) 1 1) [c] := St.RdS.new z0 [z0.heap.size + 1] [c] _ rfl (by simp <;> omega) (by simp [maxLen]) _
      have hz6 : (z0.alloc (.cells #[.int .i64 c.slot, .int .i64 c.ballot, .int .i64 c.origin, .bool c.full, .string c.bytes] 33)).heap.size = z0.heap.size + 1 := by simp
      generalize z0.alloc (.cells #[.int .i64 c.slot, .int .i64 c.ballot, .int .i64 c.origin, .bool c.full, .string c.bytes] 33) = z6 at bz6 xz6 hz6 ⊢
      refine hK.out _ _ (bz6) (fun _ => ?_)
      clear hK K
      ((try simp only [Act.put]); (try simp only [List.setIfInBounds_toArray]); (try simp only [List.set_cons_succ]); (try simp only [List.set_cons_zero]))
      refine wpAnyH_ready (rs := [0]) (by kernel_rfl) (by simp) ?_
      refine AllReadyH.cons (o := _) (by (try simp only [List.getElem?_toArray]); (try simp only [List.getElem?_cons_succ]); (try simp only [List.getElem?_cons_zero]); rfl) (fun K hK => ?_) AllReadyH.nil
      go_simp
      have bz1 := bz6.alloc bz6.size (.cells #[] 33)
      have ez1 : St.OwS vtL (z6.alloc (.cells #[] 33)) W.heap.size (.slice (some ⟨z6.heap.size, 0, none⟩) 0 0) [] := St.OwS.empty vtL z6 bz6.size _ rfl
      have x1 := xz6.up (Kp.of_below ((Below.refl z6.heap.size z6).alloc (Nat.le_refl _) (.cells #[] 33)) _) (S' := [z0.heap.size + 1]) fun _ hk => .inl hk
      generalize z6.alloc (.cells #[] 33) = z1 at bz1 ez1 x1 ⊢
      refine hK.out _ _ (bz1) (fun _ => ?_)
      clear hK K
      ((try simp only [Act.put]); (try simp only [List.setIfInBounds_toArray]); (try simp only [List.set_cons_succ]); (try simp only [List.set_cons_zero]))
      refine wpAnyH_ready (rs := [4]) (by kernel_rfl) (by simp) ?_
      refine AllReadyH.cons (o := _) (by (try simp only [List.getElem?_toArray]); (try simp only [List.getElem?_cons_succ]); (try simp only [List.getElem?_cons_zero]); rfl) (fun K hK => ?_) AllReadyH.nil
      refine St.step_app vlOk vlS rfl (.tmp 44) (.tmp 47) rfl (by simp [Act.eval]) ez1 (by simp [Act.eval]) (HT.out _ bz1) l1 l1b bz1.size ?_
      intro v4 z4 p4 g4 _
      rw [List.nil_append] at p4
      have b4 := bz1.grown g4 bz1.size ez1.ge
      have x4 := x1.up (Kp.grown (S := [z0.heap.size + 1]) g4 fun k e => List.mem_singleton.2 (by rw [← hz6]; exact (Option.some.inj e).symm)) (fun _ hk => .inl hk)
      refine hK.out _ _ (b4) (fun _ => ?_)
      clear hK K
      ((try simp only [Act.put]); (try simp only [List.setIfInBounds_toArray]); (try simp only [List.set_cons_succ]); (try simp only [List.set_cons_zero]))
      refine wpAnyH_ready (rs := [7]) (by kernel_rfl) (by simp) ?_
      refine AllReadyH.cons (o := _) (by (try simp only [List.getElem?_toArray]); (try simp only [List.getElem?_cons_succ]); (try simp only [List.getElem?_cons_zero]); rfl) (fun K hK => ?_) AllReadyH.nil
      refine St.step_app vlOk vlS rfl (.tmp 48) (.tmp 50) rfl (by simp [Act.eval]) p4 (by simp [Act.eval]) x4 l2 l2b b4.size ?_
      intro v7 z7 p7 g7 _
      have b7 := b4.grown g7 b4.size p4.ge
      have r9 := HD.out _ b7
      refine hK.out _ _ (b7) (fun _ => ?_)
      clear hK K
      ((try simp only [Act.put]); (try simp only [List.setIfInBounds_toArray]); (try simp only [List.set_cons_succ]); (try simp only [List.set_cons_zero]))
      refine wpAnyH_ready (rs := [9]) (by kernel_rfl) (by simp) ?_
      refine AllReadyH.cons (o := _) (by (try simp only [List.getElem?_toArray]); (try simp only [List.getElem?_cons_succ]); (try simp only [List.getElem?_cons_zero]); rfl) (fun K hK => ?_) AllReadyH.nil
      refine St.step_app vlOk vlS rfl (.tmp 51) (.tmp 52) rfl (by simp [Act.eval]) p7 (by simp [Act.eval]) r9 l3 l3b b7.size ?_
      intro v9 z9 p9 g9 _
      have b9 := b7.grown g9 b7.size p7.ge
      have P9 := Lib.hid p9
      refine hK.out _ _ (b9) (fun _ => ?_)
      clear hK K
      ((try simp only [Act.put]); (try simp only [List.setIfInBounds_toArray]); (try simp only [List.set_cons_succ]); (try simp only [List.set_cons_zero]))
      refine takeL 10 (h := ?_)
      refine wpAnyH_done (by kernel_rfl) ?_ _
      go_wp2_with fail
      go_ret
      exact ⟨⟨_, rfl, by rw [HANS.out]; exact P9.out.mono HW.out.size⟩, HW.out.trans (b9.mono HW.out.size)⟩
    ·have HO : Hid (put1V V c = (V.take k ++ [c]) ++ V.drop k) := Lib.hid (by rw [HP.out, HDK.out, offV, if_neg hs]; simp)
     skip
     go_wp2_with fail
     go_quiet (fail)
     go_wp2_with fail
     have hbW := below_drewN hbA nq
     generalize wa.drewN nq = W at *
     have hsW := hbW.size
     have k1 : (k : Int) ≤ (cp : Int) := by omega
     have k2 : (k : Int) ≤ (V.length : Int) := by omega
     have k5 : k ≤ cp := by omega
     have HIW := Lib.hid fun z (hz : Below W.heap.size W z) => HI.out z (bwstep hbW hz)
     have HT := Lib.hid fun z (hz : Below W.heap.size W z) => (HUB.out z (bwstep hbW hz)).to_ vlOk hk
     have HD := Lib.hid fun z (hz : Below W.heap.size W z) => (HUB.out z (bwstep hbW hz)).from_ vlOk (k := k) (by omega)
     have HW := Lib.hid (HB1.out.trans (hbW.mono HB1.out.size))
     obtain ⟨Lt, hLt⟩ : ∃ Lt, Lt = V.take k := ⟨_, rfl⟩
     obtain ⟨Ld, hLd⟩ : ∃ Ld, Ld = V.drop (k) := ⟨_, rfl⟩
     have l1 : ([] : List Vt).length + Lt.length ≤ maxLen := by rw [hLt]; simp [maxLen]; omega
     have l2 : Lt.length + [c].length ≤ maxLen := by rw [hLt]; simp [maxLen]; omega
     have l3 : (Lt ++ [c]).length + Ld.length ≤ maxLen := by rw [hLt, hLd]; simp [maxLen]; omega
     have l1b : (([] : List Vt).length + Lt.length) * 48 ≤ 140737488355328 := by rw [hLt]; simp; omega
     have l2b : (Lt.length + [c].length) * 48 ≤ 140737488355328 := by rw [hLt]; simp; omega
     have l3b : ((Lt ++ [c]).length + Ld.length) * 48 ≤ 140737488355328 := by rw [hLt, hLd]; simp; omega
     have HANS := HO
     rw [← hLt, ← hLd] at HANS
     rw [← hLt] at HT
     rw [← hLd] at HD
     clear HO hLt hLd HU HUB HP HDK HFK HE HJ hq1 c1 hbA
     refine wp_region_held_drew (S := fun z => Below W.heap.size W z) (by kernel_rfl) (Below.refl _ _).drew (fun hHeld => ?_)
     refine takeL 1 (h := ?_)
     refine takeL 2 (h := ?_)
     refine takeL 3 (h := ?_)
     refine takeL 5 (v := .agg #[.int .i64 c.slot, .int .i64 c.ballot, .int .i64 c.origin, .bool c.full, .string c.bytes]) (hy := by intro z hSz; exact St.loadOp vtOk (.tmp 3) rfl rfl (HIW.out z hSz)) (h := ?_)
     refine takeL 8 (h := ?_)
     generalize W.drew = z0 at hHeld ⊢
     refine wpAnyH_ready (rs := [0, 6]) (by kernel_rfl) (by simp) ?_
     refine AllReadyH.cons (o := _) (by (try simp only [List.getElem?_toArray]); (try simp only [List.getElem?_cons_succ]); (try simp only [List.getElem?_cons_zero]); rfl) (fun K hK => ?_) ?_
     ·go_simp
      have bz1 := hHeld.alloc hHeld.size (.cells #[] 33)
      have ez1 : St.OwS vtL (z0.alloc (.cells #[] 33)) W.heap.size (.slice (some ⟨z0.heap.size, 0, none⟩) 0 0) [] := St.OwS.empty vtL z0 hHeld.size _ rfl
      have hz1 : z0.heap.size < (z0.alloc (.cells #[] 33)).heap.size := by simp
      generalize z0.alloc (.cells #[] 33) = z1 at bz1 ez1 hz1 ⊢
      refine hK.out _ _ (bz1) (fun _ => ?_)
      clear hK K
      ((try simp only [Act.put]); (try simp only [List.setIfInBounds_toArray]); (try simp only [List.set_cons_succ]); (try simp only [List.set_cons_zero]))
      refine wpAnyH_ready (rs := [4, 6]) (by kernel_rfl) (by simp) ?_
      refine AllReadyH.cons (o := _) (by (try simp only [List.getElem?_toArray]); (try simp only [List.getElem?_cons_succ]); (try simp only [List.getElem?_cons_zero]); rfl) (fun K hK => ?_) ?_
      ·refine St.step_app vlOk vlS rfl (.tmp 44) (.tmp 47) rfl (by simp [Act.eval]) ez1 (by simp [Act.eval]) (HT.out _ bz1) l1 l1b bz1.size ?_
       intro v4 z4 p4 g4 _
       rw [List.nil_append] at p4
       have b4 := bz1.grown g4 bz1.size ez1.ge
       refine hK.out _ _ (b4) (fun _ => ?_)
       clear hK K
       ((try simp only [Act.put]); (try simp only [List.setIfInBounds_toArray]); (try simp only [List.set_cons_succ]); (try simp only [List.set_cons_zero]))
       refine wpAnyH_ready (rs := [6]) (by kernel_rfl) (by simp) ?_
       refine AllReadyH.cons (o := _) (by (try simp only [List.getElem?_toArray]); (try simp only [List.getElem?_cons_succ]); (try simp only [List.getElem?_cons_zero]); rfl) (fun K hK => ?_) AllReadyH.nil
       go_simp
       have bz6 := b4.alloc b4.size (.cells #[.int .i64 c.slot, .int .i64 c.ballot, .int .i64 c.origin, .bool c.full, .string c.bytes] 33)
       have xz6 : St.RdS vtL (z4.alloc (.cells #[.int .i64 c.slot, .int .i64 c.ballot, .int .i64 c.origin, .bool c.full, .string c.bytes] 33)) [] (.slice (some ⟨z4.heap.size, 0, none⟩) 1 1) [c] := St.RdS.new z4 [] [c] _ rfl (by simp) (by simp [maxLen]) _
       have p6 := p4.below ((Below.refl z4.heap.size z4).alloc (Nat.le_refl _) (.cells #[.int .i64 c.slot, .int .i64 c.ballot, .int .i64 c.origin, .bool c.full, .string c.bytes] 33))
       generalize z4.alloc (.cells #[.int .i64 c.slot, .int .i64 c.ballot, .int .i64 c.origin, .bool c.full, .string c.bytes] 33) = z6 at bz6 xz6 p6 ⊢
       refine hK.out _ _ (bz6) (fun _ => ?_)
       clear hK K
       ((try simp only [Act.put]); (try simp only [List.setIfInBounds_toArray]); (try simp only [List.set_cons_succ]); (try simp only [List.set_cons_zero]))
       refine wpAnyH_ready (rs := [7]) (by kernel_rfl) (by simp) ?_
       refine AllReadyH.cons (o := _) (by (try simp only [List.getElem?_toArray]); (try simp only [List.getElem?_cons_succ]); (try simp only [List.getElem?_cons_zero]); rfl) (fun K hK => ?_) AllReadyH.nil
       refine St.step_app vlOk vlS rfl (.tmp 48) (.tmp 50) rfl (by simp [Act.eval]) p6 (by simp [Act.eval]) xz6 l2 l2b bz6.size ?_
       intro v7 z7 p7 g7 _
       have b7 := bz6.grown g7 bz6.size p6.ge
       have r9 := HD.out _ b7
       refine hK.out _ _ (b7) (fun _ => ?_)
       clear hK K
       ((try simp only [Act.put]); (try simp only [List.setIfInBounds_toArray]); (try simp only [List.set_cons_succ]); (try simp only [List.set_cons_zero]))
       refine wpAnyH_ready (rs := [9]) (by kernel_rfl) (by simp) ?_
       refine AllReadyH.cons (o := _) (by (try simp only [List.getElem?_toArray]); (try simp only [List.getElem?_cons_succ]); (try simp only [List.getElem?_cons_zero]); rfl) (fun K hK => ?_) AllReadyH.nil
       refine St.step_app vlOk vlS rfl (.tmp 51) (.tmp 52) rfl (by simp [Act.eval]) p7 (by simp [Act.eval]) r9 l3 l3b b7.size ?_
       intro v9 z9 p9 g9 _
       have b9 := b7.grown g9 b7.size p7.ge
       have P9 := Lib.hid p9
       refine hK.out _ _ (b9) (fun _ => ?_)
       clear hK K
       ((try simp only [Act.put]); (try simp only [List.setIfInBounds_toArray]); (try simp only [List.set_cons_succ]); (try simp only [List.set_cons_zero]))
       refine takeL 10 (h := ?_)
       refine wpAnyH_done (by kernel_rfl) ?_ _
       go_wp2_with fail
       go_ret
       exact ⟨⟨_, rfl, by rw [HANS.out]; exact P9.out.mono HW.out.size⟩, HW.out.trans (b9.mono HW.out.size)⟩
      refine AllReadyH.cons (o := _) (by (try simp only [List.getElem?_toArray]); (try simp only [List.getElem?_cons_succ]); (try simp only [List.getElem?_cons_zero]); rfl) (fun K hK => ?_) AllReadyH.nil
      go_simp
      have bz6 := bz1.alloc bz1.size (.cells #[.int .i64 c.slot, .int .i64 c.ballot, .int .i64 c.origin, .bool c.full, .string c.bytes] 33)
      have xz6 : St.RdS vtL (z1.alloc (.cells #[.int .i64 c.slot, .int .i64 c.ballot, .int .i64 c.origin, .bool c.full, .string c.bytes] 33)) [z0.heap.size] (.slice (some ⟨z1.heap.size, 0, none⟩) 1 1) [c] := St.RdS.new z1 [z0.heap.size] [c] _ rfl (by simp <;> omega) (by simp [maxLen]) _
      have e6 := ez1.below ((Below.refl z1.heap.size z1).alloc (Nat.le_refl _) (.cells #[.int .i64 c.slot, .int .i64 c.ballot, .int .i64 c.origin, .bool c.full, .string c.bytes] 33))
      generalize z1.alloc (.cells #[.int .i64 c.slot, .int .i64 c.ballot, .int .i64 c.origin, .bool c.full, .string c.bytes] 33) = z6 at bz6 xz6 e6 ⊢
      refine hK.out _ _ (bz6) (fun _ => ?_)
      clear hK K
      ((try simp only [Act.put]); (try simp only [List.setIfInBounds_toArray]); (try simp only [List.set_cons_succ]); (try simp only [List.set_cons_zero]))
      refine wpAnyH_ready (rs := [4]) (by kernel_rfl) (by simp) ?_
      refine AllReadyH.cons (o := _) (by (try simp only [List.getElem?_toArray]); (try simp only [List.getElem?_cons_succ]); (try simp only [List.getElem?_cons_zero]); rfl) (fun K hK => ?_) AllReadyH.nil
      refine St.step_app vlOk vlS rfl (.tmp 44) (.tmp 47) rfl (by simp [Act.eval]) e6 (by simp [Act.eval]) (HT.out _ bz6) l1 l1b bz6.size ?_
      intro v4 z4 p4 g4 _
      rw [List.nil_append] at p4
      have b4 := bz6.grown g4 bz6.size e6.ge
      have x4 := xz6.up (Kp.grown (S := [z0.heap.size]) g4 fun k e => List.mem_singleton.2 (Option.some.inj e).symm) (fun _ hk => .inl hk)
      refine hK.out _ _ (b4) (fun _ => ?_)
      clear hK K
      ((try simp only [Act.put]); (try simp only [List.setIfInBounds_toArray]); (try simp only [List.set_cons_succ]); (try simp only [List.set_cons_zero]))
      refine wpAnyH_ready (rs := [7]) (by kernel_rfl) (by simp) ?_
      refine AllReadyH.cons (o := _) (by (try simp only [List.getElem?_toArray]); (try simp only [List.getElem?_cons_succ]); (try simp only [List.getElem?_cons_zero]); rfl) (fun K hK => ?_) AllReadyH.nil
      refine St.step_app vlOk vlS rfl (.tmp 48) (.tmp 50) rfl (by simp [Act.eval]) p4 (by simp [Act.eval]) x4 l2 l2b b4.size ?_
      intro v7 z7 p7 g7 _
      have b7 := b4.grown g7 b4.size p4.ge
      have r9 := HD.out _ b7
      refine hK.out _ _ (b7) (fun _ => ?_)
      clear hK K
      ((try simp only [Act.put]); (try simp only [List.setIfInBounds_toArray]); (try simp only [List.set_cons_succ]); (try simp only [List.set_cons_zero]))
      refine wpAnyH_ready (rs := [9]) (by kernel_rfl) (by simp) ?_
      refine AllReadyH.cons (o := _) (by (try simp only [List.getElem?_toArray]); (try simp only [List.getElem?_cons_succ]); (try simp only [List.getElem?_cons_zero]); rfl) (fun K hK => ?_) AllReadyH.nil
      refine St.step_app vlOk vlS rfl (.tmp 51) (.tmp 52) rfl (by simp [Act.eval]) p7 (by simp [Act.eval]) r9 l3 l3b b7.size ?_
      intro v9 z9 p9 g9 _
      have b9 := b7.grown g9 b7.size p7.ge
      have P9 := Lib.hid p9
      refine hK.out _ _ (b9) (fun _ => ?_)
      clear hK K
      ((try simp only [Act.put]); (try simp only [List.setIfInBounds_toArray]); (try simp only [List.set_cons_succ]); (try simp only [List.set_cons_zero]))
      refine takeL 10 (h := ?_)
      refine wpAnyH_done (by kernel_rfl) ?_ _
      go_wp2_with fail
      go_ret
      exact ⟨⟨_, rfl, by rw [HANS.out]; exact P9.out.mono HW.out.size⟩, HW.out.trans (b9.mono HW.out.size)⟩
     refine AllReadyH.cons (o := _) (by (try simp only [List.getElem?_toArray]); (try simp only [List.getElem?_cons_succ]); (try simp only [List.getElem?_cons_zero]); rfl) (fun K hK => ?_) AllReadyH.nil
     go_simp
     have bz6 := hHeld.alloc hHeld.size (.cells #[.int .i64 c.slot, .int .i64 c.ballot, .int .i64 c.origin, .bool c.full, .string c.bytes] 33)
     have xz6 : St.RdS vtL (z0.alloc (.cells #[.int .i64 c.slot, .int .i64 c.ballot, .int .i64 c.origin, .bool c.full, .string c.bytes] 33)) [z0.heap.size + 1] (.slice (some ⟨z0.heap.size, 0, none⟩) 1 1) [c] := St.RdS.new z0 [z0.heap.size + 1] [c] _ rfl (by simp <;> omega) (by simp [maxLen]) _
     have hz6 : (z0.alloc (.cells #[.int .i64 c.slot, .int .i64 c.ballot, .int .i64 c.origin, .bool c.full, .string c.bytes] 33)).heap.size = z0.heap.size + 1 := by simp
     generalize z0.alloc (.cells #[.int .i64 c.slot, .int .i64 c.ballot, .int .i64 c.origin, .bool c.full, .string c.bytes] 33) = z6 at bz6 xz6 hz6 ⊢
     refine hK.out _ _ (bz6) (fun _ => ?_)
     clear hK K
     ((try simp only [Act.put]); (try simp only [List.setIfInBounds_toArray]); (try simp only [List.set_cons_succ]); (try simp only [List.set_cons_zero]))
     refine wpAnyH_ready (rs := [0]) (by kernel_rfl) (by simp) ?_
     refine AllReadyH.cons (o := _) (by (try simp only [List.getElem?_toArray]); (try simp only [List.getElem?_cons_succ]); (try simp only [List.getElem?_cons_zero]); rfl) (fun K hK => ?_) AllReadyH.nil
     go_simp
     have bz1 := bz6.alloc bz6.size (.cells #[] 33)
     have ez1 : St.OwS vtL (z6.alloc (.cells #[] 33)) W.heap.size (.slice (some ⟨z6.heap.size, 0, none⟩) 0 0) [] := St.OwS.empty vtL z6 bz6.size _ rfl
     have x1 := xz6.up (Kp.of_below ((Below.refl z6.heap.size z6).alloc (Nat.le_refl _) (.cells #[] 33)) _) (S' := [z0.heap.size + 1]) fun _ hk => .inl hk
     generalize z6.alloc (.cells #[] 33) = z1 at bz1 ez1 x1 ⊢
     refine hK.out _ _ (bz1) (fun _ => ?_)
     clear hK K
     ((try simp only [Act.put]); (try simp only [List.setIfInBounds_toArray]); (try simp only [List.set_cons_succ]); (try simp only [List.set_cons_zero]))
     refine wpAnyH_ready (rs := [4]) (by kernel_rfl) (by simp) ?_
     refine AllReadyH.cons (o := _) (by (try simp only [List.getElem?_toArray]); (try simp only [List.getElem?_cons_succ]); (try simp only [List.getElem?_cons_zero]); rfl) (fun K hK => ?_) AllReadyH.nil
     refine St.step_app vlOk vlS rfl (.tmp 44) (.tmp 47) rfl (by simp [Act.eval]) ez1 (by simp [Act.eval]) (HT.out _ bz1) l1 l1b bz1.size ?_
     intro v4 z4 p4 g4 _
     rw [List.nil_append] at p4
     have b4 := bz1.grown g4 bz1.size ez1.ge
     have x4 := x1.up (Kp.grown (S := [z0.heap.size + 1]) g4 fun k e => List.mem_singleton.2 (by rw [← hz6]; exact (Option.some.inj e).symm)) (fun _ hk => .inl hk)
     refine hK.out _ _ (b4) (fun _ => ?_)
     clear hK K
     ((try simp only [Act.put]); (try simp only [List.setIfInBounds_toArray]); (try simp only [List.set_cons_succ]); (try simp only [List.set_cons_zero]))
     refine wpAnyH_ready (rs := [7]) (by kernel_rfl) (by simp) ?_
     refine AllReadyH.cons (o := _) (by (try simp only [List.getElem?_toArray]); (try simp only [List.getElem?_cons_succ]); (try simp only [List.getElem?_cons_zero]); rfl) (fun K hK => ?_) AllReadyH.nil
     refine St.step_app vlOk vlS rfl (.tmp 48) (.tmp 50) rfl (by simp [Act.eval]) p4 (by simp [Act.eval]) x4 l2 l2b b4.size ?_
     intro v7 z7 p7 g7 _
     have b7 := b4.grown g7 b4.size p4.ge
     have r9 := HD.out _ b7
     refine hK.out _ _ (b7) (fun _ => ?_)
     clear hK K
     ((try simp only [Act.put]); (try simp only [List.setIfInBounds_toArray]); (try simp only [List.set_cons_succ]); (try simp only [List.set_cons_zero]))
     refine wpAnyH_ready (rs := [9]) (by kernel_rfl) (by simp) ?_
     refine AllReadyH.cons (o := _) (by (try simp only [List.getElem?_toArray]); (try simp only [List.getElem?_cons_succ]); (try simp only [List.getElem?_cons_zero]); rfl) (fun K hK => ?_) AllReadyH.nil
     refine St.step_app vlOk vlS rfl (.tmp 51) (.tmp 52) rfl (by simp [Act.eval]) p7 (by simp [Act.eval]) r9 l3 l3b b7.size ?_
     intro v9 z9 p9 g9 _
     have b9 := b7.grown g9 b7.size p7.ge
     have P9 := Lib.hid p9
     refine hK.out _ _ (b9) (fun _ => ?_)
     clear hK K
     ((try simp only [Act.put]); (try simp only [List.setIfInBounds_toArray]); (try simp only [List.set_cons_succ]); (try simp only [List.set_cons_zero]))
     refine takeL 10 (h := ?_)
     refine wpAnyH_done (by kernel_rfl) ?_ _
     go_wp2_with fail
     go_ret
     exact ⟨⟨_, rfl, by rw [HANS.out]; exact P9.out.mono HW.out.size⟩, HW.out.trans (b9.mono HW.out.size)⟩
  ·obtain rfl : k = V.length := by omega
   have HP := Lib.hid (put1V_at (l := V) (Nat.le_refl _) HJ.out fun x hx => by rw [List.getElem?_eq_none (Nat.le_refl _)] at hx; cases hx)
   have HO : Hid (put1V V c = (V.take V.length ++ [c]) ++ V.drop V.length) := Lib.hid (by rw [HP.out, List.drop_length, offV]; simp)
   have hh3 : (0 : Int) ≤ (V.length : Int) := by omega
   by_cases hck : cp = V.length
   ·subst hck
    go_wp2_with fail
    go_quiet (fail)
    go_wp2_with fail
    have hbA := below_drewN hbw nq
    generalize wr.drewN nq = wa at *
    clear hbw hq
    skip
    go_wp2_with fail
    go_quiet (fail)
    go_wp2_with fail
    have hbW := below_drewN hbA nq
    generalize wa.drewN nq = W at *
    have hsW := hbW.size
    have k1 : (V.length : Int) ≤ (V.length : Int) := by omega
    have k2 : (V.length : Int) ≤ (V.length : Int) := by omega
    have k5 : V.length ≤ V.length := by omega
    have HIW := Lib.hid fun z (hz : Below W.heap.size W z) => HI.out z (bwstep hbW hz)
    have HT := Lib.hid fun z (hz : Below W.heap.size W z) => (HUB.out z (bwstep hbW hz)).to_ vlOk hk
    have HD : Hid (∀ z, Below W.heap.size W z → St.RdS vtL z [] (.slice A 0 0) (V.drop V.length)) := Lib.hid fun z _ => by
     rw [List.drop_length]
     exact St.RdS.none_ (by simp only [maxLen]; omega)
    have HW := Lib.hid (HB1.out.trans (hbW.mono HB1.out.size))
    obtain ⟨Lt, hLt⟩ : ∃ Lt, Lt = V.take V.length := ⟨_, rfl⟩
    obtain ⟨Ld, hLd⟩ : ∃ Ld, Ld = V.drop (V.length) := ⟨_, rfl⟩
    have l1 : ([] : List Vt).length + Lt.length ≤ maxLen := by rw [hLt]; simp [maxLen]; omega
    have l2 : Lt.length + [c].length ≤ maxLen := by rw [hLt]; simp [maxLen]; omega
    have l3 : (Lt ++ [c]).length + Ld.length ≤ maxLen := by rw [hLt, hLd]; simp [maxLen]; omega
    have l1b : (([] : List Vt).length + Lt.length) * 48 ≤ 140737488355328 := by rw [hLt]; simp; omega
    have l2b : (Lt.length + [c].length) * 48 ≤ 140737488355328 := by rw [hLt]; simp; omega
    have l3b : ((Lt ++ [c]).length + Ld.length) * 48 ≤ 140737488355328 := by rw [hLt, hLd]; simp; omega
    have HANS := HO
    rw [← hLt, ← hLd] at HANS
    rw [← hLt] at HT
    rw [← hLd] at HD
    clear HO hLt hLd HU HUB HP HJ hbA
    refine wp_region_held_drew (S := fun z => Below W.heap.size W z) (by kernel_rfl) (Below.refl _ _).drew (fun hHeld => ?_)
    refine takeL 1 (h := ?_)
    refine takeL 2 (h := ?_)
    refine takeL 3 (h := ?_)
    refine takeL 5 (v := .agg #[.int .i64 c.slot, .int .i64 c.ballot, .int .i64 c.origin, .bool c.full, .string c.bytes]) (hy := by intro z hSz; exact St.loadOp vtOk (.tmp 3) rfl rfl (HIW.out z hSz)) (h := ?_)
    refine takeL 8 (h := ?_)
    generalize W.drew = z0 at hHeld ⊢
    refine wpAnyH_ready (rs := [0, 6]) (by kernel_rfl) (by simp) ?_
    refine AllReadyH.cons (o := _) (by (try simp only [List.getElem?_toArray]); (try simp only [List.getElem?_cons_succ]); (try simp only [List.getElem?_cons_zero]); rfl) (fun K hK => ?_) ?_
    ·go_simp
     have bz1 := hHeld.alloc hHeld.size (.cells #[] 33)
     have ez1 : St.OwS vtL (z0.alloc (.cells #[] 33)) W.heap.size (.slice (some ⟨z0.heap.size, 0, none⟩) 0 0) [] := St.OwS.empty vtL z0 hHeld.size _ rfl
     have hz1 : z0.heap.size < (z0.alloc (.cells #[] 33)).heap.size := by simp
     generalize z0.alloc (.cells #[] 33) = z1 at bz1 ez1 hz1 ⊢
     refine hK.out _ _ (bz1) (fun _ => ?_)
     clear hK K
     ((try simp only [Act.put]); (try simp only [List.setIfInBounds_toArray]); (try simp only [List.set_cons_succ]); (try simp only [List.set_cons_zero]))
     refine wpAnyH_ready (rs := [4, 6]) (by kernel_rfl) (by simp) ?_
     refine AllReadyH.cons (o := _) (by (try simp only [List.getElem?_toArray]); (try simp only [List.getElem?_cons_succ]); (try simp only [List.getElem?_cons_zero]); rfl) (fun K hK => ?_) ?_
     ·refine St.step_app vlOk vlS rfl (.tmp 44) (.tmp 47) rfl (by simp [Act.eval]) ez1 (by simp [Act.eval]) (HT.out _ bz1) l1 l1b bz1.size ?_
      intro v4 z4 p4 g4 _
      rw [List.nil_append] at p4
      have b4 := bz1.grown g4 bz1.size ez1.ge
      refine hK.out _ _ (b4) (fun _ => ?_)
      clear hK K
      ((try simp only [Act.put]); (try simp only [List.setIfInBounds_toArray]); (try simp only [List.set_cons_succ]); (try simp only [List.set_cons_zero]))
      refine wpAnyH_ready (rs := [6]) (by kernel_rfl) (by simp) ?_
      refine AllReadyH.cons (o := _) (by (try simp only [List.getElem?_toArray]); (try simp only [List.getElem?_cons_succ]); (try simp only [List.getElem?_cons_zero]); rfl) (fun K hK => ?_) AllReadyH.nil
      go_simp
      have bz6 := b4.alloc b4.size (.cells #[.int .i64 c.slot, .int .i64 c.ballot, .int .i64 c.origin, .bool c.full, .string c.bytes] 33)
      have xz6 : St.RdS vtL (z4.alloc (.cells #[.int .i64 c.slot, .int .i64 c.ballot, .int .i64 c.origin, .bool c.full, .string c.bytes] 33)) [] (.slice (some ⟨z4.heap.size, 0, none⟩) 1 1) [c] := St.RdS.new z4 [] [c] _ rfl (by simp) (by simp [maxLen]) _
      have p6 := p4.below ((Below.refl z4.heap.size z4).alloc (Nat.le_refl _) (.cells #[.int .i64 c.slot, .int .i64 c.ballot, .int .i64 c.origin, .bool c.full, .string c.bytes] 33))
      generalize z4.alloc (.cells #[.int .i64 c.slot, .int .i64 c.ballot, .int .i64 c.origin, .bool c.full, .string c.bytes] 33) = z6 at bz6 xz6 p6 ⊢
      refine hK.out _ _ (bz6) (fun _ => ?_)
      clear hK K
      ((try simp only [Act.put]); (try simp only [List.setIfInBounds_toArray]); (try simp only [List.set_cons_succ]); (try simp only [List.set_cons_zero]))
      refine wpAnyH_ready (rs := [7]) (by kernel_rfl) (by simp) ?_
      refine AllReadyH.cons (o := _) (by (try simp only [List.getElem?_toArray]); (try simp only [List.getElem?_cons_succ]); (try simp only [List.getElem?_cons_zero]); rfl) (fun K hK => ?_) AllReadyH.nil
      refine St.step_app vlOk vlS rfl (.tmp 48) (.tmp 50) rfl (by simp [Act.eval]) p6 (by simp [Act.eval]) xz6 l2 l2b bz6.size ?_
      intro v7 z7 p7 g7 _
      have b7 := bz6.grown g7 bz6.size p6.ge
      have r9 := HD.out _ b7
      refine hK.out _ _ (b7) (fun _ => ?_)
      clear hK K
      ((try simp only [Act.put]); (try simp only [List.setIfInBounds_toArray]); (try simp only [List.set_cons_succ]); (try simp only [List.set_cons_zero]))
      refine wpAnyH_ready (rs := [9]) (by kernel_rfl) (by simp) ?_
      refine AllReadyH.cons (o := _) (by (try simp only [List.getElem?_toArray]); (try simp only [List.getElem?_cons_succ]); (try simp only [List.getElem?_cons_zero]); rfl) (fun K hK => ?_) AllReadyH.nil
      refine St.step_app vlOk vlS rfl (.tmp 51) (.tmp 52) rfl (by simp [Act.eval]) p7 (by simp [Act.eval]) r9 l3 l3b b7.size ?_
      intro v9 z9 p9 g9 _
      have b9 := b7.grown g9 b7.size p7.ge
      have P9 := Lib.hid p9
      refine hK.out _ _ (b9) (fun _ => ?_)
      clear hK K
      ((try simp only [Act.put]); (try simp only [List.setIfInBounds_toArray]); (try simp only [List.set_cons_succ]); (try simp only [List.set_cons_zero]))
      refine takeL 10 (h := ?_)
      refine wpAnyH_done (by kernel_rfl) ?_ _
      go_wp2_with fail
      go_ret
      exact ⟨⟨_, rfl, by rw [HANS.out]; exact P9.out.mono HW.out.size⟩, HW.out.trans (b9.mono HW.out.size)⟩
     refine AllReadyH.cons (o := _) (by (try simp only [List.getElem?_toArray]); (try simp only [List.getElem?_cons_succ]); (try simp only [List.getElem?_cons_zero]); rfl) (fun K hK => ?_) AllReadyH.nil
     go_simp
     have bz6 := bz1.alloc bz1.size (.cells #[.int .i64 c.slot, .int .i64 c.ballot, .int .i64 c.origin, .bool c.full, .string c.bytes] 33)
     have xz6 : St.RdS vtL (z1.alloc (.cells #[.int .i64 c.slot, .int .i64 c.ballot, .int .i64 c.origin, .bool c.full, .string c.bytes] 33)) [z0.heap.size] (.slice (some ⟨z1.heap.size, 0, none⟩) 1 1) [c] := St.RdS.new z1 [z0.heap.size] [c] _ rfl (by simp <;> omega) (by simp [maxLen]) _
     have e6 := ez1.below ((Below.refl z1.heap.size z1).alloc (Nat.le_refl _) (.cells #[.int .i64 c.slot, .int .i64 c.ballot, .int .i64 c.origin, .bool c.full, .string c.bytes] 33))
     generalize z1.alloc (.cells #[.int .i64 c.slot, .int .i64 c.ballot, .int .i64 c.origin, .bool c.full, .string c.bytes] 33) = z6 at bz6 xz6 e6 ⊢
     refine hK.out _ _ (bz6) (fun _ => ?_)
     clear hK K
     ((try simp only [Act.put]); (try simp only [List.setIfInBounds_toArray]); (try simp only [List.set_cons_succ]); (try simp only [List.set_cons_zero]))
     refine wpAnyH_ready (rs := [4]) (by kernel_rfl) (by simp) ?_
     refine AllReadyH.cons (o := _) (by (try simp only [List.getElem?_toArray]); (try simp only [List.getElem?_cons_succ]); (try simp only [List.getElem?_cons_zero]); rfl) (fun K hK => ?_) AllReadyH.nil
     refine St.step_app vlOk vlS rfl (.tmp 44) (.tmp 47) rfl (by simp [Act.eval]) e6 (by simp [Act.eval]) (HT.out _ bz6) l1 l1b bz6.size ?_
     intro v4 z4 p4 g4 _
     rw [List.nil_append] at p4
     have b4 := bz6.grown g4 bz6.size e6.ge
     have x4 := xz6.up (Kp.grown (S := [z0.heap.size]) g4 fun k e => List.mem_singleton.2 (Option.some.inj e).symm) (fun _ hk => .inl hk)
     refine hK.out _ _ (b4) (fun _ => ?_)
     clear hK K
     ((try simp only [Act.put]); (try simp only [List.setIfInBounds_toArray]); (try simp only [List.set_cons_succ]); (try simp only [List.set_cons_zero]))
     refine wpAnyH_ready (rs := [7]) (by kernel_rfl) (by simp) ?_
     refine AllReadyH.cons (o := _) (by (try simp only [List.getElem?_toArray]); (try simp only [List.getElem?_cons_succ]); (try simp only [List.getElem?_cons_zero]); rfl) (fun K hK => ?_) AllReadyH.nil
     refine St.step_app vlOk vlS rfl (.tmp 48) (.tmp 50) rfl (by simp [Act.eval]) p4 (by simp [Act.eval]) x4 l2 l2b b4.size ?_
     intro v7 z7 p7 g7 _
     have b7 := b4.grown g7 b4.size p4.ge
     have r9 := HD.out _ b7
     refine hK.out _ _ (b7) (fun _ => ?_)
     clear hK K
     ((try simp only [Act.put]); (try simp only [List.setIfInBounds_toArray]); (try simp only [List.set_cons_succ]); (try simp only [List.set_cons_zero]))
     refine wpAnyH_ready (rs := [9]) (by kernel_rfl) (by simp) ?_
     refine AllReadyH.cons (o := _) (by (try simp only [List.getElem?_toArray]); (try simp only [List.getElem?_cons_succ]); (try simp only [List.getElem?_cons_zero]); rfl) (fun K hK => ?_) AllReadyH.nil
     refine St.step_app vlOk vlS rfl (.tmp 51) (.tmp 52) rfl (by simp [Act.eval]) p7 (by simp [Act.eval]) r9 l3 l3b b7.size ?_
     intro v9 z9 p9 g9 _
     have b9 := b7.grown g9 b7.size p7.ge
     have P9 := Lib.hid p9
     refine hK.out _ _ (b9) (fun _ => ?_)
     clear hK K
     ((try simp only [Act.put]); (try simp only [List.setIfInBounds_toArray]); (try simp only [List.set_cons_succ]); (try simp only [List.set_cons_zero]))
     refine takeL 10 (h := ?_)
     refine wpAnyH_done (by kernel_rfl) ?_ _
     go_wp2_with fail
     go_ret
     exact ⟨⟨_, rfl, by rw [HANS.out]; exact P9.out.mono HW.out.size⟩, HW.out.trans (b9.mono HW.out.size)⟩
    refine AllReadyH.cons (o := _) (by (try simp only [List.getElem?_toArray]); (try simp only [List.getElem?_cons_succ]); (try simp only [List.getElem?_cons_zero]); rfl) (fun K hK => ?_) AllReadyH.nil
    go_simp
    have bz6 := hHeld.alloc hHeld.size (.cells #[.int .i64 c.slot, .int .i64 c.ballot, .int .i64 c.origin, .bool c.full, .string c.bytes] 33)
    have xz6 : St.RdS vtL (z0.alloc (.cells #[.int .i64 c.slot, .int .i64 c.ballot, .int .i64 c.origin, .bool c.full, .string c.bytes] 33)) [z0.heap.size + 1] (.slice (some ⟨z0.heap.size, 0, none⟩) 1 1) [c] := St.RdS.new z0 [z0.heap.size + 1] [c] _ rfl (by simp <;> omega) (by simp [maxLen]) _
    have hz6 : (z0.alloc (.cells #[.int .i64 c.slot, .int .i64 c.ballot, .int .i64 c.origin, .bool c.full, .string c.bytes] 33)).heap.size = z0.heap.size + 1 := by simp
    generalize z0.alloc (.cells #[.int .i64 c.slot, .int .i64 c.ballot, .int .i64 c.origin, .bool c.full, .string c.bytes] 33) = z6 at bz6 xz6 hz6 ⊢
    refine hK.out _ _ (bz6) (fun _ => ?_)
    clear hK K
    ((try simp only [Act.put]); (try simp only [List.setIfInBounds_toArray]); (try simp only [List.set_cons_succ]); (try simp only [List.set_cons_zero]))
    refine wpAnyH_ready (rs := [0]) (by kernel_rfl) (by simp) ?_
    refine AllReadyH.cons (o := _) (by (try simp only [List.getElem?_toArray]); (try simp only [List.getElem?_cons_succ]); (try simp only [List.getElem?_cons_zero]); rfl) (fun K hK => ?_) AllReadyH.nil
    go_simp
    have bz1 := bz6.alloc bz6.size (.cells #[] 33)
    have ez1 : St.OwS vtL (z6.alloc (.cells #[] 33)) W.heap.size (.slice (some ⟨z6.heap.size, 0, none⟩) 0 0) [] := St.OwS.empty vtL z6 bz6.size _ rfl
    have x1 := xz6.up (Kp.of_below ((Below.refl z6.heap.size z6).alloc (Nat.le_refl _) (.cells #[] 33)) _) (S' := [z0.heap.size + 1]) fun _ hk => .inl hk
    generalize z6.alloc (.cells #[] 33) = z1 at bz1 ez1 x1 ⊢
    refine hK.out _ _ (bz1) (fun _ => ?_)
    clear hK K
    ((try simp only [Act.put]); (try simp only [List.setIfInBounds_toArray]); (try simp only [List.set_cons_succ]); (try simp only [List.set_cons_zero]))
    refine wpAnyH_ready (rs := [4]) (by kernel_rfl) (by simp) ?_
    refine AllReadyH.cons (o := _) (by (try simp only [List.getElem?_toArray]); (try simp only [List.getElem?_cons_succ]); (try simp only [List.getElem?_cons_zero]); rfl) (fun K hK => ?_) AllReadyH.nil
    refine St.step_app vlOk vlS rfl (.tmp 44) (.tmp 47) rfl (by simp [Act.eval]) ez1 (by simp [Act.eval]) (HT.out _ bz1) l1 l1b bz1.size ?_
    intro v4 z4 p4 g4 _
    rw [List.nil_append] at p4
    have b4 := bz1.grown g4 bz1.size ez1.ge
    have x4 := x1.up (Kp.grown (S := [z0.heap.size + 1]) g4 fun k e => List.mem_singleton.2 (by rw [← hz6]; exact (Option.some.inj e).symm)) (fun _ hk => .inl hk)
    refine hK.out _ _ (b4) (fun _ => ?_)
    clear hK K
    ((try simp only [Act.put]); (try simp only [List.setIfInBounds_toArray]); (try simp only [List.set_cons_succ]); (try simp only [List.set_cons_zero]))
    refine wpAnyH_ready (rs := [7]) (by kernel_rfl) (by simp) ?_
    refine AllReadyH.cons (o := _) (by (try simp only [List.getElem?_toArray]); (try simp only [List.getElem?_cons_succ]); (try simp only [List.getElem?_cons_zero]); rfl) (fun K hK => ?_) AllReadyH.nil
    refine St.step_app vlOk vlS rfl (.tmp 48) (.tmp 50) rfl (by simp [Act.eval]) p4 (by simp [Act.eval]) x4 l2 l2b b4.size ?_
    intro v7 z7 p7 g7 _
    have b7 := b4.grown g7 b4.size p4.ge
    have r9 := HD.out _ b7
    refine hK.out _ _ (b7) (fun _ => ?_)
    clear hK K
    ((try simp only [Act.put]); (try simp only [List.setIfInBounds_toArray]); (try simp only [List.set_cons_succ]); (try simp only [List.set_cons_zero]))
    refine wpAnyH_ready (rs := [9]) (by kernel_rfl) (by simp) ?_
    refine AllReadyH.cons (o := _) (by (try simp only [List.getElem?_toArray]); (try simp only [List.getElem?_cons_succ]); (try simp only [List.getElem?_cons_zero]); rfl) (fun K hK => ?_) AllReadyH.nil
    refine St.step_app vlOk vlS rfl (.tmp 51) (.tmp 52) rfl (by simp [Act.eval]) p7 (by simp [Act.eval]) r9 l3 l3b b7.size ?_
    intro v9 z9 p9 g9 _
    have b9 := b7.grown g9 b7.size p7.ge
    have P9 := Lib.hid p9
    refine hK.out _ _ (b9) (fun _ => ?_)
    clear hK K
    ((try simp only [Act.put]); (try simp only [List.setIfInBounds_toArray]); (try simp only [List.set_cons_succ]); (try simp only [List.set_cons_zero]))
    refine takeL 10 (h := ?_)
    refine wpAnyH_done (by kernel_rfl) ?_ _
    go_wp2_with fail
    go_ret
    exact ⟨⟨_, rfl, by rw [HANS.out]; exact P9.out.mono HW.out.size⟩, HW.out.trans (b9.mono HW.out.size)⟩
   ·skip
    go_wp2_with fail
    go_quiet (fail)
    go_wp2_with fail
    have hbA := below_drewN hbw nq
    generalize wr.drewN nq = wa at *
    clear hbw hq
    skip
    go_wp2_with fail
    go_quiet (fail)
    go_wp2_with fail
    have hbW := below_drewN hbA nq
    generalize wa.drewN nq = W at *
    have hsW := hbW.size
    have k1 : (V.length : Int) ≤ (cp : Int) := by omega
    have k2 : (V.length : Int) ≤ (V.length : Int) := by omega
    have k5 : V.length ≤ cp := by omega
    have HIW := Lib.hid fun z (hz : Below W.heap.size W z) => HI.out z (bwstep hbW hz)
    have HT := Lib.hid fun z (hz : Below W.heap.size W z) => (HUB.out z (bwstep hbW hz)).to_ vlOk hk
    have HD : Hid (∀ z, Below W.heap.size W z → St.RdS vtL z [] (.slice (Option.map (fun x => x.add (V.length * 5)) A) 0 (cp - V.length)) (V.drop V.length)) := Lib.hid fun z _ => by
     rw [List.drop_length]
     exact St.RdS.none_ (by simp only [maxLen]; omega)
    have HW := Lib.hid (HB1.out.trans (hbW.mono HB1.out.size))
    obtain ⟨Lt, hLt⟩ : ∃ Lt, Lt = V.take V.length := ⟨_, rfl⟩
    obtain ⟨Ld, hLd⟩ : ∃ Ld, Ld = V.drop (V.length) := ⟨_, rfl⟩
    have l1 : ([] : List Vt).length + Lt.length ≤ maxLen := by rw [hLt]; simp [maxLen]; omega
    have l2 : Lt.length + [c].length ≤ maxLen := by rw [hLt]; simp [maxLen]; omega
    have l3 : (Lt ++ [c]).length + Ld.length ≤ maxLen := by rw [hLt, hLd]; simp [maxLen]; omega
    have l1b : (([] : List Vt).length + Lt.length) * 48 ≤ 140737488355328 := by rw [hLt]; simp; omega
    have l2b : (Lt.length + [c].length) * 48 ≤ 140737488355328 := by rw [hLt]; simp; omega
    have l3b : ((Lt ++ [c]).length + Ld.length) * 48 ≤ 140737488355328 := by rw [hLt, hLd]; simp; omega
    have HANS := HO
    rw [← hLt, ← hLd] at HANS
    rw [← hLt] at HT
    rw [← hLd] at HD
    clear HO hLt hLd HU HUB HP HJ hbA
    refine wp_region_held_drew (S := fun z => Below W.heap.size W z) (by kernel_rfl) (Below.refl _ _).drew (fun hHeld => ?_)
    refine takeL 1 (h := ?_)
    refine takeL 2 (h := ?_)
    refine takeL 3 (h := ?_)
    refine takeL 5 (v := .agg #[.int .i64 c.slot, .int .i64 c.ballot, .int .i64 c.origin, .bool c.full, .string c.bytes]) (hy := by intro z hSz; exact St.loadOp vtOk (.tmp 3) rfl rfl (HIW.out z hSz)) (h := ?_)
    refine takeL 8 (h := ?_)
    generalize W.drew = z0 at hHeld ⊢
    refine wpAnyH_ready (rs := [0, 6]) (by kernel_rfl) (by simp) ?_
    refine AllReadyH.cons (o := _) (by (try simp only [List.getElem?_toArray]); (try simp only [List.getElem?_cons_succ]); (try simp only [List.getElem?_cons_zero]); rfl) (fun K hK => ?_) ?_
    ·go_simp
     have bz1 := hHeld.alloc hHeld.size (.cells #[] 33)
     have ez1 : St.OwS vtL (z0.alloc (.cells #[] 33)) W.heap.size (.slice (some ⟨z0.heap.size, 0, none⟩) 0 0) [] := St.OwS.empty vtL z0 hHeld.size _ rfl
     have hz1 : z0.heap.size < (z0.alloc (.cells #[] 33)).heap.size := by simp
     generalize z0.alloc (.cells #[] 33) = z1 at bz1 ez1 hz1 ⊢
     refine hK.out _ _ (bz1) (fun _ => ?_)
     clear hK K
     ((try simp only [Act.put]); (try simp only [List.setIfInBounds_toArray]); (try simp only [List.set_cons_succ]); (try simp only [List.set_cons_zero]))
     refine wpAnyH_ready (rs := [4, 6]) (by kernel_rfl) (by simp) ?_
     refine AllReadyH.cons (o := _) (by (try simp only [List.getElem?_toArray]); (try simp only [List.getElem?_cons_succ]); (try simp only [List.getElem?_cons_zero]); rfl) (fun K hK => ?_) ?_
     ·refine St.step_app vlOk vlS rfl (.tmp 44) (.tmp 47) rfl (by simp [Act.eval]) ez1 (by simp [Act.eval]) (HT.out _ bz1) l1 l1b bz1.size ?_
      intro v4 z4 p4 g4 _
      rw [List.nil_append] at p4
      have b4 := bz1.grown g4 bz1.size ez1.ge
      refine hK.out _ _ (b4) (fun _ => ?_)
      clear hK K
      ((try simp only [Act.put]); (try simp only [List.setIfInBounds_toArray]); (try simp only [List.set_cons_succ]); (try simp only [List.set_cons_zero]))
      refine wpAnyH_ready (rs := [6]) (by kernel_rfl) (by simp) ?_
      refine AllReadyH.cons (o := _) (by (try simp only [List.getElem?_toArray]); (try simp only [List.getElem?_cons_succ]); (try simp only [List.getElem?_cons_zero]); rfl) (fun K hK => ?_) AllReadyH.nil
      go_simp
      have bz6 := b4.alloc b4.size (.cells #[.int .i64 c.slot, .int .i64 c.ballot, .int .i64 c.origin, .bool c.full, .string c.bytes] 33)
      have xz6 : St.RdS vtL (z4.alloc (.cells #[.int .i64 c.slot, .int .i64 c.ballot, .int .i64 c.origin, .bool c.full, .string c.bytes] 33)) [] (.slice (some ⟨z4.heap.size, 0, none⟩) 1 1) [c] := St.RdS.new z4 [] [c] _ rfl (by simp) (by simp [maxLen]) _
      have p6 := p4.below ((Below.refl z4.heap.size z4).alloc (Nat.le_refl _) (.cells #[.int .i64 c.slot, .int .i64 c.ballot, .int .i64 c.origin, .bool c.full, .string c.bytes] 33))
      generalize z4.alloc (.cells #[.int .i64 c.slot, .int .i64 c.ballot, .int .i64 c.origin, .bool c.full, .string c.bytes] 33) = z6 at bz6 xz6 p6 ⊢
      refine hK.out _ _ (bz6) (fun _ => ?_)
      clear hK K
      ((try simp only [Act.put]); (try simp only [List.setIfInBounds_toArray]); (try simp only [List.set_cons_succ]); (try simp only [List.set_cons_zero]))
      refine wpAnyH_ready (rs := [7]) (by kernel_rfl) (by simp) ?_
      refine AllReadyH.cons (o := _) (by (try simp only [List.getElem?_toArray]); (try simp only [List.getElem?_cons_succ]); (try simp only [List.getElem?_cons_zero]); rfl) (fun K hK => ?_) AllReadyH.nil
      refine St.step_app vlOk vlS rfl (.tmp 48) (.tmp 50) rfl (by simp [Act.eval]) p6 (by simp [Act.eval]) xz6 l2 l2b bz6.size ?_
      intro v7 z7 p7 g7 _
      have b7 := bz6.grown g7 bz6.size p6.ge
      have r9 := HD.out _ b7
      refine hK.out _ _ (b7) (fun _ => ?_)
      clear hK K
      ((try simp only [Act.put]); (try simp only [List.setIfInBounds_toArray]); (try simp only [List.set_cons_succ]); (try simp only [List.set_cons_zero]))
      refine wpAnyH_ready (rs := [9]) (by kernel_rfl) (by simp) ?_
      refine AllReadyH.cons (o := _) (by (try simp only [List.getElem?_toArray]); (try simp only [List.getElem?_cons_succ]); (try simp only [List.getElem?_cons_zero]); rfl) (fun K hK => ?_) AllReadyH.nil
      refine St.step_app vlOk vlS rfl (.tmp 51) (.tmp 52) rfl (by simp [Act.eval]) p7 (by simp [Act.eval]) r9 l3 l3b b7.size ?_
      intro v9 z9 p9 g9 _
      have b9 := b7.grown g9 b7.size p7.ge
      have P9 := Lib.hid p9
      refine hK.out _ _ (b9) (fun _ => ?_)
      clear hK K
      ((try simp only [Act.put]); (try simp only [List.setIfInBounds_toArray]); (try simp only [List.set_cons_succ]); (try simp only [List.set_cons_zero]))
      refine takeL 10 (h := ?_)
      refine wpAnyH_done (by kernel_rfl) ?_ _
      go_wp2_with fail
      go_ret
      exact ⟨⟨_, rfl, by rw [HANS.out]; exact P9.out.mono HW.out.size⟩, HW.out.trans (b9.mono HW.out.size)⟩
     refine AllReadyH.cons (o := _) (by (try simp only [List.getElem?_toArray]); (try simp only [List.getElem?_cons_succ]); (try simp only [List.getElem?_cons_zero]); rfl) (fun K hK => ?_) AllReadyH.nil
     go_simp
     have bz6 := bz1.alloc bz1.size (.cells #[.int .i64 c.slot, .int .i64 c.ballot, .int .i64 c.origin, .bool c.full, .string c.bytes] 33)
     have xz6 : St.RdS vtL (z1.alloc (.cells #[.int .i64 c.slot, .int .i64 c.ballot, .int .i64 c.origin, .bool c.full, .string c.bytes] 33)) [z0.heap.size] (.slice (some ⟨z1.heap.size, 0, none⟩) 1 1) [c] := St.RdS.new z1 [z0.heap.size] [c] _ rfl (by simp <;> omega) (by simp [maxLen]) _
     have e6 := ez1.below ((Below.refl z1.heap.size z1).alloc (Nat.le_refl _) (.cells #[.int .i64 c.slot, .int .i64 c.ballot, .int .i64 c.origin, .bool c.full, .string c.bytes] 33))
     generalize z1.alloc (.cells #[.int .i64 c.slot, .int .i64 c.ballot, .int .i64 c.origin, .bool c.full, .string c.bytes] 33) = z6 at bz6 xz6 e6 ⊢
     refine hK.out _ _ (bz6) (fun _ => ?_)
     clear hK K
     ((try simp only [Act.put]); (try simp only [List.setIfInBounds_toArray]); (try simp only [List.set_cons_succ]); (try simp only [List.set_cons_zero]))
     refine wpAnyH_ready (rs := [4]) (by kernel_rfl) (by simp) ?_
     refine AllReadyH.cons (o := _) (by (try simp only [List.getElem?_toArray]); (try simp only [List.getElem?_cons_succ]); (try simp only [List.getElem?_cons_zero]); rfl) (fun K hK => ?_) AllReadyH.nil
     refine St.step_app vlOk vlS rfl (.tmp 44) (.tmp 47) rfl (by simp [Act.eval]) e6 (by simp [Act.eval]) (HT.out _ bz6) l1 l1b bz6.size ?_
     intro v4 z4 p4 g4 _
     rw [List.nil_append] at p4
     have b4 := bz6.grown g4 bz6.size e6.ge
     have x4 := xz6.up (Kp.grown (S := [z0.heap.size]) g4 fun k e => List.mem_singleton.2 (Option.some.inj e).symm) (fun _ hk => .inl hk)
     refine hK.out _ _ (b4) (fun _ => ?_)
     clear hK K
     ((try simp only [Act.put]); (try simp only [List.setIfInBounds_toArray]); (try simp only [List.set_cons_succ]); (try simp only [List.set_cons_zero]))
     refine wpAnyH_ready (rs := [7]) (by kernel_rfl) (by simp) ?_
     refine AllReadyH.cons (o := _) (by (try simp only [List.getElem?_toArray]); (try simp only [List.getElem?_cons_succ]); (try simp only [List.getElem?_cons_zero]); rfl) (fun K hK => ?_) AllReadyH.nil
     refine St.step_app vlOk vlS rfl (.tmp 48) (.tmp 50) rfl (by simp [Act.eval]) p4 (by simp [Act.eval]) x4 l2 l2b b4.size ?_
     intro v7 z7 p7 g7 _
     have b7 := b4.grown g7 b4.size p4.ge
     have r9 := HD.out _ b7
     refine hK.out _ _ (b7) (fun _ => ?_)
     clear hK K
     ((try simp only [Act.put]); (try simp only [List.setIfInBounds_toArray]); (try simp only [List.set_cons_succ]); (try simp only [List.set_cons_zero]))
     refine wpAnyH_ready (rs := [9]) (by kernel_rfl) (by simp) ?_
     refine AllReadyH.cons (o := _) (by (try simp only [List.getElem?_toArray]); (try simp only [List.getElem?_cons_succ]); (try simp only [List.getElem?_cons_zero]); rfl) (fun K hK => ?_) AllReadyH.nil
     refine St.step_app vlOk vlS rfl (.tmp 51) (.tmp 52) rfl (by simp [Act.eval]) p7 (by simp [Act.eval]) r9 l3 l3b b7.size ?_
     intro v9 z9 p9 g9 _
     have b9 := b7.grown g9 b7.size p7.ge
     have P9 := Lib.hid p9
     refine hK.out _ _ (b9) (fun _ => ?_)
     clear hK K
     ((try simp only [Act.put]); (try simp only [List.setIfInBounds_toArray]); (try simp only [List.set_cons_succ]); (try simp only [List.set_cons_zero]))
     refine takeL 10 (h := ?_)
     refine wpAnyH_done (by kernel_rfl) ?_ _
     go_wp2_with fail
     go_ret
     exact ⟨⟨_, rfl, by rw [HANS.out]; exact P9.out.mono HW.out.size⟩, HW.out.trans (b9.mono HW.out.size)⟩
    refine AllReadyH.cons (o := _) (by (try simp only [List.getElem?_toArray]); (try simp only [List.getElem?_cons_succ]); (try simp only [List.getElem?_cons_zero]); rfl) (fun K hK => ?_) AllReadyH.nil
    go_simp
    have bz6 := hHeld.alloc hHeld.size (.cells #[.int .i64 c.slot, .int .i64 c.ballot, .int .i64 c.origin, .bool c.full, .string c.bytes] 33)
    have xz6 : St.RdS vtL (z0.alloc (.cells #[.int .i64 c.slot, .int .i64 c.ballot, .int .i64 c.origin, .bool c.full, .string c.bytes] 33)) [z0.heap.size + 1] (.slice (some ⟨z0.heap.size, 0, none⟩) 1 1) [c] := St.RdS.new z0 [z0.heap.size + 1] [c] _ rfl (by simp <;> omega) (by simp [maxLen]) _
    have hz6 : (z0.alloc (.cells #[.int .i64 c.slot, .int .i64 c.ballot, .int .i64 c.origin, .bool c.full, .string c.bytes] 33)).heap.size = z0.heap.size + 1 := by simp
    generalize z0.alloc (.cells #[.int .i64 c.slot, .int .i64 c.ballot, .int .i64 c.origin, .bool c.full, .string c.bytes] 33) = z6 at bz6 xz6 hz6 ⊢
    refine hK.out _ _ (bz6) (fun _ => ?_)
    clear hK K
    ((try simp only [Act.put]); (try simp only [List.setIfInBounds_toArray]); (try simp only [List.set_cons_succ]); (try simp only [List.set_cons_zero]))
    refine wpAnyH_ready (rs := [0]) (by kernel_rfl) (by simp) ?_
    refine AllReadyH.cons (o := _) (by (try simp only [List.getElem?_toArray]); (try simp only [List.getElem?_cons_succ]); (try simp only [List.getElem?_cons_zero]); rfl) (fun K hK => ?_) AllReadyH.nil
    go_simp
    have bz1 := bz6.alloc bz6.size (.cells #[] 33)
    have ez1 : St.OwS vtL (z6.alloc (.cells #[] 33)) W.heap.size (.slice (some ⟨z6.heap.size, 0, none⟩) 0 0) [] := St.OwS.empty vtL z6 bz6.size _ rfl
    have x1 := xz6.up (Kp.of_below ((Below.refl z6.heap.size z6).alloc (Nat.le_refl _) (.cells #[] 33)) _) (S' := [z0.heap.size + 1]) fun _ hk => .inl hk
    generalize z6.alloc (.cells #[] 33) = z1 at bz1 ez1 x1 ⊢
    refine hK.out _ _ (bz1) (fun _ => ?_)
    clear hK K
    ((try simp only [Act.put]); (try simp only [List.setIfInBounds_toArray]); (try simp only [List.set_cons_succ]); (try simp only [List.set_cons_zero]))
    refine wpAnyH_ready (rs := [4]) (by kernel_rfl) (by simp) ?_
    refine AllReadyH.cons (o := _) (by (try simp only [List.getElem?_toArray]); (try simp only [List.getElem?_cons_succ]); (try simp only [List.getElem?_cons_zero]); rfl) (fun K hK => ?_) AllReadyH.nil
    refine St.step_app vlOk vlS rfl (.tmp 44) (.tmp 47) rfl (by simp [Act.eval]) ez1 (by simp [Act.eval]) (HT.out _ bz1) l1 l1b bz1.size ?_
    intro v4 z4 p4 g4 _
    rw [List.nil_append] at p4
    have b4 := bz1.grown g4 bz1.size ez1.ge
    have x4 := x1.up (Kp.grown (S := [z0.heap.size + 1]) g4 fun k e => List.mem_singleton.2 (by rw [← hz6]; exact (Option.some.inj e).symm)) (fun _ hk => .inl hk)
    refine hK.out _ _ (b4) (fun _ => ?_)
    clear hK K
    ((try simp only [Act.put]); (try simp only [List.setIfInBounds_toArray]); (try simp only [List.set_cons_succ]); (try simp only [List.set_cons_zero]))
    refine wpAnyH_ready (rs := [7]) (by kernel_rfl) (by simp) ?_
    refine AllReadyH.cons (o := _) (by (try simp only [List.getElem?_toArray]); (try simp only [List.getElem?_cons_succ]); (try simp only [List.getElem?_cons_zero]); rfl) (fun K hK => ?_) AllReadyH.nil
    refine St.step_app vlOk vlS rfl (.tmp 48) (.tmp 50) rfl (by simp [Act.eval]) p4 (by simp [Act.eval]) x4 l2 l2b b4.size ?_
    intro v7 z7 p7 g7 _
    have b7 := b4.grown g7 b4.size p4.ge
    have r9 := HD.out _ b7
    refine hK.out _ _ (b7) (fun _ => ?_)
    clear hK K
    ((try simp only [Act.put]); (try simp only [List.setIfInBounds_toArray]); (try simp only [List.set_cons_succ]); (try simp only [List.set_cons_zero]))
    refine wpAnyH_ready (rs := [9]) (by kernel_rfl) (by simp) ?_
    refine AllReadyH.cons (o := _) (by (try simp only [List.getElem?_toArray]); (try simp only [List.getElem?_cons_succ]); (try simp only [List.getElem?_cons_zero]); rfl) (fun K hK => ?_) AllReadyH.nil
    refine St.step_app vlOk vlS rfl (.tmp 51) (.tmp 52) rfl (by simp [Act.eval]) p7 (by simp [Act.eval]) r9 l3 l3b b7.size ?_
    intro v9 z9 p9 g9 _
    have b9 := b7.grown g9 b7.size p7.ge
    have P9 := Lib.hid p9
    refine hK.out _ _ (b9) (fun _ => ?_)
    clear hK K
    ((try simp only [Act.put]); (try simp only [List.setIfInBounds_toArray]); (try simp only [List.set_cons_succ]); (try simp only [List.set_cons_zero]))
    refine takeL 10 (h := ?_)
    refine wpAnyH_done (by kernel_rfl) ?_ _
    go_wp2_with fail
    go_ret
    exact ⟨⟨_, rfl, by rw [HANS.out]; exact P9.out.mono HW.out.size⟩, HW.out.trans (b9.mono HW.out.size)⟩
end Go.Proofs.YtaddbhdkgneiaaaGreat.Ce
namespace Go.Proofs.YtaddbhdkgneiaaaGreat.Ce
open Go.RowKit
theorem radd18_any (u : Value) (V : List Vt) (c : Vt) (w : World) (hu : St.RdS vtL w [] u V) (hl : V.length ≤ 1000000) :
  Calls Tryz.prog 43 #[u, c.v] w fun e w' => (∃ x, e = .returned x ∧ St.RdS vtL w' [] x (addV V c)) ∧ Below w.heap.size w w' := by
 obtain ⟨A, cp, rfl, hc, hm⟩ := hu.shape
 unfold maxLen at hm
 go_enter Tryz.func43, Tryz.ntmps43
 go_wp2_with (refine St.box vtD rfl (.tmp 1) c rfl rfl ?_)
 constructor
 intro w1 hI1 hb1 hz1
 have HU := Lib.hid hu
 have HI := Lib.hid fun z (hz : Below w1.heap.size w1 z) => hI1.up hz
 have HB1 := Lib.hid hb1
 have HUB := Lib.hid fun z (hz : Below w1.heap.size w1 z) => hu.bel (bwstep hb1 hz)
 clear hz1 hb1 hI1 hu
 go_wp2_with fail
 go_loopw [5] (fun i wr => ∃ k : Nat, k ≤ V.length ∧ i = .int .i64 (k : Int) ∧ Hid (∀ (j : Nat) (x : Vt), j < k → V[j]? = some x → ¬ (x.slot = c.slot ∧ c.ballot < x.ballot)) ∧ Below w1.heap.size w1 wr) (fun i _ => V.length - (intOf i).toNat)
 case atStart => exact ⟨0, Nat.zero_le _, rfl, Lib.hid (fun j x hj => by omega), Below.refl _ _⟩
 case round =>
  obtain ⟨k, hk, rfl, HJ, hbw⟩ := hrel
  by_cases hlt : k < V.length
  ·obtain ⟨b, off, rfl, -, -⟩ := HU.out.open_ (by omega)
   have hq0 := (VtAt.of (HI.out _ hbw)).c0
   have hq1 := (VtAt.of (HI.out _ hbw)).c1
   have hh3 : (0 : Int) ≤ (k : Int) := by omega
   have hh4 : (k : Int) < (V.length : Int) := by omega
   have hfk : V[k]? = some (V[k]'hlt) := List.getElem?_eq_getElem _
   generalize V[k]'hlt = f at hfk
   have c0 : wr.cell? ⟨b, off + k * 5, none⟩ = some (.int .i64 f.slot) := ((HUB.out _ hbw).at_ vlOk hfk).1 0 _ rfl
   have c1 : wr.cell? ⟨b, off + k * 5 + 1, none⟩ = some (.int .i64 f.ballot) := ((HUB.out _ hbw).at_ vlOk hfk).1 1 _ rfl
   have HFK := Lib.hid hfk
   clear hfk
   have HN : Hid (¬ (f.slot = c.slot ∧ c.ballot < f.ballot) → ∀ (j : Nat) (x : Vt), j < k + 1 → V[j]? = some x → ¬ (x.slot = c.slot ∧ c.ballot < x.ballot)) := Lib.hid fun h j x hj hx => by
    by_cases hjk : j = k
    ·subst hjk
     rw [HFK.out] at hx
     injection hx with hx
     subst hx
     exact h
    ·exact HJ.out j x (by omega) hx
   by_cases hs : f.slot = c.slot
   ·by_cases hb : c.ballot < f.ballot
    ·have HO : Hid (addV V c = V) := Lib.hid (by unfold addV; rw [if_pos ⟨f, List.mem_of_getElem? HFK.out, hs, hb⟩])
     clear HN HJ
     go_wp2_with fail
     go_quiet (fail)
     go_wp2_with fail
     have hbA := below_drewN hbw nq
     have hr := HUB.out _ hbA
     have hw := HB1.out.trans (hbA.mono HB1.out.size)
     go_ret
     exact ⟨⟨_, rfl, by rw [HO.out]; exact hr⟩, hw⟩
    ·have HN2 := Lib.hid (HN.out fun h => hb h.2)
     clear HN HJ
     go_wp2_with fail
     go_quiet (fail)
     go_wp2_with fail
     go_roundw
     case rel => exact ⟨k + 1, by omega, by go_num, HN2, below_drewN hbw _⟩
     case measure => simp [intOf]; omega
   ·have HN2 := Lib.hid (HN.out fun h => hs h.1)
    clear HN HJ
    go_wp2_with fail
    go_quiet (fail)
    go_wp2_with fail
    go_roundw
    case rel => exact ⟨k + 1, by omega, by go_num, HN2, below_drewN hbw _⟩
    case measure => simp [intOf]; omega
  ·obtain rfl : k = V.length := by omega
   have HO : Hid (addV V c = put1V V c) := Lib.hid (by
    unfold addV
    rw [if_neg]
    rintro ⟨x, hx, h⟩
    obtain ⟨j, hj, e⟩ := List.getElem_of_mem hx
    exact HJ.out j x hj (by rw [← e]; exact List.getElem?_eq_getElem hj) h)
   have hIw := HI.out _ hbw
   have hrw := HUB.out _ hbw
   have hw := HB1.out.trans (hbw.mono HB1.out.size)
   clear HJ hlt
   go_wp2_with (refine St.load vtOk rfl (.tmp 3) rfl rfl hIw ?_)
   refine (rvput1_any _ V c _ hrw hl).mono ?_
   rintro e w2 ⟨⟨x, rfl, ho⟩, hb2⟩
   have hw2 := bwstep hw hb2
   have HR := Lib.hid (ho.rd (S := []) fun _ h => by cases h)
   clear hIw hrw hw ho hb2
   go_wp2_with fail
   go_ret
   exact ⟨⟨_, rfl, by rw [HO.out]; exact HR.out⟩, hw2⟩
end Go.Proofs.YtaddbhdkgneiaaaGreat.Ce
namespace Go.Proofs.YtaddbhdkgneiaaaGreat.Ce
open Go.RowKit
theorem flatV_le : ∀ {V : List Vt}, (∀ c ∈ V, c.Right) → (Frm.flat (V.map vtB)).length ≤ 556 * V.length
 | [], _ => by simp [Frm.flat]
 | c :: V, h => by
  have h1 := flatV_le (V := V) fun d hd => h d (by simp [hd])
  have h2 := (h c (by simp)).2.2.2.2.2
  rw [List.map_cons, Frm.flat_cons, List.length_append, Frm.frm_len, vtB_len, List.length_cons]
  omega
def recsV (m : Int) (V : List Vt) : List (List UInt8) := (if 0 < m then [prB m] else []) ++ V.map vtB
theorem recsV_le {m : Int} {V : List Vt} (h : ∀ c ∈ V, c.Right) : (Frm.flat (recsV m V)).length ≤ 20 + 556 * V.length := by
 unfold recsV
 have := flatV_le h
 rw [Frm.flat_app, List.length_append]
 split
 ·rw [Frm.flat_one, Frm.frm_len, prB_len]; omega
 ·simp [Frm.flat] at *; omega
theorem recsV_snoc {m : Int} {V : List Vt} {k : Nat} {c : Vt} (h : V[k]? = some c) : Frm.flat (recsV m (V.take (k + 1))) = Frm.flat (recsV m (V.take k)) ++ Frm.frm (vtB c) := by
 obtain ⟨h1, rfl⟩ := List.getElem?_eq_some_iff.1 h
 unfold recsV
 rw [List.take_succ_eq_append_getElem h1, List.map_append, ← List.append_assoc, Frm.flat_app]
 rw [List.map_singleton, Frm.flat_one]
theorem rput18_any (u : Value) (m : Int) (V : List Vt) (w : World) (hu : St.RdS vtL w [] u V) (hm : 0 < m → PrOk m) (hV : ∀ c ∈ V, c.Right) (hl : V.length ≤ 1000) :
  Calls Tryz.prog 10 #[.int .i64 m, u] w fun e w' => (∃ x, e = .returned x ∧ Ow w' w.heap.size 5 x ((Frm.flat (recsV m V)).map bv)) ∧ Below w.heap.size w w' := by
 obtain ⟨A, cp, rfl, hc, hmx⟩ := hu.shape
 unfold maxLen at hmx
 have HU := Lib.hid hu
 have HV := Lib.hid hV
 have H0 : Hid (∀ wx, Ow wx w.heap.size 5 (.slice none 0 0) ((Frm.flat []).map bv)) := Lib.hid fun wx => Ow.nilB _ _ _
 clear hu hV
 go_enter Tryz.func10, Tryz.ntmps10
 go_upto_if 8 with fail
 go_cut [5] (fun v wx => Hid (Ow wx w.heap.size 5 v ((Frm.flat (recsV m [])).map bv)) ∧ Below w.heap.size w wx)
 case first =>
  by_cases h0 : 0 < m
  ·have HP := Lib.hid (hm h0)
   have HE : Hid (Frm.flat (recsV m []) = Frm.frm (prB m)) := Lib.hid (by unfold recsV; rw [if_pos h0, List.map_nil, List.append_nil, Frm.flat_one])
   clear hm
   go_wp2_with fail
   refine (rprom17_ok m _ HP.out).mono ?_
   rintro e w2 ⟨p, rfl, hp, hb2⟩
   have hrp := hp.rd
   clear hp
   go_wp2_with fail
   refine (rfput_ok _ _ _ hrp (by rw [prB_len]; omega)).mono ?_
   rintro e w3 ⟨⟨q, rfl, hq⟩, hb3⟩
   have hw3 := bwstep hb2 hb3
   have HQ := Lib.hid (hq.mono hb2.size)
   clear hb2 hb3 hrp hq
   go_wp2_with fail
   go_meet
   case rel => exact ⟨Lib.hid (by rw [HE.out]; exact HQ.out), hw3⟩
  ·have HE : Hid (Frm.flat (recsV m []) = Frm.flat []) := Lib.hid (by unfold recsV; rw [if_neg h0]; rfl)
   clear hm
   go_wp2_with fail
   go_meet
   case rel => exact ⟨Lib.hid (by rw [HE.out]; exact H0.out _), Below.refl _ _⟩
 case rest =>
  obtain ⟨HQ, hwx⟩ := hcut
  have HWX := Lib.hid hwx
  clear hwx hm H0
  go_wp2_with fail
  go_loopw [5, 6] (fun o i wr => ∃ k : Nat, k ≤ V.length ∧ i = .int .i64 (k : Int) ∧ Hid (Ow wr w.heap.size 5 o ((Frm.flat (recsV m (V.take k))).map bv)) ∧ Below w.heap.size w wr) (fun _ i _ => V.length - (intOf i).toNat)
  case atStart => exact ⟨0, Nat.zero_le _, rfl, HQ, HWX.out⟩
  case round =>
   clear HQ HWX
   obtain ⟨k, hk, rfl, HO, hbw⟩ := hrel
   by_cases hlt : k < V.length
   ·obtain ⟨b, off, rfl, -, -⟩ := HU.out.open_ (by omega)
    have hh3 : (0 : Int) ≤ (k : Int) := by omega
    have hh4 : (k : Int) < (V.length : Int) := by omega
    have hck : V[k]? = some (V[k]'hlt) := List.getElem?_eq_getElem _
    have hcr := HV.out _ (List.getElem_mem hlt)
    generalize V[k]'hlt = c at hck hcr
    have HF := (HU.out.bel hbw).all vlOk hck
    have HS := Lib.hid (recsV_snoc (m := m) hck)
    have hle := recsV_le (m := m) (V := V.take k) fun d hd => HV.out d (List.mem_of_mem_take hd)
    rw [List.length_take, Nat.min_eq_left (by omega)] at hle
    have hvl := vtB_len c
    have hcb := hcr.2.2.2.2.2
    clear hck hlt
    generalize Frm.flat (recsV m (V.take k)) = F at HO HS hle
    go_wp2_with (refine St.loadAt vlOk rfl (.tmp 21) rfl _ rfl HF ?_)
    refine (rput17_ok c _ hcr).mono ?_
    rintro e w3 ⟨y, rfl, hy, hb3⟩
    have hry := hy.rd
    have hw3 := bwstep hbw hb3
    have ho3 := HO.out.below hb3
    clear hy hb3 HF HO
    go_wp2_with fail
    refine (rfput_ok _ _ _ hry (by omega)).mono ?_
    rintro e w4 ⟨⟨z, rfl, hz⟩, hb4⟩
    have hrz := hz.rd
    have hw4 := bwstep hw3 hb4
    have ho4 := ho3.below hb4
    have hs4 := hw4.size
    have z4 : F.length + (Frm.frm (vtB c)).length ≤ 140737488355328 := by rw [Frm.frm_len]; omega
    clear hz hb4 hry ho3 hw3
    go_wp2_with (at_builtin; refine wpList_appB bytesT rfl (.tmp 18) (.tmp 24) rfl rfl ho4 rfl hrz z4 hs4 ?_; intro v5 w5 ho5 hg5 _; have HO5 := Lib.hid ho5; have HB5 := Lib.hid (hw4.grown hg5 hs4 ho4.ge); clear ho5 hg5)
    go_roundw
    case rel => exact ⟨k + 1, by omega, by go_num, Lib.hid (by rw [HS.out]; exact HO5.out), HB5.out⟩
    case measure => simp [intOf]; omega
   ·obtain rfl : k = V.length := by omega
    rw [List.take_length] at HO
    clear hlt
    go_wp2_with fail
    go_ret
    exact ⟨⟨_, rfl, HO.out⟩, hbw⟩
end Go.Proofs.YtaddbhdkgneiaaaGreat.Ce
namespace Go.Proofs.YtaddbhdkgneiaaaGreat.Ce
open Go.RowKit Frm
theorem reads_used : ∀ (R : List (List UInt8)) (g : Lg), (g.reads R).used ≤ g.used + (Frm.flat R).length
 | [], g => by simp [Lg.reads]
 | r :: R, g => by
  cases hr : getS r with
  | none => rw [Lg.reads_none hr]; omega
  | some p =>
   have h1 := reads_used R (g.one p.1 p.2 r.length)
   have h2 : (g.one p.1 p.2 r.length).used = g.used + (12 + r.length) := by unfold Lg.one; split <;> rfl
   rw [Lg.reads_some (n := p.1) (c := p.2) hr, Frm.flat_cons, List.length_append, Frm.frm_len]
   omega
structure ReadAt (R : List (List UInt8)) (k : Nat) (g : Lg) : Prop where
 says : ∀ r ∈ R.take k, getS r ≠ none
 e : Lg.nil.reads (R.take k) = g
theorem ReadAt.ok {R : List (List UInt8)} {k : Nat} {g : Lg} (h : ReadAt R k g) : g.Ok := h.e ▸ Lg.nil_ok.reads
theorem ReadAt.used {R : List (List UInt8)} {k : Nat} {g : Lg} (h : ReadAt R k g) : g.used ≤ (Frm.flat R).length := by
 have h1 := reads_used (R.take k) Lg.nil
 have h2 := Frm.flat_take_le R k
 rw [h.e] at h1
 have h3 : Lg.nil.used = 0 := rfl
 omega
theorem ReadAt.next {R : List (List UInt8)} {k : Nat} {g : Lg} {r : List UInt8} {n : Int} {c : Vt} (h : ReadAt R k g) (hr : R[k]? = some r) (hs : Says r n c true) : ReadAt R (k + 1) (g.one n c r.length) := by
 obtain ⟨h1, rfl⟩ := List.getElem?_eq_some_iff.1 hr
 have hg := getS_some hs
 refine ⟨fun q hq => ?_, ?_⟩
 ·rw [List.take_succ_eq_append_getElem h1] at hq
  rcases List.mem_append.1 hq with hq | hq
  ·exact h.says q hq
  ·rw [List.mem_singleton.1 hq, hg]
   intro e
   cases e
 ·rw [List.take_succ_eq_append_getElem h1, Lg.reads_snoc h.says hg, h.e]
theorem ReadAt.stop {R : List (List UInt8)} {k : Nat} {g : Lg} {r : List UInt8} {n : Int} {c : Vt} (h : ReadAt R k g) (hr : R[k]? = some r) (hs : Says r n c false) : Lg.nil.reads R = g := by
 obtain ⟨h1, rfl⟩ := List.getElem?_eq_some_iff.1 hr
 conv => lhs; rw [← List.take_append_drop k R]
 rw [Lg.reads_app h.says, h.e, List.drop_eq_getElem_cons h1, Lg.reads_none (getS_none hs)]
theorem ReadAt.all {R : List (List UInt8)} {g : Lg} (h : ReadAt R R.length g) : Lg.nil.reads R = g := by
 have := h.e
 rwa [List.take_length] at this
theorem ReadAt.start (R : List (List UInt8)) : ReadAt R 0 Lg.nil := ⟨by simp, rfl⟩
theorem one_pr {g : Lg} {n : Int} {c : Vt} {k : Nat} (h : 0 < n) : g.one n c k = ⟨max g.most n, g.votes, g.used + (12 + k)⟩ := if_pos h
theorem one_vt {g : Lg} {c : Vt} {k : Nat} : g.one 0 c k = ⟨max g.most c.ballot, addV g.votes c, g.used + (12 + k)⟩ := if_neg (by omega)
theorem put1V_len {c : Vt} : ∀ l : List Vt, (put1V l c).length ≤ l.length + 1
 | [] => by simp [put1V_nil]
 | y :: l => by
  by_cases e1 : y.slot < c.slot
  ·rw [put1V_lt e1]; have := put1V_len (c := c) l; simp only [List.length_cons]; omega
  ·by_cases e2 : y.slot = c.slot
   ·rw [put1V_eq e2]; simp only [List.length_cons]; omega
   ·rw [put1V_gt (by omega)]; simp only [List.length_cons]; omega
theorem addV_len (l : List Vt) (c : Vt) : (addV l c).length ≤ l.length + 1 := by
 unfold addV
 split
 ·omega
 ·exact put1V_len l
theorem reads_len : ∀ (R : List (List UInt8)) (g : Lg), (g.reads R).votes.length ≤ g.votes.length + R.length
 | [], g => by simp [Lg.reads]
 | r :: R, g => by
  cases hr : getS r with
  | none => rw [Lg.reads_none hr]; omega
  | some p =>
   have h1 := reads_len R (g.one p.1 p.2 r.length)
   have h2 : (g.one p.1 p.2 r.length).votes.length ≤ g.votes.length + 1 := by
    unfold Lg.one
    split
    ·exact Nat.le_succ _
    ·exact addV_len _ _
   rw [Lg.reads_some (n := p.1) (c := p.2) hr, List.length_cons]
   omega
theorem ReadAt.len {R : List (List UInt8)} {k : Nat} {g : Lg} (h : ReadAt R k g) : g.votes.length ≤ R.length := by
 have h1 := reads_len (R.take k) Lg.nil
 rw [h.e, List.length_take] at h1
 have h3 : Lg.nil.votes.length = 0 := rfl
 omega
theorem rread18_any (v : Value) (b m : List UInt8) (R : List (List UInt8)) (w : World) (hr : Rd w w.heap.size v (b.map bv)) (hs : Frm.Scanned b R m) (hl : b.length ≤ 1000000) :
  Calls Tryz.prog 16 #[v] w fun e w' => (∃ x, e = .returned (.tuple #[.int .i64 (Lg.nil.reads R).most, x, .int .i64 ((Lg.nil.reads R).used : Int)]) ∧ St.RdS vtL w' [] x (Lg.nil.reads R).votes) ∧ Below w.heap.size w w' := by
 have hbl : (Frm.flat R).length + m.length = b.length := by rw [hs.1, List.length_append]
 have hfl := Frm.flat_len R
 have hsc := rscan_any v b m R w hr hs (by omega)
 have HTOT := Lib.hid fun (r : List UInt8) (h : r ∈ R) => Frm.len_le_tot h
 clear hr hs
 go_enter Tryz.func16, Tryz.ntmps16
 go_wp2_with fail
 refine hsc.mono ?_
 rintro e w1 ⟨⟨x1, vs, rfl, hx1⟩, hb1⟩
 have HX := Lib.hid fun z (hz : Below w1.heap.size w1 z) => hx1.rd.up hz
 have HB1 := Lib.hid hb1
 obtain ⟨A1, c1, rfl, hc1, hm1⟩ := hx1.rd.shape
 unfold maxLen at hm1
 clear hsc hb1 hx1
 go_wp2_with fail
 go_loopw [7, 8, 9, 10] (fun mo us vo i wr => ∃ (k : Nat) (g : Lg), k ≤ R.length ∧ i = .int .i64 (k : Int) ∧ Hid (ReadAt R k g) ∧ mo = .int .i64 g.most ∧ us = .int .i64 (g.used : Int) ∧ St.RdS vtL wr [] vo g.votes ∧ Below w1.heap.size w1 wr) (fun _ _ _ i _ => R.length - (intOf i).toNat)
 case atStart => exact ⟨0, Lg.nil, Nat.zero_le _, rfl, Lib.hid (ReadAt.start R), rfl, rfl, St.RdS.nil _ _ _, Below.refl _ _⟩
 case round =>
  obtain ⟨k, g, hk, rfl, HG, rfl, rfl, hvo, hbw⟩ := hrel
  have hus := HG.out.used
  have hln := HG.out.len
  have hm0 := HG.out.ok.m0
  by_cases hlt : k < R.length
  ·obtain ⟨ab, off, rfl, -⟩ := (HX.out _ (Below.refl _ _)).open_ (by omega)
   obtain ⟨A2, c2, hck, h2c, h2m, hrow⟩ := (HX.out _ hbw).row hlt
   unfold maxLen at h2m
   have hrk : R[k]? = some (gl R k) := by rw [gl_at R hlt]; exact List.getElem?_eq_getElem hlt
   have hrl := HTOT.out _ (List.mem_of_getElem? hrk)
   have HCK := Lib.hid fun z (hz : Below w1.heap.size w1 z) => (HX.out z hz).row hlt
   generalize gl R k = r at *
   have HRK := Lib.hid hrk
   have HVO := Lib.hid hvo
   clear hrk hvo
   go_wp2_with fail
   refine (rget17_any _ r _ hrow (by omega)).mono ?_
   rintro e w2 ⟨⟨n, c, kk, rfl, hsy⟩, hb2⟩
   have hw2 := bwstep hbw hb2
   have HV2 := Lib.hid (HVO.out.bel hb2)
   clear hbw hb2 hck hrow HVO
   go_wp2_with (refine St.alloc vtOk rfl rfl ?_)
   constructor
   intro w3 hI3 hb3 hz3
   have hle := hw2.size
   clear hz3
   go_wp2_with (refine St.store vtOk (c := c) rfl (.tmp 12) (.tmp 32) rfl rfl rfl hI3 ?_)
   constructor
   intro w4 hs4
   have hI4 := hs4.i
   have hb4 := hs4.bel hb3 (Nat.le_refl _)
   have hw4 := bwstep hw2 hb4
   have hV4 := HV2.out.bel hb4
   obtain ⟨A3, c3, hck4, h3c, h3m, -⟩ := HCK.out _ hw4
   unfold maxLen at h3m
   have hx1 : IntKind.i64.wrap ((g.used : Int) + 12) = (g.used : Int) + 12 := IntWalk.i64_in _ (by omega)
   have hx2 : IntKind.i64.wrap ((g.used : Int) + 12 + (r.length : Int)) = (g.used : Int) + 12 + (r.length : Int) := IntWalk.i64_in _ (by omega)
   clear hs4 hI3 hb3 hb4 hw2 hle HV2
   cases hsy with
   | none h1 h2 =>
    have HE := Lib.hid (HG.out.stop HRK.out (.none h1 h2))
    have hw := HB1.out.trans (hw4.mono HB1.out.size)
    clear h1 h2
    go_wp2_with fail
    go_ret3
    exact ⟨⟨_, ret3 (vi (congrArg Lg.most HE.out).symm) rfl (vi (congrArg (fun q : Lg => (q.used : Int)) HE.out).symm), by rw [HE.out]; exact hV4⟩, hw⟩
   | prom _ hp =>
    have HN := Lib.hid (HG.out.next HRK.out (.prom _ hp))
    have hpos : 0 < n := by have := hp.1.1; omega
    rw [one_pr hpos] at HN
    clear hp hI4
    by_cases hmx : g.most < n
    ·go_wp2_with fail
     go_roundw
     case rel => exact ⟨k + 1, _, by omega, by go_num, HN, vi (by simp only; omega), vi (by simp only; omega), hV4, hw4⟩
     case measure => simp [intOf]; omega
    ·go_wp2_with fail
     go_roundw
     case rel => exact ⟨k + 1, _, by omega, by go_num, HN, vi (by simp only; omega), vi (by simp only; omega), hV4, hw4⟩
     case measure => simp [intOf]; omega
   | vote _ hv =>
    have HN := Lib.hid (HG.out.next HRK.out (.vote _ hv))
    rw [one_vt] at HN
    have hcb := (VtAt.of hI4).c1
    have HV4 := Lib.hid hV4
    clear hv hV4
    by_cases hmx : g.most < c.ballot
    ·go_wp2_with (refine St.load vtOk rfl (.tmp 12) rfl rfl hI4 ?_)
     refine (radd18_any _ g.votes c _ HV4.out (by omega)).mono ?_
     rintro e w5 ⟨⟨y, rfl, hy⟩, hb5⟩
     have hw5 := bwstep hw4 hb5
     clear hw4 hb5 hI4 hcb HV4 hck4
     go_wp2_with fail
     go_roundw
     case rel => exact ⟨k + 1, _, by omega, by go_num, HN, vi (by simp only; omega), vi (by simp only; omega), hy, hw5⟩
     case measure => simp [intOf]; omega
    ·go_wp2_with (refine St.load vtOk rfl (.tmp 12) rfl rfl hI4 ?_)
     refine (radd18_any _ g.votes c _ HV4.out (by omega)).mono ?_
     rintro e w5 ⟨⟨y, rfl, hy⟩, hb5⟩
     have hw5 := bwstep hw4 hb5
     clear hw4 hb5 hI4 hcb HV4 hck4
     go_wp2_with fail
     go_roundw
     case rel => exact ⟨k + 1, _, by omega, by go_num, HN, vi (by simp only; omega), vi (by simp only; omega), hy, hw5⟩
     case measure => simp [intOf]; omega
  ·obtain rfl : k = R.length := by omega
   have HE := Lib.hid HG.out.all
   have hw := HB1.out.trans (hbw.mono HB1.out.size)
   clear hlt
   go_wp2_with fail
   go_ret3
   exact ⟨⟨_, ret3 (vi (congrArg Lg.most HE.out).symm) rfl (vi (congrArg (fun q : Lg => (q.used : Int)) HE.out).symm), by rw [HE.out]; exact hvo⟩, hw⟩
end Go.Proofs.YtaddbhdkgneiaaaGreat.Ce
