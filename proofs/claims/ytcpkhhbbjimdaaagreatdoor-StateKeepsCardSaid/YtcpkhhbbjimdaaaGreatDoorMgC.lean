/- Merging as plain lists: what the cell ahead tells of a cell; the runs of a heap; one cell after the other. Plain. The heap of runs of package merge: what the world holds of it, how its methods are reached. The heap of runs of package merge: its methods, each by a contract, as container/heap calls them. The heap of runs of package merge: Push and Pop, and what container/heap makes of all methods: add and next. The heap of runs of package merge, by container/heap: add and next. The contract of next of package merge. The contract of All of package merge. -/
import Derived.Test.YtcpkhhbbjimdaaaGreatDoorMgPl
import Derived.Test.YtcpkhhbbjimdaaaGreatDoorHpA
import Derived.Test.YtcpkhhbbjimdaaaGreatDoorCsA
import Derived.Deep.RegionHeld3
import Derived.BigQuiet
import Derived.BigRegion
import Derived.Deep.RegionLaw
import Derived.Shelf.Abstract
import Derived.Test.YtcpkhhbbjimdaaaGreatDoorMgR
import Derived.Deep.LoopGhost
set_option maxHeartbeats 8000000
set_option maxRecDepth 100000
namespace Go.Proofs.YtcpkhhbbjimdaaaGreatDoor.Ce
open Go.RowKit
theorem klt_same {a b : Cl} (h : klt a b) (hr : a.row = b.row) (hc : a.col = b.col) : b.at_ < a.at_ := by
 rcases h with h | ⟨-, h | ⟨-, h⟩⟩
 ·rw [hr] at h; exact absurd h (List.lt_irrefl _)
 ·rw [hc] at h; exact absurd h (List.lt_irrefl _)
 ·exact h
theorem isNewB_at {L : List Cl} (hs : Srt L) {i : Nat} {c : Cl} {t : Int} (hc : L[i]? = some c) :
  isNewB L t c = true ↔ c.at_ ≤ t ∧ (∀ p, 0 < i → L[i - 1]? = some p → t < p.at_ ∨ ¬ (p.row = c.row ∧ p.col = c.col)) := by
 rw [isNewB_iff hs]
 constructor
 ·intro h
  refine ⟨h.le, fun p hi hp => ?_⟩
  by_cases e : p.row = c.row ∧ p.col = c.col
  ·left
   by_cases ht : t < p.at_
   ·exact ht
   ·exfalso
    have h1 := h.top p (List.mem_of_getElem? hp) e.1 e.2 (by omega)
    have h2 := klt_same (srt_at hs (show i - 1 < i by omega) hp hc) e.1 e.2
    omega
  ·exact .inr e
 ·rintro ⟨h1, h2⟩
  refine ⟨List.mem_of_getElem? hc, h1, fun d hd hr hcl hdt => ?_⟩
  by_cases hlt : d.at_ ≤ c.at_
  ·exact hlt
  ·exfalso
   obtain ⟨j, hj⟩ := List.getElem?_of_mem hd
   have hji : j < i := by
    rcases Nat.lt_trichotomy j i with e | e | e
    ·exact e
    ·subst e
     rw [hj] at hc
     injection hc with hc
     subst hc
     omega
    ·have := klt_same (srt_at hs e hc hj) hr.symm hcl.symm
     omega
   have hil := (List.getElem?_eq_some_iff.1 hc).1
   have hp : L[i - 1]? = some (L[i - 1]'(by omega)) := List.getElem?_eq_getElem _
   generalize L[i - 1]'(by omega) = p at hp
   by_cases e : j = i - 1
   ·subst e
    rw [hj] at hp
    injection hp with hp
    subst hp
    rcases h2 d (by omega) hj with h3 | h3
    ·omega
    ·exact h3 ⟨hr, hcl⟩
   ·have k1 := srt_at hs (show j < i - 1 by omega) hj hp
    have k2 := srt_at hs (show i - 1 < i by omega) hp hc
    obtain ⟨e1, e2⟩ := between k1 (.inl k2) hr hcl
    have k3 := klt_same k1 (hr.trans e1.symm) (hcl.trans e2.symm)
    rcases h2 p (by omega) hp with h3 | h3
    ·omega
    ·exact h3 ⟨e1, e2⟩
def fndB (L : List Cl) (t : Int) (c : Cl) : Bool := isNewB L t c && !c.gone
theorem fnd_late {L : List Cl} (hs : Srt L) {i : Nat} {c : Cl} {t : Int} (hc : L[i]? = some c) (h : t < c.at_) : fndB L t c = false := by
 unfold fndB
 have : isNewB L t c = false := by
  rw [Bool.eq_false_iff]
  intro h1
  have := ((isNewB_at hs hc).1 h1).1
  omega
 rw [this]
 rfl
theorem fnd_gone {L : List Cl} {c : Cl} {t : Int} (h : c.gone = true) : fndB L t c = false := by
 unfold fndB
 rw [h]
 simp
theorem fnd_first {L : List Cl} (hs : Srt L) {c : Cl} {t : Int} (hc : L[0]? = some c) (h : c.at_ ≤ t) (hg : c.gone = false) : fndB L t c = true := by
 unfold fndB
 rw [hg, (isNewB_at hs hc).2 ⟨h, fun p h0 => absurd h0 (Nat.lt_irrefl _)⟩]
 rfl
theorem fnd_next {L : List Cl} (hs : Srt L) {i : Nat} {p c : Cl} {t : Int} (hp : L[i]? = some p) (hc : L[i + 1]? = some c) (h : c.at_ ≤ t) (hg : c.gone = false) (hn : t < p.at_ ∨ ¬ (p.row = c.row ∧ p.col = c.col)) : fndB L t c = true := by
 unfold fndB
 rw [hg, (isNewB_at hs hc).2 ⟨h, fun q h0 hq => by
  rw [Nat.add_sub_cancel, hp] at hq
  injection hq with hq
  exact hq ▸ hn⟩]
 rfl
theorem fnd_hid {L : List Cl} (hs : Srt L) {i : Nat} {p c : Cl} {t : Int} (hp : L[i]? = some p) (hc : L[i + 1]? = some c) (h1 : ¬ t < p.at_) (h2 : p.row = c.row ∧ p.col = c.col) : fndB L t c = false := by
 unfold fndB
 have : isNewB L t c = false := by
  rw [Bool.eq_false_iff]
  intro h
  rcases ((isNewB_at hs hc).1 h).2 p (by omega) (by simpa using hp) with h3 | h3
  ·exact h1 h3
  ·exact h3 h2
 rw [this]
 rfl
structure Rn where
 blk : Nat
 c : Cl
 rest : List Cl
 place : Nat
def rlt (x y : Rn) : Bool := decide (ccmp x.c y.c < 0 ∨ (ccmp x.c y.c = 0 ∧ x.place < y.place))
theorem rle_iff {x y : Rn} : Hp.leB rlt x y ↔ klt x.c y.c ∨ (keq x.c y.c ∧ x.place ≤ y.place) := by
 unfold Hp.leB rlt
 rw [decide_eq_false_iff_not]
 rcases ccmp_cases y.c x.c with ⟨e, k⟩ | ⟨e, k⟩ | ⟨e, k⟩
 ·rw [e]
  refine ⟨fun h => absurd (.inl (by omega)) h, fun h => ?_⟩
  rcases h with h | ⟨h, -⟩
  ·exact absurd (klt_trans h k) (klt_irrefl _)
  ·exact absurd (keq_symm h) (klt_neq k)
 ·rw [e]
  refine ⟨fun h => .inr ⟨keq_symm k, by omega⟩, fun h => ?_⟩
  rcases h with h | ⟨-, h⟩
  ·exact absurd (keq_symm k) (klt_neq h)
  ·omega
 ·rw [e]
  exact ⟨fun _ => .inl k, fun _ => by omega⟩
theorem rle_ord : Hp.Ord (Hp.leB rlt) := by
 refine ⟨fun a b => ?_, fun {a b c} h k => ?_⟩
 ·rw [rle_iff, rle_iff]
  rcases ccmp_cases a.c b.c with ⟨-, k⟩ | ⟨-, k⟩ | ⟨-, k⟩
  ·exact .inl (.inl k)
  ·rcases Nat.le_total a.place b.place with h | h
   ·exact .inl (.inr ⟨k, h⟩)
   ·exact .inr (.inr ⟨keq_symm k, h⟩)
  ·exact .inr (.inl k)
 ·rw [rle_iff] at h k ⊢
  rcases h with h | ⟨h, h'⟩
  ·rcases k with k | ⟨k, -⟩
   ·exact .inl (klt_trans h k)
   ·exact .inl (klt_eq h k)
  ·rcases k with k | ⟨k, k'⟩
   ·exact .inl (eq_klt h k)
   ·exact .inr ⟨keq_trans h k, Nat.le_trans h' k'⟩
structure Runs (LL : List (List Cl)) (es : List Rn) : Prop where
 is : ∀ e ∈ es, LL[e.place]? = some (e.c :: e.rest)
 all : ∀ (j : Nat) (d : Cl) (r : List Cl), LL[j]? = some (d :: r) → ∃ e ∈ es, e.place = j
 one : (es.map Rn.place).Nodup
section
variable {LL : List (List Cl)} {es fs : List Rn} {e : Rn}
theorem Runs.nil : Runs [] [] := ⟨fun e h => (by cases h), fun j d r h => (by simp at h), List.nodup_nil⟩
theorem Runs.perm (h : Runs LL es) (p : fs.Perm es) : Runs LL fs :=
 ⟨fun e he => h.is e (p.mem_iff.1 he), fun j d r hj => by
  obtain ⟨e, he, q⟩ := h.all j d r hj
  exact ⟨e, p.mem_iff.2 he, q⟩, (p.map Rn.place).nodup_iff.2 h.one⟩
theorem Runs.least (h : Runs LL (e :: es)) (hl : ∀ f ∈ es, Hp.leB rlt e f) : Least LL e.place e.c e.rest := by
 refine ⟨h.is e (by simp), fun j d r hj => ?_⟩
 obtain ⟨f, hf, rfl⟩ := h.all j d r hj
 have hd := h.is f hf
 rw [hj] at hd
 injection hd with hd
 injection hd with hd _
 rw [hd]
 rcases List.mem_cons.1 hf with rfl | hf
 ·exact .inr ⟨⟨rfl, rfl, rfl⟩, Nat.le_refl _⟩
 ·exact rle_iff.1 (hl f hf)
theorem Runs.ne (h : Runs LL (e :: es)) : ∀ f ∈ es, f.place ≠ e.place := fun f hf q => by
 have := (List.nodup_cons.1 (by simpa using h.one : (e.place :: es.map Rn.place).Nodup)).1
 exact this (q ▸ List.mem_map.2 ⟨f, hf, rfl⟩)
theorem Runs.end_ (h : Runs LL (e :: es)) (hr : e.rest = []) : Runs (LL.set e.place e.rest) es := by
 have hlt := (List.getElem?_eq_some_iff.1 (h.is e (by simp))).1
 refine ⟨fun f hf => ?_, fun j d r hj => ?_, (List.nodup_cons.1 (by simpa using h.one : (e.place :: es.map Rn.place).Nodup)).2⟩
 ·rw [List.getElem?_set_ne (fun q => h.ne f hf q.symm)]
  exact h.is f (by simp [hf])
 ·by_cases q : e.place = j
  ·subst q
   rw [List.getElem?_set_self hlt, hr] at hj
   cases hj
  ·rw [List.getElem?_set_ne q] at hj
   obtain ⟨f, hf, rfl⟩ := h.all j d r hj
   rcases List.mem_cons.1 hf with rfl | hf
   ·exact absurd rfl q
   ·exact ⟨f, hf, rfl⟩
theorem Runs.more (h : Runs LL (e :: es)) {d : Cl} {r : List Cl} (hr : e.rest = d :: r) (b : Nat) : Runs (LL.set e.place e.rest) (⟨b, d, r, e.place⟩ :: es) := by
 have hlt := (List.getElem?_eq_some_iff.1 (h.is e (by simp))).1
 refine ⟨fun f hf => ?_, fun j d' r' hj => ?_, by simpa using h.one⟩
 ·rcases List.mem_cons.1 hf with rfl | hf
  ·simp only
   rw [List.getElem?_set_self hlt, hr]
  ·rw [List.getElem?_set_ne (fun q => h.ne f hf q.symm)]
   exact h.is f (by simp [hf])
 ·by_cases q : e.place = j
  ·exact ⟨⟨b, d, r, e.place⟩, by simp, q⟩
  ·rw [List.getElem?_set_ne q] at hj
   obtain ⟨f, hf, rfl⟩ := h.all j d' r' hj
   rcases List.mem_cons.1 hf with rfl | hf
   ·exact absurd rfl q
   ·exact ⟨f, by simp [hf], rfl⟩
theorem Runs.places (h : Runs LL es) : ∀ f ∈ es, f.place < LL.length := fun f hf => (List.getElem?_eq_some_iff.1 (h.is f hf)).1
theorem Runs.snoc0 (h : Runs LL es) : Runs (LL ++ [[]]) es := by
 refine ⟨fun f hf => ?_, fun j d r hj => ?_, h.one⟩
 ·rw [List.getElem?_append_left (h.places f hf)]
  exact h.is f hf
 ·by_cases q : j < LL.length
  ·rw [List.getElem?_append_left q] at hj
   exact h.all j d r hj
  ·rw [List.getElem?_append_right (by omega)] at hj
   have h0 : j - LL.length = 0 := by
    have := (List.getElem?_eq_some_iff.1 hj).1
    simp at this
    omega
   rw [h0] at hj
   simp at hj
theorem Runs.snoc1 (h : Runs LL es) (b : Nat) (d : Cl) (r : List Cl) : Runs (LL ++ [d :: r]) (⟨b, d, r, LL.length⟩ :: es) := by
 refine ⟨fun f hf => ?_, fun j d' r' hj => ?_, ?_⟩
 ·rcases List.mem_cons.1 hf with rfl | hf
  ·simp
  ·rw [List.getElem?_append_left (h.places f hf)]
   exact h.is f hf
 ·by_cases q : j < LL.length
  ·rw [List.getElem?_append_left q] at hj
   obtain ⟨f, hf, e⟩ := h.all j d' r' hj
   exact ⟨f, by simp [hf], e⟩
  ·have := (List.getElem?_eq_some_iff.1 hj).1
   simp at this
   exact ⟨⟨b, d, r, LL.length⟩, by simp, show LL.length = j by omega⟩
 ·simp only [List.map_cons, List.nodup_cons]
  refine ⟨fun hm => ?_, h.one⟩
  obtain ⟨f, hf, e⟩ := List.mem_map.1 hm
  have := h.places f hf
  omega
theorem Runs.done (h : Runs LL []) : ∀ M ∈ LL, M = [] := fun M hM => by
 obtain ⟨j, hj⟩ := List.getElem?_of_mem hM
 cases M with
 | nil => rfl
 | cons d r =>
  obtain ⟨e, he, -⟩ := h.all j d r hj
  cases he
end
def behind (O : List Cl) (x : Cl) : Bool := match O.getLast? with | none => true | some o => notKey o x
theorem behind_snoc (O : List Cl) (c : Cl) : behind (O ++ [c]) = notKey c := by
 funext x
 unfold behind
 simp
def Fol (O : List Cl) (LL : List (List Cl)) : Prop := ∀ o, O.getLast? = some o → ∀ M ∈ LL, ∀ x ∈ M, klt o x ∨ keq o x
theorem Fol.nil (LL : List (List Cl)) : Fol [] LL := fun o h => by simp at h
theorem mem_all_in {LL : List (List Cl)} (hs : ∀ M ∈ LL, Srt M) {x : Cl} (h : x ∈ allP LL) : ∃ M ∈ LL, x ∈ M := by
 obtain ⟨i, M, h1, h2, -⟩ := (mem_all hs).1 h
 exact ⟨M, List.mem_of_getElem? h1, h2⟩
theorem set_srt {LL : List (List Cl)} {i : Nat} {c : Cl} {rest : List Cl} (hs : ∀ M ∈ LL, Srt M) (h : LL[i]? = some (c :: rest)) : ∀ M ∈ LL.set i rest, Srt M := fun M hM => by
 rcases List.mem_or_eq_of_mem_set hM with q | q
 ·exact hs M q
 ·rw [q]
  exact (List.pairwise_cons.1 (hs _ (List.mem_of_getElem? h))).2
theorem set_from {LL : List (List Cl)} {i : Nat} {c : Cl} {rest : List Cl} (h : LL[i]? = some (c :: rest)) : ∀ M ∈ LL.set i rest, ∀ x ∈ M, ∃ (j : Nat) (A : List Cl), LL[j]? = some A ∧ x ∈ A := fun M hM x hx => by
 rcases List.mem_or_eq_of_mem_set hM with q | q
 ·obtain ⟨j, hj⟩ := List.getElem?_of_mem q
  exact ⟨j, M, hj, hx⟩
 ·subst q
  exact ⟨i, _, h, by simp [hx]⟩
section
variable {LL : List (List Cl)} {i : Nat} {c : Cl} {rest O A : List Cl}
theorem step_fol (h : Least LL i c rest) (hs : ∀ M ∈ LL, Srt M) : ∀ M ∈ LL.set i rest, ∀ x ∈ M, klt c x ∨ keq c x := fun M hM x hx => by
 obtain ⟨j, B, hB, hxB⟩ := set_from h.at_ M hM x hx
 rcases h.ahead hs hB hxB with q | ⟨q, -⟩
 ·exact .inl q
 ·exact .inr q
theorem step_new (h : Least LL i c rest) (hs : ∀ M ∈ LL, Srt M) (hf : Fol O LL) (hA : A = O ++ (allP LL).filter (behind O)) (hb : behind O c = true) :
  A = (O ++ [c]) ++ (allP (LL.set i rest)).filter (behind (O ++ [c])) ∧ Fol (O ++ [c]) (LL.set i rest) := by
 have hs' := set_srt hs h.at_
 have hfol := step_fol h hs
 refine ⟨?_, fun o ho => by
  simp at ho
  subst ho
  exact hfol⟩
 rw [hA, all_pop h hs, List.filter_cons, if_pos hb, behind_snoc, List.append_assoc]
 congr 1
 rw [List.singleton_append]
 congr 1
 refine List.filter_eq_self.2 fun x hx => ?_
 obtain ⟨h1, h2⟩ := List.mem_filter.1 hx
 obtain ⟨M, hM, hxM⟩ := mem_all_in hs' h1
 have hcx : klt c x := by
  rcases hfol M hM x hxM with q | q
  ·exact q
  ·exact absurd (keq_symm q) (notKey_iff.1 h2)
 unfold behind at hb ⊢
 cases ho : O.getLast? with
 | none => rfl
 | some o =>
  rw [ho] at hb
  have hoc : klt o c := by
   rcases hf o ho _ (List.mem_of_getElem? h.at_) c (by simp) with q | q
   ·exact q
   ·exact absurd (keq_symm q) (notKey_iff.1 hb)
  exact notKey_iff.2 fun q => klt_neq (klt_trans hoc hcx) (keq_symm q)
theorem step_old (h : Least LL i c rest) (hs : ∀ M ∈ LL, Srt M) (hf : Fol O LL) (hA : A = O ++ (allP LL).filter (behind O)) (hb : behind O c = false) :
  A = O ++ (allP (LL.set i rest)).filter (behind O) ∧ Fol O (LL.set i rest) := by
 refine ⟨?_, fun o ho M hM x hx => ?_⟩
 ·rw [hA, all_pop h hs, List.filter_cons, if_neg (by rw [hb]; simp), List.filter_filter]
  congr 1
  refine List.filter_congr fun x _ => ?_
  unfold behind at hb ⊢
  cases ho : O.getLast? with
  | none => rw [ho] at hb; cases hb
  | some o =>
   rw [ho] at hb
   have hco : keq c o := by
    by_cases q : keq c o
    ·exact q
    ·have h3 := notKey_iff.2 q
     simp only at hb
     rw [h3] at hb
     cases hb
   simp only
   cases hq : notKey o x with
   | false => rfl
   | true =>
    rw [Bool.true_and]
    exact notKey_iff.2 fun k => notKey_iff.1 hq (keq_trans k hco)
 ·obtain ⟨j, B, hB, hxB⟩ := set_from h.at_ M hM x hx
  exact hf o ho B (List.mem_of_getElem? hB) x hxB
theorem flat_set : ∀ {LL : List (List Cl)} {i : Nat}, LL[i]? = some (c :: rest) → (LL.set i rest).flatten.length + 1 = LL.flatten.length
 | [], i, h => by simp at h
 | M :: LL, 0, h => by
  obtain rfl : M = c :: rest := by simpa using h
  simp
 | M :: LL, i + 1, h => by
  have ih := flat_set (LL := LL) (i := i) (by simpa using h)
  rw [List.set_cons_succ, List.flatten_cons, List.flatten_cons, List.length_append, List.length_append]
  omega
end
end Go.Proofs.YtcpkhhbbjimdaaaGreatDoor.Ce
namespace Go.Proofs.YtcpkhhbbjimdaaaGreatDoor.Hp
open Go.RowKit
theorem meth_val {t e : TypeId} {name : String} {f : FuncId} {fuel : Nat} {w : World} {b : Nat} {u : Value}
  (hi : (Tryz.prog.info? t).map (fun i => (i.methods.find? (·.name == name)).map (fun m => (m.path.toList, m.func))) = some (some ([], some (f, false))))
  (hu : Tryz.prog.underlying t = some (.pointer e)) (hl : (loadVar e ⟨b, 0, none⟩).run Tryz.prog w = .ok u w) :
  (method (fuel + 1) t (.pointer (some ⟨b, 0, none⟩)) name).run Tryz.prog w = .ok (f, u) w := by
 cases hq : Tryz.prog.info? t with
 | none => simp [hq] at hi
 | some i =>
  cases hm : i.methods.find? (·.name == name) with
  | none => simp [hq, hm] at hi
  | some m =>
   simp [hq, hm] at hi
   obtain ⟨h1, h2⟩ := hi
   have hk : ∀ s : String, Builtin.ssaWrapNilChk_ #[t] t #[.pointer (some ⟨b, 0, none⟩), strVal "", strVal s] = pure (.pointer (some ⟨b, 0, none⟩)) := fun _ => rfl
   unfold method
   simp [Sem.run_bind, typeInfo, hq, hm, h1, h2, follow, receiverAt, run_underlying hu, Place.get, hk, asAddr, hl]
theorem meth_ptr {t e : TypeId} {name : String} {f : FuncId} {fuel : Nat} {w : World} {v : Value}
  (hi : (Tryz.prog.info? t).map (fun i => (i.methods.find? (·.name == name)).map (fun m => (m.path.toList, m.func))) = some (some ([], some (f, true))))
  (hu : Tryz.prog.underlying t = some (.pointer e)) :
  (method (fuel + 1) t v name).run Tryz.prog w = .ok (f, v) w := by
 cases hq : Tryz.prog.info? t with
 | none => simp [hq] at hi
 | some i =>
  cases hm : i.methods.find? (·.name == name) with
  | none => simp [hq, hm] at hi
  | some m =>
   simp [hq, hm] at hi
   obtain ⟨h1, h2⟩ := hi
   unfold method
   simp [Sem.run_bind, typeInfo, hq, hm, h1, h2, follow, receiverAt, run_underlying hu, Place.get]
theorem load_one {e t : TypeId} {el : TypeId} {w : World} {b : Nat} {u : Value} (hu : Tryz.prog.underlying e = some (.slice el)) (h : w.heap[b]? = some (.cells #[u] t (0, 0))) : (loadVar e ⟨b, 0, none⟩).run Tryz.prog w = .ok u w := by
 have hc : w.cell? ⟨b, 0, none⟩ = some u := cell_of_row _ _ 0 _ _ _ h
 simp [loadVar, isAgg, Sem.run_bind, run_underlying hu, hc]
end Go.Proofs.YtcpkhhbbjimdaaaGreatDoor.Hp
namespace Go.Proofs.YtcpkhhbbjimdaaaGreatDoor.Ce
open Go.RowKit
theorem runsT : ET Tryz.prog 102 104 (.pointer none) 8 := ⟨Tryz.underlying102, by kernel_rfl⟩
def Rn.p (x : Rn) : Value := .pointer (some ⟨x.blk, 0, none⟩)
structure Kt (w w' : World) : Prop where
 os : w'.os = w.os
 tape : w'.tape = w.tape
 output : w'.output = w.output
 size : w.heap.size ≤ w'.heap.size
 block : ∀ k, k < w.heap.size → (∀ cs t fz, w.heap[k]? = some (.cells cs t fz) → t ≠ 102 ∧ t ≠ 104 ∧ t ≠ 106) → w'.heap[k]? = w.heap[k]?
theorem Kt.refl (w : World) : Kt w w := ⟨rfl, rfl, rfl, Nat.le_refl _, fun _ _ _ => rfl⟩
theorem Kt.trans {a b c : World} (h : Kt a b) (k : Kt b c) : Kt a c :=
 ⟨k.os.trans h.os, k.tape.trans h.tape, k.output.trans h.output, Nat.le_trans h.size k.size, fun j hj ht => by
  have e := h.block j hj ht
  exact (k.block j (Nat.lt_of_lt_of_le hj h.size) (fun cs t fz hc => ht cs t fz (e ▸ hc))).trans e⟩
theorem Kt.bel {w w' : World} (h : Below w.heap.size w w') : Kt w w' := ⟨h.os, h.tape, h.output, h.size, fun k hk _ => h.block k hk⟩
theorem Kt.set {w : World} {p : Addr} {cs : Array Value} {t : TypeId} {fz : Nat × Nat} (hp : w.heap[p.block]? = some (.cells cs t fz)) (ht : t = 102 ∨ t = 104 ∨ t = 106) (u : Value) : Kt w (w.setCell p u) :=
 ⟨rfl, rfl, rfl, by simp [World.setCell], fun k hk h => by
  by_cases e : p.block = k
  ·subst e
   obtain ⟨h1, h2, h3⟩ := h _ _ _ hp
   rcases ht with rfl | rfl | rfl
   ·exact absurd rfl h1
   ·exact absurd rfl h2
   ·exact absurd rfl h3
  ·exact (Kp.set (S := [p.block]) w (by simp) u).block k hk (by simp; exact fun q => e q.symm)⟩
theorem Kt.ow {w w' : World} {B : Nat} {v : Value} {xs : List Value} (h : Ow w B 104 v xs) (hg : w.grownBy w' v.ownBlock) : Kt w w' :=
 ⟨hg.os, hg.tape, hg.output, hg.size, fun k hk ht => hg.block k hk fun e => by
  rcases h.2 with ⟨rfl, -⟩ | ⟨g, cap, cur, rfl, -, hh, -⟩
  ·cases e
  ·have e1 : g = k := by injection e with e1; exact e1.symm
   subst e1
   exact (ht _ _ _ hh).2.1 rfl⟩
theorem OwL.kt {w w' : World} {B : Nat} {v : Value} {L : List Cl} (h : OwL w B v L) (k : Kt w w') : OwL w' B v L := by
 obtain ⟨h1, h2⟩ := h
 refine ⟨h1, ?_⟩
 rcases h2 with h2 | ⟨g, cap, cur, hv, hg, hh, r⟩
 ·exact .inl h2
 ·refine .inr ⟨g, cap, cur, hv, hg, ?_, r⟩
  rw [k.block g (Array.getElem?_eq_some_iff.1 hh).1 fun cs t fz hc => by
   rw [hh] at hc
   injection hc with hc
   injection hc with _ ht _
   subst ht
   exact ⟨by decide, by decide, by decide⟩]
  exact hh
structure RunAt (w0 : World) (x : Rn) (w : World) : Prop where
 ge : w0.heap.size ≤ x.blk
 h : ∃ cv, w.heap[x.blk]? = some (.cells #[cv, .int .i64 (x.place : Int)] 106 (0, 0)) ∧ RdL w0 [] cv (x.c :: x.rest)
theorem RunAt.lt {w0 w : World} {x : Rn} (h : RunAt w0 x w) : x.blk < w.heap.size := by
 obtain ⟨cv, h1, -⟩ := h.h
 exact (Array.getElem?_eq_some_iff.1 h1).1
theorem RunAt.keep {w0 w w' : World} {x : Rn} (h : RunAt w0 x w) (hb : w'.heap[x.blk]? = w.heap[x.blk]?) : RunAt w0 x w' := by
 obtain ⟨cv, h1, h2⟩ := h.h
 exact ⟨h.ge, cv, hb.trans h1, h2⟩
theorem RunAt.bel {w0 w w' : World} {x : Rn} (h : RunAt w0 x w) (hb : Below w.heap.size w w') : RunAt w0 x w' := h.keep (hb.block _ h.lt)
structure HeapAt (w0 : World) (bh : Nat) (a : Nat → Rn) (n : Nat) (w : World) : Prop where
 ge : w0.heap.size ≤ bh
 sl : ∃ v, w.heap[bh]? = some (.cells #[v] 102 (0, 0)) ∧ Ow w w0.heap.size 104 v ((List.range n).map fun k => (a k).p)
 run : ∀ k, k < n → RunAt w0 (a k) w
 bel : Below w0.heap.size w0 w
theorem HeapAt.up {w0 w w' : World} {bh n : Nat} {a : Nat → Rn} (h : HeapAt w0 bh a n w) (hb : Below w.heap.size w w') : HeapAt w0 bh a n w' := by
 obtain ⟨v, h1, h2⟩ := h.sl
 exact ⟨h.ge, ⟨v, (hb.block _ (Array.getElem?_eq_some_iff.1 h1).1).trans h1, h2.below hb⟩, fun k hk => (h.run k hk).bel hb, bwstep h.bel hb⟩
def Hst (w0 w1 : World) (bh : Nat) (a : Nat → Rn) (n : Nat) (w : World) : Prop := HeapAt w0 bh a n w ∧ Kt w1 w
end Go.Proofs.YtcpkhhbbjimdaaaGreatDoor.Ce
namespace Go.Proofs.YtcpkhhbbjimdaaaGreatDoor.Ce
open Go.RowKit Go.Proofs.YtcpkhhbbjimdaaaGreatDoor.Hp
theorem pRuns : Tryz.prog.underlying 100 = some (.pointer 102) := Tryz.underlying100
theorem mLen : (Tryz.prog.info? 100).map (fun i => (i.methods.find? (·.name == "Len")).map (fun m => (m.path.toList, m.func))) = some (some ([], some (57, false))) := by kernel_rfl
theorem mLess : (Tryz.prog.info? 100).map (fun i => (i.methods.find? (·.name == "Less")).map (fun m => (m.path.toList, m.func))) = some (some ([], some (168, false))) := by kernel_rfl
theorem mSwap : (Tryz.prog.info? 100).map (fun i => (i.methods.find? (·.name == "Swap")).map (fun m => (m.path.toList, m.func))) = some (some ([], some (171, false))) := by kernel_rfl
theorem mPop : (Tryz.prog.info? 100).map (fun i => (i.methods.find? (·.name == "Pop")).map (fun m => (m.path.toList, m.func))) = some (some ([], some (169, true))) := by kernel_rfl
theorem mPush : (Tryz.prog.info? 100).map (fun i => (i.methods.find? (·.name == "Push")).map (fun m => (m.path.toList, m.func))) = some (some ([], some (170, true))) := by kernel_rfl
theorem rlen_any (w0 : World) (a : Nat → Rn) (n : Nat) (v : Value) (w : World) (hv : Ow w w0.heap.size 104 v ((List.range n).map fun k => (a k).p)) :
  Calls Tryz.prog 57 #[v] w fun e w' => e = .returned (.int .i64 (n : Int)) ∧ w = w' := by
 obtain ⟨A, c, rfl, hc, hm⟩ := hv.rd.shape
 simp only [List.length_map, List.length_range] at *
 clear hv
 go_enter Tryz.func57, Tryz.ntmps57
 go_wp2
 go_ret
 exact ⟨rfl, rfl⟩
def or2 (a b : Int) : Int := if a ≠ 0 then a else b
theorem or2_rlt (x y : Rn) : decide (or2 (ccmp x.c y.c) (icmp (x.place : Int) (y.place : Int)) < 0) = rlt x y := by
 unfold or2 rlt
 refine decide_eq_decide.2 ?_
 rcases ccmp_cases x.c y.c with ⟨e, -⟩ | ⟨e, -⟩ | ⟨e, -⟩
 ·rw [e]; simp
 ·rw [e]
  rcases icmp_cases (x.place : Int) (y.place : Int) with ⟨q, k⟩ | ⟨q, k⟩ | ⟨q, k⟩
  ·rw [q]; simp; omega
  ·rw [q]; simp; omega
  ·rw [q]; simp; omega
 ·rw [e]; simp
theorem or2_any (v : Value) (a b : Int) (B : Nat) (w : World) (hv : Rd w B v [.int .i64 a, .int .i64 b]) : Calls Tryz.prog 79 #[v] w fun e w' => e = .returned (.int .i64 (or2 a b)) ∧ w = w' := by
 obtain ⟨bk, off, cc, rfl, h3, hm, -, hc⟩ := hv.at_ (by simp)
 simp only [List.length_cons, List.length_nil, Nat.zero_add, Nat.reduceAdd] at h3 ⊢
 have c0 := hc 0 _ rfl
 have c1 := hc 1 _ rfl
 rw [Nat.add_zero] at c0
 clear hc hv
 have HR0 : Hid (a ≠ 0 → a = or2 a b) := Lib.hid fun h => by simp [or2, h]
 have HR1 : Hid (a = 0 → b = or2 a b) := Lib.hid fun h1 => by simp [or2, h1]
 unfold maxLen at hm
 generalize or2 a b = r at *
 go_enter Tryz.func79, Tryz.ntmps79
 go_wp2_with fail
 go_loop [5, 8] (fun _ i => ∃ k : Nat, k ≤ 2 ∧ i = .int .i64 (k : Int) ∧ (1 ≤ k → a = 0) ∧ (2 ≤ k → b = 0)) (fun _ i => 2 - (intOf i).toNat)
 case atStart => exact ⟨0, by omega, rfl, by omega, by omega⟩
 case round =>
  obtain ⟨k, hk, rfl, k1, k2⟩ := hrel
  have h0 : k = 0 ∨ k = 1 ∨ k = 2 := by omega
  rcases h0 with h0 | h0 | h0
  ·obtain rfl : k = 0 := by omega
   by_cases hz : a = 0
   ·go_wp2_with fail
    go_round
    case rel => exact ⟨1, by omega, by go_num, fun _ => hz, by omega⟩
    case measure => simp [intOf]
   ·go_wp2_with fail
    go_ret
    exact ⟨ret1 (vi (HR0.out hz)), rfl⟩
  ·obtain rfl : k = 1 := by omega
   by_cases hz : b = 0
   ·go_wp2_with fail
    go_round
    case rel => exact ⟨2, by omega, by go_num, fun _ => k1 (by omega), fun _ => hz⟩
    case measure => simp [intOf]
   ·go_wp2_with fail
    go_ret
    exact ⟨ret1 (vi (HR1.out (k1 (by omega)))), rfl⟩
  ·obtain rfl : k = 2 := by omega
   have hz := k2 (by omega)
   have hr := HR1.out (k1 (by omega))
   go_wp2_with fail
   go_ret
   exact ⟨ret1 (vi (hz.symm.trans hr)), rfl⟩
theorem or2_new (x y : Int) (w : World) (t : Nat) : Calls Tryz.prog 79 #[.slice (some ⟨w.heap.size, 0, none⟩) 2 2] (w.alloc (.cells #[.int .i64 x, .int .i64 y] t)) fun e w' => e = .returned (.int .i64 (or2 x y)) ∧ (w.alloc (.cells #[.int .i64 x, .int .i64 y] t)) = w' :=
 or2_any _ x y _ _ (Rd.new w t _ rfl (by simp [maxLen]) rfl)
def RunAt2 (x y : Rn) (b1 o1 c1 b2 o2 c2 : Nat) (w0 w' : World) : Prop :=
 w'.cell? ⟨x.blk, 0, none⟩ = some (.slice (some ⟨b1, o1, none⟩) (x.rest.length + 1) c1) ∧ w'.cell? ⟨x.blk, 1, none⟩ = some (.int .i64 (x.place : Int)) ∧ w'.cell? ⟨y.blk, 0, none⟩ = some (.slice (some ⟨b2, o2, none⟩) (y.rest.length + 1) c2) ∧ w'.cell? ⟨y.blk, 1, none⟩ = some (.int .i64 (y.place : Int)) ∧ w'.cell? ⟨b1, o1, none⟩ = some (.string x.c.row) ∧ w'.cell? ⟨b1, o1 + 1, none⟩ = some (.string x.c.col) ∧ w'.cell? ⟨b1, o1 + 2, none⟩ = some (.int .i64 x.c.at_) ∧ w'.cell? ⟨b1, o1 + 3, none⟩ = some (.string x.c.val) ∧ w'.cell? ⟨b1, o1 + 4, none⟩ = some (.bool x.c.gone) ∧ w'.cell? ⟨b2, o2, none⟩ = some (.string y.c.row) ∧ w'.cell? ⟨b2, o2 + 1, none⟩ = some (.string y.c.col) ∧ w'.cell? ⟨b2, o2 + 2, none⟩ = some (.int .i64 y.c.at_) ∧ w'.cell? ⟨b2, o2 + 3, none⟩ = some (.string y.c.val) ∧ w'.cell? ⟨b2, o2 + 4, none⟩ = some (.bool y.c.gone) ∧ Below w0.heap.size w0 w'
theorem RunAt2.bel {x y : Rn} {b1 o1 c1 b2 o2 c2 : Nat} {w0 w' : World} (h : RunAt2 x y b1 o1 c1 b2 o2 c2 w0 w') : Below w0.heap.size w0 w' := h.2.2.2.2.2.2.2.2.2.2.2.2.2.2
theorem RunAt.open_ {w0 w : World} {x : Rn} (h : RunAt w0 x w) (hb : Below w0.heap.size w0 w) : ∃ b o c, x.rest.length + 1 ≤ c ∧ c ≤ maxLen ∧ w.heap[x.blk]? = some (.cells #[.slice (some ⟨b, o, none⟩) (x.rest.length + 1) c, .int .i64 (x.place : Int)] 106 (0, 0)) ∧ RdL w0 [] (.slice (some ⟨b, o, none⟩) (x.rest.length + 1) c) (x.c :: x.rest) ∧ b < w.heap.size ∧ FiveAt b o x.c w := by
 obtain ⟨cv, h1, h2⟩ := h.h
 obtain ⟨A, c, rfl, hc, hm⟩ := h2.shape
 obtain ⟨b, o, rfl, hbl, -, -⟩ := h2.open_ (by simp)
 have h3 := (h2.bel hb).at_ (k := 0) (f := x.c) rfl
 rw [Nat.zero_mul, Nat.add_zero] at h3
 rw [List.length_cons] at h1 h2 hc
 exact ⟨b, o, c, hc, hm, h1, h2, h3.2, h3.1⟩
theorem rless_any (w0 : World) (a : Nat → Rn) (n i j : Nat) (v : Value) (w : World) (ho : Ow w w0.heap.size 104 v ((List.range n).map fun k => (a k).p)) (hr : ∀ k, k < n → RunAt w0 (a k) w) (hb : Below w0.heap.size w0 w) (hi : i < n) (hj : j < n) :
  Calls Tryz.prog 168 #[v, .int .i64 (i : Int), .int .i64 (j : Int)] w fun e w' => e = .returned (.bool (rlt (a i) (a j))) ∧ Below w.heap.size w w' := by
 obtain ⟨A, c, rfl, hc, hm⟩ := ho.rd.shape
 simp only [List.length_map, List.length_range] at hc ⊢
 unfold maxLen at hm
 obtain ⟨g, rfl, -, -, hgi, -, -⟩ := ho.at_ (k := i) (by simpa using hi)
 obtain ⟨g', hA, -, -, hgj, -, -⟩ := ho.at_ (k := j) (by simpa using hj)
 obtain ⟨rfl⟩ : g = g' := by injection hA with q; injection q
 clear hA
 simp only [List.getElem_map, List.getElem_range] at hgi hgj
 obtain ⟨b1, o1, c1, hc1, hm1, hx1, -, hb1, hf1⟩ := (hr i hi).open_ hb
 obtain ⟨b2, o2, c2, hc2, hm2, hx2, -, hb2, hf2⟩ := (hr j hj).open_ hb
 generalize a i = x at *
 generalize a j = y at *
 have hxl := (Array.getElem?_eq_some_iff.1 hx1).1
 have hyl := (Array.getElem?_eq_some_iff.1 hx2).1
 have HT : Hid (∀ z, Below w.heap.size w z → RunAt2 x y b1 o1 c1 b2 o2 c2 w z) := Lib.hid fun z hz => by
  obtain ⟨p0, p1, p2, p3, p4⟩ := hf1.up hb1 hz
  obtain ⟨q0, q1, q2, q3, q4⟩ := hf2.up hb2 hz
  have e1 := (hz.block _ hxl).trans hx1
  have e2 := (hz.block _ hyl).trans hx2
  exact ⟨cell_of_row _ _ 0 _ _ _ e1, cell_of_row _ _ 1 _ _ _ e1, cell_of_row _ _ 0 _ _ _ e2, cell_of_row _ _ 1 _ _ _ e2, p0, p1, p2, p3, p4, q0, q1, q2, q3, q4, hz⟩
 unfold Rn.p at hgi hgj
 unfold maxLen at hm1 hm2
 have HRL := Lib.hid (or2_rlt x y)
 clear hr hb ho hf1 hf2 hx1 hx2 hxl hyl
 have hi1 : (i : Int) < (n : Int) := by omega
 have hj1 : (j : Int) < (n : Int) := by omega
 go_enter Tryz.func168, Tryz.ntmps168
 go_wp2_with fail
 go_quiet (fail)
 have HB := Lib.hid (bwN (w := w) nq)
 generalize w.drewN nq = wz at *
 have HS := HT.out wz HB.out
 have HTz : Hid (RunAt2 x y b1 o1 c1 b2 o2 c2 w wz.drew) := Lib.hid (HT.out _ (bwstep HB.out (Below.refl _ _).drew))
 have HU : Hid (∀ u z : World, RunAt2 x y b1 o1 c1 b2 o2 c2 w u → Below u.heap.size u z → RunAt2 x y b1 o1 c1 b2 o2 c2 w z) := Lib.hid fun u z hu hz => HT.out z (bwstep hu.bel hz)
 clear HS hgi hgj HT
 go_wp2_with fail
 go_region_held3 (fun w' => w'.cell? ⟨x.blk, 0, none⟩ = some (.slice (some ⟨b1, o1, none⟩) (x.rest.length + 1) c1) ∧ w'.cell? ⟨x.blk, 1, none⟩ = some (.int .i64 (x.place : Int)) ∧ w'.cell? ⟨y.blk, 0, none⟩ = some (.slice (some ⟨b2, o2, none⟩) (y.rest.length + 1) c2) ∧ w'.cell? ⟨y.blk, 1, none⟩ = some (.int .i64 (y.place : Int)) ∧ w'.cell? ⟨b1, o1, none⟩ = some (.string x.c.row) ∧ w'.cell? ⟨b1, o1 + 1, none⟩ = some (.string x.c.col) ∧ w'.cell? ⟨b1, o1 + 2, none⟩ = some (.int .i64 x.c.at_) ∧ w'.cell? ⟨b1, o1 + 3, none⟩ = some (.string x.c.val) ∧ w'.cell? ⟨b1, o1 + 4, none⟩ = some (.bool x.c.gone) ∧ w'.cell? ⟨b2, o2, none⟩ = some (.string y.c.row) ∧ w'.cell? ⟨b2, o2 + 1, none⟩ = some (.string y.c.col) ∧ w'.cell? ⟨b2, o2 + 2, none⟩ = some (.int .i64 y.c.at_) ∧ w'.cell? ⟨b2, o2 + 3, none⟩ = some (.string y.c.val) ∧ w'.cell? ⟨b2, o2 + 4, none⟩ = some (.bool y.c.gone) ∧ Below w.heap.size w w') (first | exact HTz.out | assumption | exact HU.out _ _ (by assumption) (by assumption) | exact HU.out _ _ (by assumption) (bwalloc (bwrefl _) _) | exact HU.out _ _ (by assumption) (bwalloc (bwrefl _) _).drew)
  (first
   | (go_at_call 59; refine (compare_any x.c y.c _).mono ?_; rintro e wn ⟨rfl, hbn⟩)
   | (go_at_call 81; refine (cmpI_any _ _ _).mono ?_; rintro e wn ⟨rfl, rfl⟩)
   | (go_at_call 79; refine (or2_new _ _ _ _).mono ?_; rintro e wn ⟨rfl, rfl⟩))
 all_goals
  go_wp2_with fail
  go_ret
  exact ⟨by first | exact ret1 (vb HRL.out) | (rw [← HRL.out]; simp), bwalloc (bwstep HB.out (bwstep (Below.refl _ _).drew hbn)) _⟩
theorem range_swap (f : Nat → Value) (n i j : Nat) : (((List.range n).map f).set i (f j)).set j (f i) = (List.range n).map (Hp.swp f i j) := by
 refine List.ext_getElem (by simp) fun k h1 h2 => ?_
 simp only [List.getElem_set, List.getElem_map, List.getElem_range]
 unfold Hp.swp
 by_cases e1 : j = k
 ·subst e1
  by_cases e2 : j = i
  ·subst e2; simp
  ·simp [e2]
 ·by_cases e2 : i = k
  ·subst e2; simp [e1]
  ·rw [if_neg e1, if_neg e2, if_neg (fun q => e2 q.symm), if_neg (fun q => e1 q.symm)]
theorem swp_p (a : Nat → Rn) (i j : Nat) : (fun k => (Hp.swp a i j k).p) = Hp.swp (fun k => (a k).p) i j := by
 funext k
 unfold Hp.swp
 split
 ·rfl
 ·split <;> rfl
theorem ow_swap {w : World} {B n c i j g : Nat} {m : Nat} {a : Nat → Rn} (h : Ow w B 104 (.slice (some ⟨g, 0, none⟩) m c) ((List.range n).map fun k => (a k).p)) (hi : i < n) (hj : j < n) :
  Ow ((w.setCell ⟨g, i, none⟩ (a j).p).setCell ⟨g, j, none⟩ (a i).p) B 104 (.slice (some ⟨g, 0, none⟩) m c) ((List.range n).map fun k => (Hp.swp a i j k).p) := by
 obtain ⟨g1, hA1, _, _, _, _, hset1⟩ := h.at_ (k := i) (by simpa using hi)
 obtain ⟨rfl⟩ : g = g1 := by injection hA1 with q; injection q
 obtain ⟨g2, hA2, _, _, _, _, hset2⟩ := (hset1 (a j).p).at_ (k := j) (by simpa using hj)
 obtain ⟨rfl⟩ : g = g2 := by injection hA2 with q; injection q
 have := hset2 (a i).p
 rw [range_swap (fun k => (a k).p) n i j] at this
 rw [swp_p]
 exact this
theorem rswap_any (B : Nat) (a : Nat → Rn) (n i j : Nat) (v : Value) (w : World) (ho : Ow w B 104 v ((List.range n).map fun k => (a k).p)) (hi : i < n) (hj : j < n) :
  Calls Tryz.prog 171 #[v, .int .i64 (i : Int), .int .i64 (j : Int)] w fun e w' => (∃ u, e = .returned u) ∧ Ow w' B 104 v ((List.range n).map fun k => (Hp.swp a i j k).p) ∧ w.grownBy w' v.ownBlock := by
 obtain ⟨A, c, rfl, hc, hm⟩ := ho.rd.shape
 simp only [List.length_map, List.length_range] at hc ho ⊢
 unfold maxLen at hm
 obtain ⟨g, rfl, -, -, hgi, hfi, -⟩ := ho.at_ (k := i) (by simpa using hi)
 obtain ⟨g', hA, -, -, hgj, hfj, -⟩ := ho.at_ (k := j) (by simpa using hj)
 obtain ⟨rfl⟩ : g = g' := by injection hA with q; injection q
 clear hA
 simp only [List.getElem_map, List.getElem_range] at hgi hgj
 have hsw := ow_swap ho hi hj
 have HG : Hid (w.grownBy ((w.setCell ⟨g, i, none⟩ (a j).p).setCell ⟨g, j, none⟩ (a i).p) (some g)) := Lib.hid ((grownBy_setCell w g i _).trans (grownBy_setCell _ g j _))
 have HS := Lib.hid hsw
 clear hsw ho
 generalize hxx : (a i).p = x at *
 generalize hyy : (a j).p = y at *
 obtain ⟨bx, rfl⟩ : ∃ bx, x = .pointer (some ⟨bx, 0, none⟩) := ⟨_, hxx.symm⟩
 obtain ⟨bY, rfl⟩ : ∃ bY, y = .pointer (some ⟨bY, 0, none⟩) := ⟨_, hyy.symm⟩
 have hi1 : (i : Int) < (n : Int) := by omega
 have hj1 : (j : Int) < (n : Int) := by omega
 by_cases hij : i = j
 ·subst hij
  have e1 : bx = bY := by
   rw [hxx] at hyy
   injection hyy with q
   injection q with q
   injection q
  subst e1
  clear hxx hyy
  go_enter Tryz.func171, Tryz.ntmps171
  go_wp2_with fail
  go_region
  go_wp2_with fail
  go_end0
  exact ⟨⟨_, rfl⟩, HS.out.below (bwN 1), (show w.grownBy _ (some g) from HG.out).trans ⟨rfl, rfl, rfl, by simp [World.drew, World.setCell], fun _ _ _ => rfl⟩⟩
 ·have hji : ¬ j = i := fun e => hij e.symm
  clear hxx hyy
  go_enter Tryz.func171, Tryz.ntmps171
  go_wp2_with fail
  go_region
  go_wp2_with fail
  go_end0
  exact ⟨⟨_, rfl⟩, HS.out.below (bwN 1), (show w.grownBy _ (some g) from HG.out).trans ⟨rfl, rfl, rfl, by simp [World.drew, World.setCell], fun _ _ _ => rfl⟩⟩
end Go.Proofs.YtcpkhhbbjimdaaaGreatDoor.Ce
namespace Go.Proofs.YtcpkhhbbjimdaaaGreatDoor.Ce
open Go.RowKit Go.Proofs.YtcpkhhbbjimdaaaGreatDoor.Hp
theorem step_appV {P : Program} {ops : Array Oper} {o : Oper} {a : Act} {w : World} {B e t b : Nat} {z v : Value} {xs : List Value} {K : Act → World → Prop} {Q : Exit → Act → World → Prop} {E : Prop} (T : ET P t e z b) (hz : z.cells.size = 1) (hgd : o.guard = none) (s y : Operand)
  (ho : o.op = .call { callee := .builtin .append, args := #[s, y], argTypes := #[t, t] })
  (hs : a.eval s = v) (hown : Ow w B e v xs) {x : Value} (hy : a.eval y = x) {D : Nat} {ys : List Value} (hr : Rd w D x ys) (h1 : One ys)
  (hlen : xs.length + ys.length ≤ maxLen) (hby : (xs.length + ys.length) * b ≤ 140737488355328) (hB : B ≤ w.heap.size)
  (hK : ∀ v' w', Ow w' B e v' (xs ++ ys) → w.grownBy w' v.ownBlock → (v'.ownBlock = v.ownBlock ∨ v'.ownBlock = some w.heap.size) → K (a.put o.dst v') w') :
  if Region.wanted o (yielded ops a.tmps) = true then Oper.wp P o a w K Q else E := by
 have hw : Region.wanted o (yielded ops a.tmps) = true := by simp [Region.wanted, hgd]
 rw [if_pos hw]
 obtain ⟨v', w', hrun, h2, h3, h4⟩ := run_app (P := P) T hz o.type hown hr h1 hlen hby hB
 unfold Oper.wp
 simp [execOp, ho, resolve, invoke, builtin, hs, hy, hrun, Result.andThen]
 exact hK v' w' h2 h3 h4
theorem assert_run (x : Value) (xT : TypeId) (w : World) : (Instr.typeAssert (.iface 104 x) xT 104 false).run Tryz.prog w = .ok x w := by
 simp [Instr.typeAssert, run_underlying Tryz.underlying104]
theorem range_snoc (a : Nat → Rn) (n : Nat) (x : Rn) : ((List.range (n + 1)).map fun k => ((fun k => if k = n then x else a k) k).p) = ((List.range n).map fun k => (a k).p) ++ [x.p] := by
 rw [List.range_succ, List.map_append]
 congr 1
 ·refine List.map_congr_left fun k hk => ?_
  have := List.mem_range.1 hk
  simp only
  rw [if_neg (by omega)]
 ·simp
theorem box_apart {w : World} {B bh : Nat} {u v : Value} {xs : List Value} (h1 : w.heap[bh]? = some (.cells #[u] 102 (0, 0))) (h2 : Ow w B 104 v xs) : v.ownBlock ≠ some bh := fun e => by
 rcases h2.2 with ⟨rfl, -⟩ | ⟨g, cap, cur, rfl, -, hh, -⟩
 ·cases e
 ·have e1 : g = bh := by injection e
  subst e1
  rw [h1] at hh
  injection hh with hh
  injection hh with _ ht _
  exact absurd ht (by decide)
theorem run_apart {w : World} {B b : Nat} {u u' v : Value} {xs : List Value} (h1 : w.heap[b]? = some (.cells #[u, u'] 106 (0, 0))) (h2 : Ow w B 104 v xs) : v.ownBlock ≠ some b := fun e => by
 rcases h2.2 with ⟨rfl, -⟩ | ⟨g, cap, cur, rfl, -, hh, -⟩
 ·cases e
 ·have e1 : g = b := by injection e
  subst e1
  rw [h1] at hh
  injection hh with hh
  injection hh with _ ht _
  exact absurd ht (by decide)
theorem RunAt.grown {w0 w w' : World} {x : Rn} {B : Nat} {v : Value} {xs : List Value} (h : RunAt w0 x w) (ho : Ow w B 104 v xs) (hg : w.grownBy w' v.ownBlock) : RunAt w0 x w' := by
 obtain ⟨cv, h1, h2⟩ := h.h
 exact h.keep (hg.block _ h.lt fun e => run_apart h1 ho e.symm)
theorem RunAt.box {w0 w : World} {x : Rn} {bh : Nat} {u : Value} (h : RunAt w0 x w) (hb : w.heap[bh]? = some (.cells #[u] 102 (0, 0))) (v : Value) : RunAt w0 x (w.setCell ⟨bh, 0, none⟩ v) := by
 obtain ⟨cv, h1, h2⟩ := h.h
 refine h.keep (Below.heap_setCell _ _ _ _ fun e => ?_)
 have e : x.blk = bh := e
 rw [← e, h1] at hb
 injection hb with hb
 injection hb with _ ht _
 exact absurd ht (by decide)
theorem box_set {w : World} {bh : Nat} {u : Value} (hb : w.heap[bh]? = some (.cells #[u] 102 (0, 0))) (v : Value) : (w.setCell ⟨bh, 0, none⟩ v).heap[bh]? = some (.cells #[v] 102 (0, 0)) := by
 unfold World.setCell
 simp [Array.getElem?_modify, hb]
theorem ow_box {w : World} {B bh : Nat} {u v : Value} {xs : List Value} (h : Ow w B 104 v xs) (hb : w.heap[bh]? = some (.cells #[u] 102 (0, 0))) (y : Value) : Ow (w.setCell ⟨bh, 0, none⟩ y) B 104 v xs :=
 h.kept (grownBy_setCell w bh 0 y) fun k hk e => by
  injection e with e
  subst e
  exact box_apart hb h hk
theorem push_end {w0 w wa w3 : World} {bh n : Nat} {a : Nat → Rn} {x : Rn} {u v3 : Value} {xs ys : List Value} (hge : w0.heap.size ≤ bh) (hr : ∀ k, k < n → RunAt w0 (a k) w) (hx : RunAt w0 x w) (hbl : Below w0.heap.size w0 w)
  (hab : Below w.heap.size w wa) (h1 : Ow wa w0.heap.size 104 u xs) (hg : wa.grownBy w3 u.ownBlock) (hb3 : w3.heap[bh]? = some (.cells #[u] 102 (0, 0))) (ho : Ow w3 w0.heap.size 104 v3 ys) (hys : ((List.range (n + 1)).map fun k => ((fun k => if k = n then x else a k) k).p) = ys) :
  HeapAt w0 bh (fun k => if k = n then x else a k) (n + 1) (w3.setCell ⟨bh, 0, none⟩ v3) ∧ Kt w (w3.setCell ⟨bh, 0, none⟩ v3) := by
 have hrun : ∀ y : Rn, RunAt w0 y w → RunAt w0 y (w3.setCell ⟨bh, 0, none⟩ v3) := fun y hy => ((hy.bel hab).grown h1 hg).box hb3 v3
 have hsz : w0.heap.size ≤ wa.heap.size := Nat.le_trans hbl.size hab.size
 refine ⟨⟨hge, ⟨v3, box_set hb3 v3, ?_⟩, fun k hk => ?_, ?_⟩, ?_⟩
 ·rw [hys]
  exact ow_box ho hb3 v3
 ·show RunAt w0 (if k = n then x else a k) _
  split
  ·exact hrun x hx
  ·exact hrun _ (hr k (by omega))
 ·exact (((bwstep hbl hab).grown hg hsz h1.ge)).trans ((bwgrown (B := w0.heap.size) (grownBy_setCell w3 bh 0 v3) (fun k hk => by injection hk with hk; omega) (by have := hg.size; omega)))
 ·exact ((Kt.bel hab).trans (Kt.ow h1 hg)).trans (Kt.set (p := ⟨bh, 0, none⟩) hb3 (.inl rfl) v3)
theorem rpush_any (w0 : World) (bh : Nat) (a : Nat → Rn) (n : Nat) (x : Rn) (w : World) (h : HeapAt w0 bh a n w) (hx : RunAt w0 x w) (hn : n ≤ 100000000) :
  Calls Tryz.prog 170 #[.pointer (some ⟨bh, 0, none⟩), .iface 104 x.p] w fun e w' => (∃ u, e = .returned u) ∧ HeapAt w0 bh (fun k => if k = n then x else a k) (n + 1) w' ∧ Kt w w' := by
 obtain ⟨v, hb, ho⟩ := h.sl
 have hbl := (Array.getElem?_eq_some_iff.1 hb).1
 have c0 := cell_of_row _ _ 0 _ _ _ hb
 have hfz : w.frozen? ⟨bh, 0, none⟩ = false := by simp [World.frozen?, hb]
 have hge := h.ge
 have HR := Lib.hid h.run
 have HBL := Lib.hid h.bel
 have HX := Lib.hid hx
 have HO := Lib.hid ho
 have HBX := Lib.hid hb
 have hpv : x.p = .pointer (some ⟨x.blk, 0, none⟩) := rfl
 obtain ⟨A, c, rfl, hc, hm⟩ := ho.rd.shape
 simp only [List.length_map, List.length_range] at *
 clear h hx ho hb
 have hlen : ((List.range n).map fun k => (a k).p).length + [x.p].length ≤ maxLen := by simp [maxLen]; omega
 have hby : (((List.range n).map fun k => (a k).p).length + [x.p].length) * 8 ≤ 140737488355328 := by simp; omega
 have hone : One [x.p] := fun u hu => by rw [List.mem_singleton.1 hu]; rfl
 have HRS := Lib.hid (range_snoc a n x)
 generalize hL : (List.range n).map (fun k => (a k).p) = xs at *
 clear hL
 rw [hpv] at hlen hby hone HRS
 rw [hpv]
 have hbw1 := (bwalloc (bwrefl w) (.cells #[.pointer (some ⟨x.blk, 0, none⟩)] 104)).drew
 have h1 := HO.out.below hbw1
 have HB1 := Lib.hid hbw1
 have hsz1 : w0.heap.size ≤ (w.alloc (.cells #[.pointer (some ⟨x.blk, 0, none⟩)] 104)).drew.heap.size := Nat.le_trans HBL.out.size hbw1.size
 have HK : Hid (∀ w3, (w.alloc (.cells #[.pointer (some ⟨x.blk, 0, none⟩)] 104)).drew.grownBy w3 (Value.slice A n c).ownBlock → w3.heap[bh]? = some (.cells #[.slice A n c] 102 (0, 0))) := Lib.hid fun w3 hg => by
  have e1 := (hbw1.block bh hbl).trans HBX.out
  exact (hg.block bh (Array.getElem?_eq_some_iff.1 e1).1 fun e => box_apart e1 h1 e.symm).trans e1
 clear hbw1
 have hx1 := (Rd.newW (xs := [.pointer (some ⟨x.blk, 0, none⟩)]) w 104 #[.pointer (some ⟨x.blk, 0, none⟩)] rfl (by simp [maxLen]) rfl)
 have hta := fun xT w => assert_run (.pointer (some ⟨x.blk, 0, none⟩)) xT w
 go_enter Tryz.func170, Tryz.ntmps170
 go_wp2_with fail
 go_region_law (refine step_appV runsT rfl rfl (.tmp 7) (.tmp 10) rfl (by simp [Act.eval]) h1 (by simp [Act.eval]) hx1 hone hlen hby hsz1 ?_; intro v3 w3 ho3 hg3 _; have hb3 := HK.out w3 hg3; have c03 := cell_of_row _ _ 0 _ _ _ hb3; have f03 : w3.frozen? ⟨bh, 0, none⟩ = false := (by simp [World.frozen?, hb3]); obtain ⟨A3, c3, rfl, -, -⟩ := ho3.rd.shape; have HB3 := Lib.hid hb3; have HO3 := Lib.hid ho3; have HG3 := Lib.hid hg3; clear hb3 ho3 hg3)
 all_goals
  go_end0
  have hnl : (xs ++ [Value.pointer (some ⟨x.blk, 0, none⟩)]).length = xs.length + 1 := by simp
  rw [hnl] at HO3
  exact ⟨⟨_, rfl⟩, push_end hge HR.out HX.out HBL.out HB1.out h1 HG3.out HB3.out HO3.out HRS.out⟩
theorem ow_cut {w : World} {B e n m c : Nat} {A : Option Addr} {xs : List Value} (h : Ow w B e (.slice A n c) xs) (hm : m ≤ xs.length) : Ow w B e (.slice A m c) (xs.take m) := by
 obtain ⟨h1, h2⟩ := h
 have hl : (xs.take m).length = m := by simp; omega
 refine ⟨by rw [hl, Nat.mul_one], ?_⟩
 rw [hl]
 rcases h2 with ⟨he, hn⟩ | ⟨g, cap, cur, he, hbg, hg, hnc, hcm, hcs, htake⟩
 ·injection he with e1 e2 e3
  subst e1 e2 e3
  exact .inl ⟨by rw [show m = 0 by omega], by omega⟩
 ·injection he with e1 e2 e3
  subst e1 e2 e3
  refine .inr ⟨g, c, cur, rfl, hbg, hg, by omega, hcm, hcs, ?_⟩
  rw [Nat.mul_one] at htake ⊢
  rw [← htake, List.take_take, Nat.min_eq_left hm]
theorem range_take (a : Nat → Rn) (n : Nat) : ((List.range (n + 1)).map fun k => (a k).p).take n = (List.range n).map fun k => (a k).p := by
 rw [List.range_succ, List.map_append]
 exact List.take_left' (by simp)
theorem rpop_any (w0 : World) (bh : Nat) (a : Nat → Rn) (n : Nat) (w : World) (h : HeapAt w0 bh a (n + 1) w) (hn : n ≤ 100000000) :
  Calls Tryz.prog 169 #[.pointer (some ⟨bh, 0, none⟩)] w fun e w' => e = .returned (.iface 104 (a n).p) ∧ RunAt w0 (a n) w' ∧ HeapAt w0 bh a n w' ∧ Kt w w' := by
 obtain ⟨v, hb, ho⟩ := h.sl
 have c0 := cell_of_row _ _ 0 _ _ _ hb
 have hfz : w.frozen? ⟨bh, 0, none⟩ = false := by simp [World.frozen?, hb]
 obtain ⟨A, c, rfl, hc, hm⟩ := ho.rd.shape
 simp only [List.length_map, List.length_range] at *
 unfold maxLen at hm
 obtain ⟨g, rfl, -, -, hgn, -, -⟩ := ho.at_ (k := n) (by simp)
 simp only [List.getElem_map, List.getElem_range] at hgn
 have hoc := ow_cut ho (m := n) (by simp)
 rw [range_take] at hoc
 have HE : Hid (RunAt w0 (a n) (w.setCell ⟨bh, 0, none⟩ (.slice (some ⟨g, 0, none⟩) n c)) ∧ HeapAt w0 bh a n (w.setCell ⟨bh, 0, none⟩ (.slice (some ⟨g, 0, none⟩) n c)) ∧ Kt w (w.setCell ⟨bh, 0, none⟩ (.slice (some ⟨g, 0, none⟩) n c))) := Lib.hid <| by
  refine ⟨(h.run n (by omega)).box hb _, ⟨h.ge, ⟨_, box_set hb _, ow_box hoc hb _⟩, fun k hk => (h.run k (by omega)).box hb _, ?_⟩, Kt.set (p := ⟨bh, 0, none⟩) hb (.inl rfl) _⟩
  exact h.bel.trans (bwgrown (B := w0.heap.size) (grownBy_setCell w bh 0 _) (fun k hk => by injection hk with hk; have := h.ge; omega) h.bel.size)
 have hw : IntKind.i64.wrap (((n + 1 : Nat) : Int) - 1) = (n : Int) := by rw [IntKind.wrap_i64]; omega
 unfold Rn.p at hgn ⊢
 clear h hb ho hoc
 have h1 : (n : Int) < ((n + 1 : Nat) : Int) := by omega
 have h2 : (0 : Int) ≤ (n : Int) := by omega
 go_enter Tryz.func169, Tryz.ntmps169
 go_wp2_with fail
 go_ret
 exact ⟨rfl, HE.out⟩
end Go.Proofs.YtcpkhhbbjimdaaaGreatDoor.Ce
namespace Go.Proofs.YtcpkhhbbjimdaaaGreatDoor.Ce
open Go.RowKit Go.Proofs.YtcpkhhbbjimdaaaGreatDoor.Hp
theorem Hst.of {w0 w1 w w' : World} {bh n : Nat} {a b : Nat → Rn} {m : Nat} (h : Hst w0 w1 bh a n w) (hb : HeapAt w0 bh b m w') (k : Kt w w') : Hst w0 w1 bh b m w' := ⟨hb, h.2.trans k⟩
theorem Hst.up {w0 w1 w w' : World} {bh n : Nat} {a : Nat → Rn} (h : Hst w0 w1 bh a n w) (hb : Below w.heap.size w w') : Hst w0 w1 bh a n w' := ⟨h.1.up hb, h.2.trans (Kt.bel hb)⟩
theorem uRuns : Tryz.prog.underlying 102 = some (.slice 104) := Tryz.underlying102
theorem HeapAt.swap {w0 w w' : World} {bh n i j : Nat} {a : Nat → Rn} {v : Value} (h : HeapAt w0 bh a n w) (hb : w.heap[bh]? = some (.cells #[v] 102 (0, 0))) (ho : Ow w w0.heap.size 104 v ((List.range n).map fun k => (a k).p)) (hi : i < n) (hj : j < n)
  (ho' : Ow w' w0.heap.size 104 v ((List.range n).map fun k => (Hp.swp a i j k).p)) (hg : w.grownBy w' v.ownBlock) : HeapAt w0 bh (Hp.swp a i j) n w' ∧ Kt w w' := by
 refine ⟨⟨h.ge, ⟨v, ?_, ho'⟩, fun k hk => ?_, ?_⟩, Kt.ow ho hg⟩
 ·exact (hg.block bh (Array.getElem?_eq_some_iff.1 hb).1 fun e => box_apart hb ho e.symm).trans hb
 ·have hr : ∀ m, m < n → RunAt w0 (a m) w' := fun m hm => (h.run m hm).grown ho hg
  unfold Hp.swp
  split
  ·exact hr j hj
  ·split
   ·exact hr i hi
   ·exact hr k hk
 ·exact h.bel.grown hg h.bel.size ho.ge
theorem iface_runs (w0 w1 : World) (bh : Nat) : Hp.Iface (Hst w0 w1 bh) 100 (.pointer (some ⟨bh, 0, none⟩)) rlt where
 len a n w h := by
  obtain ⟨v, h1, h2⟩ := h.1.sl
  refine ⟨_, v, enters_of Tryz.func57 (by kernel_rfl) rfl, Hp.meth_val mLen pRuns (Hp.load_one uRuns h1), (rlen_any w0 a n v w h2).mono ?_⟩
  rintro e w' ⟨rfl, rfl⟩
  exact ⟨rfl, h⟩
 less a n w i j h hi hj := by
  obtain ⟨v, h1, h2⟩ := h.1.sl
  refine ⟨_, v, enters_of Tryz.func168 (by kernel_rfl) rfl, Hp.meth_val mLess pRuns (Hp.load_one uRuns h1), (rless_any w0 a n i j v w h2 h.1.run h.1.bel hi hj).mono ?_⟩
  rintro e w' ⟨rfl, hb⟩
  exact ⟨rfl, h.up hb⟩
 swap a n w i j h hi hj := by
  obtain ⟨v, h1, h2⟩ := h.1.sl
  refine ⟨_, v, enters_of Tryz.func171 (by kernel_rfl) rfl, Hp.meth_val mSwap pRuns (Hp.load_one uRuns h1), (rswap_any _ a n i j v w h2 hi hj).mono ?_⟩
  rintro e w' ⟨hu, ho, hg⟩
  obtain ⟨k1, k2⟩ := h.1.swap h1 h2 hi hj ho hg
  exact ⟨hu, h.of k1 k2⟩
def RunV (w0 : World) (x : Rn) (v : Value) (w : World) : Prop := v = .iface 104 x.p ∧ RunAt w0 x w
theorem iface_push (w0 w1 : World) (bh : Nat) : Hp.IfacePush (Hst w0 w1 bh) (RunV w0) 100 (.pointer (some ⟨bh, 0, none⟩)) where
 push a n w x v hn h hx := by
  obtain ⟨rfl, hx⟩ := hx
  refine ⟨_, _, enters_of Tryz.func170 (by kernel_rfl) rfl, Hp.meth_ptr mPush pRuns, (rpush_any w0 bh a n x w h.1 hx hn).mono ?_⟩
  rintro e w' ⟨hu, k1, k2⟩
  exact ⟨hu, h.of k1 k2⟩
theorem iface_pop (w0 w1 : World) (bh : Nat) : Hp.IfacePop (Hst w0 w1 bh) (RunV w0) 100 (.pointer (some ⟨bh, 0, none⟩)) where
 pop a n w hn h := by
  refine ⟨_, _, enters_of Tryz.func169 (by kernel_rfl) rfl, Hp.meth_ptr mPop pRuns, (rpop_any w0 bh a n w h.1 hn).mono ?_⟩
  rintro e w' ⟨rfl, k0, k1, k2⟩
  exact ⟨_, rfl, ⟨rfl, k0⟩, h.of k1 k2⟩
def Hl (w0 : World) (bh : Nat) (es : List Rn) (w : World) : Prop := ∃ a, HeapAt w0 bh a es.length w ∧ Hp.Heap (Hp.leB rlt) a 0 es.length ∧ ((List.range es.length).map a).Perm es
section
variable {w0 w w' : World} {bh : Nat} {es : List Rn}
theorem Hl.up (h : Hl w0 bh es w) (hb : Below w.heap.size w w') : Hl w0 bh es w' := by
 obtain ⟨a, h1, h2, h3⟩ := h
 exact ⟨a, h1.up hb, h2, h3⟩
theorem Hl.bel (h : Hl w0 bh es w) : Below w0.heap.size w0 w := by
 obtain ⟨a, h1, -, -⟩ := h
 exact h1.bel
theorem Hl.run (h : Hl w0 bh es w) : ∀ x ∈ es, RunAt w0 x w := fun x hx => by
 obtain ⟨a, h1, -, h3⟩ := h
 obtain ⟨k, hk, rfl⟩ := List.mem_map.1 (h3.mem_iff.2 hx)
 exact h1.run k (List.mem_range.1 hk)
theorem RunAt.other {x y : Rn} (h : RunAt w0 x w) (k : RunAt w0 y w) (hp : y.place ≠ x.place) : y.blk ≠ x.blk := fun e => by
 obtain ⟨c1, h1, -⟩ := h.h
 obtain ⟨c2, h2, -⟩ := k.h
 rw [e, h1] at h2
 injection h2 with h2
 injection h2 with h2 _ _
 simp at h2
 omega
theorem Hl.set (h : Hl w0 bh es w) {x : Rn} (hx : RunAt w0 x w) (hp : ∀ y ∈ es, y.place ≠ x.place) (v : Value) : Hl w0 bh es (w.setCell ⟨x.blk, 0, none⟩ v) ∧ Kt w (w.setCell ⟨x.blk, 0, none⟩ v) := by
 obtain ⟨a, h1, h2, h3⟩ := h
 obtain ⟨cv, hc, -⟩ := hx.h
 obtain ⟨sv, hb, ho⟩ := h1.sl
 have hset := grownBy_setCell w x.blk 0 v
 refine ⟨⟨a, ⟨h1.ge, ⟨sv, ?_, ?_⟩, fun k hk => ?_, ?_⟩, h2, h3⟩, Kt.set (p := ⟨x.blk, 0, none⟩) hc (.inr (.inr rfl)) v⟩
 ·refine (Below.heap_setCell _ _ _ _ fun e => ?_).trans hb
  have e : bh = x.blk := e
  rw [e, hc] at hb
  injection hb with hb
  injection hb with _ ht _
  exact absurd ht (by decide)
 ·exact ho.kept hset fun k hk e => by
   injection e with e
   subst e
   exact run_apart hc ho hk
 ·have hk2 := h1.run k hk
  refine hk2.keep (Below.heap_setCell _ _ _ _ fun e => ?_)
  exact hx.other hk2 (hp _ (h3.mem_iff.1 (List.mem_map.2 ⟨k, List.mem_range.2 hk, rfl⟩))) e
 ·exact h1.bel.grown hset h1.bel.size (fun k hk => by injection hk with hk; exact hk ▸ hx.ge)
end
theorem InC.kt {g : Nat} {c : Cl} {w w' : World} (h : InC g c w) (k : Kt w w') : InC g c w' := ⟨(k.block g h.lt fun cs t fz hc => by
 rw [h.h] at hc
 injection hc with hc
 injection hc with _ ht _
 subst ht
 exact ⟨by decide, by decide, by decide⟩).trans h.h⟩
theorem heapPush_any (w0 : World) (bh : Nat) (es : List Rn) (x : Rn) (w : World) (h : Hl w0 bh es w) (hx : RunAt w0 x w) (hn : es.length ≤ 100000000) :
  Calls Tryz.prog 77 #[.iface 100 (.pointer (some ⟨bh, 0, none⟩)), .iface 104 x.p] w fun e w' => (∃ u, e = .returned u) ∧ Hl w0 bh (x :: es) w' ∧ Kt w w' := by
 obtain ⟨a, h1, h2, h3⟩ := h
 refine (Hp.push_any (iface_runs w0 w bh) (iface_push w0 w bh) rle_ord a es.length x _ w ⟨h1, Kt.refl w⟩ ⟨rfl, hx⟩ h2 hn).mono ?_
 rintro e w' ⟨b, u, rfl, hs, hh, hp⟩
 refine ⟨⟨u, rfl⟩, ⟨b, hs.1, hh, hp.p.trans ?_⟩, hs.2⟩
 rw [List.range_succ, List.map_append]
 refine List.Perm.trans ?_ (h3.cons x)
 have : (List.range es.length).map (fun k => if k = es.length then x else a k) = (List.range es.length).map a := List.map_congr_left fun k hk => by
  have := List.mem_range.1 hk
  rw [if_neg (by omega)]
 rw [this]
 simp only [List.map_cons, List.map_nil, if_pos]
 exact List.perm_append_singleton _ _
theorem heapPop_any (w0 : World) (bh : Nat) (es : List Rn) (w : World) (h : Hl w0 bh es w) (h0 : 0 < es.length) (hn : es.length ≤ 100000000) :
  Calls Tryz.prog 78 #[.iface 100 (.pointer (some ⟨bh, 0, none⟩))] w fun e w' => ∃ x es', es.Perm (x :: es') ∧ (∀ f ∈ es', Hp.leB rlt x f) ∧ e = .returned (.iface 104 x.p) ∧ RunAt w0 x w' ∧ Hl w0 bh es' w' ∧ Kt w w' := by
 obtain ⟨a, h1, h2, h3⟩ := h
 obtain ⟨n, hn1⟩ : ∃ n, es.length = n + 1 := ⟨es.length - 1, by omega⟩
 rw [hn1] at h1 h2 h3
 refine (Hp.pop_any (iface_runs w0 w bh) (iface_pop w0 w bh) rle_ord a n w ⟨h1, Kt.refl w⟩ h2 (by omega)).mono ?_
 rintro e w' ⟨b, v, rfl, ⟨rfl, hx⟩, hs, hh, hp⟩
 have hl : ((List.range n).map b).length = n := by simp
 have hperm : es.Perm (a 0 :: (List.range n).map b) := by
  refine h3.symm.trans ?_
  refine (Hp.swp_perm a (show 0 < n + 1 by omega) (show n < n + 1 by omega)).symm.trans ?_
  rw [List.range_succ, List.map_append, List.map_singleton, Hp.swp_j]
  exact (List.perm_append_singleton _ _).trans (hp.p.symm.cons _)
 refine ⟨a 0, (List.range n).map b, hperm, fun f hf => ?_, rfl, hx, ⟨b, by rw [hl]; exact hs.1, by rw [hl]; exact hh, by rw [hl]⟩, hs.2⟩
 have hm : f ∈ (List.range (n + 1)).map a := h3.mem_iff.2 (hperm.mem_iff.2 (by simp [hf]))
 obtain ⟨k, hk, rfl⟩ := List.mem_map.1 hm
 exact Hp.Heap.top rle_ord h2 k (List.mem_range.1 hk)
def addR (es : List Rn) (bk place : Nat) : List Cl → List Rn
 | [] => es
 | c :: r => ⟨bk, c, r, place⟩ :: es
theorem add_any (w0 : World) (bh : Nat) (es : List Rn) (bk place : Nat) (L : List Cl) (cv : Value) (w : World) (h : Hl w0 bh es w) (hb : w.heap[bk]? = some (.cells #[cv, .int .i64 (place : Int)] 106 (0, 0))) (hge : w0.heap.size ≤ bk) (hr : RdL w0 [] cv L) (hn : es.length ≤ 100000000) :
  Calls Tryz.prog 56 #[.pointer (some ⟨bh, 0, none⟩), .pointer (some ⟨bk, 0, none⟩)] w fun e w' => (∃ u, e = .returned u) ∧ Hl w0 bh (addR es bk place L) w' ∧ Kt w w' := by
 have c0 := cell_of_row _ _ 0 _ _ _ hb
 obtain ⟨A, c, rfl, hc, hm⟩ := hr.shape
 have HH := Lib.hid h
 cases L with
 | nil =>
  clear h hb hr
  go_enter Tryz.func56, Tryz.ntmps56
  go_wp2_with fail
  go_end0
  exact ⟨⟨_, rfl⟩, HH.out, Kt.refl _⟩
 | cons d r =>
  have hp := heapPush_any w0 bh es ⟨bk, d, r, place⟩ w h ⟨hge, _, hb, hr⟩ hn
  unfold Rn.p at hp
  have HP := Lib.hid hp
  have hpos : (0 : Int) < ((d :: r).length : Int) := by simp
  generalize (d :: r).length = n at *
  clear h hb hr hp
  go_enter Tryz.func56, Tryz.ntmps56
  go_wp2_with fail
  refine HP.out.mono ?_
  rintro e w' ⟨⟨u, rfl⟩, h1, h2⟩
  go_wp2_with fail
  go_end0
  exact ⟨⟨_, rfl⟩, h1, h2⟩
end Go.Proofs.YtcpkhhbbjimdaaaGreatDoor.Ce
namespace Go.Proofs.YtcpkhhbbjimdaaaGreatDoor.Ce
open Go.RowKit Go.Proofs.YtcpkhhbbjimdaaaGreatDoor.Hp
theorem res1 {fn : Func} {p : Tmp} {tmps : Array Value} {g : Nat} {c : Cl} {w : World} (h : fn.results = #[.cell p 47]) (hp : tmps.getD p undef = .pointer (some ⟨g, 0, none⟩)) (hi : InC g c w) :
  (results fn tmps).run Tryz.prog w = .ok c.v w := by
 have hp' : tmps[p]?.getD undef = .pointer (some ⟨g, 0, none⟩) := by simpa using hp
 simp [results, h, hp', asAddr, run_loadV w _ c hi.all]
theorem run_set {w : World} {b : Nat} {u u' : Value} (hb : w.heap[b]? = some (.cells #[u, u'] 106 (0, 0))) (v : Value) : (w.setCell ⟨b, 0, none⟩ v).heap[b]? = some (.cells #[v, u'] 106 (0, 0)) := by
 unfold World.setCell
 simp [Array.getElem?_modify, hb]
theorem Hl.cell {w0 w w' : World} {bh g : Nat} {es : List Rn} {c c0 : Cl} (h : Hl w0 bh es w) (hi : InC g c0 w) (hs : SetC g c w w') (hg : w0.heap.size ≤ g) : Hl w0 bh es w' := by
 obtain ⟨a, h1, h2, h3⟩ := h
 obtain ⟨sv, hb, ho⟩ := h1.sl
 have hgb : w.grownBy w' (some g) := ⟨hs.b.os, hs.b.tape, hs.b.output, Nat.le_of_eq hs.z.symm, fun k _ hne => hs.o k fun e => hne (by rw [e])⟩
 have hii := hi.h
 refine ⟨a, ⟨h1.ge, ⟨sv, (hs.o bh fun e => ?_).trans hb, ho.kept hgb fun k hk e => ?_⟩, fun k hk => (h1.run k hk).keep (hs.o _ fun e => ?_), h1.bel.grown hgb h1.bel.size (fun k hk => by injection hk with hk; omega)⟩, h2, h3⟩
 ·rw [e, hii] at hb
  injection hb with hb
  injection hb with _ ht _
  exact absurd ht (by decide)
 ·injection e with e
  subst e
  rcases ho.2 with ⟨rfl, -⟩ | ⟨g', cap, cur, rfl, -, hh, -⟩
  ·cases hk
  ·have e1 : g' = g := by injection hk
   subst e1
   rw [hh] at hii
   injection hii with hii
   injection hii with _ ht _
   exact absurd ht (by decide)
 ·obtain ⟨cv, hc, -⟩ := (h1.run k hk).h
  rw [e, hii] at hc
  injection hc with hc
  injection hc with _ ht _
  exact absurd ht (by decide)
theorem Kt.cell {w w5 w6 : World} {g : Nat} {c : Cl} (h : Kt w w5) (hs : SetC g c w5 w6) (hg : w.heap.size ≤ g) : Kt w w6 :=
 ⟨hs.b.os.trans h.os, hs.b.tape.trans h.tape, hs.b.output.trans h.output, by rw [hs.z]; exact h.size, fun k hk ht => (hs.o k (by omega)).trans (h.block k hk ht)⟩
def NextEnd (w0 : World) (bh : Nat) (es : List Rn) (w : World) (e : Ending) (w' : World) : Prop :=
 ∃ x es', es.Perm (x :: es') ∧ (∀ f ∈ es', Hp.leB rlt x f) ∧ e = .returned x.c.v ∧ Hl w0 bh (addR es' x.blk x.place x.rest) w' ∧ Kt w w'
theorem next_any (w0 : World) (bh : Nat) (es : List Rn) (w : World) (h : Hl w0 bh es w) (hu : (es.map Rn.place).Nodup) (h0 : 0 < es.length) (hn : es.length ≤ 100000000) :
  Calls Tryz.prog 58 #[.pointer (some ⟨bh, 0, none⟩)] w (NextEnd w0 bh es w) := by
 have HH := Lib.hid h
 have HU := Lib.hid hu
 have hbw0 := h.bel.size
 clear h hu
 go_enter Tryz.func58, Tryz.ntmps58
 go_wp2_with (refine allocC rfl rfl ?_)
 constructor
 intro w1 hI1 hb1 hz1
 have hp := heapPop_any w0 bh es w1 (HH.out.up hb1) h0 hn
 have HI1 := Lib.hid hI1
 have HB1 := Lib.hid hb1
 clear hI1 hb1 hz1 HH
 go_wp2_with fail
 refine hp.mono ?_
 rintro e w2 ⟨x, es', hpm, hle, rfl, hx, hl, hk⟩
 have HPM := Lib.hid hpm
 have HLE := Lib.hid hle
 have HI2 := Lib.hid (HI1.out.kt hk)
 have HKT := Lib.hid ((Kt.bel HB1.out).trans hk)
 have hta := fun xT w => assert_run (.pointer (some ⟨x.blk, 0, none⟩)) xT w
 obtain ⟨b, o, c, hc, hm, hxb, hrd, hbl, hfv⟩ := hx.open_ hl.bel
 have hne : ∀ y ∈ es', y.place ≠ x.place := fun y hy q => by
  have := ((hpm.map Rn.place).nodup_iff.1 HU.out)
  simp only [List.map_cons] at this
  exact (List.nodup_cons.1 this).1 (q ▸ List.mem_map.2 ⟨y, hy, rfl⟩)
 have hes : es'.length + 1 = es.length := by rw [hpm.length_eq]; rfl
 have HX := Lib.hid hx
 have HXB := Lib.hid hxb
 have HRD := Lib.hid hrd
 have HL := Lib.hid hl
 have HNE := Lib.hid hne
 have hxl := (Array.getElem?_eq_some_iff.1 hxb).1
 have c0 := cell_of_row _ _ 0 _ _ _ hxb
 have hpv : x.p = .pointer (some ⟨x.blk, 0, none⟩) := rfl
 unfold maxLen at hm
 have HFV := Lib.hid hfv
 obtain ⟨f0, f1, f2, f3, f4⟩ := hfv
 clear hp HI1 HB1 HU hpm hle hx hl hk hxb hrd hne
 rw [hpv]
 have hh1 : (0 : Int) < ((x.rest.length + 1 : Nat) : Int) := by omega
 go_wp2_with (first | (refine loadV (c := x.c) rfl (.tmp 13) rfl ⟨b, o, none⟩ rfl HFV.out.all ?_) | (refine allocC rfl rfl ?_))
 constructor
 intro w3 hI3 hb3 hz3
 have hne3 : w.heap.size ≠ w2.heap.size := by have := HI2.out.lt; omega
 go_wp2_with (refine storeC (c := x.c) rfl (.tmp 4) (.tmp 14) rfl rfl rfl hI3 ?_)
 constructor
 intro w4 hs4
 have hb24 := hs4.bel hb3 (Nat.le_refl _)
 have HB24 := Lib.hid hb24
 have HX4 := Lib.hid hs4.i
 have HI4 := Lib.hid (hs4.up (HI2.out.up hb3) hne3)
 have HL4 := Lib.hid (HL.out.up hb24)
 have HR4 := Lib.hid (HX.out.bel hb24)
 have hxb4 := (hb24.block _ hxl).trans HXB.out
 have HXB4 := Lib.hid hxb4
 have c04 := cell_of_row _ _ 0 _ _ _ hxb4
 have f04 : w4.frozen? ⟨x.blk, 0, none⟩ = false := by simp [World.frozen?, hxb4]
 have hne4 : w.heap.size ≠ w2.heap.size := hne3
 have hadd : ∀ sv, RdL w0 [] sv x.rest → Calls Tryz.prog 56 #[.pointer (some ⟨bh, 0, none⟩), .pointer (some ⟨x.blk, 0, none⟩)] (w4.setCell ⟨x.blk, 0, none⟩ sv) fun e w' => (∃ u, e = .returned u) ∧ Hl w0 bh (addR es' x.blk x.place x.rest) w' ∧ Kt w w' ∧ InC w2.heap.size x.c w' ∧ InC w.heap.size Cl.zero w' := fun sv hsv => by
  obtain ⟨k1, k2⟩ := HL4.out.set HR4.out HNE.out sv
  refine (add_any w0 bh es' x.blk x.place x.rest sv _ k1 (run_set HXB4.out sv) HR4.out.ge hsv (by omega)).mono ?_
  rintro e w' ⟨h1, h2, h3⟩
  have hk := k2.trans h3
  exact ⟨h1, h2, (HKT.out.trans (Kt.bel HB24.out)).trans hk, HX4.out.kt hk, HI4.out.kt hk⟩
 have HADD := Lib.hid hadd
 clear hI3 hb3 hz3 hs4 hb24 hxb4 c0 f0 f1 f2 f3 f4 HX HXB HL HI2 HFV hadd HL4 HR4 HX4 HI4
 by_cases hc1 : c = 1
 ·subst hc1
  obtain hr0 : x.rest.length = 0 := by omega
  have HRE : Hid (RdL w0 [] (.slice (some ⟨b, o, none⟩) 0 0) x.rest) := Lib.hid (by rw [List.eq_nil_of_length_eq_zero hr0]; exact RdL.none_ (by simp [maxLen]))
  rw [hr0]
  rw [hr0] at c04
  go_wp2_with fail
  refine (HADD.out _ HRE.out).mono ?_
  rintro e w5 ⟨⟨u5, rfl⟩, hl5, hk5, hx5, hi5⟩
  have HE := Lib.hid (And.intro hl5 hk5)
  go_wp2_with (first | (refine loadC rfl (.tmp 4) rfl rfl hx5 ?_) | (refine storeC (c := x.c) rfl (.tmp 2) (.tmp 26) rfl rfl rfl hi5 ?_))
  constructor
  intro w6 hs6
  go_wp2_with fail
  exact bodyPost_ret (res1 Tryz.results58 rfl hs6.i) rfl ⟨x, es', HPM.out, HLE.out, rfl, HE.out.1.cell hi5 hs6 hbw0, HE.out.2.cell hs6 (Nat.le_refl _)⟩
 ·have HRE : Hid (RdL w0 [] (.slice (some ⟨b, o + 5, none⟩) x.rest.length (c - 1)) x.rest) := Lib.hid (by
   have := HRD.out.from_ (k := 1) (by simp)
   rw [Nat.one_mul, Nat.add_sub_cancel] at this
   exact this)
  go_wp2_with fail
  refine (HADD.out _ HRE.out).mono ?_
  rintro e w5 ⟨⟨u5, rfl⟩, hl5, hk5, hx5, hi5⟩
  have HE := Lib.hid (And.intro hl5 hk5)
  go_wp2_with (first | (refine loadC rfl (.tmp 4) rfl rfl hx5 ?_) | (refine storeC (c := x.c) rfl (.tmp 2) (.tmp 26) rfl rfl rfl hi5 ?_))
  constructor
  intro w6 hs6
  go_wp2_with fail
  exact bodyPost_ret (res1 Tryz.results58 rfl hs6.i) rfl ⟨x, es', HPM.out, HLE.out, rfl, HE.out.1.cell hi5 hs6 hbw0, HE.out.2.cell hs6 (Nat.le_refl _)⟩
end Go.Proofs.YtcpkhhbbjimdaaaGreatDoor.Ce
namespace Go.Proofs.YtcpkhhbbjimdaaaGreatDoor.Ce
open Go.RowKit Go.Proofs.YtcpkhhbbjimdaaaGreatDoor.Hp
theorem Hl.grownL {w0 w w' : World} {bh B : Nat} {es : List Rn} {v : Value} {L : List Cl} (h : Hl w0 bh es w) (hv : OwL w B v L) (hgb : w.grownBy w' v.ownBlock) (hB : w0.heap.size ≤ B) : Hl w0 bh es w' := by
 obtain ⟨a, h1, h2, h3⟩ := h
 obtain ⟨sv, hb, ho⟩ := h1.sl
 have key : ∀ k, v.ownBlock = some k → ∃ cs, w.heap[k]? = some (.cells cs 47 (0, 0)) := fun k hk => by
  rcases hv.2 with ⟨rfl, -⟩ | ⟨g, cap, cur, rfl, -, hh, -⟩
  ·cases hk
  ·have e1 : g = k := by injection hk
   subst e1
   exact ⟨_, hh⟩
 refine ⟨a, ⟨h1.ge, ⟨sv, (hgb.block bh (Array.getElem?_eq_some_iff.1 hb).1 fun e => ?_).trans hb, ho.kept hgb fun k hk e => ?_⟩, fun k hk => (h1.run k hk).keep (hgb.block _ (h1.run k hk).lt fun e => ?_), h1.bel.grown hgb h1.bel.size (fun k hk => Nat.le_trans hB (hv.lt k hk).1)⟩, h2, h3⟩
 ·obtain ⟨cs, hc⟩ := key _ e.symm
  rw [hb] at hc
  injection hc with hc
  injection hc with _ ht _
  exact absurd ht (by decide)
 ·obtain ⟨cs, hc⟩ := key _ e
  rcases ho.2 with ⟨rfl, -⟩ | ⟨g', cap, cur, rfl, -, hh, -⟩
  ·cases hk
  ·have e1 : g' = k := by injection hk
   subst e1
   rw [hh] at hc
   injection hc with hc
   injection hc with _ ht _
   exact absurd ht (by decide)
 ·obtain ⟨cs, hc⟩ := key _ e.symm
  obtain ⟨cv, hr, -⟩ := (h1.run k hk).h
  rw [hr] at hc
  injection hc with hc
  injection hc with _ ht _
  exact absurd ht (by decide)
theorem addR_len (es : List Rn) (bk place : Nat) (L : List Cl) : (addR es bk place L).length ≤ es.length + 1 := by
 cases L with
 | nil => simp [addR]
 | cons c r => simp [addR]
theorem Hl.new (w : World) : Hl w (w.heap.size + 1) [] ((w.alloc (.cells #[] 104)).alloc (.cells #[.slice (some ⟨w.heap.size, 0, none⟩) 0 0] 102)) := by
 have hb1 := bwalloc (bwrefl w) (.cells #[] 104)
 refine ⟨fun _ => ⟨0, Cl.zero, [], 0⟩, ⟨by omega, ⟨.slice (some ⟨w.heap.size, 0, none⟩) 0 0, ?_, ?_⟩, fun k hk => absurd hk (by simp), bwalloc hb1 _⟩, fun c h1 h2 => absurd h2 (by simp), List.Perm.refl _⟩
 ·have := heap_alloc_new (w.alloc (.cells #[] 104)) (.cells #[.slice (some ⟨w.heap.size, 0, none⟩) 0 0] 102)
  simpa using this
 ·exact (Ow.new (e := 104) (n := 0) w #[] rfl (by simp [maxLen]) rfl (Nat.le_refl _)).below (bwalloc (bwrefl _) _)
theorem Runs.add {LL : List (List Cl)} {es : List Rn} {k bk : Nat} {M : List Cl} (h : Runs (LL.take k) es) (hM : LL[k]? = some M) : Runs (LL.take (k + 1)) (addR es bk k M) := by
 obtain ⟨hl, rfl⟩ := List.getElem?_eq_some_iff.1 hM
 rw [List.take_succ_eq_append_getElem hl]
 have hk : (LL.take k).length = k := by simp; omega
 cases hm : LL[k] with
 | nil => exact h.snoc0
 | cons d r =>
  have := h.snoc1 bk d r
  rw [hk] at this
  exact this
theorem Runs.take_ {LL : List (List Cl)} {es : List Rn} {x : Rn} (h : Runs LL (x :: es)) : Runs (LL.set x.place x.rest) (addR es x.blk x.place x.rest) := by
 have h1 := fun hr => h.end_ hr
 have h2 := fun d r hr => h.more (d := d) (r := r) hr x.blk
 generalize x.rest = rs at *
 cases rs with
 | nil => exact h1 rfl
 | cons d r => exact h2 d r rfl
def LastC (bo m : Nat) (o : Cl) (g : Nat) (f : Cl) (w0 w' : World) : Prop := w'.cell? ⟨bo, m * 5, none⟩ = some (.string o.row) ∧ w'.cell? ⟨bo, m * 5 + 1, none⟩ = some (.string o.col) ∧ w'.cell? ⟨bo, m * 5 + 2, none⟩ = some (.int .i64 o.at_) ∧ w'.cell? ⟨bo, m * 5 + 3, none⟩ = some (.string o.val) ∧ w'.cell? ⟨bo, m * 5 + 4, none⟩ = some (.bool o.gone) ∧ w'.cell? ⟨g, 0, none⟩ = some (.string f.row) ∧ w'.cell? ⟨g, 1, none⟩ = some (.string f.col) ∧ w'.cell? ⟨g, 2, none⟩ = some (.int .i64 f.at_) ∧ w'.cell? ⟨g, 3, none⟩ = some (.string f.val) ∧ w'.cell? ⟨g, 4, none⟩ = some (.bool f.gone) ∧ Below w0.heap.size w0 w'
theorem LastC.bel {bo m : Nat} {o : Cl} {g : Nat} {f : Cl} {w0 w' : World} (h : LastC bo m o g f w0 w') : Below w0.heap.size w0 w' := h.2.2.2.2.2.2.2.2.2.2
theorem LastC.of {bo m : Nat} {o : Cl} {g : Nat} {f : Cl} {w0 w' : World} (h : FiveAt bo (m * 5) o w0) (hb : bo < w0.heap.size) (hi : InC g f w0) (hw : Below w0.heap.size w0 w') : LastC bo m o g f w0 w' := by
 obtain ⟨a0, a1, a2, a3, a4⟩ := h.up hb hw
 obtain ⟨c0, c1, c2, c3, c4⟩ := (hi.up hw).five
 exact ⟨a0, a1, a2, a3, a4, c0, c1, c2, c3, c4, hw⟩
theorem OwL.last {w : World} {B n c : Nat} {A : Option Addr} {O : List Cl} {o : Cl} {m : Nat} (h : OwL w B (.slice A n c) O) (hm : O[m]? = some o) : ∃ g, A = some ⟨g, 0, none⟩ ∧ g < w.heap.size ∧ FiveAt g (m * 5) o w := by
 have hr := h.rd (S := []) (fun _ h => by cases h)
 have hlt := (List.getElem?_eq_some_iff.1 hm).1
 rcases h.2 with ⟨he, hn⟩ | ⟨g, cap, cur, he, -, hh, -⟩
 ·omega
 ·injection he with e1 e2 e3
  subst e1
  have h5 := hr.at_ hm
  rw [Nat.zero_add] at h5
  exact ⟨g, rfl, h5.2, h5.1⟩
theorem all_any (v : Value) (LL : List (List Cl)) (w : World) (hv : RdB w v LL) (hs : ∀ M ∈ LL, Srt M) (hf : LL.flatten.length ≤ 1000000) (hn : LL.length ≤ 1000000) :
  Calls Tryz.prog 44 #[v] w fun e w' => (∃ x, e = .returned x ∧ OwL w' w.heap.size x (allP LL)) ∧ Below w.heap.size w w' := by
 obtain ⟨A, c, rfl, hc, hm⟩ := hv.shape
 unfold maxLen at hm
 have HV := Lib.hid hv
 have HS := Lib.hid hs
 clear hv hs
 have hnew := Hl.new w
 have HNEW := Lib.hid hnew
 clear hnew
 go_enter Tryz.func44, Tryz.ntmps44
 go_wp2_with fail
 go_loopw [12] (fun i wr => ∃ (k : Nat) (es : List Rn), k ≤ LL.length ∧ i = .int .i64 (k : Int) ∧ Hid (Runs (LL.take k) es) ∧ Hid (Hl w (w.heap.size + 1) es wr) ∧ es.length ≤ k) (fun i _ => LL.length - (intOf i).toNat)
 case atStart => exact ⟨0, [], by omega, rfl, Lib.hid (by simpa using Runs.nil), HNEW, by simp⟩
 case round =>
  clear HNEW
  obtain ⟨k, es, hk, rfl, HR, HL, hel⟩ := hrel
  by_cases hlt : k < LL.length
  ·have hfk : LL[k]? = some (LL[k]'hlt) := List.getElem?_eq_getElem _
   generalize LL[k]'hlt = M at hfk
   have hbw := HL.out.bel
   have HBS := Lib.hid hbw.size
   obtain ⟨b, off, rfl, hb⟩ := HV.out.open_ (by omega)
   obtain ⟨A1, c1, hc0, hcl1, hcm1, hr1⟩ := HV.out.row hfk
   unfold maxLen at hcm1
   have hc1 := (hbw.cell (p := ⟨b, off + k, none⟩) hb).trans hc0
   have HR1 := Lib.hid hr1
   have hh3 : (0 : Int) ≤ (k : Int) := by omega
   have hh4 : (k : Int) < (LL.length : Int) := by omega
   have HRK : Hid (∀ bk, Runs (LL.take (k + 1)) (addR es bk k M)) := Lib.hid fun bk => HR.out.add hfk
   have hadd := add_any w (w.heap.size + 1) es wr.heap.size k M (.slice A1 M.length c1) (wr.alloc (.cells #[.slice A1 M.length c1, .int .i64 (k : Int)] 106)) (HL.out.up (bwalloc (bwrefl wr) _)) (heap_alloc_new _ _) hbw.size hr1 (by omega)
   have HADD := Lib.hid hadd
   obtain ⟨wo, hwo⟩ : ∃ wo, wo = wr := ⟨_, rfl⟩
   subst hwo
   clear hfk hbw hc0 hr1 hadd HR
   go_wp2_with (refine wpList_boxRow rfl _ (.tmp 20) rfl #[.slice A1 M.length c1, .int .i64 (k : Int)] rfl ?_)
   refine HADD.out.mono ?_
   rintro e w2 ⟨⟨u, rfl⟩, hl2, -⟩
   have HL2 := Lib.hid hl2
   clear hl2 HADD hc1
   go_wp2_with fail
   go_roundw
   case rel => exact ⟨k + 1, _, by omega, by go_num, Lib.hid (HRK.out _), HL2, by have := addR_len es wo.heap.size k M; omega⟩
   case measure => simp [intOf]; omega
  ·obtain rfl : k = LL.length := by omega
   rw [List.take_length] at HR
   have hbw := HL.out.bel
   have HO0 : Hid (OwL wr w.heap.size (.slice none 0 0) []) := Lib.hid (OwL.nil _ _)
   have HS0 : Hid (Fol [] LL ∧ allP LL = [] ++ (allP LL).filter (behind [])) := Lib.hid ⟨Fol.nil _, by
    rw [List.nil_append]
    exact (List.filter_eq_self.2 fun _ _ => rfl).symm⟩
   clear hbw
   go_wp2_with fail
   obtain ⟨wo, hwo⟩ : ∃ wo, wo = wr := ⟨_, rfl⟩
   subst hwo
   go_loopg [6] LL.flatten.length (fun n l wr => ∃ (O : List Cl) (LL2 : List (List Cl)) (es2 : List Rn), n = LL2.flatten.length ∧ Hid (Runs LL2 es2) ∧ Hid (Hl w (w.heap.size + 1) es2 wr) ∧ Hid (es2.length ≤ LL.length ∧ O.length + LL2.flatten.length ≤ LL.flatten.length) ∧ Hid (∀ M ∈ LL2, Srt M) ∧ Hid (Fol O LL2 ∧ allP LL = O ++ (allP LL2).filter (behind O)) ∧ Hid (OwL wr w.heap.size l O))
   case atStart => exact ⟨[], LL, es, rfl, HR, HL, Lib.hid ⟨hel, by simp⟩, HS, HS0, HO0⟩
   case round =>
    clear HR HL HS0 HO0 hel
    obtain ⟨O, LL2, es2, rfl, HR, HL, HLL, HSR, HF, HO⟩ := hrel
    obtain ⟨Ao, co, rfl, hco, hcmo⟩ := (HO.out.rd (S := []) (fun _ h => by cases h)).shape
    unfold maxLen at hcmo
    have hll := HLL.out
    obtain ⟨a, h1, h2, h3⟩ := HL.out
    obtain ⟨sv, hb, ho⟩ := h1.sl
    have hrl := rlen_any w a es2.length sv wr ho
    have c0 := cell_of_row _ _ 0 _ _ _ hb
    have HRL := Lib.hid hrl
    clear h1 h2 h3 hb ho hrl
    by_cases h0 : 0 < es2.length
    ·have hh0 : (0 : Int) < (es2.length : Int) := by omega
     obtain ⟨wi, hwi⟩ : ∃ wi, wi = wr := ⟨_, rfl⟩
     subst hwi
     go_wp2_with fail
     refine HRL.out.mono ?_
     rintro e w1 ⟨rfl, rfl⟩
     clear c0 HRL
     go_wp2_with fail
     refine (next_any w (w.heap.size + 1) es2 wi HL.out HR.out.one h0 (by omega)).mono ?_
     rintro e w3 ⟨x, es', hpm, hle, rfl, hl3, hk3⟩
     have hrx := HR.out.perm hpm.symm
     have HLT : Hid (Least LL2 x.place x.c x.rest) := Lib.hid (hrx.least hle)
     have HRU : Hid (Runs (LL2.set x.place x.rest) (addR es' x.blk x.place x.rest)) := Lib.hid hrx.take_
     have HLE0 : Hid ((addR es' x.blk x.place x.rest).length ≤ LL.length) := Lib.hid (by
      have e1 := addR_len es' x.blk x.place x.rest
      have e2 := hpm.length_eq
      rw [List.length_cons] at e2
      omega)
     have HSR2 : Hid (∀ M ∈ LL2.set x.place x.rest, Srt M) := Lib.hid (set_srt HSR.out HLT.out.at_)
     have HFL : Hid ((LL2.set x.place x.rest).flatten.length + 1 = LL2.flatten.length) := Lib.hid (flat_set HLT.out.at_)
     have HO3 := Lib.hid (HO.out.kt hk3)
     have HL3 := Lib.hid hl3
     clear hpm hle hl3 hk3 hrx
     go_wp2_with (refine allocC rfl rfl ?_)
     constructor
     intro w4 hI4 hb4 hz4
     go_wp2_with (refine storeC (c := x.c) rfl (.tmp 7) (.tmp 30) rfl rfl rfl hI4 ?_)
     constructor
     intro w5 hs5
     have hb5 := hs5.bel hb4 (Nat.le_refl _)
     have HI5 := Lib.hid hs5.i
     have HO5 := Lib.hid (HO3.out.below hb5)
     have HL5 := Lib.hid (HL3.out.up hb5)
     obtain ⟨d0, d1, d2, d3, d4⟩ := hs5.i.five
     clear hI4 hb4 hz4 hs5 hb5 HO3 HL3
     rcases Nat.eq_zero_or_pos O.length with hO0 | hO0
     ·have hOn := List.eq_nil_of_length_eq_zero hO0
      subst hOn
      have HNW : Hid (Fol ([] ++ [x.c]) (LL2.set x.place x.rest) ∧ allP LL = ([] ++ [x.c]) ++ (allP (LL2.set x.place x.rest)).filter (behind ([] ++ [x.c]))) := Lib.hid (by
       obtain ⟨q1, q2⟩ := step_new HLT.out HSR.out HF.out.1 HF.out.2 rfl
       exact ⟨q2, q1⟩)
      have HLE : Hid ((addR es' x.blk x.place x.rest).length ≤ LL.length ∧ ([] ++ [x.c] : List Cl).length + (LL2.set x.place x.rest).flatten.length ≤ LL.flatten.length) := Lib.hid ⟨HLE0.out, by
       have e1 := HFL.out
       have e2 := hll.2
       simp only [List.length_nil] at e2
       simp only [List.nil_append, List.length_singleton]
       omega⟩
      have hl2 : ([] : List Cl).length + [x.c].length ≤ 2199023255552 := by simp
      clear hO0
      go_wp2_with fail
      go_quiet (fail)
      have HIz := Lib.hid (HI5.out.up (bwN nq))
      have HOz := Lib.hid (HO5.out.below (bwN nq))
      have HLz := Lib.hid (HL5.out.up (bwN nq))
      generalize w5.drewN nq = wz at *
      clear d0 d1 d2 d3 d4
      have hx := RdL.one wz [] x.c (by simp) 47
      have ho2 := HOz.out.below (bwalloc (bwrefl wz) (.cells #[.string x.c.row, .string x.c.col, .int .i64 x.c.at_, .string x.c.val, .bool x.c.gone] 47))
      have hlz := HLz.out.up (bwalloc (bwrefl wz) (.cells #[.string x.c.row, .string x.c.col, .int .i64 x.c.at_, .string x.c.val, .bool x.c.gone] 47))
      have hs2 := hlz.bel.size
      have HLW := Lib.hid hlz
      obtain ⟨c0, c1, c2, c3, c4⟩ := HIz.out.five
      clear hlz
      go_wp2_with (at_builtin; refine wpList_appL rfl (.tmp 45) (.tmp 47) rfl rfl ho2 rfl hx hl2 hs2 ?_; intro v9 w9 ho9 hg9 _; have HO9 := Lib.hid ho9; have HL9 := Lib.hid (HLW.out.grownL ho2 hg9 (Nat.le_refl _)); clear ho9 hg9)
      go_roundg (LL2.set x.place x.rest).flatten.length
      case measure => have := HFL.out; omega
      case rel => exact ⟨[] ++ [x.c], LL2.set x.place x.rest, addR es' x.blk x.place x.rest, rfl, HRU, HL9, HLE, HSR2, HNW, HO9⟩
     ·obtain ⟨m, hm1⟩ : ∃ m, O.length = m + 1 := ⟨O.length - 1, by omega⟩
      have hgo : O[m]? = some (O[m]'(by omega)) := List.getElem?_eq_getElem _
      have hlast : O.getLast? = some (O[m]'(by omega)) := by
       rw [List.getLast?_eq_getElem?, show O.length - 1 = m by omega]
       exact hgo
      generalize O[m]'(by omega) = o at hgo hlast
      obtain ⟨bo, rfl, hbol, h5o⟩ := HO5.out.last hgo
      have HT : Hid (LastC bo m o w3.heap.size x.c w5 w5.drew) := Lib.hid (LastC.of h5o hbol HI5.out (Below.refl _ _).drew)
      have HU : Hid (∀ y z : World, LastC bo m o w3.heap.size x.c w5 y → Below y.heap.size y z → LastC bo m o w3.heap.size x.c w5 z) := Lib.hid fun y z hS hb => LastC.of h5o hbol HI5.out (bwstep hS.bel hb)
      have HBD : Hid ((ccmp o x.c != 0) = behind O x.c) := Lib.hid (by
       unfold behind
       rw [hlast]
       simp only
       unfold notKey
       rw [ccmp_neg o x.c]
       by_cases hq : ccmp x.c o = 0
       ·rw [hq]; rfl
       ·rw [decide_eq_false hq]
        simp
        omega)
      have HM1 := Lib.hid hm1
      have hlo : O.length ≤ 1000000 := by omega
      rw [hm1] at *
      have hx3 : (0 : Int) ≤ (m : Int) := by omega
      have hx7 : (0 : Int) < (m : Int) + 1 := by omega
      have hx4 : (m : Int) < (m : Int) + 1 := by omega
      have hw2 : IntKind.i64.wrap (m : Int) = (m : Int) := IntWalk.i64_in _ (by omega)
      have hw1 : IntKind.i64.wrap ((m : Int) + 1 - 1) = (m : Int) := by rw [Int.add_sub_cancel]; exact hw2
      have hm0 : ((m : Int) + 1 == 0) = false := by rw [beq_eq_false_iff_ne]; omega
      have hm2 : ¬ (m : Int) + 1 = 0 := by omega
      clear hgo hlast h5o
      go_wp2_with fail
      go_region_held3 (fun w' => w'.cell? ⟨bo, m * 5, none⟩ = some (.string o.row) ∧ w'.cell? ⟨bo, m * 5 + 1, none⟩ = some (.string o.col) ∧ w'.cell? ⟨bo, m * 5 + 2, none⟩ = some (.int .i64 o.at_) ∧ w'.cell? ⟨bo, m * 5 + 3, none⟩ = some (.string o.val) ∧ w'.cell? ⟨bo, m * 5 + 4, none⟩ = some (.bool o.gone) ∧ w'.cell? ⟨w3.heap.size, 0, none⟩ = some (.string x.c.row) ∧ w'.cell? ⟨w3.heap.size, 1, none⟩ = some (.string x.c.col) ∧ w'.cell? ⟨w3.heap.size, 2, none⟩ = some (.int .i64 x.c.at_) ∧ w'.cell? ⟨w3.heap.size, 3, none⟩ = some (.string x.c.val) ∧ w'.cell? ⟨w3.heap.size, 4, none⟩ = some (.bool x.c.gone) ∧ Below w5.heap.size w5 w') (first | exact HT.out | assumption | exact HU.out _ _ (by assumption) (by assumption))
       (first | (go_at_call 59; refine (compare_any o x.c _).mono ?_; rintro e wn ⟨rfl, hbn⟩))
      all_goals
       have hbn5 : Below w5.heap.size w5 wn := bwstep (Below.refl _ _).drew hbn
       have HIz := Lib.hid (HI5.out.up hbn5)
       have HOz := Lib.hid (HO5.out.below hbn5)
       have HLz := Lib.hid (HL5.out.up hbn5)
       rw [HBD.out]
       clear hbn hbn5 d0 d1 d2 d3 d4
       cases hq : behind O x.c
       ·have HNW : Hid (Fol O (LL2.set x.place x.rest) ∧ allP LL = O ++ (allP (LL2.set x.place x.rest)).filter (behind O)) := Lib.hid (by
         obtain ⟨q1, q2⟩ := step_old HLT.out HSR.out HF.out.1 HF.out.2 hq
         exact ⟨q2, q1⟩)
        have HLE : Hid ((addR es' x.blk x.place x.rest).length ≤ LL.length ∧ O.length + (LL2.set x.place x.rest).flatten.length ≤ LL.flatten.length) := Lib.hid ⟨HLE0.out, by
         have e1 := HFL.out
         have e2 := HLL.out.2
         omega⟩
        clear hq
        go_wp2_with fail
        go_roundg (LL2.set x.place x.rest).flatten.length
        case measure => have := HFL.out; omega
        case rel => exact ⟨O, LL2.set x.place x.rest, addR es' x.blk x.place x.rest, rfl, HRU, HLz, HLE, HSR2, HNW, HOz⟩
       ·have HNW : Hid (Fol (O ++ [x.c]) (LL2.set x.place x.rest) ∧ allP LL = (O ++ [x.c]) ++ (allP (LL2.set x.place x.rest)).filter (behind (O ++ [x.c]))) := Lib.hid (by
         obtain ⟨q1, q2⟩ := step_new HLT.out HSR.out HF.out.1 HF.out.2 hq
         exact ⟨q2, q1⟩)
        have HLE : Hid ((addR es' x.blk x.place x.rest).length ≤ LL.length ∧ (O ++ [x.c]).length + (LL2.set x.place x.rest).flatten.length ≤ LL.flatten.length) := Lib.hid ⟨HLE0.out, by
         have e1 := HFL.out
         have e2 := HLL.out.2
         rw [List.length_append, List.length_singleton]
         omega⟩
        have hl2 : O.length + [x.c].length ≤ 2199023255552 := by have := HM1.out; rw [List.length_singleton]; omega
        clear hq
        obtain ⟨wz, hwz⟩ : ∃ wz, wz = wn := ⟨_, rfl⟩
        subst hwz
        have hx := RdL.one wz [] x.c (by simp) 47
        have ho2 := HOz.out.below (bwalloc (bwrefl wz) (.cells #[.string x.c.row, .string x.c.col, .int .i64 x.c.at_, .string x.c.val, .bool x.c.gone] 47))
        have hlz := HLz.out.up (bwalloc (bwrefl wz) (.cells #[.string x.c.row, .string x.c.col, .int .i64 x.c.at_, .string x.c.val, .bool x.c.gone] 47))
        have hs2 := hlz.bel.size
        have HLW := Lib.hid hlz
        obtain ⟨c0, c1, c2, c3, c4⟩ := HIz.out.five
        clear hlz
        go_wp2_with (at_builtin; refine wpList_appL rfl (.tmp 45) (.tmp 47) rfl rfl ho2 rfl hx hl2 hs2 ?_; intro v9 w9 ho9 hg9 _; have HO9 := Lib.hid ho9; have HL9 := Lib.hid (HLW.out.grownL ho2 hg9 (Nat.le_refl _)); clear ho9 hg9)
        go_roundg (LL2.set x.place x.rest).flatten.length
        case measure => have := HFL.out; omega
        case rel => exact ⟨O ++ [x.c], LL2.set x.place x.rest, addR es' x.blk x.place x.rest, rfl, HRU, HL9, HLE, HSR2, HNW, HO9⟩
    ·obtain rfl : es2 = [] := List.eq_nil_of_length_eq_zero (by omega)
     have HE : Hid (O = allP LL) := Lib.hid (by
      have := HF.out.2
      rw [all_done HR.out.done] at this
      simpa using this.symm)
     have HB := Lib.hid HL.out.bel
     go_wp2_with fail
     refine HRL.out.mono ?_
     rintro e w1 ⟨rfl, rfl⟩
     go_wp2_with fail
     go_ret
     exact ⟨⟨_, rfl, HE.out ▸ HO.out⟩, HB.out⟩
end Go.Proofs.YtcpkhhbbjimdaaaGreatDoor.Ce
