/- The log on a disk, plain: its file, what its bytes say, what a promise, a vote, compacting and a crash make of it. Layer 18's acts, as slices; the law's few. Package log's contracts as one structure, over a predicate 'Own' (a log's own memory); a log on its disk; awake. Layer 18's awake, over package log's contracts. The disk under a log: reading, appending, crashing, where the log's file stands alone. -/
import Derived.Test.YtaddbhdkgneiaaaGreatVlG
import Derived.Test.YtaddbhdkgneiaaaGreatDkG
import Derived.Test.YtaddbhdkgneiaaaGreatLow
set_option maxHeartbeats 8000000
set_option maxRecDepth 100000
namespace Go.Proofs.YtaddbhdkgneiaaaGreat.Ce
open Go.RowKit
def logNm : ByteArray := ⟨#[108, 111, 103]⟩
def byt (o : Option (List UInt8)) : List UInt8 := o.getD []
def filesOf : Option (List UInt8) → List Dk.Fl
 | none => []
 | some b => [⟨logNm, b, b.length⟩]
inductive FilAt : List Dk.Fl → Option (List UInt8) → Prop
 | none : FilAt [] none
 | some (b : List UInt8) (s : Nat) (h : s ≤ b.length) : FilAt [⟨logNm, b, s⟩] (some b)
theorem FilAt.of (o : Option (List UInt8)) : FilAt (filesOf o) o := by
 cases o with
 | none => exact .none
 | some b => exact .some b _ (Nat.le_refl _)
theorem FilAt.tot {M : List Dk.Fl} {o : Option (List UInt8)} (h : FilAt M o) : Dk.total M = (byt o).length := by
 cases h <;> simp [Dk.total, byt]
theorem filesOf_tot (o : Option (List UInt8)) : Dk.total (filesOf o) = (byt o).length := (FilAt.of o).tot
structure LogWf (o : Option (List UInt8)) (g : Lg) : Prop where
 ex : ∃ R, byt o = Frm.flat R ∧ (∀ r ∈ R, r.length ≤ 65535 ∧ getS r ≠ none) ∧ g = Lg.nil.reads R
theorem LogWf.nil : LogWf none Lg.nil := ⟨[], rfl, by simp, rfl⟩
theorem one_used (g : Lg) (n : Int) (c : Vt) (k : Nat) : (g.one n c k).used = g.used + (12 + k) := by unfold Lg.one; split <;> rfl
theorem reads_used_eq : ∀ (R : List (List UInt8)) (g : Lg), (∀ r ∈ R, getS r ≠ none) → (g.reads R).used = g.used + (Frm.flat R).length
 | [], g, _ => by simp [Lg.reads, Frm.flat]
 | r :: R, g, h => by
  cases hr : getS r with
  | none => exact absurd hr (h r (by simp))
  | some p =>
   rw [Lg.reads_some (n := p.1) (c := p.2) hr, reads_used_eq R _ fun q hq => h q (by simp [hq]), one_used, Frm.flat_cons, List.length_append, Frm.frm_len]
   omega
theorem LogWf.used {o : Option (List UInt8)} {g : Lg} (h : LogWf o g) : g.used = (byt o).length := by
 obtain ⟨R, h1, h2, rfl⟩ := h.ex
 rw [reads_used_eq R _ fun r hr => (h2 r hr).2, h1]
 simp [Lg.nil]
theorem LogWf.ok {o : Option (List UInt8)} {g : Lg} (h : LogWf o g) : g.Ok := by
 obtain ⟨R, -, -, rfl⟩ := h.ex
 exact Lg.nil_ok.reads
theorem LogWf.scanned {o : Option (List UInt8)} {g : Lg} (h : LogWf o g) : ∃ R, Frm.Scanned (byt o) R [] ∧ g = Lg.nil.reads R := by
 obtain ⟨R, h1, h2, h3⟩ := h.ex
 exact ⟨R, by rw [h1]; exact Frm.scanned_flat fun r hr => (h2 r hr).1, h3⟩
theorem LogWf.app {o : Option (List UInt8)} {g : Lg} {r : List UInt8} {n : Int} {c : Vt} (h : LogWf o g) (hr : r.length ≤ 65535) (hs : Says r n c true) : LogWf (some (byt o ++ Frm.frm r)) (g.one n c r.length) := by
 obtain ⟨R, h1, h2, rfl⟩ := h.ex
 refine ⟨R ++ [r], ?_, fun q hq => ?_, ?_⟩
 ·show byt o ++ Frm.frm r = _
  rw [Frm.flat_app, Frm.flat_one, h1]
 ·rcases List.mem_append.1 hq with hq | hq
  ·exact h2 q hq
  ·rw [List.mem_singleton.1 hq]
   exact ⟨hr, by rw [getS_some hs]; intro e; cases e⟩
 ·rw [Lg.reads_snoc (fun q hq => (h2 q hq).2) (getS_some hs)]
theorem vt_short {c : Vt} (h : c.Right) : (vtB c).length ≤ 65535 := by
 have := vtB_len c
 have := h.2.2.2.2.2
 omega
def compB (g : Lg) : List UInt8 := Frm.flat (recsV g.most g.votes)
noncomputable def compG (g : Lg) : Lg := Lg.nil.reads (recsV g.most g.votes)
theorem compG_most {g : Lg} (h : g.Ok) : (compG g).most = g.most := h.compact.1
theorem compG_votes {g : Lg} (h : g.Ok) : (compG g).votes = g.votes := h.compact.2
theorem LogWf.comp {g : Lg} (h : g.Ok) : LogWf (some (compB g)) (compG g) := by
 refine ⟨recsV g.most g.votes, rfl, fun r hr => ?_, rfl⟩
 unfold recsV at hr
 rcases List.mem_append.1 hr with hr | hr
 ·split at hr
  ·rename_i hm
   rw [List.mem_singleton.1 hr]
   exact ⟨by rw [prB_len]; omega, by rw [getS_pr ⟨by omega, h.m1⟩]; intro e; cases e⟩
  ·cases hr
 ·obtain ⟨c, hc, rfl⟩ := List.mem_map.1 hr
  have hcr := (h.right c hc).1
  exact ⟨vt_short hcr, by rw [getS_vt hcr]; intro e; cases e⟩
theorem compB_again {g : Lg} (h : g.Ok) : compB (compG g) = compB g := by
 unfold compB
 rw [compG_most h, compG_votes h]
theorem reads_taken : ∀ (R : List (List UInt8)) (g : Lg), ∃ k, (∀ r ∈ R.take k, getS r ≠ none) ∧ g.reads R = g.reads (R.take k)
 | [], g => ⟨0, by simp, rfl⟩
 | r :: R, g => by
  cases hr : getS r with
  | none => exact ⟨0, by simp, by rw [Lg.reads_none hr]; rfl⟩
  | some p =>
   obtain ⟨k, h1, h2⟩ := reads_taken R (g.one p.1 p.2 r.length)
   refine ⟨k + 1, fun q hq => ?_, ?_⟩
   ·rw [List.take_succ_cons] at hq
    rcases List.mem_cons.1 hq with rfl | hq
    ·rw [hr]; intro e; cases e
    ·exact h1 q hq
   ·rw [List.take_succ_cons, Lg.reads_some (n := p.1) (c := p.2) hr, Lg.reads_some (n := p.1) (c := p.2) hr, h2]
theorem LogWf.taken {b m : List UInt8} {R : List (List UInt8)} (h : Frm.Scanned b R m) : LogWf (some (b.take (Lg.nil.reads R).used)) (Lg.nil.reads R) := by
 obtain ⟨k, h1, h2⟩ := reads_taken R Lg.nil
 refine ⟨R.take k, ?_, fun r hr => ⟨h.2.1 r (List.mem_of_mem_take hr), h1 r hr⟩, h2⟩
 show b.take _ = _
 have hu := reads_used_eq (R.take k) Lg.nil h1
 rw [h2, hu, h.1]
 conv => lhs; rw [← List.take_append_drop k R, Frm.flat_app, List.append_assoc]
 exact List.take_left' (by simp [Lg.nil])
theorem used_le {b m : List UInt8} {R : List (List UInt8)} (h : Frm.Scanned b R m) : (Lg.nil.reads R).used ≤ b.length := by
 have h1 := reads_used R Lg.nil
 rw [h.1, List.length_append]
 have : Lg.nil.used = 0 := rfl
 omega
noncomputable def openO (o : Option (List UInt8)) (R : List (List UInt8)) : Option (List UInt8) := o.map fun b => b.take (Lg.nil.reads R).used
theorem LogWf.opened {o : Option (List UInt8)} {m : List UInt8} {R : List (List UInt8)} (h : Frm.Scanned (byt o) R m) : LogWf (openO o R) (Lg.nil.reads R) := by
 cases o with
 | none =>
  have h0 : Frm.flat R = [] := by
   have := h.1
   simp only [byt, Option.getD_none] at this
   exact (List.append_eq_nil_iff.1 this.symm).1
  have hR : R = [] := by
   cases R with
   | nil => rfl
   | cons r R =>
    have := congrArg List.length h0
    rw [Frm.flat_cons, List.length_append, Frm.frm_len] at this
    simp at this
  rw [hR]
  exact LogWf.nil
 | some b => exact LogWf.taken h
theorem LogWf.again {o : Option (List UInt8)} {g : Lg} {R : List (List UInt8)} {m : List UInt8} (h : LogWf o g) (hs : Frm.Scanned (byt o) R m) : Lg.nil.reads R = g ∧ openO o R = o := by
 obtain ⟨R', h1, h2⟩ := h.scanned
 have hR := (Frm.scanned_one hs h1).1
 have hg : Lg.nil.reads R = g := by rw [hR, h2]
 refine ⟨hg, ?_⟩
 unfold openO
 rw [hg, h.used]
 cases o with
 | none => rfl
 | some b => simp [byt]
theorem srt_len : ∀ {V : List Vt} (a : Int), SrtV V → (∀ c ∈ V, a ≤ c.slot ∧ c.slot ≤ 63) → (V.length : Int) ≤ max 0 (64 - a)
 | [], a, _, _ => by simp; omega
 | c :: V, a, h, hb => by
  obtain ⟨h1, h2⟩ := List.pairwise_cons.1 h
  have hc := hb c (by simp)
  have := srt_len (V := V) (c.slot + 1) h2 fun d hd => ⟨by have := h1 d hd; omega, (hb d (by simp [hd])).2⟩
  rw [List.length_cons]
  omega
theorem Lg.Ok.len {g : Lg} (h : g.Ok) : g.votes.length ≤ 64 := by
 have := srt_len (V := g.votes) 0 h.srt fun c hc => ⟨(h.right c hc).1.1, (h.right c hc).1.2.1⟩
 omega
def vsz (V : List Vt) : Nat := (Frm.flat (V.map vtB)).length
theorem vsz_cons (c : Vt) (V : List Vt) : vsz (c :: V) = 12 + (vtB c).length + vsz V := by
 unfold vsz
 rw [List.map_cons, Frm.flat_cons, List.length_append, Frm.frm_len]
theorem vsz_put1 (c : Vt) : ∀ V : List Vt, vsz (put1V V c) ≤ 12 + (vtB c).length + vsz V
 | [] => by rw [put1V_nil, vsz_cons]; omega
 | x :: V => by
  have ih := vsz_put1 c V
  by_cases h1 : x.slot < c.slot
  ·rw [put1V_lt h1, vsz_cons, vsz_cons]; omega
  ·by_cases h2 : x.slot = c.slot
   ·rw [put1V_eq h2, vsz_cons, vsz_cons]; omega
   ·rw [put1V_gt (by omega), vsz_cons]; omega
theorem vsz_add (c : Vt) (V : List Vt) : vsz (addV V c) ≤ 12 + (vtB c).length + vsz V := by
 unfold addV
 split
 ·omega
 ·exact vsz_put1 c V
theorem vsz_reads : ∀ (R : List (List UInt8)) (g : Lg), vsz g.votes ≤ g.used → vsz (g.reads R).votes ≤ (g.reads R).used
 | [], _, h => h
 | r :: R, g, h => by
  cases hr : getS r with
  | none => rw [Lg.reads_none hr]; exact h
  | some p =>
   rw [Lg.reads_some (n := p.1) (c := p.2) hr]
   refine vsz_reads R _ ?_
   have hs := says_of (s := r) (n := p.1) (c := p.2) hr
   rw [one_used]
   generalize p.1 = n at *
   generalize p.2 = c at *
   cases hs with
   | prom _ hp =>
    rw [one_pr (by have := hp.1.1; omega)]
    simp only; omega
   | vote _ hv =>
    rw [one_vt]
    have := vsz_add c g.votes
    have hl : r.length = (vtB c).length := by rw [hv.2]
    simp only
    omega
theorem LogWf.comp_le {o : Option (List UInt8)} {g : Lg} (h : LogWf o g) : (compB g).length ≤ (byt o).length + 20 := by
 have hu := h.used
 obtain ⟨R, -, -, rfl⟩ := h.ex
 have h1 := vsz_reads R Lg.nil (by simp [vsz, Lg.nil, Frm.flat])
 unfold compB recsV
 rw [Frm.flat_app, List.length_append]
 have h2 : (Frm.flat (if 0 < (Lg.nil.reads R).most then [prB (Lg.nil.reads R).most] else [])).length ≤ 20 := by
  split
  ·rw [Frm.flat_one, Frm.frm_len, prB_len]
   omega
  ·simp [Frm.flat]
 unfold vsz at h1
 omega
inductive PromEnd (cap : Nat) (o : Option (List UInt8)) (g : Lg) (b : Int) : Int → Option (List UInt8) → Lg → Prop
 | arg (h : ¬ (PrOk b ∧ g.most < b)) : PromEnd cap o g b 1 o g
 | full (h : PrOk b ∧ g.most < b) (hf : cap < (byt o).length + 20) : PromEnd cap o g b 4 o g
 | ok (h : PrOk b ∧ g.most < b) (hf : (byt o).length + 20 ≤ cap) : PromEnd cap o g b 0 (some (byt o ++ Frm.frm (prB b))) (g.one b Vt.zero 8)
inductive VoteEnd (cap : Nat) (o : Option (List UInt8)) (g : Lg) (c : Vt) : Int → Option (List UInt8) → Lg → Prop
 | arg (h : ¬ (c.Right ∧ g.most ≤ c.ballot)) : VoteEnd cap o g c 1 o g
 | full (h : c.Right ∧ g.most ≤ c.ballot) (hf : cap < (byt o).length + (12 + (vtB c).length)) : VoteEnd cap o g c 4 o g
 | ok (h : c.Right ∧ g.most ≤ c.ballot) (hf : (byt o).length + (12 + (vtB c).length) ≤ cap) : VoteEnd cap o g c 0 (some (byt o ++ Frm.frm (vtB c))) (g.one 0 c (vtB c).length)
inductive CompEnd (cap : Nat) (o : Option (List UInt8)) (g : Lg) : Int → Option (List UInt8) → Lg → Prop
 | full (hf : cap < (byt o).length + (compB g).length) : CompEnd cap o g 4 o g
 | ok (hf : (byt o).length + (compB g).length ≤ cap) : CompEnd cap o g 0 (some (compB g)) (compG g)
theorem PromEnd.most {cap : Nat} {o o' : Option (List UInt8)} {g g' : Lg} {b E : Int} (h : PromEnd cap o g b E o' g') : g.most ≤ g'.most ∧ (byt o').length ≤ (byt o).length + 20 := by
 cases h with
 | arg h => exact ⟨Int.le_refl _, by omega⟩
 | full h hf => exact ⟨Int.le_refl _, by omega⟩
 | ok h hf =>
  rw [one_pr (by have := h.1.1; omega)]
  refine ⟨by simp only; omega, ?_⟩
  show (byt o ++ Frm.frm (prB b)).length ≤ _
  rw [List.length_append, Frm.frm_len, prB_len]
  omega
theorem VoteEnd.most {cap : Nat} {o o' : Option (List UInt8)} {g g' : Lg} {c : Vt} {E : Int} (h : VoteEnd cap o g c E o' g') : g.most ≤ g'.most ∧ (byt o').length ≤ (byt o).length + 556 := by
 cases h with
 | arg h => exact ⟨Int.le_refl _, by omega⟩
 | full h hf => exact ⟨Int.le_refl _, by omega⟩
 | ok h hf =>
  rw [one_vt]
  refine ⟨by simp only; omega, ?_⟩
  show (byt o ++ Frm.frm (vtB c)).length ≤ _
  have := vtB_len c
  have := h.1.2.2.2.2.2
  rw [List.length_append, Frm.frm_len]
  omega
theorem CompEnd.most {cap : Nat} {o o' : Option (List UInt8)} {g g' : Lg} {E : Int} (hg : g.Ok) (h : CompEnd cap o g E o' g') : g.most ≤ g'.most := by
 cases h with
 | full hf => exact Int.le_refl _
 | ok hf => rw [compG_most hg]; exact Int.le_refl _
theorem crash_filesOf (o : Option (List UInt8)) (ks : List Int) : crash (filesOf o) ks = filesOf o := by
 cases o with
 | none => rfl
 | some b =>
  show crash [⟨logNm, b, b.length⟩] ks = _
  rw [crash_skip ks (by simp [rst])]
  simp [keepF, crash, filesOf]
theorem crash_some (b : List UInt8) (s : Nat) (h : s ≤ b.length) (ks : List Int) : ∃ t, s ≤ t ∧ t ≤ b.length ∧ crash [⟨logNm, b, s⟩] ks = filesOf (some (b.take t)) := by
 have one : ∀ n, s + n ≤ b.length → ∃ t, s ≤ t ∧ t ≤ b.length ∧ [keepF ⟨logNm, b, s⟩ n] = filesOf (some (b.take t)) := fun n hn =>
  ⟨s + n, by omega, hn, by simp [keepF, filesOf, hn]⟩
 by_cases hr : rst ⟨logNm, b, s⟩ = 0
 ·obtain ⟨t, h1, h2, h3⟩ := one 0 (by omega)
  exact ⟨t, h1, h2, by rw [crash_skip ks hr]; exact h3⟩
 ·cases ks with
  | nil =>
   obtain ⟨t, h1, h2, h3⟩ := one 0 (by omega)
   exact ⟨t, h1, h2, by rw [crash_none hr]; exact h3⟩
  | cons q r =>
   have hm : q.natAbs % (rst ⟨logNm, b, s⟩ + 1) < rst ⟨logNm, b, s⟩ + 1 := Nat.mod_lt _ (by omega)
   have hz : rst ⟨logNm, b, s⟩ = b.length - s := rfl
   obtain ⟨t, h1, h2, h3⟩ := one (q.natAbs % (rst ⟨logNm, b, s⟩ + 1)) (by omega)
   exact ⟨t, h1, h2, by rw [crash_one q r hr]; exact h3⟩
theorem junk_not (torn : List UInt8) (h : torn.length ≤ 500) (t : Nat) : ¬ Frm.Whole ((0 :: 0 :: 255 :: 255 :: torn).take t) := by
 intro hw
 obtain ⟨h1, -, h3, -⟩ := hw
 have hn : numOf ((0 :: 0 :: 255 :: 255 :: torn).take t) = 65535 := by
  have h12 : 12 ≤ t := by rw [List.length_take] at h1; omega
  obtain ⟨k, rfl⟩ : ∃ k, t = k + 4 := ⟨t - 4, by omega⟩
  rw [show (0 :: 0 :: 255 :: 255 :: torn).take (k + 4) = 0 :: 0 :: 255 :: 255 :: torn.take k from by simp only [List.take_succ_cons]]
  unfold numOf
  simp
 rw [hn, List.length_take] at h3
 simp only [List.length_cons] at h3
 omega
theorem LogWf.torn {o : Option (List UInt8)} {g : Lg} (h : LogWf o g) {torn : List UInt8} (ht : torn.length ≤ 500) {t : Nat} (hl : (byt o).length ≤ t) :
  ∃ R m, Frm.Scanned ((byt o ++ (0 :: 0 :: 255 :: 255 :: torn)).take t) R m ∧ Lg.nil.reads R = g := by
 obtain ⟨R, h1, h2, h3⟩ := h.ex
 refine ⟨R, (0 :: 0 :: 255 :: 255 :: torn).take (t - (byt o).length), ⟨?_, fun r hr => (h2 r hr).1, junk_not torn ht _⟩, h3.symm⟩
 rw [List.take_append, List.take_of_length_le hl, h1]
end Go.Proofs.YtaddbhdkgneiaaaGreat.Ce
namespace Go.Proofs.YtaddbhdkgneiaaaGreat.Ce
open Go.RowKit
structure A18 where
 do_ : Int
 ballot : Int
 vote : Vt
 kx : Value
 ks : List Int
def A18.zero : A18 := ⟨0, 0, Vt.zero, .slice none 0 0, []⟩
def A18.ha (a : A18) : Option Addr := match a.kx with | .slice A _ _ => A | _ => none
def A18.hc (a : A18) : Nat := match a.kx with | .slice _ _ c => c | _ => 0
def A18.cs (a : A18) : Array Value := #[.int .i64 a.do_, .int .i64 a.ballot, .int .i64 a.vote.slot, .int .i64 a.vote.ballot, .int .i64 a.vote.origin, .bool a.vote.full, .string a.vote.bytes, .slice a.ha a.ks.length a.hc]
abbrev a8D : St.Sp A18 := ⟨36, 22, 8, 88, A18.cs, A18.zero⟩
theorem a8Ok : a8D.Ok Tryz.prog := ⟨⟨_, Tryz.underlying36, rfl⟩, by kernel_rfl, by decide, fun _ => rfl, fun x => by simp [A18.cs, Value.oneCell']⟩
structure A18.In (a : A18) (w : World) : Prop where
 e : a.kx = .slice a.ha a.ks.length a.hc
 rd : Rd w w.heap.size a.kx (a.ks.map iv)
 r : ∀ q ∈ a.ks, -9223372036854775808 ≤ q ∧ q ≤ 9223372036854775807
structure RdA18 (w : World) (v : Value) (L : List A18) : Prop where
 rd : St.RdS a8D w [] v L
 ks : ∀ a ∈ L, a.In w
theorem RdA18.bel {w w' : World} {v : Value} {L : List A18} (h : RdA18 w v L) (hb : Below w.heap.size w w') : RdA18 w' v L := ⟨h.rd.bel hb, fun a ha => ⟨(h.ks a ha).e, (h.ks a ha).rd.up hb, (h.ks a ha).r⟩⟩
structure A18At (w : World) (b off j : Nat) (a : A18) : Prop where
 c0 : w.cell? ⟨b, off + j * 8, none⟩ = some (.int .i64 a.do_)
 c1 : w.cell? ⟨b, off + j * 8 + 1, none⟩ = some (.int .i64 a.ballot)
 v : ∀ (i : Nat) (u : Value), (vtD.f a.vote)[i]? = some u → w.cell? ((⟨b, off + j * 8 + 2, none⟩ : Addr).add i) = some u
 all : ∀ (i : Nat) (u : Value), (a8D.f a)[i]? = some u → w.cell? ((⟨b, off + j * 8, none⟩ : Addr).add i) = some u
theorem vt_in_act (a : A18) {i : Nat} {u : Value} (h : (vtD.f a.vote)[i]? = some u) : (a8D.f a)[2 + i]? = some u := by
 have hi : i < 5 := (Array.getElem?_eq_some_iff.1 h).1
 have : i = 0 ∨ i = 1 ∨ i = 2 ∨ i = 3 ∨ i = 4 := by omega
 rcases this with rfl | rfl | rfl | rfl | rfl <;> exact h
theorem RdA18.at_ {w : World} {b off n c j : Nat} {a : A18} {L : List A18} (h : RdA18 w (.slice (some ⟨b, off, none⟩) n c) L) (hj : L[j]? = some a) : A18At w b off j a := by
 have hat := (h.rd.at_ a8Ok hj).1
 refine ⟨hat 0 _ rfl, hat 1 _ rfl, fun i u hu => ?_, fun i u hu => ?_⟩
 ·rw [Addr.add_lit, Nat.add_assoc]
  exact hat (2 + i) u (vt_in_act a hu)
 ·rw [Addr.add_lit]
  exact hat i u hu
def Few18 (L : List A18) : Prop := L.length ≤ 40 ∧ ∀ a ∈ L, a.vote.bytes.size ≤ 600 ∧ a.ks.length ≤ 10
def Few18End (L : List A18) (w : World) (e : Ending) (w' : World) : Prop := (∃ q : Bool, e = .returned (.bool q) ∧ (q = true → Few18 L)) ∧ w = w'
theorem few18_any (v : Value) (L : List A18) (w : World) (hv : St.RdS a8D w [] v L) : Calls Tryz.prog 7 #[v] w (Few18End L w) := by
 obtain ⟨A, c, rfl, hc, hm⟩ := hv.shape
 unfold maxLen at hm
 have HV := Lib.hid hv
 clear hv
 go_enter Tryz.func7, Tryz.ntmps7
 go_wp2_with fail
 go_loop [3] (fun i => ∃ k : Nat, k ≤ L.length ∧ k ≤ 100 ∧ i = .int .i64 (k : Int) ∧ Hid (∀ a ∈ L.take k, a.vote.bytes.size ≤ 600 ∧ a.ks.length ≤ 10)) (fun i => L.length - (intOf i).toNat)
 case atStart => exact ⟨0, Nat.zero_le _, by omega, rfl, Lib.hid (by simp)⟩
 case round =>
  obtain ⟨k, hk, hk1, rfl, HS⟩ := hrel
  by_cases hlt : k < L.length ∧ k < 100
  ·obtain ⟨hlt, hlt1⟩ := hlt
   have hfk : L[k]? = some (L[k]'hlt) := List.getElem?_eq_getElem _
   have HTK : Hid (∀ a ∈ L.take (k + 1), a ∈ L.take k ∨ a = L[k]'hlt) := Lib.hid fun a ha => by
    rw [List.take_succ_eq_append_getElem hlt, List.mem_append, List.mem_singleton] at ha
    exact ha
   generalize L[k]'hlt = f at hfk HTK
   obtain ⟨b, off, rfl, -, -, -⟩ := HV.out.open_ (by omega)
   have hat := (HV.out.at_ a8Ok hfk).1
   have c6 : w.cell? ⟨b, off + k * 8 + 6, none⟩ = some (.string f.vote.bytes) := hat 6 _ rfl
   have c7 : w.cell? ⟨b, off + k * 8 + 7, none⟩ = some (.slice f.ha f.ks.length f.hc) := hat 7 _ rfl
   have hh3 : (0 : Int) ≤ (k : Int) := by omega
   have hh4 : (k : Int) < (L.length : Int) := by omega
   have hh5 : (k : Int) < 100 := by omega
   clear hfk hat
   by_cases h1 : f.vote.bytes.size ≤ 600
   ·have g1 : ¬ (600 : Int) < (f.vote.bytes.size : Int) := by omega
    by_cases h2 : f.ks.length ≤ 10
    ·have g2 : ¬ (10 : Int) < (f.ks.length : Int) := by omega
     have HN : Hid (∀ a ∈ L.take (k + 1), a.vote.bytes.size ≤ 600 ∧ a.ks.length ≤ 10) := Lib.hid fun a ha => (HTK.out a ha).elim (HS.out a) fun e => e ▸ ⟨h1, h2⟩
     go_wp2_with fail
     go_round
     case rel => exact ⟨k + 1, by omega, by omega, by go_num, HN⟩
     case measure => simp [intOf]; omega
    ·have g2 : (10 : Int) < (f.ks.length : Int) := by omega
     go_wp2_with fail
     go_ret
     exact ⟨⟨false, rfl, fun h => by cases h⟩, rfl⟩
   ·have g1 : (600 : Int) < (f.vote.bytes.size : Int) := by omega
    go_wp2_with fail
    go_ret
    exact ⟨⟨false, rfl, fun h => by cases h⟩, rfl⟩
  ·go_wp2_with fail
   all_goals
    go_ret
    refine ⟨⟨_, rfl, fun h => ?_⟩, rfl⟩
    have h50 : L.length ≤ 40 := by
     have := of_decide_eq_true h
     omega
    have : k = L.length := by omega
    subst this
    have hs := HS.out
    rw [List.take_length] at hs
    exact ⟨h50, hs⟩
end Go.Proofs.YtaddbhdkgneiaaaGreat.Ce
namespace Go.Proofs.YtaddbhdkgneiaaaGreat.Ce
open Go.RowKit Dk
structure LDisk (w : World) (B : Nat) (d : Value) (cap : Nat) (o : Option (List UInt8)) (db mb : Nat) (L : List Fr) : Prop where
 at_ : DiskAt w B d db mb cap (byt o).length L
 fil : L.map Fr.fl = filesOf o
 cap_le : cap ≤ 65536
 len_le : (byt o).length ≤ cap
 hB : B ≤ w.heap.size
def LogAt (Own : World → Value → Nat → Lg → List Nat → Prop) (w : World) (B : Nat) (d : Value) (cap : Nat) (o : Option (List UInt8)) (lb : Nat) (g : Lg) (S : List Nat) : Prop :=
 ∃ db mb L T, LDisk w B d cap o db mb L ∧ Own w d lb g T ∧ LogWf o g ∧ (∀ k ∈ T, k ∉ fp db mb L ∧ B ≤ k) ∧ S = T ++ fp db mb L
def LogStep (Own : World → Value → Nat → Lg → List Nat → Prop) (w w' : World) (B : Nat) (d : Value) (cap : Nat) (S : List Nat) (o' : Option (List UInt8)) (lb : Nat) (g' : Lg) : Prop :=
 ∃ S', LogAt Own w' B d cap o' lb g' S' ∧ Kp S w w' ∧ ∀ k ∈ S', k ∈ S ∨ w.heap.size ≤ k
structure LogI (Own : World → Value → Nat → Lg → List Nat → Prop) : Prop where
 keep : ∀ {w w' : World} {d : Value} {lb : Nat} {g : Lg} {T : List Nat}, Own w d lb g T → (∀ k ∈ T, w'.heap[k]? = w.heap[k]?) → w.heap.size ≤ w'.heap.size → Own w' d lb g T
 lt : ∀ {w : World} {d : Value} {lb : Nat} {g : Lg} {T : List Nat}, Own w d lb g T → ∀ k ∈ T, k < w.heap.size
 open_ : ∀ {w : World} {B : Nat} {d : Value} {db mb cap : Nat} {L : List Fr} {o : Option (List UInt8)} {R : List (List UInt8)} {m : List UInt8}, DiskAt w B d db mb cap (byt o).length L → FilAt (L.map Fr.fl) o → (byt o).length ≤ cap → cap ≤ 65536 → B ≤ w.heap.size → Frm.Scanned (byt o) R m →
  Calls Tryz.prog 9 #[d] w fun e w' => ∃ lb L' T, e = .returned (.pointer (some ⟨lb, 0, none⟩)) ∧ LDisk w' B d cap (openO o R) db mb L' ∧ Own w' d lb (Lg.nil.reads R) T ∧ (∀ k ∈ T, w.heap.size ≤ k ∧ k ∉ fp db mb L') ∧ Kp (fp db mb L) w w' ∧ ∀ k ∈ fp db mb L', k ∈ fp db mb L ∨ w.heap.size ≤ k
 promised : ∀ {w : World} {B : Nat} {d : Value} {cap : Nat} {o : Option (List UInt8)} {lb : Nat} {g : Lg} {S : List Nat}, LogAt Own w B d cap o lb g S →
  Calls Tryz.prog 18 #[.pointer (some ⟨lb, 0, none⟩)] w fun e w' => e = .returned (.int .i64 g.most) ∧ Below w.heap.size w w'
 votes : ∀ {w : World} {B : Nat} {d : Value} {cap : Nat} {o : Option (List UInt8)} {lb : Nat} {g : Lg} {S : List Nat}, LogAt Own w B d cap o lb g S →
  Calls Tryz.prog 20 #[.pointer (some ⟨lb, 0, none⟩)] w fun e w' => (∃ v, e = .returned v ∧ St.OwS vtL w' w.heap.size v g.votes) ∧ Below w.heap.size w w'
 size : ∀ {w : World} {B : Nat} {d : Value} {cap : Nat} {o : Option (List UInt8)} {lb : Nat} {g : Lg} {S : List Nat}, LogAt Own w B d cap o lb g S →
  Calls Tryz.prog 21 #[.pointer (some ⟨lb, 0, none⟩)] w fun e w' => e = .returned (.int .i64 ((byt o).length : Int)) ∧ Below w.heap.size w w'
 prom : ∀ {w : World} {B : Nat} {d : Value} {cap : Nat} {o : Option (List UInt8)} {lb : Nat} {g : Lg} {S : List Nat} (b : Int), LogAt Own w B d cap o lb g S →
  Calls Tryz.prog 12 #[.pointer (some ⟨lb, 0, none⟩), .int .i64 b] w fun e w' => ∃ E o' g', e = .returned (.int .i64 E) ∧ PromEnd cap o g b E o' g' ∧ LogStep Own w w' B d cap S o' lb g'
 vote : ∀ {w : World} {B : Nat} {d : Value} {cap : Nat} {o : Option (List UInt8)} {lb : Nat} {g : Lg} {S : List Nat} (c : Vt), LogAt Own w B d cap o lb g S →
  Calls Tryz.prog 13 #[.pointer (some ⟨lb, 0, none⟩), c.v] w fun e w' => ∃ E o' g', e = .returned (.int .i64 E) ∧ VoteEnd cap o g c E o' g' ∧ LogStep Own w w' B d cap S o' lb g'
 comp : ∀ {w : World} {B : Nat} {d : Value} {cap : Nat} {o : Option (List UInt8)} {lb : Nat} {g : Lg} {S : List Nat}, LogAt Own w B d cap o lb g S →
  Calls Tryz.prog 14 #[.pointer (some ⟨lb, 0, none⟩)] w fun e w' => ∃ E o' g', e = .returned (.int .i64 E) ∧ CompEnd cap o g E o' g' ∧ LogStep Own w w' B d cap S o' lb g'
section
variable {Own : World → Value → Nat → Lg → List Nat → Prop} {w w' : World} {B : Nat} {d : Value} {cap db mb : Nat} {o o' : Option (List UInt8)} {lb : Nat} {g g' : Lg} {S S' : List Nat} {L : List Fr}
theorem LDisk.keep (h : LDisk w B d cap o db mb L) (hk : ∀ k ∈ fp db mb L, w'.heap[k]? = w.heap[k]?) (hz : w.heap.size ≤ w'.heap.size) : LDisk w' B d cap o db mb L := ⟨h.at_.keep hk, h.fil, h.cap_le, h.len_le, Nat.le_trans h.hB hz⟩
theorem LogAt.keep (I : LogI Own) (h : LogAt Own w B d cap o lb g S) (hk : ∀ k ∈ S, w'.heap[k]? = w.heap[k]?) (hz : w.heap.size ≤ w'.heap.size) : LogAt Own w' B d cap o lb g S := by
 obtain ⟨db, mb, L, T, h1, h2, h3, h4, rfl⟩ := h
 exact ⟨db, mb, L, T, h1.keep (fun k hm => hk k (by simp [hm])) hz, I.keep h2 (fun k hm => hk k (by simp [hm])) hz, h3, h4, rfl⟩
theorem LogAt.lt (I : LogI Own) (h : LogAt Own w B d cap o lb g S) : ∀ k ∈ S, k < w.heap.size := by
 obtain ⟨db, mb, L, T, h1, h2, h3, h4, rfl⟩ := h
 intro k hk
 rcases List.mem_append.1 hk with hk | hk
 ·exact I.lt h2 k hk
 ·exact h1.at_.lt k hk
theorem LogAt.ge (h : LogAt Own w B d cap o lb g S) : ∀ k ∈ S, B ≤ k := by
 obtain ⟨db, mb, L, T, h1, h2, h3, h4, rfl⟩ := h
 intro k hk
 rcases List.mem_append.1 hk with hk | hk
 ·exact (h4 k hk).2
 ·exact h1.at_.ge k hk
theorem LogAt.up (I : LogI Own) (h : LogAt Own w B d cap o lb g S) (hb : Below w.heap.size w w') : LogAt Own w' B d cap o lb g S := h.keep I (fun k hk => hb.block k (h.lt I k hk)) hb.size
theorem LogAt.wf (h : LogAt Own w B d cap o lb g S) : LogWf o g := by
 obtain ⟨db, mb, L, T, h1, h2, h3, h4, rfl⟩ := h
 exact h3
theorem LogAt.caps (h : LogAt Own w B d cap o lb g S) : cap ≤ 65536 ∧ (byt o).length ≤ cap ∧ B ≤ w.heap.size := by
 obtain ⟨db, mb, L, T, h1, h2, h3, h4, rfl⟩ := h
 exact ⟨h1.cap_le, h1.len_le, h1.hB⟩
theorem LogStep.below (h : LogStep Own w w' B d cap S o' lb g') (hg : ∀ k ∈ S, B ≤ k) (hB : B ≤ w.heap.size) : Below B w w' := by
 obtain ⟨S', -, hk, -⟩ := h
 exact hk.below hg hB
theorem LogI.again (I : LogI Own) (h : LogAt Own w B d cap o lb g S) : Calls Tryz.prog 9 #[d] w fun e w' => ∃ lb' S' S2, e = .returned (.pointer (some ⟨lb', 0, none⟩)) ∧ LogAt Own w' B d cap o lb' g S' ∧ LogAt Own w' B d cap o lb g S2 ∧ Kp S w w' ∧ (∀ k ∈ S', k ∈ S ∨ w.heap.size ≤ k) ∧ ∀ k ∈ S2, k ∈ S ∨ w.heap.size ≤ k := by
 obtain ⟨db, mb, L, T, h1, h2, h3, h4, rfl⟩ := h
 obtain ⟨R, hs, hR⟩ := h3.scanned
 refine (I.open_ h1.at_ (by rw [h1.fil]; exact FilAt.of o) h1.len_le h1.cap_le h1.hB hs).mono ?_
 rintro e w' ⟨lb', L', T', rfl, k1, k2, k3, k4, k5⟩
 obtain ⟨a1, a2⟩ := h3.again hs
 rw [a1] at k2
 rw [a2] at k1
 have hT : ∀ k ∈ T, k ∉ fp db mb L' := fun k hk hm => by
  rcases k5 k hm with hm | hm
  ·exact (h4 k hk).1 hm
  ·have := I.lt h2 k hk
   omega
 refine ⟨lb', _, _, rfl, ⟨db, mb, L', T', k1, k2, h3, fun k hk => ⟨(k3 k hk).2, Nat.le_trans h1.hB (k3 k hk).1⟩, rfl⟩, ⟨db, mb, L', T, k1, I.keep h2 (fun k hk => k4.block k (I.lt h2 k hk) (h4 k hk).1) k4.size, h3, fun k hk => ⟨hT k hk, (h4 k hk).2⟩, rfl⟩, ⟨k4.os, k4.tape, k4.output, k4.size, fun k hk hn => k4.block k hk fun hm => hn (by simp [hm])⟩, fun k hk => ?_, fun k hk => ?_⟩
 ·rcases List.mem_append.1 hk with hk | hk
  ·exact .inr (k3 k hk).1
  ·exact (k5 k hk).imp (fun h => by simp [h]) id
 ·rcases List.mem_append.1 hk with hk | hk
  ·exact .inl (by simp [hk])
  ·exact (k5 k hk).imp (fun h => by simp [h]) id
theorem LogI.fresh (I : LogI Own) (h : DiskAt w B d db mb cap 0 []) (hc : cap ≤ 65536) (hB : B ≤ w.heap.size) : Calls Tryz.prog 9 #[d] w fun e w' => ∃ lb S, e = .returned (.pointer (some ⟨lb, 0, none⟩)) ∧ LogAt Own w' B d cap none lb Lg.nil S ∧ Kp (fp db mb []) w w' ∧ Below B w w' := by
 obtain ⟨R, hs, hR⟩ := LogWf.nil.scanned
 refine (I.open_ (o := none) h FilAt.none (Nat.zero_le _) hc hB hs).mono ?_
 rintro e w' ⟨lb', L', T', rfl, k1, k2, k3, k4, k5⟩
 rw [← hR] at k2
 exact ⟨lb', _, rfl, ⟨db, mb, L', T', k1, k2, LogWf.nil, fun k hk => ⟨(k3 k hk).2, Nat.le_trans hB (k3 k hk).1⟩, rfl⟩, k4, k4.below h.ge hB⟩
end
theorem PromEnd.yes {cap : Nat} {o o' : Option (List UInt8)} {g g' : Lg} {b E : Int} (h : PromEnd cap o g b E o' g') (h1 : PrOk b ∧ g.most < b) (h2 : (byt o).length + 20 ≤ cap) : E = 0 ∧ o' = some (byt o ++ Frm.frm (prB b)) ∧ g' = g.one b Vt.zero 8 := by
 cases h with
 | arg h => exact absurd h1 h
 | full h hf => omega
 | ok h hf => exact ⟨rfl, rfl, rfl⟩
theorem VoteEnd.yes {cap : Nat} {o o' : Option (List UInt8)} {g g' : Lg} {c : Vt} {E : Int} (h : VoteEnd cap o g c E o' g') (h1 : c.Right ∧ g.most ≤ c.ballot) (h2 : (byt o).length + (12 + (vtB c).length) ≤ cap) : E = 0 ∧ o' = some (byt o ++ Frm.frm (vtB c)) ∧ g' = g.one 0 c (vtB c).length := by
 cases h with
 | arg h => exact absurd h1 h
 | full h hf => omega
 | ok h hf => exact ⟨rfl, rfl, rfl⟩
theorem CompEnd.yes {cap : Nat} {o o' : Option (List UInt8)} {g g' : Lg} {E : Int} (h : CompEnd cap o g E o' g') (h2 : (byt o).length + (compB g).length ≤ cap) : E = 0 ∧ o' = some (compB g) ∧ g' = compG g := by
 cases h with
 | full hf => omega
 | ok hf => exact ⟨rfl, rfl, rfl⟩
theorem PromEnd.no {cap : Nat} {o o' : Option (List UInt8)} {g g' : Lg} {b E : Int} (h : PromEnd cap o g b E o' g') (h1 : ¬ (PrOk b ∧ g.most < b)) : E = 1 ∧ o' = o ∧ g' = g := by
 cases h with
 | arg h => exact ⟨rfl, rfl, rfl⟩
 | full h hf => exact absurd h h1
 | ok h hf => exact absurd h h1
end Go.Proofs.YtaddbhdkgneiaaaGreat.Ce
namespace Go.Proofs.YtaddbhdkgneiaaaGreat.Ce
open Go.RowKit Dk
theorem St.In_kp {α : Type} {D : St.Sp α} {g : Nat} {x : α} {w w' : World} {S : List Nat} (h : D.In g x w) (hk : Kp S w w') (hn : g ∉ S) : D.In g x w' := h.kept (hk.block g h.lt hn)
theorem not_later {S S' : List Nat} {n g : Nat} (h : g ∉ S) (hs : ∀ k ∈ S', k ∈ S ∨ n ≤ k) (hg : g < n) : g ∉ S' := fun hm => by
 rcases hs g hm with h1 | h1
 ·exact h h1
 ·omega
theorem rvsame_self (v u : Value) (L : List Vt) (w : World) (hv : St.RdS vtL w [] v L) (hu : St.RdS vtL w [] u L) (hl : L.length ≤ 64) :
  Calls Tryz.prog 19 #[v, u] w fun e w' => e = .returned (.bool true) ∧ Below w.heap.size w w' := by
 have h := rvsame_any v u L L w hv hu (by omega)
 rw [decide_eq_true rfl] at h
 exact h
theorem rsame_self (x y : Value) (l : List UInt8) (w : World) (hx : Rd w w.heap.size x (l.map bv)) (hy : Rd w w.heap.size y (l.map bv)) :
  Calls Tryz.prog 22 #[x, y] w fun e w' => e = .returned (.bool true) ∧ Below w.heap.size w w' := by
 have h := rsame_bel x y l l _ _ w hx hy
 rw [sameB_self] at h
 exact h
def exW : Vt := ⟨1, 9, 9, false, ⟨#[120]⟩⟩
theorem exW_right : exW.Right := by decide
theorem exW_len : (vtB exW).length = 25 := by rw [vtB_len]; rfl
noncomputable def exG1 : Lg := Lg.nil.one 3 Vt.zero 8
theorem exG1_eq : exG1 = ⟨3, [], 20⟩ := by unfold exG1; rw [one_pr (by decide)]; rfl
noncomputable def exG2 : Lg := exG1.one 0 exW (vtB exW).length
theorem exG2_eq : exG2 = ⟨9, [exW], 57⟩ := by
 unfold exG2
 rw [one_vt, exG1_eq, exW_len]
 show (⟨9, addV [] exW, 57⟩ : Lg) = _
 rw [addV_last (by simp)]
 rfl
def exO1 : Option (List UInt8) := some (byt none ++ Frm.frm (prB 3))
def exO2 : Option (List UInt8) := some (byt exO1 ++ Frm.frm (vtB exW))
theorem exO1_len : (byt exO1).length = 20 := by
 show ([] ++ Frm.frm (prB 3)).length = 20
 rw [List.nil_append, Frm.frm_len, prB_len]
theorem exO2_len : (byt exO2).length = 57 := by
 show (byt exO1 ++ Frm.frm (vtB exW)).length = 57
 rw [List.length_append, exO1_len, Frm.frm_len, exW_len]
theorem awake18_ok {Own : World → Value → Nat → Lg → List Nat → Prop} (I : LogI Own) (w : World) : Calls Tryz.prog 6 #[] w fun e w' => e = .returned (.bool true) ∧ Below w.heap.size w w' := by
 have hR := exW_right
 have HO1 : Hid ((byt none).length + 20 ≤ 1000) := Lib.hid (by simp [byt])
 have HO2 : Hid ((byt exO1).length + (12 + (vtB exW).length) ≤ 1000) := Lib.hid (by rw [exO1_len, exW_len]; omega)
 have HM0 : Hid (PrOk 3 ∧ Lg.nil.most < 3) := Lib.hid (by decide)
 have HM1 : Hid (exW.Right ∧ exG1.most ≤ exW.ballot) := Lib.hid ⟨hR, by rw [exG1_eq]; decide⟩
 have HM2 : Hid (¬ (PrOk 9 ∧ exG2.most < 9)) := Lib.hid (by rw [exG2_eq]; decide)
 have HM3 : Hid (exG2.most = 9) := Lib.hid (by rw [exG2_eq])
 have HM4 : Hid (exG2.votes.length = 1) := Lib.hid (by rw [exG2_eq]; rfl)
 have HM5 : Hid ((byt exO2).length = 57) := Lib.hid exO2_len
 clear hR
 go_enter Tryz.func6, Tryz.ntmps6
 go_wp2_with fail
 refine (dnew_any 1000 _ (by omega) (by omega)).mono ?_
 rintro e w1 ⟨db, mb, rfl, hd1, hb1⟩
 have hd1 : DiskAt w1 w.heap.size (.pointer (some ⟨db, 0, none⟩)) db mb 1000 0 [] := hd1
 have hz1 := hb1.size
 go_wp2_with fail
 refine (I.fresh hd1 (by omega) hz1).mono ?_
 rintro e w2 ⟨lb, S2, rfl, hl2, -, hb2⟩
 have hw2 := hb1.trans hb2
 clear hd1 hb1 hb2 hz1
 go_wp2_with (refine St.alloc vtOk rfl rfl ?_)
 constructor
 intro w3 hI3 hb3 hz3
 have hl3 := hl2.up I hb3
 have hlt := hl2.lt I
 have hw3 := bwstep hw2 hb3
 have hz2 := hw2.size
 have HN : Hid (w2.heap.size ∉ S2) := Lib.hid fun h => by have := hlt _ h; omega
 clear hl2 hb3 hw2
 go_wp2_with (refine St.store vtOk (c := exW) rfl (.tmp 3) (.tmp 15) rfl rfl rfl hI3 ?_)
 constructor
 intro w4 hs4
 have hw4 := hs4.bel hw3 hz2
 have hl4 := hl3.keep I (fun k hk => hs4.o k (fun e => HN.out (e ▸ hk))) (Nat.le_of_eq hs4.z.symm)
 have HI4 := Lib.hid hs4.i
 have hz4 := hs4.z
 clear hs4 hI3 hl3 hw3 hlt
 go_wp2_with fail
 refine (I.prom 3 hl4).mono ?_
 rintro e w5 ⟨E, o5, g5, rfl, hE, S5, hl5, hk5, hs5⟩
 obtain ⟨rfl, rfl, rfl⟩ := hE.yes HM0.out HO1.out
 have hw5 := hw4.trans (hk5.below hl4.ge (by have := hw4.size; omega))
 have HI5 := Lib.hid (St.In_kp HI4.out hk5 HN.out)
 have HN5 : Hid (w2.heap.size ∉ S5) := Lib.hid (not_later HN.out hs5 (by omega))
 have hl5 : LogAt Own w5 w.heap.size (.pointer (some ⟨db, 0, none⟩)) 1000 exO1 lb exG1 S5 := hl5
 have hz5 := hk5.size
 clear hE hl4 hw4 hk5 hs5 HI4 HN
 go_wp2_with (refine St.load vtOk rfl (.tmp 3) rfl rfl HI5.out ?_)
 refine (I.vote exW hl5).mono ?_
 rintro e w6 ⟨E, o6, g6, rfl, hE, S6, hl6, hk6, hs6⟩
 obtain ⟨rfl, rfl, rfl⟩ := hE.yes HM1.out HO2.out
 have hw6 := hw5.trans (hk6.below hl5.ge (by have := hw5.size; omega))
 have hl6 : LogAt Own w6 w.heap.size (.pointer (some ⟨db, 0, none⟩)) 1000 exO2 lb exG2 S6 := hl6
 clear hE hl5 hw5 hk6 hs6 HI5 HN5
 go_wp2_with fail
 refine (I.prom 9 hl6).mono ?_
 rintro e w7 ⟨E, o7, g7, rfl, hE, S7, hl7, hk7, hs7⟩
 obtain ⟨rfl, rfl, rfl⟩ := hE.no HM2.out
 have hw7 := hw6.trans (hk7.below hl6.ge (by have := hw6.size; omega))
 clear hE hl6 hw6 hk7 hs7
 go_wp2_with fail
 refine (I.again hl7).mono ?_
 rintro e w8 ⟨lb2, S8, S9, rfl, hm8, hl8, hk8, -, -⟩
 have hw8 := hw7.trans (hk8.below hl7.ge (by have := hw7.size; omega))
 clear hl7 hw7 hk8 HO1 HO2 HM0 HM1 HM2
 go_wp2_with fail
 have hp := I.promised hm8
 rw [HM3.out] at hp
 refine hp.mono ?_
 rintro e w9 ⟨rfl, hb9⟩
 have hm9 := hm8.up I hb9
 have hl9 := hl8.up I hb9
 have hw9 := bwstep hw8 hb9
 clear hp hm8 hl8 hw8 hb9
 go_wp2_with fail
 refine (I.votes hm9).mono ?_
 rintro e w10 ⟨⟨v, rfl, hv⟩, hb10⟩
 obtain ⟨A, cp, rfl, -, -⟩ := (hv.rd (S := []) (by simp)).shape
 rw [HM4.out]
 have hl10 := hl9.up I hb10
 have hw10 := bwstep hw9 hb10
 clear hm9 hl9 hw9 hb10 hv
 go_wp2_with fail
 have hp := I.size hl10
 rw [HM5.out] at hp
 refine hp.mono ?_
 rintro e w11 ⟨rfl, hb11⟩
 have hl11 := hl10.up I hb11
 have hw11 := bwstep hw10 hb11
 clear hp hl10 hw10 hb11
 go_wp2_with fail
 refine (I.comp hl11).mono ?_
 rintro e w12 ⟨E, o12, g12, rfl, hE, S12, hl12, hk12, hs12⟩
 obtain ⟨rfl, rfl, rfl⟩ := hE.yes (by have := hl11.wf.comp_le; have := HM5.out; omega)
 have hw12 := hw11.trans (hk12.below hl11.ge (by have := hw11.size; omega))
 clear hE hl11 hw11 hk12 hs12 hl12
 go_wp2_with fail
 go_ret
 exact ⟨rfl, hw12⟩
end Go.Proofs.YtaddbhdkgneiaaaGreat.Ce
namespace Go.Proofs.YtaddbhdkgneiaaaGreat.Ce
open Go.RowKit Dk
theorem logNm_key (f : Fr) (h : f.fl.nm = logNm) : fk f = logNm.data.toList := by show f.fl.nm.data.toList = _; rw [h]
theorem fnd_log {L : List Fr} {b : List UInt8} {s : Nat} (h : L.map Fr.fl = [⟨logNm, b, s⟩]) : ∃ f, L = [f] ∧ f.fl = ⟨logNm, b, s⟩ ∧ Dk.fnd fk logNm.data.toList L = some f := by
 cases L with
 | nil => cases h
 | cons f L =>
  rw [List.map_cons, List.cons.injEq] at h
  obtain ⟨h, h2⟩ := h
  obtain rfl := List.map_eq_nil_iff.1 h2
  refine ⟨f, rfl, h, ?_⟩
  unfold Dk.fnd
  rw [List.find?_cons_of_pos]
  simp [logNm_key f (by rw [h])]
theorem fnd_log0 {L : List Fr} (h : L.map Fr.fl = []) : L = [] := List.map_eq_nil_iff.1 h
theorem LDisk.read_any {w : World} {B : Nat} {d : Value} {cap : Nat} {o : Option (List UInt8)} {db mb : Nat} {L : List Fr} (h : LDisk w B d cap o db mb L) :
  Calls Tryz.prog 17 #[d, .string logNm] w fun e w' => (∃ v E, e = .returned (.tuple #[v, .int .i64 E]) ∧ Ow w' w.heap.size 5 v ((byt o).map bv)) ∧ Below w.heap.size w w' := by
 have hf := h.fil
 cases o with
 | none =>
  obtain rfl := fnd_log0 hf
  refine (read_no h.at_ logNm (by decide) rfl).mono ?_
  rintro e w' ⟨rfl, rfl⟩
  exact ⟨⟨_, _, rfl, Ow.nil _ _ _⟩, Below.refl _ _⟩
 | some b =>
  obtain ⟨f, rfl, hfl, hff⟩ := fnd_log hf
  have hlen := h.len_le
  have hcap := h.cap_le
  have hbl : (byt (some b)).length = b.length := rfl
  have hl : f.fl.l = b := by rw [hfl]
  refine (read_ok h.at_ logNm (by decide) (by simp) hff (by rw [hl]; omega)).mono ?_
  rintro e w' ⟨⟨v, rfl, ho⟩, hb⟩
  rw [hl] at ho
  exact ⟨⟨_, _, rfl, ho⟩, hb⟩
theorem LDisk.names_any {w : World} {B : Nat} {d : Value} {cap : Nat} {o : Option (List UInt8)} {db mb : Nat} {L : List Fr} (h : LDisk w B d cap o db mb L) (ho : o ≠ none) :
  Calls Tryz.prog 24 #[d] w fun e w' => (∃ A c, e = .returned (.slice A 1 c)) ∧ Below w.heap.size w w' := by
 have hf := h.fil
 cases o with
 | none => exact absurd rfl ho
 | some b =>
  obtain ⟨f, rfl, hfl, hff⟩ := fnd_log hf
  refine (Go.Proofs.YtaddbhdkgneiaaaGreat.names_any h.at_ (by simp)).mono ?_
  rintro e w' ⟨⟨v, rfl, ho⟩, hb⟩
  obtain ⟨A, c, rfl, -, -⟩ := ho.rd.shapeM
  exact ⟨⟨A, c, by simp⟩, hb⟩
structure DkAt (w : World) (B : Nat) (d : Value) (cap : Nat) (M : List Dk.Fl) (db mb : Nat) (L : List Fr) : Prop where
 at_ : DiskAt w B d db mb cap (Dk.total M) L
 fil : L.map Fr.fl = M
 cap_le : cap ≤ 65536
 len_le : Dk.total M ≤ cap
 hB : B ≤ w.heap.size
def DkStep (w w' : World) (B : Nat) (d : Value) (cap db mb : Nat) (L : List Fr) (M' : List Dk.Fl) : Prop :=
 ∃ L', DkAt w' B d cap M' db mb L' ∧ Kp (fp db mb L) w w' ∧ ∀ k ∈ fp db mb L', k ∈ fp db mb L ∨ w.heap.size ≤ k
theorem LDisk.dk {w : World} {B : Nat} {d : Value} {cap : Nat} {o : Option (List UInt8)} {db mb : Nat} {L : List Fr} (h : LDisk w B d cap o db mb L) : DkAt w B d cap (filesOf o) db mb L :=
 ⟨by rw [filesOf_tot]; exact h.at_, h.fil, h.cap_le, by rw [filesOf_tot]; exact h.len_le, h.hB⟩
theorem DkAt.ld {w : World} {B : Nat} {d : Value} {cap : Nat} {o : Option (List UInt8)} {db mb : Nat} {L : List Fr} (h : DkAt w B d cap (filesOf o) db mb L) : LDisk w B d cap o db mb L :=
 ⟨by have := h.at_; rwa [filesOf_tot] at this, h.fil, h.cap_le, by have := h.len_le; rwa [filesOf_tot] at this, h.hB⟩
theorem fil_put {M : List Dk.Fl} {o : Option (List UInt8)} (h : FilAt M o) (l : List UInt8) : ∃ s, s ≤ (byt o).length ∧ Dk.put Dk.key { opF logNm M with l := (opF logNm M).l ++ l } (opL logNm M) = [⟨logNm, byt o ++ l, s⟩] ∧ (M = filesOf o → s = (byt o).length) := by
 cases h with
 | none => exact ⟨0, by simp, rfl, fun _ => rfl⟩
 | some b s hs =>
  refine ⟨s, hs, ?_, fun h => ?_⟩
  ·have e : Dk.fnd Dk.key logNm.data.toList [(⟨logNm, b, s⟩ : Dk.Fl)] = some ⟨logNm, b, s⟩ := rfl
   have e1 : opF logNm [(⟨logNm, b, s⟩ : Dk.Fl)] = ⟨logNm, b, s⟩ := by unfold opF; rw [e]; rfl
   have e2 : opL logNm [(⟨logNm, b, s⟩ : Dk.Fl)] = [⟨logNm, b, s⟩] := by unfold opL; rw [e]; rfl
   rw [e1, e2]
   rfl
  ·simp only [filesOf, List.cons.injEq, Dk.Fl.mk.injEq, true_and, and_true] at h
   exact h
theorem DkAt.append {w : World} {B : Nat} {d : Value} {cap : Nat} {M : List Dk.Fl} {o : Option (List UInt8)} {db mb : Nat} {L : List Fr} (h : DkAt w B d cap M db mb L) (hf : FilAt M o) {x : Value} {l : List UInt8} (hx : RdS w (fp db mb L) x l) (hl : l.length ≤ 1000000) :
  Calls Tryz.prog 23 #[d, .string logNm, x] w fun e w' => ∃ E M', e = .returned (.int .i64 E) ∧ DkStep w w' B d cap db mb L M' ∧
   ((E = 4 ∧ M' = M ∧ cap < (byt o).length + l.length) ∨ (E = 0 ∧ (byt o).length + l.length ≤ cap ∧ ∃ s, s ≤ (byt o).length ∧ M' = [⟨logNm, byt o ++ l, s⟩] ∧ (M = filesOf o → s = (byt o).length))) := by
 have htot := hf.tot
 have hcap := h.cap_le
 have hlen := h.len_le
 by_cases hfull : cap < Dk.total M + l.length
 ·refine (append_full h.at_ logNm (by decide) l hx.1 (by omega) hlen hfull).mono ?_
  rintro e w' ⟨rfl, hb⟩
  exact ⟨4, M, rfl, ⟨L, ⟨h.at_.below hb, h.fil, hcap, hlen, Nat.le_trans h.hB hb.size⟩, Kp.of_below hb _, fun k hk => .inl hk⟩, .inl ⟨rfl, rfl, by omega⟩⟩
 ·have hL : L.length ≤ 1 := by
   have := congrArg List.length h.fil
   rw [List.length_map] at this
   rw [this]
   cases hf <;> simp
  obtain ⟨s, hs, hput, hsy⟩ := fil_put hf l
  have hz : (opF logNm (L.map Fr.fl)).l.length ≤ 1000000000 := by
   rw [h.fil]
   cases hf with
   | none => simp [opF, Dk.fnd]
   | some b s hs' =>
    have e : Dk.fnd Dk.key logNm.data.toList [(⟨logNm, b, s⟩ : Dk.Fl)] = some ⟨logNm, b, s⟩ := rfl
    unfold opF
    rw [e]
    simp only [byt, Option.getD_some] at htot
    show b.length ≤ _
    omega
  refine (append_ok h.at_ (by omega) h.hB logNm (by decide) (by decide) l hx hcap (by omega) hz).mono ?_
  rintro e w' ⟨rfl, L', hst, hL'⟩
  rw [h.fil, hput] at hL'
  have ht : Dk.total [(⟨logNm, byt o ++ l, s⟩ : Dk.Fl)] = Dk.total M + l.length := by rw [htot]; simp [Dk.total]
  exact ⟨0, _, rfl, ⟨L', ⟨by rw [ht]; exact hst.at_, hL', hcap, by omega, Nat.le_trans h.hB hst.kp.size⟩, hst.kp, hst.sub⟩, .inr ⟨rfl, by omega, s, hs, rfl, hsy⟩⟩
theorem DkAt.crash {w : World} {B : Nat} {d kv : Value} {cap : Nat} {M : List Dk.Fl} {o : Option (List UInt8)} {db mb : Nat} {L : List Fr} {ks : List Int} (h : DkAt w B d cap M db mb L) (hf : FilAt M o) (hk : RdV w (fp db mb L) kv (ks.map iv)) (hw : ∀ q ∈ ks, inR q) :
  Calls Tryz.prog 15 #[d, kv] w fun e w' => e = .returned (.tuple #[]) ∧ DkStep w w' B d cap db mb L (Go.Proofs.YtaddbhdkgneiaaaGreat.crash M ks) := by
 have htot := hf.tot
 have hcap := h.cap_le
 have hlen := h.len_le
 have hL : L.length ≤ 1 := by
  have := congrArg List.length h.fil
  rw [List.length_map] at this
  rw [this]
  cases hf <;> simp
 have hall : ∀ f ∈ L, f.fl ∈ M := fun f hf => by rw [← h.fil]; exact List.mem_map.2 ⟨f, hf, rfl⟩
 have hM : ∀ x ∈ M, x.nm.size ≤ 1000000000 ∧ x.s ≤ x.l.length := fun x hx => by
  cases hf with
  | none => cases hx
  | some b s hs =>
   rw [List.mem_singleton.1 hx]
   exact ⟨by show logNm.size ≤ _; decide, hs⟩
 have hle : Dk.total (Go.Proofs.YtaddbhdkgneiaaaGreat.crash M ks) ≤ Dk.total M := by
  cases hf with
  | none => simp [Go.Proofs.YtaddbhdkgneiaaaGreat.crash]
  | some b s hs =>
   obtain ⟨t, h1, h2, h3⟩ := crash_some b s hs ks
   rw [h3, filesOf_tot]
   simp [byt, Dk.total]
   omega
 refine (crash_any h.at_ (by omega) h.hB (fun f hf => (hM _ (hall f hf)).1) (by rw [h.fil]) (by omega) (fun f hf => (hM _ (hall f hf)).2) hk hw).mono ?_
 rintro e w' ⟨rfl, L', hst, hL'⟩
 rw [h.fil] at hL'
 have ha := hst.at_
 rw [hL'] at ha
 exact ⟨rfl, L', ⟨ha, hL', hcap, Nat.le_trans hle hlen, Nat.le_trans h.hB hst.kp.size⟩, hst.kp, hst.sub⟩
end Go.Proofs.YtaddbhdkgneiaaaGreat.Ce
