/- Cells as plain records: when one is right, how two compare, lists of them in order. Plain. Cells as values: a variable that holds one (boxed, made, loaded, stored, handed back), '==' of two, slices of them (read, owned, grown). The contracts of Right and Compare of package cell, and of the reference's; of cmp's functions. The contracts of Compare of package cell, and of the reference's. The contracts of the reference's Text and Compare of layer 8. '!=' of two cells. -/
import Derived.Test.YtcpkhhbbjimdaaaGreatDoorLow
import Derived.Sort.Walk0
import Derived.Test.YtcpkhhbbjimdaaaGreatDoorBase
import Derived.Laws.StructEq
import Derived.Deep.RegionHeld3
import Derived.BigQuiet
set_option maxHeartbeats 8000000
set_option maxRecDepth 100000
namespace Go.Proofs.YtcpkhhbbjimdaaaGreatDoor.Ce
open Go.RowKit
structure Cl where
 row : ByteArray
 col : ByteArray
 at_ : Int
 val : ByteArray
 gone : Bool
theorem Cl.ext' {a b : Cl} (h1 : a.row = b.row) (h2 : a.col = b.col) (h3 : a.at_ = b.at_) (h4 : a.val = b.val) (h5 : a.gone = b.gone) : a = b := by
 cases a; cases b
 simp only at h1 h2 h3 h4 h5
 subst h1 h2 h3 h4 h5
 rfl
instance : DecidableEq Cl := fun a b => decidable_of_iff (a.row = b.row ∧ a.col = b.col ∧ a.at_ = b.at_ ∧ a.val = b.val ∧ a.gone = b.gone)
 ⟨fun ⟨h1, h2, h3, h4, h5⟩ => Cl.ext' h1 h2 h3 h4 h5, fun h => by subst h; exact ⟨rfl, rfl, rfl, rfl, rfl⟩⟩
def Cl.zero : Cl := ⟨⟨#[]⟩, ⟨#[]⟩, 0, ⟨#[]⟩, false⟩
structure Cl.ok (c : Cl) : Prop where
 r1 : 1 ≤ c.row.size
 r2 : c.row.size ≤ 64
 c1 : 1 ≤ c.col.size
 c2 : c.col.size ≤ 64
 a1 : 0 ≤ c.at_
 a2 : c.at_ ≤ 4294967295
 v : c.val.size ≤ 256
 g : c.gone = true → c.val.size = 0
theorem Cl.ok_iff {c : Cl} : c.ok ↔ (1 ≤ c.row.size ∧ c.row.size ≤ 64) ∧ (1 ≤ c.col.size ∧ c.col.size ≤ 64) ∧ (0 ≤ c.at_ ∧ c.at_ ≤ 4294967295) ∧ c.val.size ≤ 256 ∧ (c.gone = true → c.val.size = 0) :=
 ⟨fun h => ⟨⟨h.r1, h.r2⟩, ⟨h.c1, h.c2⟩, ⟨h.a1, h.a2⟩, h.v, h.g⟩, fun ⟨⟨a, b⟩, ⟨c, d⟩, ⟨e, f⟩, g, h⟩ => ⟨a, b, c, d, e, f, g, h⟩⟩
instance (c : Cl) : Decidable c.ok := decidable_of_iff _ Cl.ok_iff.symm
def scmp (a b : List UInt8) : Int := if a < b then -1 else if b < a then 1 else 0
def icmp (a b : Int) : Int := if a < b then -1 else if b < a then 1 else 0
def or3 (a b c : Int) : Int := if a ≠ 0 then a else if b ≠ 0 then b else c
def ccmp (a b : Cl) : Int := or3 (scmp a.row.data.toList b.row.data.toList) (scmp a.col.data.toList b.col.data.toList) (icmp b.at_ a.at_)
theorem ba_ext {a b : ByteArray} (h : a.data.toList = b.data.toList) : a = b := by
 cases a; cases b
 congr 1
 exact Array.toList_inj.1 h
theorem scmp_cases (a b : List UInt8) : (scmp a b = -1 ∧ a < b) ∨ (scmp a b = 0 ∧ a = b) ∨ (scmp a b = 1 ∧ b < a) := by
 unfold scmp
 by_cases h1 : a < b
 ·exact .inl ⟨by simp [h1], h1⟩
 ·by_cases h2 : b < a
  ·exact .inr (.inr ⟨by simp [h1, h2], h2⟩)
  ·refine .inr (.inl ⟨by simp [h1, h2], ?_⟩)
   exact List.le_antisymm (List.not_lt.1 h2) (List.not_lt.1 h1)
theorem scmp_self (a : List UInt8) : scmp a a = 0 := by
 unfold scmp
 simp [List.lt_irrefl]
theorem scmp_lt {a b : List UInt8} (h : a < b) : scmp a b = -1 := by unfold scmp; simp [h]
theorem scmp_gt {a b : List UInt8} (h : b < a) : scmp a b = 1 := by
 unfold scmp
 rw [if_neg (fun k => List.lt_irrefl a (List.lt_trans k h)), if_pos h]
theorem icmp_cases (a b : Int) : (icmp a b = -1 ∧ a < b) ∨ (icmp a b = 0 ∧ a = b) ∨ (icmp a b = 1 ∧ b < a) := by
 unfold icmp
 by_cases h1 : a < b
 ·exact .inl ⟨by simp [h1], h1⟩
 ·by_cases h2 : b < a
  ·exact .inr (.inr ⟨by simp [h1, h2], h2⟩)
  ·exact .inr (.inl ⟨by simp [h1, h2], by omega⟩)
def klt (a b : Cl) : Prop := a.row.data.toList < b.row.data.toList ∨ (a.row = b.row ∧ (a.col.data.toList < b.col.data.toList ∨ (a.col = b.col ∧ b.at_ < a.at_)))
def keq (a b : Cl) : Prop := a.row = b.row ∧ a.col = b.col ∧ a.at_ = b.at_
theorem ccmp_cases (a b : Cl) : (ccmp a b = -1 ∧ klt a b) ∨ (ccmp a b = 0 ∧ keq a b) ∨ (ccmp a b = 1 ∧ klt b a) := by
 unfold ccmp or3
 rcases scmp_cases a.row.data.toList b.row.data.toList with ⟨h1, k1⟩ | ⟨h1, k1⟩ | ⟨h1, k1⟩
 ·exact .inl ⟨by rw [h1]; rfl, .inl k1⟩
 ·have e1 := ba_ext k1
  rcases scmp_cases a.col.data.toList b.col.data.toList with ⟨h2, k2⟩ | ⟨h2, k2⟩ | ⟨h2, k2⟩
  ·exact .inl ⟨by rw [h1, h2]; rfl, .inr ⟨e1, .inl k2⟩⟩
  ·have e2 := ba_ext k2
   rcases icmp_cases b.at_ a.at_ with ⟨h3, k3⟩ | ⟨h3, k3⟩ | ⟨h3, k3⟩
   ·exact .inl ⟨by rw [h1, h2, h3]; rfl, .inr ⟨e1, .inr ⟨e2, k3⟩⟩⟩
   ·exact .inr (.inl ⟨by rw [h1, h2, h3]; rfl, e1, e2, k3.symm⟩)
   ·exact .inr (.inr ⟨by rw [h1, h2, h3]; rfl, .inr ⟨e1.symm, .inr ⟨e2.symm, k3⟩⟩⟩)
  ·exact .inr (.inr ⟨by rw [h1, h2]; rfl, .inr ⟨e1.symm, .inl k2⟩⟩)
 ·exact .inr (.inr ⟨by rw [h1]; rfl, .inl k1⟩)
theorem klt_irrefl (a : Cl) : ¬ klt a a := by
 rintro (h | ⟨-, h | ⟨-, h⟩⟩)
 ·exact List.lt_irrefl _ h
 ·exact List.lt_irrefl _ h
 ·omega
theorem klt_trans {a b c : Cl} (h : klt a b) (k : klt b c) : klt a c := by
 unfold klt at *
 rcases h with h | ⟨e1, h⟩
 ·rcases k with k | ⟨e2, -⟩
  ·exact .inl (List.lt_trans h k)
  ·rw [e2] at h
   exact .inl h
 ·rcases k with k | ⟨e2, k⟩
  ·rw [← e1] at k
   exact .inl k
  ·refine .inr ⟨e1.trans e2, ?_⟩
   rcases h with h | ⟨e3, h⟩
   ·rcases k with k | ⟨e4, -⟩
    ·exact .inl (List.lt_trans h k)
    ·rw [e4] at h
     exact .inl h
   ·rcases k with k | ⟨e4, k⟩
    ·rw [← e3] at k
     exact .inl k
    ·exact .inr ⟨e3.trans e4, by omega⟩
theorem klt_eq {a b c : Cl} (h : klt a b) (k : keq b c) : klt a c := by
 obtain ⟨k1, k2, k3⟩ := k
 unfold klt at *
 rw [← k1, ← k2, ← k3]
 exact h
theorem eq_klt {a b c : Cl} (h : keq a b) (k : klt b c) : klt a c := by
 obtain ⟨k1, k2, k3⟩ := h
 unfold klt at *
 rw [k1, k2, k3]
 exact k
theorem keq_symm {a b : Cl} (h : keq a b) : keq b a := ⟨h.1.symm, h.2.1.symm, h.2.2.symm⟩
theorem keq_trans {a b c : Cl} (h : keq a b) (k : keq b c) : keq a c := ⟨h.1.trans k.1, h.2.1.trans k.2.1, h.2.2.trans k.2.2⟩
theorem klt_neq {a b : Cl} (h : klt a b) : ¬ keq a b := fun k => klt_irrefl b (eq_klt (keq_symm k) h)
theorem ccmp_lt {a b : Cl} : ccmp a b = -1 ↔ klt a b := by
 refine ⟨fun h => ?_, fun h => ?_⟩
 ·rcases ccmp_cases a b with ⟨e, k⟩ | ⟨e, k⟩ | ⟨e, k⟩
  ·exact k
  ·omega
  ·omega
 ·rcases ccmp_cases a b with ⟨e, k⟩ | ⟨e, k⟩ | ⟨e, k⟩
  ·exact e
  ·exact absurd k (klt_neq h)
  ·exact absurd (klt_trans h k) (klt_irrefl _)
theorem ccmp_eq {a b : Cl} : ccmp a b = 0 ↔ keq a b := by
 refine ⟨fun h => ?_, fun h => ?_⟩
 ·rcases ccmp_cases a b with ⟨e, k⟩ | ⟨e, k⟩ | ⟨e, k⟩
  ·omega
  ·exact k
  ·omega
 ·rcases ccmp_cases a b with ⟨e, k⟩ | ⟨e, k⟩ | ⟨e, k⟩
  ·exact absurd h (klt_neq k)
  ·exact e
  ·exact absurd (keq_symm h) (klt_neq k)
theorem ccmp_gt {a b : Cl} : ccmp a b = 1 ↔ klt b a := by
 refine ⟨fun h => ?_, fun h => ?_⟩
 ·rcases ccmp_cases a b with ⟨e, k⟩ | ⟨e, k⟩ | ⟨e, k⟩
  ·omega
  ·omega
  ·exact k
 ·rcases ccmp_cases a b with ⟨e, k⟩ | ⟨e, k⟩ | ⟨e, k⟩
  ·exact absurd (klt_trans h k) (klt_irrefl _)
  ·exact absurd (keq_symm k) (klt_neq h)
  ·exact e
theorem ccmp_neg (a b : Cl) : ccmp a b = -ccmp b a := by
 rcases ccmp_cases a b with ⟨e, k⟩ | ⟨e, k⟩ | ⟨e, k⟩
 ·rw [e, ccmp_gt.2 k]
 ·rw [e, ccmp_eq.2 (keq_symm k)]; rfl
 ·rw [e, ccmp_lt.2 k]; rfl
theorem klt_total {a b : Cl} (h : ¬ klt a b) (k : ¬ keq a b) : klt b a := by
 rcases ccmp_cases a b with ⟨e, q⟩ | ⟨e, q⟩ | ⟨e, q⟩
 ·exact absurd q h
 ·exact absurd q k
 ·exact q
def Srt (L : List Cl) : Prop := L.Pairwise klt
def sortedTo (L : List Cl) (k : Nat) : Prop := (∀ j c, j < k → L[j]? = some c → c.ok) ∧ (∀ j c d, j + 1 < k → L[j]? = some c → L[j + 1]? = some d → klt c d)
def Sorted (L : List Cl) : Prop := sortedTo L L.length
instance (a b : Cl) : Decidable (klt a b) := decidable_of_iff _ ccmp_lt
theorem srt_of_next : ∀ {L : List Cl}, (∀ j c d, L[j]? = some c → L[j + 1]? = some d → klt c d) → Srt L
 | [], _ => List.Pairwise.nil
 | [a], _ => List.pairwise_singleton _ _
 | a :: b :: L, h => by
  have ih : Srt (b :: L) := srt_of_next fun j c d hc hd => h (j + 1) c d (by simpa using hc) (by simpa using hd)
  have hab : klt a b := h 0 a b rfl rfl
  refine List.pairwise_cons.2 ⟨fun x hx => ?_, ih⟩
  rcases List.mem_cons.1 hx with rfl | hx
  ·exact hab
  ·exact klt_trans hab ((List.pairwise_cons.1 ih).1 x hx)
theorem srt_at {L : List Cl} (h : Srt L) {i j : Nat} {c d : Cl} (hij : i < j) (hc : L[i]? = some c) (hd : L[j]? = some d) : klt c d := by
 obtain ⟨h1, rfl⟩ := List.getElem?_eq_some_iff.1 hc
 obtain ⟨h2, rfl⟩ := List.getElem?_eq_some_iff.1 hd
 exact List.pairwise_iff_getElem.1 h i j h1 h2 hij
theorem sorted_iff {L : List Cl} : Sorted L ↔ (∀ c ∈ L, c.ok) ∧ Srt L := by
 refine ⟨fun h => ⟨fun c hc => ?_, srt_of_next fun j c d hc hd => h.2 j c d (List.getElem?_eq_some_iff.1 hd).1 hc hd⟩, fun h => ⟨fun j c _ hc => h.1 c (List.mem_of_getElem? hc), fun j c d _ hc hd => srt_at h.2 (Nat.lt_succ_self j) hc hd⟩⟩
 obtain ⟨j, hj⟩ := List.getElem?_of_mem hc
 exact h.1 j c (List.getElem?_eq_some_iff.1 hj).1 hj
theorem sortedTo_succ {L : List Cl} {k : Nat} {c : Cl} (h : sortedTo L k) (hc : L[k]? = some c) (hok : c.ok) (hn : ∀ b, 0 < k → L[k - 1]? = some b → klt b c) : sortedTo L (k + 1) := by
 refine ⟨fun j d hj hd => ?_, fun j d e hj hd he => ?_⟩
 ·by_cases hjk : j = k
  ·subst hjk
   rw [hc] at hd
   injection hd with hd
   exact hd ▸ hok
  ·exact h.1 j d (by omega) hd
 ·by_cases hjk : j + 1 = k
  ·subst hjk
   rw [hc] at he
   injection he with he
   subst he
   exact hn d (by omega) (by simpa using hd)
  ·exact h.2 j d e (by omega) hd he
theorem not_sorted_ok {L : List Cl} {k : Nat} {c : Cl} (hc : L[k]? = some c) (h : ¬ c.ok) : ¬ Sorted L := fun hs => h (hs.1 k c (List.getElem?_eq_some_iff.1 hc).1 hc)
theorem not_sorted_lt {L : List Cl} {k : Nat} {b c : Cl} (hb : L[k]? = some b) (hc : L[k + 1]? = some c) (h : ¬ klt b c) : ¬ Sorted L := fun hs => h (hs.2 k b c (List.getElem?_eq_some_iff.1 hc).1 hb hc)
noncomputable def sortedB (L : List Cl) : Bool := @decide (Sorted L) (Classical.propDecidable _)
theorem sortedB_true {L : List Cl} (h : Sorted L) : sortedB L = true := by unfold sortedB; simpa using h
theorem sortedB_false {L : List Cl} (h : ¬ Sorted L) : sortedB L = false := by unfold sortedB; simpa using h
def put1 (c : Cl) : List Cl → List Cl
 | [] => [c]
 | d :: r => if ccmp d c = -1 then d :: put1 c r else if ccmp d c = 0 then c :: r else c :: d :: r
theorem mem_put1 {c x : Cl} : ∀ {L : List Cl}, x ∈ put1 c L → x = c ∨ x ∈ L
 | [], h => by simpa [put1] using h
 | d :: r, h => by
  unfold put1 at h
  split at h
  ·rcases List.mem_cons.1 h with rfl | h
   ·exact .inr (by simp)
   ·rcases mem_put1 h with h | h
    ·exact .inl h
    ·exact .inr (by simp [h])
  ·split at h
   ·rcases List.mem_cons.1 h with h | h
    ·exact .inl h
    ·exact .inr (by simp [h])
   ·rcases List.mem_cons.1 h with h | h
    ·exact .inl h
    ·exact .inr h
theorem srt_put1 {c : Cl} : ∀ {L : List Cl}, Srt L → Srt (put1 c L)
 | [], _ => List.pairwise_singleton _ _
 | d :: r, h => by
  obtain ⟨h1, h2⟩ := List.pairwise_cons.1 h
  unfold put1
  rcases ccmp_cases d c with ⟨e, k⟩ | ⟨e, k⟩ | ⟨e, k⟩
  ·rw [if_pos e]
   refine List.pairwise_cons.2 ⟨fun x hx => ?_, srt_put1 h2⟩
   rcases mem_put1 hx with rfl | hx
   ·exact k
   ·exact h1 x hx
  ·rw [if_neg (by omega), if_pos e]
   exact List.pairwise_cons.2 ⟨fun x hx => eq_klt (keq_symm k) (h1 x hx), h2⟩
  ·rw [if_neg (by omega), if_neg (by omega)]
   refine List.pairwise_cons.2 ⟨fun x hx => ?_, h⟩
   rcases List.mem_cons.1 hx with rfl | hx
   ·exact k
   ·exact klt_trans k (h1 x hx)
theorem ok_put1 {c : Cl} {L : List Cl} (hc : c.ok) (h : ∀ x ∈ L, x.ok) : ∀ x ∈ put1 c L, x.ok := fun x hx => by
 rcases mem_put1 hx with rfl | hx
 ·exact hc
 ·exact h x hx
theorem put1_at {c : Cl} : ∀ {L : List Cl} {k : Nat}, k ≤ L.length → (∀ j d, j < k → L[j]? = some d → ccmp d c = -1) → (∀ d, L[k]? = some d → ccmp d c ≠ -1) →
  put1 c L = L.take k ++ c :: (if L[k]?.map (fun d => ccmp d c) = some 0 then L.drop (k + 1) else L.drop k)
 | [], k, hk, _, _ => by
  obtain rfl : k = 0 := by simpa using hk
  simp [put1]
 | d :: r, 0, _, _, h2 => by
  have h0 := h2 d rfl
  unfold put1
  rw [if_neg h0]
  simp only [List.getElem?_cons_zero, Option.map_some, Option.some.injEq]
  split <;> simp
 | d :: r, k + 1, hk, h1, h2 => by
  have h0 := h1 0 d (by omega) rfl
  have ih := put1_at (c := c) (L := r) (k := k) (by simpa using hk) (fun j e hj he => h1 (j + 1) e (by omega) (by simpa using he)) (fun e he => h2 e (by simpa using he))
  unfold put1
  rw [if_pos h0, ih]
  simp
def fits (row col : ByteArray) (at_ : Int) (c : Cl) : Prop := c.row = row ∧ c.col = col ∧ c.at_ ≤ at_
instance (row col : ByteArray) (at_ : Int) (c : Cl) : Decidable (fits row col at_ c) := by unfold fits; infer_instance
def newest (row col : ByteArray) (at_ : Int) (L : List Cl) : Option Cl := L.find? fun c => decide (fits row col at_ c)
theorem fits_iff {row col : ByteArray} {at_ : Int} {c : Cl} : fits row col at_ c ↔ c.row = row ∧ c.col = col ∧ ¬ klt c ⟨row, col, at_, ⟨#[]⟩, false⟩ := by
 unfold fits klt
 constructor
 ·rintro ⟨rfl, rfl, h⟩
  refine ⟨rfl, rfl, ?_⟩
  rintro (h1 | ⟨-, h1 | ⟨-, h1⟩⟩)
  ·exact List.lt_irrefl _ h1
  ·exact List.lt_irrefl _ h1
  ·simp only at h1; omega
 ·rintro ⟨rfl, rfl, h⟩
  refine ⟨rfl, rfl, ?_⟩
  by_cases h1 : c.at_ ≤ at_
  ·exact h1
  ·exact absurd (.inr ⟨rfl, .inr ⟨rfl, by simp only; omega⟩⟩) h
theorem between {a b c : Cl} (h1 : klt a b) (h2 : klt b c ∨ keq b c) (hr : a.row = c.row) (hc : a.col = c.col) : b.row = c.row ∧ b.col = c.col := by
 rcases h2 with h2 | h2
 ·unfold klt at h1 h2
  rw [hr, hc] at h1
  rcases h1 with h1 | ⟨e1, h1⟩
  ·rcases h2 with h2 | ⟨e2, h2⟩
   ·exact absurd (List.lt_trans h1 h2) (List.lt_irrefl _)
   ·rw [e2] at h1; exact absurd h1 (List.lt_irrefl _)
  ·refine ⟨e1.symm, ?_⟩
   rcases h2 with h2 | ⟨e2, h2⟩
   ·rw [e1] at h2; exact absurd h2 (List.lt_irrefl _)
   ·rcases h1 with h1 | ⟨e3, -⟩
    ·rcases h2 with h2 | ⟨e4, -⟩
     ·exact absurd (List.lt_trans h1 h2) (List.lt_irrefl _)
     ·rw [e4] at h1; exact absurd h1 (List.lt_irrefl _)
    ·exact e3.symm
 ·exact ⟨h2.1, h2.2.1⟩
end Go.Proofs.YtcpkhhbbjimdaaaGreatDoor.Ce
namespace Go.Proofs.YtcpkhhbbjimdaaaGreatDoor.Ce
open Go.RowKit
def Cl.cs (c : Cl) : Array Value := #[.string c.row, .string c.col, .int .i64 c.at_, .string c.val, .bool c.gone]
def Cl.v (c : Cl) : Value := .agg c.cs
theorem cs_one (c : Cl) : c.cs.all (·.oneCell') = true := by simp [Cl.cs, Value.oneCell']
theorem sizeC : (Tryz.prog.info? 47).map (·.size) = some 5 := by kernel_rfl
theorem zeroC : (Tryz.prog.info? 47).map (·.zero) = some (some (.agg Cl.zero.cs)) := by kernel_rfl
structure InC (g : Nat) (c : Cl) (w : World) : Prop where
 h : w.heap[g]? = some (.cells c.cs 47 (0, 0))
section
variable {g : Nat} {c : Cl} {w w' : World}
theorem InC.c0 (h : InC g c w) : w.cell? ⟨g, 0, none⟩ = some (.string c.row) := cell_of_row _ _ 0 _ _ _ h.h
theorem InC.c1 (h : InC g c w) : w.cell? ⟨g, 1, none⟩ = some (.string c.col) := cell_of_row _ _ 1 _ _ _ h.h
theorem InC.c2 (h : InC g c w) : w.cell? ⟨g, 2, none⟩ = some (.int .i64 c.at_) := cell_of_row _ _ 2 _ _ _ h.h
theorem InC.c3 (h : InC g c w) : w.cell? ⟨g, 3, none⟩ = some (.string c.val) := cell_of_row _ _ 3 _ _ _ h.h
theorem InC.c4 (h : InC g c w) : w.cell? ⟨g, 4, none⟩ = some (.bool c.gone) := cell_of_row _ _ 4 _ _ _ h.h
theorem InC.lt (h : InC g c w) : g < w.heap.size := (Array.getElem?_eq_some_iff.1 h.h).1
theorem InC.bel {B : Nat} (h : InC g c w) (hb : Below B w w') (hB : g < B) : InC g c w' := ⟨(hb.block g hB).trans h.h⟩
theorem InC.up (h : InC g c w) (hb : Below w.heap.size w w') : InC g c w' := h.bel hb h.lt
theorem InC.new (w : World) (c : Cl) : InC w.heap.size c (w.alloc (.cells c.cs 47)) := ⟨heap_alloc_new _ _⟩
end
section
variable {ops : Array Oper} {rest : List Oper} {o : Oper} {a : Act} {w : World} {K0 : Act → World → Prop} {Q : Exit → Act → World → Prop} {g : Nat} {c : Cl}
theorem boxC (hg : o.guard = none) (x : Operand) (c : Cl) (ho : o.op = .box 47 x) (hx : a.eval x = c.v)
  (h : Held (∀ w', InC w.heap.size c w' → Below w.heap.size w w' → w'.heap.size = w.heap.size + 1 → wpList Tryz.prog ops Q rest (a.put o.dst (.pointer (some ⟨w.heap.size, 0, none⟩))) w')) : wpList Tryz.prog ops Q (o :: rest) a w :=
 wpList_boxRow hg _ x ho c.cs hx (h.out _ (InC.new w c) (bwalloc (Below.refl _ _) _) (by simp))
theorem allocC (hg : o.guard = none) (ho : o.op = .alloc 47)
  (h : Held (∀ w', InC w.heap.size Cl.zero w' → Below w.heap.size w w' → w'.heap.size = w.heap.size + 1 → wpList Tryz.prog ops Q rest (a.put o.dst (.pointer (some ⟨w.heap.size, 0, none⟩))) w')) : wpList Tryz.prog ops Q (o :: rest) a w :=
 wpList_allocRow hg _ ho Cl.zero.cs zeroC (h.out _ (InC.new w Cl.zero) (bwalloc (Below.refl _ _) _) (by simp))
structure SetC (g : Nat) (c : Cl) (w w' : World) : Prop where
 i : InC g c w'
 b : Below g w w'
 z : w'.heap.size = w.heap.size
 o : ∀ k, k ≠ g → w'.heap[k]? = w.heap[k]?
theorem SetC.of {c0 : Cl} (h : InC g c0 w) : SetC g c w (w.setRow g c.cs) := by
 refine ⟨⟨?_⟩, below_setRow (Below.refl _ _) (Nat.le_refl _) _, by simp, fun k hk => setRow_other _ _ _ _ hk⟩
 have := h.h
 unfold World.setRow
 simp [Array.getElem?_modify, this]
theorem SetC.bel {wa w' : World} {B : Nat} (h : SetC g c w w') (h0 : Below B wa w) (hB : B ≤ g) : Below B wa w' := h0.trans (h.b.mono hB)
theorem SetC.up {w' : World} {d : Cl} {k : Nat} (h : SetC g c w w') (h0 : InC k d w) (hk : k ≠ g) : InC k d w' := ⟨(h.o k hk).trans h0.h⟩
theorem storeC (hg : o.guard = none) (x y : Operand) (ho : o.op = .store 47 x y) (hx : a.eval x = .pointer (some ⟨g, 0, none⟩)) (hy : a.eval y = c.v) {c0 : Cl} (hi : InC g c0 w)
  (h : Held (∀ w', SetC g c w w' → wpList Tryz.prog ops Q rest (a.put o.dst undef) w')) : wpList Tryz.prog ops Q (o :: rest) a w :=
 wpList_storeRow hg _ x y ho g c.cs hx hy 47 c0.cs hi.h sizeC rfl (cs_one c) (h.out _ (SetC.of hi))
theorem run_loadV (w : World) (ad : Addr) (c : Cl) (hc : ∀ (k : Nat) (v : Value), c.cs.toList[k]? = some v → w.cell? (ad.add k) = some v) : (loadVar 47 ad).run Tryz.prog w = .ok c.v w := by
 have hl : (loadCells ad 5).run Tryz.prog w = .ok c.cs w := run_loadCells_list (P := Tryz.prog) w ad c.cs.toList hc
 have hu := Tryz.underlying47
 have hz := sizeC
 cases hq : Tryz.prog.info? 47 with
 | none => simp [hq] at hz
 | some i =>
  have hs : i.size = 5 := by simpa [hq] using hz
  have hagg : (isAgg 47).run Tryz.prog w = .ok true w := by
   unfold isAgg
   rw [Sem.run_bind, run_underlying hu w]
   rfl
  simp [loadVar, Sem.run_bind, hagg, sizeOf, typeInfo, hq, hs, hl, Cl.v]
theorem InC.all (h : InC g c w) : ∀ (k : Nat) (v : Value), c.cs.toList[k]? = some v → w.cell? ((⟨g, 0, none⟩ : Addr).add k) = some v := fun k v hv => by
 rw [Addr.add_lit, Nat.zero_add, cell_of_row w g k _ _ _ h.h]
 simpa using hv
theorem loadV (hw : Region.wanted o (yielded ops a.tmps) = true) (x : Operand) (ho : o.op = .load 47 x) (ad : Addr) (hx : a.eval x = .pointer (some ad)) (hc : ∀ (k : Nat) (v : Value), c.cs.toList[k]? = some v → w.cell? (ad.add k) = some v)
  (h : wpList Tryz.prog ops Q rest (a.put o.dst c.v) w) : wpList Tryz.prog ops Q (o :: rest) a w := by
 refine wpList_step fun K hK => ?_
 rw [if_pos hw]
 unfold Oper.wp execOp
 simp only [ho, hx, Instr.loadAt, Instr.sureAddr, Sem.run_bind, Sem.run_pure, Result.andThen_ok, run_loadV w ad c hc]
 exact hK _ _ h
theorem loadC (hw : Region.wanted o (yielded ops a.tmps) = true) (x : Operand) (ho : o.op = .load 47 x) (hx : a.eval x = .pointer (some ⟨g, 0, none⟩)) (hi : InC g c w)
  (h : wpList Tryz.prog ops Q rest (a.put o.dst c.v) w) : wpList Tryz.prog ops Q (o :: rest) a w := loadV hw x ho _ hx hi.all h
theorem guardC : Tryz.prog.eqGuardType Tryz.prog.depth 47 = false := by kernel_rfl
theorem heldC : Tryz.prog.stoodInHeld 47 = false := by kernel_rfl
theorem fieldsC : Tryz.prog.underlying 47 = some (.struct (Tryz.prog.fieldsOf 47)) := by kernel_rfl
theorem fieldsL : (Tryz.prog.fieldsOf 47).toList.map (fun f => (f.name == "_", f.type, f.offset)) = [(false, 9, 0), (false, 9, 1), (false, 3, 2), (false, 9, 3), (false, 4, 4)] := by kernel_rfl
theorem beqS (a b : ByteArray) : (a.toList == b.toList) = decide (a = b) := by
 by_cases h : a = b
 ·rw [str_eq h, decide_eq_true h]
 ·rw [str_ne h, decide_eq_false h]
theorem run_eqC (x y : Operand) (a b : Cl) (w : World) : ((do eqGuard .eql 47 x y a.v b.v; binOp .eql 47 a.v b.v) : Sem Value).run Tryz.prog w = .ok (.bool (decide (a = b))) w := by
 have hs := Tryz.underlying9
 have hn := Tryz.underlying3
 have hb := Tryz.underlying4
 unfold Cl.v
 rw [Sem.run_bind, run_eqGuard_agg w _ _ _ _ _ _ guardC, Result.andThen_ok, run_eql_struct, run_equalIn_struct w 9999 _ _ _ fieldsC heldC]
 have key : ∀ fs : List Field, fs.map (fun f => (f.name == "_", f.type, f.offset)) = [(false, 9, 0), (false, 9, 1), (false, 3, 2), (false, 9, 3), (false, 4, 4)] →
   (Op.eqFields 9999 a.cs b.cs fs).run Tryz.prog w = .ok (decide (a = b)) w := by
  intro fs hfs
  obtain ⟨f0, fs, rfl, q0, hfs⟩ := List.map_eq_cons_iff.1 hfs
  obtain ⟨f1, fs, rfl, q1, hfs⟩ := List.map_eq_cons_iff.1 hfs
  obtain ⟨f2, fs, rfl, q2, hfs⟩ := List.map_eq_cons_iff.1 hfs
  obtain ⟨f3, fs, rfl, q3, hfs⟩ := List.map_eq_cons_iff.1 hfs
  obtain ⟨f4, fs, rfl, q4, hfs⟩ := List.map_eq_cons_iff.1 hfs
  obtain rfl := List.map_eq_nil_iff.1 hfs
  simp only [Prod.mk.injEq, beq_eq_false_iff_ne] at q0 q1 q2 q3 q4
  obtain ⟨n0, t0, o0⟩ := q0
  obtain ⟨n1, t1, o1⟩ := q1
  obtain ⟨n2, t2, o2⟩ := q2
  obtain ⟨n3, t3, o3⟩ := q3
  obtain ⟨n4, t4, o4⟩ := q4
  ·skip
   have pS : ∀ (cs : Array Value) (k : Nat) (v : Value), cs[k]? = some v → (part 9 cs k).run Tryz.prog w = .ok v w := fun cs k v h => by simp [part, isAgg, run_underlying hs, h]
   have pI : ∀ (cs : Array Value) (k : Nat) (v : Value), cs[k]? = some v → (part 3 cs k).run Tryz.prog w = .ok v w := fun cs k v h => by simp [part, isAgg, run_underlying hn, h]
   have pB : ∀ (cs : Array Value) (k : Nat) (v : Value), cs[k]? = some v → (part 4 cs k).run Tryz.prog w = .ok v w := fun cs k v h => by simp [part, isAgg, run_underlying hb, h]
   have e0 := run_equalIn_string w 9998 _ a.row b.row hs
   rw [show 9998 + 1 = 9999 from rfl] at e0
   have e1 := run_equalIn_string w 9998 _ a.col b.col hs
   rw [show 9998 + 1 = 9999 from rfl] at e1
   have e2 := run_equalIn_int w 9998 _ .i64 _ a.at_ b.at_ hn
   rw [show 9998 + 1 = 9999 from rfl] at e2
   have e3 := run_equalIn_string w 9998 _ a.val b.val hs
   rw [show 9998 + 1 = 9999 from rfl] at e3
   have e4 := run_equalIn_bool' w 9998 _ a.gone b.gone hb
   rw [show 9998 + 1 = 9999 from rfl] at e4
   have step : ∀ (f : Field) (fs : List Field) (t k : Nat) (u v : Value) (q : Bool), f.name ≠ "_" → f.type = t → f.offset = k → (part t a.cs k).run Tryz.prog w = .ok u w → (part t b.cs k).run Tryz.prog w = .ok v w → (Op.equalIn 9999 t u v).run Tryz.prog w = .ok q w →
     (Op.eqFields 9999 a.cs b.cs (f :: fs)).run Tryz.prog w = if q = true then (Op.eqFields 9999 a.cs b.cs fs).run Tryz.prog w else .ok false w := by
    intro f fs t k u v q hn ht ho hu hv hq
    subst ht ho
    simp only [Op.eqFields, ne_eq, hn, not_false_eq_true, if_true, Sem.run_bind, hu, hv, hq, Result.andThen_ok]
    cases q <;> simp
   rw [beqS] at e0 e1 e3
   rw [step _ _ _ _ _ _ _ n0 t0 o0 (pS a.cs 0 (.string a.row) rfl) (pS b.cs 0 (.string b.row) rfl) e0, step _ _ _ _ _ _ _ n1 t1 o1 (pS a.cs 1 (.string a.col) rfl) (pS b.cs 1 (.string b.col) rfl) e1,
    step _ _ _ _ _ _ _ n2 t2 o2 (pI a.cs 2 (.int .i64 a.at_) rfl) (pI b.cs 2 (.int .i64 b.at_) rfl) e2, step _ _ _ _ _ _ _ n3 t3 o3 (pS a.cs 3 (.string a.val) rfl) (pS b.cs 3 (.string b.val) rfl) e3,
    step _ _ _ _ _ _ _ n4 t4 o4 (pB a.cs 4 (.bool a.gone) rfl) (pB b.cs 4 (.bool b.gone) rfl) e4]
   rw [show (Op.eqFields 9999 a.cs b.cs []).run Tryz.prog w = .ok true w from rfl]
   by_cases h0 : a.row = b.row
   ·by_cases h1 : a.col = b.col
    ·by_cases h2 : a.at_ = b.at_
     ·by_cases h3 : a.val = b.val
      ·by_cases h4 : a.gone = b.gone
       ·have : a = b := Cl.ext' h0 h1 h2 h3 h4
        subst this
        simp
       ·have : a ≠ b := fun e => h4 (by rw [e])
        simp [h0, h1, h2, h3, h4, this]
      ·have : a ≠ b := fun e => h3 (by rw [e])
       simp [h0, h1, h2, h3, this]
     ·have : a ≠ b := fun e => h2 (by rw [e])
      simp [h0, h1, h2, this]
    ·have : a ≠ b := fun e => h1 (by rw [e])
     simp [h0, h1, this]
   ·have : a ≠ b := fun e => h0 (by rw [e])
    simp [h0, this]
 rw [key _ fieldsL]
 rfl
theorem wp_eqC (x y : Operand) (T' : TypeId) (ho : o.op = .binOp .eql 47 x y T') (c d : Cl) (hx : a.eval x = c.v) (hy : a.eval y = d.v) {b : Bool} (hb : decide (c = d) = b)
  (h : K0 (a.put o.dst (.bool b)) w) : o.wp Tryz.prog a w K0 Q := by
 subst hb
 have e := run_eqC x y c d w
 rw [Sem.run_bind] at e
 unfold Oper.wp execOp
 simp only [ho, hx, hy, Sem.run_bind, Sem.run_pure]
 revert e
 cases (eqGuard .eql 47 x y c.v d.v).run Tryz.prog w with
 | ok u w1 =>
  simp only [Result.andThen_ok]
  intro e
  rw [e]
  exact h
 | halt u w1 => intro e; cases e
theorem eqC (hw : Region.wanted o (yielded ops a.tmps) = true) (x y : Operand) (T' : TypeId) (ho : o.op = .binOp .eql 47 x y T') (c d : Cl) (hx : a.eval x = c.v) (hy : a.eval y = d.v) {b : Bool} (hb : decide (c = d) = b)
  (h : wpList Tryz.prog ops Q rest (a.put o.dst (.bool b)) w) : wpList Tryz.prog ops Q (o :: rest) a w := by
 refine wpList_step fun K hK => ?_
 rw [if_pos hw]
 exact wp_eqC x y T' ho c d hx hy hb (hK _ _ h)
end
section
variable {fn : Func} {p q r : Tmp} {tmps : Array Value} {w : World} {g : Nat} {c : Cl}
theorem res3 (h : fn.results = #[.cell p 47, .tmp q, .tmp r]) (hp : tmps.getD p undef = .pointer (some ⟨g, 0, none⟩)) (hi : InC g c w) :
  (results fn tmps).run Tryz.prog w = .ok (.tuple #[c.v, tmps.getD q undef, tmps.getD r undef]) w := by
 have hp' : tmps[p]?.getD undef = .pointer (some ⟨g, 0, none⟩) := by simpa using hp
 simp [results, h, hp', asAddr, run_loadV w _ c hi.all]
theorem res2 (h : fn.results = #[.cell p 47, .tmp q]) (hp : tmps.getD p undef = .pointer (some ⟨g, 0, none⟩)) (hi : InC g c w) :
  (results fn tmps).run Tryz.prog w = .ok (.tuple #[c.v, tmps.getD q undef]) w := by
 have hp' : tmps[p]?.getD undef = .pointer (some ⟨g, 0, none⟩) := by simpa using hp
 simp [results, h, hp', asAddr, run_loadV w _ c hi.all]
end
end Go.Proofs.YtcpkhhbbjimdaaaGreatDoor.Ce
namespace Go.Proofs.YtcpkhhbbjimdaaaGreatDoor.Ce
open Go.RowKit
theorem bless (a b : ByteArray) : Op.bytesLess a.toList b.toList = decide (a.data.toList < b.data.toList) := by
 rw [bytesLess_eq, ByteArray.toList_eq, ByteArray.toList_eq]
theorem nanS_any (s : ByteArray) (w : World) : Calls Tryz.prog 97 #[.string s] w fun e w' => e = .returned (.bool false) ∧ w = w' := by
 go_enter Tryz.func97, Tryz.ntmps97
 go_wp2
 go_ret
 exact ⟨by simp, rfl⟩
theorem nanI_any (n : Int) (w : World) : Calls Tryz.prog 98 #[.int .i64 n] w fun e w' => e = .returned (.bool false) ∧ w = w' := by
 go_enter Tryz.func98, Tryz.ntmps98
 go_wp2
 go_ret
 exact ⟨by simp, rfl⟩
theorem cmpS_any (a b : ByteArray) (w : World) : Calls Tryz.prog 80 #[.string a, .string b] w fun e w' => e = .returned (.int .i64 (scmp a.data.toList b.data.toList)) ∧ w = w' := by
 have hl := bless a b
 rcases scmp_cases a.data.toList b.data.toList with ⟨h, k⟩ | ⟨h, k⟩ | ⟨h, k⟩
 ·rw [decide_eq_true k] at hl
  rw [h]
  clear h k
  go_enter Tryz.func80, Tryz.ntmps80
  go_wp2_with fail
  refine (nanS_any _ _).mono ?_
  rintro e w1 ⟨rfl, rfl⟩
  go_wp2_with fail
  refine (nanS_any _ _).mono ?_
  rintro e w1 ⟨rfl, rfl⟩
  go_wp2_with fail
  go_ret
  exact ⟨rfl, rfl⟩
 ·have e1 := str_eq (ba_ext k)
  rw [k, decide_eq_false (List.lt_irrefl _)] at hl
  rw [h]
  clear h k
  go_enter Tryz.func80, Tryz.ntmps80
  go_wp2_with fail
  refine (nanS_any _ _).mono ?_
  rintro e w1 ⟨rfl, rfl⟩
  go_wp2_with fail
  refine (nanS_any _ _).mono ?_
  rintro e w1 ⟨rfl, rfl⟩
  go_wp2_with fail
  go_ret
  exact ⟨rfl, rfl⟩
 ·have hne : a ≠ b := fun e => by rw [e] at k; exact List.lt_irrefl _ k
  have e1 := str_ne hne
  rw [decide_eq_false (fun q => List.lt_irrefl _ (List.lt_trans q k))] at hl
  rw [h]
  clear h k hne
  go_enter Tryz.func80, Tryz.ntmps80
  go_wp2_with fail
  refine (nanS_any _ _).mono ?_
  rintro e w1 ⟨rfl, rfl⟩
  go_wp2_with fail
  refine (nanS_any _ _).mono ?_
  rintro e w1 ⟨rfl, rfl⟩
  go_wp2_with fail
  go_ret
  exact ⟨rfl, rfl⟩
theorem cmpI_any (a b : Int) (w : World) : Calls Tryz.prog 81 #[.int .i64 a, .int .i64 b] w fun e w' => e = .returned (.int .i64 (icmp a b)) ∧ w = w' := by
 rcases icmp_cases a b with ⟨h, k⟩ | ⟨h, k⟩ | ⟨h, k⟩
 all_goals
  rw [h]
  clear h
  go_enter Tryz.func81, Tryz.ntmps81
  go_wp2_with fail
  refine (nanI_any _ _).mono ?_
  rintro e w1 ⟨rfl, rfl⟩
  go_wp2_with fail
  refine (nanI_any _ _).mono ?_
  rintro e w1 ⟨rfl, rfl⟩
  go_wp2_with fail
  go_ret
  exact ⟨rfl, rfl⟩
theorem or_any (v : Value) (a b c : Int) (B : Nat) (w : World) (hv : Rd w B v [.int .i64 a, .int .i64 b, .int .i64 c]) : Calls Tryz.prog 79 #[v] w fun e w' => e = .returned (.int .i64 (or3 a b c)) ∧ w = w' := by
 obtain ⟨bk, off, cc, rfl, h3, hm, -, hc⟩ := hv.at_ (by simp)
 simp only [List.length_cons, List.length_nil, Nat.zero_add, Nat.reduceAdd] at h3 ⊢
 have c0 := hc 0 _ rfl
 have c1 := hc 1 _ rfl
 have c2 := hc 2 _ rfl
 rw [Nat.add_zero] at c0
 clear hc hv
 have HR0 : Hid (a ≠ 0 → a = or3 a b c) := Lib.hid fun h => by simp [or3, h]
 have HR1 : Hid (a = 0 → b ≠ 0 → b = or3 a b c) := Lib.hid fun h1 h => by simp [or3, h, h1]
 have HR2 : Hid (a = 0 → b = 0 → c ≠ 0 → c = or3 a b c) := Lib.hid fun h1 h2 _ => by simp [or3, h1, h2]
 have HR3 : Hid (a = 0 → b = 0 → c = 0 → 0 = or3 a b c) := Lib.hid fun h1 h2 h3 => by simp [or3, h1, h2, h3]
 unfold maxLen at hm
 generalize or3 a b c = r at *
 go_enter Tryz.func79, Tryz.ntmps79
 go_wp2_with fail
 go_loop [5, 8] (fun _ i => ∃ k : Nat, k ≤ 3 ∧ i = .int .i64 (k : Int) ∧ (1 ≤ k → a = 0) ∧ (2 ≤ k → b = 0) ∧ (3 ≤ k → c = 0)) (fun _ i => 3 - (intOf i).toNat)
 case atStart => exact ⟨0, by omega, rfl, by omega, by omega, by omega⟩
 case round =>
  obtain ⟨k, hk, rfl, k1, k2, k3⟩ := hrel
  have h0 : k = 0 ∨ k = 1 ∨ k = 2 ∨ k = 3 := by omega
  rcases h0 with h0 | h0 | h0 | h0
  ·obtain rfl : k = 0 := by omega
   by_cases hz : a = 0
   ·go_wp2_with fail
    go_round
    case rel => exact ⟨1, by omega, by go_num, fun _ => hz, by omega, by omega⟩
    case measure => simp [intOf]
   ·go_wp2_with fail
    go_ret
    exact ⟨ret1 (vi (HR0.out hz)), rfl⟩
  ·obtain rfl : k = 1 := by omega
   by_cases hz : b = 0
   ·go_wp2_with fail
    go_round
    case rel => exact ⟨2, by omega, by go_num, fun _ => k1 (by omega), fun _ => hz, by omega⟩
    case measure => simp [intOf]
   ·go_wp2_with fail
    go_ret
    exact ⟨ret1 (vi (HR1.out (k1 (by omega)) hz)), rfl⟩
  ·obtain rfl : k = 2 := by omega
   by_cases hz : c = 0
   ·go_wp2_with fail
    go_round
    case rel => exact ⟨3, by omega, by go_num, fun _ => k1 (by omega), fun _ => k2 (by omega), fun _ => hz⟩
    case measure => simp [intOf]
   ·go_wp2_with fail
    go_ret
    exact ⟨ret1 (vi (HR2.out (k1 (by omega)) (k2 (by omega)) hz)), rfl⟩
  ·obtain rfl : k = 3 := by omega
   go_wp2_with fail
   go_ret
   exact ⟨ret1 (vi (HR3.out (k1 (by omega)) (k2 (by omega)) (k3 (by omega)))), rfl⟩
theorem isName_any (s : ByteArray) (w : World) : Calls Tryz.prog 82 #[.string s] w fun e w' => e = .returned (.bool (decide (1 ≤ s.size ∧ s.size ≤ 64))) ∧ w = w' := by
 by_cases h1 : 1 ≤ s.size
 ·by_cases h2 : s.size ≤ 64
  ·have h1' : (1 : Int) ≤ s.size := by omega
   have h2' : (s.size : Int) ≤ 64 := by omega
   rw [decide_eq_true ⟨h1, h2⟩]
   go_enter Tryz.func82, Tryz.ntmps82
   go_wp2
   go_ret
   exact ⟨ret1 (vb (by simp)), rfl⟩
  ·have h1' : (1 : Int) ≤ s.size := by omega
   rw [decide_eq_false (fun h => h2 h.2)]
   go_enter Tryz.func82, Tryz.ntmps82
   go_wp2
   go_ret
   exact ⟨ret1 (vb (by simp; omega)), rfl⟩
 ·have h1' : ¬ (1 : Int) ≤ s.size := by omega
  rw [decide_eq_false (fun h => h1 h.1)]
  go_enter Tryz.func82, Tryz.ntmps82
  go_wp2
  go_ret
  exact ⟨rfl, rfl⟩
theorem emp {s : ByteArray} (h : s.size = 0) : s = ⟨#[]⟩ := ba_ext (List.eq_nil_of_length_eq_zero h)
theorem empB {s : ByteArray} (h : s.size = 0) : s.toList.isEmpty = true := by rw [emp h]; simp
theorem nempB {s : ByteArray} (h : s.size ≠ 0) : s.toList.isEmpty = false := by
 rw [ByteArray.toList_eq]
 cases hq : s.data.toList with
 | nil => exact absurd (by have := congrArg List.length hq; simpa using this) h
 | cons a l => rfl
theorem right_any (c : Cl) (w : World) : Calls Tryz.prog 65 #[c.v] w fun e w' => e = .returned (.bool (decide c.ok)) ∧ Below w.heap.size w w' := by
 have n1 := fun w => isName_any c.row w
 have n2 := fun w => isName_any c.col w
 by_cases h1 : 1 ≤ c.row.size ∧ c.row.size ≤ 64
 ·rw [decide_eq_true h1] at n1
  by_cases h2 : 1 ≤ c.col.size ∧ c.col.size ≤ 64
  ·rw [decide_eq_true h2] at n2
   by_cases h3 : c.at_ < 0
   ·rw [decide_eq_false (fun h : c.ok => by have := h.a1; omega)]
    clear h1 h2
    go_enter Tryz.func65, Tryz.ntmps65
    go_wp2_with (refine boxC rfl (.tmp 0) c rfl rfl ?_)
    constructor
    intro w1 hI hb hz
    obtain ⟨c0, c1, c2, c3, c4⟩ : _ ∧ _ ∧ _ ∧ _ ∧ _ := ⟨hI.c0, hI.c1, hI.c2, hI.c3, hI.c4⟩
    clear hI
    go_wp2_with fail
    refine (n1 _).mono ?_
    rintro e w2 ⟨rfl, rfl⟩
    go_wp2_with fail
    refine (n2 _).mono ?_
    rintro e w2 ⟨rfl, rfl⟩
    go_wp2_with fail
    go_ret
    first | exact ⟨rfl, hb⟩ | exact ⟨ret1 (vb HE.out), hb⟩
   by_cases h4 : 4294967295 < c.at_
   ·rw [decide_eq_false (fun h : c.ok => by have := h.a2; omega)]
    clear h1 h2
    go_enter Tryz.func65, Tryz.ntmps65
    go_wp2_with (refine boxC rfl (.tmp 0) c rfl rfl ?_)
    constructor
    intro w1 hI hb hz
    obtain ⟨c0, c1, c2, c3, c4⟩ : _ ∧ _ ∧ _ ∧ _ ∧ _ := ⟨hI.c0, hI.c1, hI.c2, hI.c3, hI.c4⟩
    clear hI
    go_wp2_with fail
    refine (n1 _).mono ?_
    rintro e w2 ⟨rfl, rfl⟩
    go_wp2_with fail
    refine (n2 _).mono ?_
    rintro e w2 ⟨rfl, rfl⟩
    go_wp2_with fail
    go_ret
    first | exact ⟨rfl, hb⟩ | exact ⟨ret1 (vb HE.out), hb⟩
   cases hg : c.gone
   ·by_cases hv : c.val.size ≤ 256
    ·have hv' : (c.val.size : Int) ≤ 256 := by omega
     have HE := Lib.hid (decide_eq_true hv')
     rw [decide_eq_true (⟨h1.1, h1.2, h2.1, h2.2, by omega, by omega, hv, by simp [hg]⟩ : c.ok)]
     clear h1 h2
     go_enter Tryz.func65, Tryz.ntmps65
     go_wp2_with (refine boxC rfl (.tmp 0) c rfl rfl ?_)
     constructor
     intro w1 hI hb hz
     obtain ⟨c0, c1, c2, c3, c4⟩ : _ ∧ _ ∧ _ ∧ _ ∧ _ := ⟨hI.c0, hI.c1, hI.c2, hI.c3, hI.c4⟩
     clear hI
     rw [hg] at c4
     go_wp2_with fail
     refine (n1 _).mono ?_
     rintro e w2 ⟨rfl, rfl⟩
     go_wp2_with fail
     refine (n2 _).mono ?_
     rintro e w2 ⟨rfl, rfl⟩
     go_wp2_with fail
     go_ret
     first | exact ⟨rfl, hb⟩ | exact ⟨ret1 (vb HE.out), hb⟩
    ·have hv' : ¬ (c.val.size : Int) ≤ 256 := by omega
     have HE := Lib.hid (decide_eq_false hv')
     rw [decide_eq_false (fun h : c.ok => hv h.v)]
     clear h1 h2
     go_enter Tryz.func65, Tryz.ntmps65
     go_wp2_with (refine boxC rfl (.tmp 0) c rfl rfl ?_)
     constructor
     intro w1 hI hb hz
     obtain ⟨c0, c1, c2, c3, c4⟩ : _ ∧ _ ∧ _ ∧ _ ∧ _ := ⟨hI.c0, hI.c1, hI.c2, hI.c3, hI.c4⟩
     clear hI
     rw [hg] at c4
     go_wp2_with fail
     refine (n1 _).mono ?_
     rintro e w2 ⟨rfl, rfl⟩
     go_wp2_with fail
     refine (n2 _).mono ?_
     rintro e w2 ⟨rfl, rfl⟩
     go_wp2_with fail
     go_ret
     first | exact ⟨rfl, hb⟩ | exact ⟨ret1 (vb HE.out), hb⟩
   ·by_cases hv : c.val.size = 0
    ·have HE := Lib.hid (empB hv)
     rw [decide_eq_true (⟨h1.1, h1.2, h2.1, h2.2, by omega, by omega, by omega, fun _ => hv⟩ : c.ok)]
     clear h1 h2 hv
     go_enter Tryz.func65, Tryz.ntmps65
     go_wp2_with (refine boxC rfl (.tmp 0) c rfl rfl ?_)
     constructor
     intro w1 hI hb hz
     obtain ⟨c0, c1, c2, c3, c4⟩ : _ ∧ _ ∧ _ ∧ _ ∧ _ := ⟨hI.c0, hI.c1, hI.c2, hI.c3, hI.c4⟩
     clear hI
     rw [hg] at c4
     go_wp2_with fail
     refine (n1 _).mono ?_
     rintro e w2 ⟨rfl, rfl⟩
     go_wp2_with fail
     refine (n2 _).mono ?_
     rintro e w2 ⟨rfl, rfl⟩
     go_wp2_with fail
     go_ret
     first | exact ⟨rfl, hb⟩ | exact ⟨ret1 (vb HE.out), hb⟩
    ·have HE := Lib.hid (nempB hv)
     rw [decide_eq_false (fun h : c.ok => hv (h.g hg))]
     clear h1 h2 hv
     go_enter Tryz.func65, Tryz.ntmps65
     go_wp2_with (refine boxC rfl (.tmp 0) c rfl rfl ?_)
     constructor
     intro w1 hI hb hz
     obtain ⟨c0, c1, c2, c3, c4⟩ : _ ∧ _ ∧ _ ∧ _ ∧ _ := ⟨hI.c0, hI.c1, hI.c2, hI.c3, hI.c4⟩
     clear hI
     rw [hg] at c4
     go_wp2_with fail
     refine (n1 _).mono ?_
     rintro e w2 ⟨rfl, rfl⟩
     go_wp2_with fail
     refine (n2 _).mono ?_
     rintro e w2 ⟨rfl, rfl⟩
     go_wp2_with fail
     go_ret
     first | exact ⟨rfl, hb⟩ | exact ⟨ret1 (vb HE.out), hb⟩
  ·rw [decide_eq_false h2] at n2
   rw [decide_eq_false (fun h : c.ok => h2 ⟨h.c1, h.c2⟩)]
   clear h1 h2
   go_enter Tryz.func65, Tryz.ntmps65
   go_wp2_with (refine boxC rfl (.tmp 0) c rfl rfl ?_)
   constructor
   intro w1 hI hb hz
   obtain ⟨c0, c1, c2, c3, c4⟩ : _ ∧ _ ∧ _ ∧ _ ∧ _ := ⟨hI.c0, hI.c1, hI.c2, hI.c3, hI.c4⟩
   clear hI
   go_wp2_with fail
   refine (n1 _).mono ?_
   rintro e w2 ⟨rfl, rfl⟩
   go_wp2_with fail
   refine (n2 _).mono ?_
   rintro e w2 ⟨rfl, rfl⟩
   go_wp2_with fail
   go_ret
   first | exact ⟨rfl, hb⟩ | exact ⟨ret1 (vb HE.out), hb⟩
 ·rw [decide_eq_false h1] at n1
  rw [decide_eq_false (fun h : c.ok => h1 ⟨h.r1, h.r2⟩)]
  clear h1
  go_enter Tryz.func65, Tryz.ntmps65
  go_wp2_with (refine boxC rfl (.tmp 0) c rfl rfl ?_)
  constructor
  intro w1 hI hb hz
  obtain ⟨c0, c1, c2, c3, c4⟩ : _ ∧ _ ∧ _ ∧ _ ∧ _ := ⟨hI.c0, hI.c1, hI.c2, hI.c3, hI.c4⟩
  clear hI
  go_wp2_with fail
  refine (n1 _).mono ?_
  rintro e w2 ⟨rfl, rfl⟩
  go_wp2_with fail
  go_ret
  first | exact ⟨rfl, hb⟩ | exact ⟨ret1 (vb HE.out), hb⟩
theorem rright_any (c : Cl) (w : World) : Calls Tryz.prog 33 #[c.v] w fun e w' => e = .returned (.bool (decide c.ok)) ∧ Below w.heap.size w w' := by
 by_cases h0 : (c.row.size : Int) < 1
 ·rw [decide_eq_false (fun h : c.ok => by have := h.r1; omega)]
  go_enter Tryz.func33, Tryz.ntmps33
  go_wp2_with (refine boxC rfl (.tmp 0) c rfl rfl ?_)
  constructor
  intro w1 hI hb hz
  obtain ⟨c0, c1, c2, c3, c4⟩ : _ ∧ _ ∧ _ ∧ _ ∧ _ := ⟨hI.c0, hI.c1, hI.c2, hI.c3, hI.c4⟩
  clear hI
  go_wp2_with fail
  go_ret
  first | exact ⟨rfl, hb⟩ | exact ⟨ret1 (vb HE.out), hb⟩
 by_cases h1 : 64 < (c.row.size : Int)
 ·rw [decide_eq_false (fun h : c.ok => by have := h.r2; omega)]
  go_enter Tryz.func33, Tryz.ntmps33
  go_wp2_with (refine boxC rfl (.tmp 0) c rfl rfl ?_)
  constructor
  intro w1 hI hb hz
  obtain ⟨c0, c1, c2, c3, c4⟩ : _ ∧ _ ∧ _ ∧ _ ∧ _ := ⟨hI.c0, hI.c1, hI.c2, hI.c3, hI.c4⟩
  clear hI
  go_wp2_with fail
  go_ret
  first | exact ⟨rfl, hb⟩ | exact ⟨ret1 (vb HE.out), hb⟩
 by_cases h2 : (c.col.size : Int) < 1
 ·rw [decide_eq_false (fun h : c.ok => by have := h.c1; omega)]
  go_enter Tryz.func33, Tryz.ntmps33
  go_wp2_with (refine boxC rfl (.tmp 0) c rfl rfl ?_)
  constructor
  intro w1 hI hb hz
  obtain ⟨c0, c1, c2, c3, c4⟩ : _ ∧ _ ∧ _ ∧ _ ∧ _ := ⟨hI.c0, hI.c1, hI.c2, hI.c3, hI.c4⟩
  clear hI
  go_wp2_with fail
  go_ret
  first | exact ⟨rfl, hb⟩ | exact ⟨ret1 (vb HE.out), hb⟩
 by_cases h3 : 64 < (c.col.size : Int)
 ·rw [decide_eq_false (fun h : c.ok => by have := h.c2; omega)]
  go_enter Tryz.func33, Tryz.ntmps33
  go_wp2_with (refine boxC rfl (.tmp 0) c rfl rfl ?_)
  constructor
  intro w1 hI hb hz
  obtain ⟨c0, c1, c2, c3, c4⟩ : _ ∧ _ ∧ _ ∧ _ ∧ _ := ⟨hI.c0, hI.c1, hI.c2, hI.c3, hI.c4⟩
  clear hI
  go_wp2_with fail
  go_ret
  first | exact ⟨rfl, hb⟩ | exact ⟨ret1 (vb HE.out), hb⟩
 by_cases h4 : c.at_ < 0
 ·rw [decide_eq_false (fun h : c.ok => by have := h.a1; omega)]
  go_enter Tryz.func33, Tryz.ntmps33
  go_wp2_with (refine boxC rfl (.tmp 0) c rfl rfl ?_)
  constructor
  intro w1 hI hb hz
  obtain ⟨c0, c1, c2, c3, c4⟩ : _ ∧ _ ∧ _ ∧ _ ∧ _ := ⟨hI.c0, hI.c1, hI.c2, hI.c3, hI.c4⟩
  clear hI
  go_wp2_with fail
  go_ret
  first | exact ⟨rfl, hb⟩ | exact ⟨ret1 (vb HE.out), hb⟩
 by_cases h5 : 4294967295 < c.at_
 ·rw [decide_eq_false (fun h : c.ok => by have := h.a2; omega)]
  go_enter Tryz.func33, Tryz.ntmps33
  go_wp2_with (refine boxC rfl (.tmp 0) c rfl rfl ?_)
  constructor
  intro w1 hI hb hz
  obtain ⟨c0, c1, c2, c3, c4⟩ : _ ∧ _ ∧ _ ∧ _ ∧ _ := ⟨hI.c0, hI.c1, hI.c2, hI.c3, hI.c4⟩
  clear hI
  go_wp2_with fail
  go_ret
  first | exact ⟨rfl, hb⟩ | exact ⟨ret1 (vb HE.out), hb⟩
 by_cases hv : ¬ (c.val.size : Int) ≤ 256
 ·rw [decide_eq_false (fun h : c.ok => by have := h.v; omega)]
  go_enter Tryz.func33, Tryz.ntmps33
  go_wp2_with (refine boxC rfl (.tmp 0) c rfl rfl ?_)
  constructor
  intro w1 hI hb hz
  obtain ⟨c0, c1, c2, c3, c4⟩ : _ ∧ _ ∧ _ ∧ _ ∧ _ := ⟨hI.c0, hI.c1, hI.c2, hI.c3, hI.c4⟩
  clear hI
  go_wp2_with fail
  go_ret
  first | exact ⟨rfl, hb⟩ | exact ⟨ret1 (vb HE.out), hb⟩
 have hv' : (c.val.size : Int) ≤ 256 := by omega
 have HE := Lib.hid (decide_eq_true hv')
 cases hg : c.gone
 ·rw [decide_eq_true (⟨by omega, by omega, by omega, by omega, by omega, by omega, by omega, by simp [hg]⟩ : c.ok)]
  go_enter Tryz.func33, Tryz.ntmps33
  go_wp2_with (refine boxC rfl (.tmp 0) c rfl rfl ?_)
  constructor
  intro w1 hI hb hz
  obtain ⟨c0, c1, c2, c3, c4⟩ : _ ∧ _ ∧ _ ∧ _ ∧ _ := ⟨hI.c0, hI.c1, hI.c2, hI.c3, hI.c4⟩
  clear hI
  rw [hg] at c4
  go_wp2_with fail
  go_ret
  first | exact ⟨rfl, hb⟩ | exact ⟨ret1 (vb HE.out), hb⟩
 ·by_cases h9 : c.val.size = 0
  ·have HE := Lib.hid (empB h9)
   rw [decide_eq_true (⟨by omega, by omega, by omega, by omega, by omega, by omega, by omega, fun _ => h9⟩ : c.ok)]
   clear h9
   go_enter Tryz.func33, Tryz.ntmps33
   go_wp2_with (refine boxC rfl (.tmp 0) c rfl rfl ?_)
   constructor
   intro w1 hI hb hz
   obtain ⟨c0, c1, c2, c3, c4⟩ : _ ∧ _ ∧ _ ∧ _ ∧ _ := ⟨hI.c0, hI.c1, hI.c2, hI.c3, hI.c4⟩
   clear hI
   rw [hg] at c4
   go_wp2_with fail
   go_ret
   first | exact ⟨rfl, hb⟩ | exact ⟨ret1 (vb HE.out), hb⟩
  ·have HE := Lib.hid (nempB h9)
   rw [decide_eq_false (fun h : c.ok => h9 (h.g hg))]
   clear h9
   go_enter Tryz.func33, Tryz.ntmps33
   go_wp2_with (refine boxC rfl (.tmp 0) c rfl rfl ?_)
   constructor
   intro w1 hI hb hz
   obtain ⟨c0, c1, c2, c3, c4⟩ : _ ∧ _ ∧ _ ∧ _ ∧ _ := ⟨hI.c0, hI.c1, hI.c2, hI.c3, hI.c4⟩
   clear hI
   rw [hg] at c4
   go_wp2_with fail
   go_ret
   first | exact ⟨rfl, hb⟩ | exact ⟨ret1 (vb HE.out), hb⟩
def small (c : Cl) : Prop := c.row.size ≤ 300 ∧ c.col.size ≤ 300 ∧ c.val.size ≤ 600
instance (c : Cl) : Decidable (small c) := by unfold small; infer_instance
end Go.Proofs.YtcpkhhbbjimdaaaGreatDoor.Ce
namespace Go.Proofs.YtcpkhhbbjimdaaaGreatDoor.Ce
open Go.RowKit
theorem or_new (x y z : Int) (w : World) (t : Nat) : Calls Tryz.prog 79 #[.slice (some ⟨w.heap.size, 0, none⟩) 3 3] (w.alloc (.cells #[.int .i64 x, .int .i64 y, .int .i64 z] t)).drew fun e w' => e = .returned (.int .i64 (or3 x y z)) ∧ (w.alloc (.cells #[.int .i64 x, .int .i64 y, .int .i64 z] t)).drew = w' :=
 or_any _ x y z _ _ ((Rd.new w t _ rfl (by simp [maxLen]) rfl).below ((Below.refl _ _).drew))
structure BoxCD (w w2 : World) (g h : Nat) (a b : Cl) : Prop where
 ia : InC g a w2
 ib : InC h b w2
 bel : Below w.heap.size w w2
def CDcells (g h : Nat) (a b : Cl) (w2 w' : World) : Prop := w'.cell? ⟨g, 0, none⟩ = some (.string a.row) ∧ w'.cell? ⟨g, 1, none⟩ = some (.string a.col) ∧ w'.cell? ⟨g, 2, none⟩ = some (.int .i64 a.at_) ∧ w'.cell? ⟨h, 0, none⟩ = some (.string b.row) ∧ w'.cell? ⟨h, 1, none⟩ = some (.string b.col) ∧ w'.cell? ⟨h, 2, none⟩ = some (.int .i64 b.at_) ∧ Below w2.heap.size w2 w'
theorem BoxCD.at_ {w w2 w' : World} {g h : Nat} {a b : Cl} (H : BoxCD w w2 g h a b) (hb : Below w2.heap.size w2 w') : CDcells g h a b w2 w' :=
 let p := H.ia.up hb; let q := H.ib.up hb; ⟨p.c0, p.c1, p.c2, q.c0, q.c1, q.c2, hb⟩
theorem compare_any (a b : Cl) (w : World) : Calls Tryz.prog 59 #[a.v, b.v] w fun e w' => e = .returned (.int .i64 (ccmp a b)) ∧ Below w.heap.size w w' := by
 go_enter Tryz.func59, Tryz.ntmps59
 go_wp2_with (refine boxC rfl (.tmp 0) a rfl rfl ?_)
 constructor
 intro w1 hI1 hb1 hz1
 go_wp2_with (refine boxC rfl (.tmp 1) b rfl rfl ?_)
 constructor
 intro w2 hI2 hb2 hz2
 have HD := Lib.hid (BoxCD.mk (w := w) (hI1.bel hb2 (by omega)) hI2 (hb1.trans (hb2.mono (by omega))))
 have HA : Hid (∀ O : Obj, CDcells w.heap.size (w.heap.size + 1) a b w2 (w2.alloc O).drew) := Lib.hid fun O => HD.out.at_ (bwalloc (Below.refl _ _) O).drew
 have HT : Hid (CDcells w.heap.size (w.heap.size + 1) a b w2 w2.drew) := Lib.hid (HD.out.at_ (Below.refl _ _).drew)
 clear hI1 hI2 hb1 hb2 hz1 hz2
 go_wp2_with fail
 go_region_held3 (fun w' => w'.cell? ⟨w.heap.size, 0, none⟩ = some (.string a.row) ∧ w'.cell? ⟨w.heap.size, 1, none⟩ = some (.string a.col) ∧ w'.cell? ⟨w.heap.size, 2, none⟩ = some (.int .i64 a.at_) ∧ w'.cell? ⟨w.heap.size + 1, 0, none⟩ = some (.string b.row) ∧ w'.cell? ⟨w.heap.size + 1, 1, none⟩ = some (.string b.col) ∧ w'.cell? ⟨w.heap.size + 1, 2, none⟩ = some (.int .i64 b.at_) ∧ Below w2.heap.size w2 w') (first | exact HT.out | assumption | exact HA.out _)
  (first
   | (go_at_call 80; refine (cmpS_any _ _ _).mono ?_; rintro e wn ⟨rfl, rfl⟩)
   | (go_at_call 81; refine (cmpI_any _ _ _).mono ?_; rintro e wn ⟨rfl, rfl⟩)
   | (go_at_call 79; refine (or_new _ _ _ _ _).mono ?_; rintro e wn ⟨rfl, rfl⟩))
 all_goals
  go_wp2_with fail
  go_ret
  exact ⟨rfl, HD.out.bel.trans ((bwalloc (Below.refl _ _) _).drew.mono HD.out.bel.size)⟩
end Go.Proofs.YtcpkhhbbjimdaaaGreatDoor.Ce
namespace Go.Proofs.YtcpkhhbbjimdaaaGreatDoor.Ce
open Go.RowKit
theorem lt_at {A C : List UInt8} {k : Nat} (h1 : k < A.length) (h2 : k < C.length) (hp : ∀ j, j < k → A[j]? = C[j]?) (h : A[k] < C[k]) : A < C := by
 rw [List.lt_iff_exists]
 refine .inr ⟨k, h1, h2, fun j hj => ?_, h⟩
 have := hp j hj
 rw [List.getElem?_eq_getElem (by omega), List.getElem?_eq_getElem (by omega)] at this
 injection this
theorem lt_pre {A C : List UInt8} (h : A.length < C.length) (hp : ∀ j, j < A.length → A[j]? = C[j]?) : A < C := by
 rw [List.lt_iff_exists]
 refine .inl ⟨?_, h⟩
 apply List.ext_getElem?
 intro j
 rw [List.getElem?_take]
 split
 ·exact hp j (by assumption)
 ·exact List.getElem?_eq_none (by omega)
theorem eq_pre {A C : List UInt8} (h : A.length = C.length) (hp : ∀ j, j < A.length → A[j]? = C[j]?) : A = C := by
 apply List.ext_getElem?
 intro j
 by_cases hj : j < A.length
 ·exact hp j hj
 ·rw [List.getElem?_eq_none (by omega), List.getElem?_eq_none (by omega)]
theorem rtext_any (a b : ByteArray) (w : World) (ha : a.size ≤ 1000000) (_hb : b.size ≤ 1000000) : Calls Tryz.prog 25 #[.string a, .string b] w fun e w' => e = .returned (.int .i64 (scmp a.data.toList b.data.toList)) ∧ Below w.heap.size w w' := by
 go_enter Tryz.func25, Tryz.ntmps25
 go_wp2_with fail
 go_loopw [5] (fun i wr => ∃ k : Nat, k ≤ a.size ∧ k ≤ b.size ∧ i = .int .i64 (k : Int) ∧ (∀ j, j < k → a.data.toList[j]? = b.data.toList[j]?) ∧ Below w.heap.size w wr) (fun i _ => a.size - (intOf i).toNat)
 case atStart => exact ⟨0, Nat.zero_le _, Nat.zero_le _, rfl, fun j hj => by omega, Below.refl _ _⟩
 case round =>
  obtain ⟨k, hk1, hk2, rfl, hp, hbl⟩ := hrel
  have HP := Lib.hid hp
  clear hp
  by_cases h1 : k < a.size
  ·by_cases h2 : k < b.size
   ·have e1 : a.data.toList[k]'(by simpa using h1) = a[k] := rfl
    have e2 : b.data.toList[k]'(by simpa using h2) = b[k] := rfl
    have HE1 := Lib.hid e1
    have HE2 := Lib.hid e2
    clear e1 e2
    by_cases h3 : a[k].toNat < b[k].toNat
    ·go_wp2_with fail
     go_quiet (fail)
     go_wp2_with fail
     go_ret
     exact ⟨ret1 (vi (scmp_lt (lt_at (k := k) (by simpa using h1) (by simpa using h2) HP.out (by rw [HE1.out, HE2.out]; exact UInt8.lt_iff_toNat_lt.2 h3))).symm), below_drewN hbl _⟩
    ·by_cases h4 : b[k].toNat < a[k].toNat
     ·go_wp2_with fail
      go_quiet (fail)
      go_wp2_with fail
      have hbl := below_drewN hbl nq
      generalize wr.drewN nq = wq at *
      go_quiet (fail)
      go_wp2_with fail
      go_ret
      exact ⟨ret1 (vi (scmp_gt (lt_at (k := k) (by simpa using h2) (by simpa using h1) (fun j hj => (HP.out j hj).symm) (by rw [HE1.out, HE2.out]; exact UInt8.lt_iff_toNat_lt.2 h4))).symm), below_drewN hbl _⟩
     ·have h5 : a[k] = b[k] := UInt8.toNat_inj.1 (by omega)
      have H5 := Lib.hid h5
      clear h5
      go_wp2_with fail
      go_quiet (fail)
      go_wp2_with fail
      have hbl := below_drewN hbl nq
      generalize wr.drewN nq = wq at *
      go_quiet (fail)
      go_wp2_with fail
      go_roundw
      case rel =>
       refine ⟨k + 1, by omega, by omega, by go_num, fun j hj => ?_, below_drewN hbl _⟩
       by_cases hjk : j = k
       ·subst hjk
        rw [List.getElem?_eq_getElem (by simpa using h1), List.getElem?_eq_getElem (by simpa using h2), HE1.out, HE2.out, H5.out]
       ·exact HP.out j (by omega)
      case measure => simp [intOf]; omega
   ·have h3 : b.size < a.size := by omega
    have hgt : scmp a.data.toList b.data.toList = 1 := scmp_gt (lt_pre (by simpa using h3) fun j hj => (HP.out j (by simp at hj; omega)).symm)
    have HG := Lib.hid hgt
    clear hgt
    go_wp2_with fail
    go_ret
    exact ⟨ret1 (vi HG.out.symm), hbl⟩
  ·by_cases h2 : k < b.size
   ·have h3 : a.size < b.size := by omega
    have hgt : scmp a.data.toList b.data.toList = -1 := scmp_lt (lt_pre (by simpa using h3) fun j hj => HP.out j (by simp at hj; omega))
    have HG := Lib.hid hgt
    clear hgt
    go_wp2_with fail
    go_ret
    exact ⟨ret1 (vi HG.out.symm), hbl⟩
   ·have h3 : ¬ a.size < b.size := by omega
    have h4 : ¬ b.size < a.size := by omega
    have hgt : scmp a.data.toList b.data.toList = 0 := by
     rw [eq_pre (A := a.data.toList) (C := b.data.toList) (by
                                  simp; have : a.size = b.size := by omega
                                  exact this) fun j hj => HP.out j (by simp at hj; omega)]
     exact scmp_self _
    have HG := Lib.hid hgt
    clear hgt
    go_wp2_with fail
    go_ret
    exact ⟨ret1 (vi HG.out.symm), hbl⟩
theorem ccmp_row {a b : Cl} (h : a.row ≠ b.row) : ccmp a b = scmp a.row.data.toList b.row.data.toList := by
 unfold ccmp or3
 rcases scmp_cases a.row.data.toList b.row.data.toList with ⟨e, k⟩ | ⟨e, k⟩ | ⟨e, k⟩
 ·rw [if_pos (by omega)]
 ·exact absurd (ba_ext k) h
 ·rw [if_pos (by omega)]
theorem ccmp_col {a b : Cl} (h0 : a.row = b.row) (h : a.col ≠ b.col) : ccmp a b = scmp a.col.data.toList b.col.data.toList := by
 unfold ccmp or3
 rw [h0, scmp_self, if_neg (by omega)]
 rcases scmp_cases a.col.data.toList b.col.data.toList with ⟨e, k⟩ | ⟨e, k⟩ | ⟨e, k⟩
 ·rw [if_pos (by omega)]
 ·exact absurd (ba_ext k) h
 ·rw [if_pos (by omega)]
theorem ccmp_at {a b : Cl} (h0 : a.row = b.row) (h1 : a.col = b.col) : ccmp a b = icmp b.at_ a.at_ := by
 unfold ccmp or3
 rw [h0, h1, scmp_self, scmp_self, if_neg (by omega), if_neg (by omega)]
def Sh (c : Cl) : Prop := c.row.size ≤ 1000000 ∧ c.col.size ≤ 1000000
theorem rcompare_any (a b : Cl) (w : World) (ha : Sh a) (hb : Sh b) : Calls Tryz.prog 48 #[a.v, b.v] w fun e w' => e = .returned (.int .i64 (ccmp a b)) ∧ Below w.heap.size w w' := by
 by_cases h0 : a.row = b.row
 ·by_cases h1 : a.col = b.col
  ·have e0 := str_eq h0
   have e1 := str_eq h1
   have HR := Lib.hid (ccmp_at h0 h1)
   clear h0 h1
   rcases icmp_cases b.at_ a.at_ with ⟨e, k⟩ | ⟨e, k⟩ | ⟨e, k⟩
   all_goals
    have HE := Lib.hid (HR.out.trans e)
    clear e
    go_enter Tryz.func48, Tryz.ntmps48
    go_wp2_with (refine boxC rfl (.tmp 0) a rfl rfl ?_)
    constructor
    intro w1 hI1 hb1 hz1
    go_wp2_with (refine boxC rfl (.tmp 1) b rfl rfl ?_)
    constructor
    intro w2 hI2 hb2 hz2
    have HB := Lib.hid (hb1.trans (hb2.mono (by omega)))
    obtain ⟨a0, a1, a2⟩ : _ ∧ _ ∧ _ := ⟨(hI1.bel hb2 (by omega)).c0, (hI1.bel hb2 (by omega)).c1, (hI1.bel hb2 (by omega)).c2⟩
    obtain ⟨c0, c1, c2⟩ : _ ∧ _ ∧ _ := ⟨hI2.c0, hI2.c1, hI2.c2⟩
    clear hI1 hI2 hb1 hb2 hz1 hz2
    go_wp2_with fail
    go_ret
    exact ⟨ret1 (vi HE.out.symm), HB.out⟩
  ·have e0 := str_eq h0
   have e1 := str_ne h1
   have HR := Lib.hid (ccmp_col h0 h1)
   clear h0 h1
   go_enter Tryz.func48, Tryz.ntmps48
   go_wp2_with (refine boxC rfl (.tmp 0) a rfl rfl ?_)
   constructor
   intro w1 hI1 hb1 hz1
   go_wp2_with (refine boxC rfl (.tmp 1) b rfl rfl ?_)
   constructor
   intro w2 hI2 hb2 hz2
   have HB := Lib.hid (hb1.trans (hb2.mono (by omega)))
   obtain ⟨a0, a1, a2⟩ : _ ∧ _ ∧ _ := ⟨(hI1.bel hb2 (by omega)).c0, (hI1.bel hb2 (by omega)).c1, (hI1.bel hb2 (by omega)).c2⟩
   obtain ⟨c0, c1, c2⟩ : _ ∧ _ ∧ _ := ⟨hI2.c0, hI2.c1, hI2.c2⟩
   clear hI1 hI2 hb1 hb2 hz1 hz2
   go_wp2_with fail
   refine (rtext_any _ _ _ ha.2 hb.2).mono ?_
   rintro e w3 ⟨rfl, hb3⟩
   have HB3 := Lib.hid (hb3.mono HB.out.size)
   clear hb3
   go_wp2_with fail
   go_ret
   exact ⟨ret1 (vi HR.out.symm), HB.out.trans HB3.out⟩
 ·have e0 := str_ne h0
  have HR := Lib.hid (ccmp_row h0)
  clear h0
  go_enter Tryz.func48, Tryz.ntmps48
  go_wp2_with (refine boxC rfl (.tmp 0) a rfl rfl ?_)
  constructor
  intro w1 hI1 hb1 hz1
  go_wp2_with (refine boxC rfl (.tmp 1) b rfl rfl ?_)
  constructor
  intro w2 hI2 hb2 hz2
  have HB := Lib.hid (hb1.trans (hb2.mono (by omega)))
  obtain ⟨a0, a1, a2⟩ : _ ∧ _ ∧ _ := ⟨(hI1.bel hb2 (by omega)).c0, (hI1.bel hb2 (by omega)).c1, (hI1.bel hb2 (by omega)).c2⟩
  obtain ⟨c0, c1, c2⟩ : _ ∧ _ ∧ _ := ⟨hI2.c0, hI2.c1, hI2.c2⟩
  clear hI1 hI2 hb1 hb2 hz1 hz2
  go_wp2_with fail
  refine (rtext_any _ _ _ ha.1 hb.1).mono ?_
  rintro e w3 ⟨rfl, hb3⟩
  have HB3 := Lib.hid (hb3.mono HB.out.size)
  clear hb3
  go_wp2_with fail
  go_ret
  exact ⟨ret1 (vi HR.out.symm), HB.out.trans HB3.out⟩
end Go.Proofs.YtcpkhhbbjimdaaaGreatDoor.Ce
namespace Go.Proofs.YtcpkhhbbjimdaaaGreatDoor.Ce
open Go.RowKit
theorem run_equalC (a b : Cl) (w : World) : (Op.equalIn 10000 47 (.agg a.cs) (.agg b.cs)).run Tryz.prog w = .ok (decide (a = b)) w := by
 have h := run_eqC (.tmp 0) (.tmp 0) a b w
 unfold Cl.v at h
 rw [Sem.run_bind, run_eqGuard_agg w _ _ _ _ _ _ guardC, Result.andThen_ok, run_eql_struct] at h
 cases hq : (Op.equalIn 10000 47 (.agg a.cs) (.agg b.cs)).run Tryz.prog w with
 | ok v w' =>
  rw [hq, Result.andThen_ok] at h
  injection h with h1 h2
  injection h1 with h1
  rw [h1, h2]
 | halt x w' =>
  rw [hq] at h
  cases h
theorem run_neC (x y : Operand) (a b : Cl) (w : World) : ((do eqGuard .neq 47 x y a.v b.v; binOp .neq 47 a.v b.v) : Sem Value).run Tryz.prog w = .ok (.bool (!decide (a = b))) w := by
 unfold Cl.v
 rw [Sem.run_bind, run_eqGuard_agg w _ _ _ _ _ _ guardC, Result.andThen_ok, run_neq_struct, run_equalC, Result.andThen_ok]
section
variable {ops : Array Oper} {rest : List Oper} {o : Oper} {a : Act} {w : World} {K0 : Act → World → Prop} {Q : Exit → Act → World → Prop}
theorem wp_neC (x y : Operand) (T' : TypeId) (ho : o.op = .binOp .neq 47 x y T') (c d : Cl) (hx : a.eval x = c.v) (hy : a.eval y = d.v) {b : Bool} (hb : (!decide (c = d)) = b)
  (h : K0 (a.put o.dst (.bool b)) w) : o.wp Tryz.prog a w K0 Q := by
 subst hb
 have e := run_neC x y c d w
 rw [Sem.run_bind] at e
 unfold Oper.wp execOp
 simp only [ho, hx, hy, Sem.run_bind, Sem.run_pure]
 revert e
 cases (eqGuard .neq 47 x y c.v d.v).run Tryz.prog w with
 | ok u w1 =>
  simp only [Result.andThen_ok]
  intro e
  rw [e]
  exact h
 | halt u w1 => intro e; cases e
end
end Go.Proofs.YtcpkhhbbjimdaaaGreatDoor.Ce
