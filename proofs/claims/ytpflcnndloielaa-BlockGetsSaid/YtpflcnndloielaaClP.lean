/- Cells as plain records: when one is right, how two compare, lists of them in order. Plain. -/
import Derived.Test.YtpflcnndloielaaWir
import Derived.Sort.Walk0
namespace Go.Proofs.Ytpflcnndloielaa.Ce
open Go.RowKit

/-- a cell -/
structure Cl where
  row : ByteArray
  col : ByteArray
  at_ : Int
  val : ByteArray
  gone : Bool
theorem Cl.ext' {a b : Cl} (h1 : a.row = b.row) (h2 : a.col = b.col) (h3 : a.at_ = b.at_) (h4 : a.val = b.val) (h5 : a.gone = b.gone) : a = b := by
  cases a; cases b
  simp only at h1 h2 h3 h4 h5
  subst h1 h2 h3 h4 h5
  rfl
instance : DecidableEq Cl := fun a b => decidable_of_iff (a.row = b.row ∧ a.col = b.col ∧ a.at_ = b.at_ ∧ a.val = b.val ∧ a.gone = b.gone)
  ⟨fun ⟨h1, h2, h3, h4, h5⟩ => Cl.ext' h1 h2 h3 h4 h5, fun h => by subst h; exact ⟨rfl, rfl, rfl, rfl, rfl⟩⟩
def Cl.zero : Cl := ⟨⟨#[]⟩, ⟨#[]⟩, 0, ⟨#[]⟩, false⟩
/-- it may be kept -/
structure Cl.ok (c : Cl) : Prop where
  r1 : 1 ≤ c.row.size
  r2 : c.row.size ≤ 64
  c1 : 1 ≤ c.col.size
  c2 : c.col.size ≤ 64
  a1 : 0 ≤ c.at_
  a2 : c.at_ ≤ 4294967295
  v : c.val.size ≤ 256
  g : c.gone = true → c.val.size = 0
theorem Cl.ok_iff {c : Cl} : c.ok ↔ (1 ≤ c.row.size ∧ c.row.size ≤ 64) ∧ (1 ≤ c.col.size ∧ c.col.size ≤ 64) ∧ (0 ≤ c.at_ ∧ c.at_ ≤ 4294967295) ∧ c.val.size ≤ 256 ∧ (c.gone = true → c.val.size = 0) :=
  ⟨fun h => ⟨⟨h.r1, h.r2⟩, ⟨h.c1, h.c2⟩, ⟨h.a1, h.a2⟩, h.v, h.g⟩, fun ⟨⟨a, b⟩, ⟨c, d⟩, ⟨e, f⟩, g, h⟩ => ⟨a, b, c, d, e, f, g, h⟩⟩
instance (c : Cl) : Decidable c.ok := decidable_of_iff _ Cl.ok_iff.symm

/-! how bytes, numbers, cells compare -/
def scmp (a b : List UInt8) : Int := if a < b then -1 else if b < a then 1 else 0
def icmp (a b : Int) : Int := if a < b then -1 else if b < a then 1 else 0
def or3 (a b c : Int) : Int := if a ≠ 0 then a else if b ≠ 0 then b else c
def ccmp (a b : Cl) : Int := or3 (scmp a.row.data.toList b.row.data.toList) (scmp a.col.data.toList b.col.data.toList) (icmp b.at_ a.at_)

theorem lt_tri {a b : List UInt8} (h : a ≠ b) (k : ¬ a < b) : b < a := by
  by_cases h2 : b < a
  · exact h2
  · exact absurd (List.le_antisymm (List.not_lt.1 h2) (List.not_lt.1 k)) h
theorem ba_ext {a b : ByteArray} (h : a.data.toList = b.data.toList) : a = b := by
  cases a; cases b
  congr 1
  exact Array.toList_inj.1 h
theorem scmp_cases (a b : List UInt8) : (scmp a b = -1 ∧ a < b) ∨ (scmp a b = 0 ∧ a = b) ∨ (scmp a b = 1 ∧ b < a) := by
  unfold scmp
  by_cases h1 : a < b
  · exact .inl ⟨by simp [h1], h1⟩
  · by_cases h2 : b < a
    · exact .inr (.inr ⟨by simp [h1, h2], h2⟩)
    · refine .inr (.inl ⟨by simp [h1, h2], ?_⟩)
      exact List.le_antisymm (List.not_lt.1 h2) (List.not_lt.1 h1)
theorem scmp_self (a : List UInt8) : scmp a a = 0 := by
  unfold scmp
  simp [List.lt_irrefl]
theorem scmp_lt {a b : List UInt8} (h : a < b) : scmp a b = -1 := by unfold scmp; simp [h]
theorem scmp_gt {a b : List UInt8} (h : b < a) : scmp a b = 1 := by
  unfold scmp
  rw [if_neg (fun k => List.lt_irrefl a (List.lt_trans k h)), if_pos h]
theorem icmp_cases (a b : Int) : (icmp a b = -1 ∧ a < b) ∨ (icmp a b = 0 ∧ a = b) ∨ (icmp a b = 1 ∧ b < a) := by
  unfold icmp
  by_cases h1 : a < b
  · exact .inl ⟨by simp [h1], h1⟩
  · by_cases h2 : b < a
    · exact .inr (.inr ⟨by simp [h1, h2], h2⟩)
    · exact .inr (.inl ⟨by simp [h1, h2], by omega⟩)
/-- the key of a stands ahead of that of b -/
def klt (a b : Cl) : Prop := a.row.data.toList < b.row.data.toList ∨ (a.row = b.row ∧ (a.col.data.toList < b.col.data.toList ∨ (a.col = b.col ∧ b.at_ < a.at_)))
def keq (a b : Cl) : Prop := a.row = b.row ∧ a.col = b.col ∧ a.at_ = b.at_
theorem ccmp_cases (a b : Cl) : (ccmp a b = -1 ∧ klt a b) ∨ (ccmp a b = 0 ∧ keq a b) ∨ (ccmp a b = 1 ∧ klt b a) := by
  unfold ccmp or3
  rcases scmp_cases a.row.data.toList b.row.data.toList with ⟨h1, k1⟩ | ⟨h1, k1⟩ | ⟨h1, k1⟩
  · exact .inl ⟨by rw [h1]; rfl, .inl k1⟩
  · have e1 := ba_ext k1
    rcases scmp_cases a.col.data.toList b.col.data.toList with ⟨h2, k2⟩ | ⟨h2, k2⟩ | ⟨h2, k2⟩
    · exact .inl ⟨by rw [h1, h2]; rfl, .inr ⟨e1, .inl k2⟩⟩
    · have e2 := ba_ext k2
      rcases icmp_cases b.at_ a.at_ with ⟨h3, k3⟩ | ⟨h3, k3⟩ | ⟨h3, k3⟩
      · exact .inl ⟨by rw [h1, h2, h3]; rfl, .inr ⟨e1, .inr ⟨e2, k3⟩⟩⟩
      · exact .inr (.inl ⟨by rw [h1, h2, h3]; rfl, e1, e2, k3.symm⟩)
      · exact .inr (.inr ⟨by rw [h1, h2, h3]; rfl, .inr ⟨e1.symm, .inr ⟨e2.symm, k3⟩⟩⟩)
    · exact .inr (.inr ⟨by rw [h1, h2]; rfl, .inr ⟨e1.symm, .inl k2⟩⟩)
  · exact .inr (.inr ⟨by rw [h1]; rfl, .inl k1⟩)
theorem klt_irrefl (a : Cl) : ¬ klt a a := by
  rintro (h | ⟨-, h | ⟨-, h⟩⟩)
  · exact List.lt_irrefl _ h
  · exact List.lt_irrefl _ h
  · omega
theorem klt_trans {a b c : Cl} (h : klt a b) (k : klt b c) : klt a c := by
  unfold klt at *
  rcases h with h | ⟨e1, h⟩
  · rcases k with k | ⟨e2, -⟩
    · exact .inl (List.lt_trans h k)
    · rw [e2] at h
      exact .inl h
  · rcases k with k | ⟨e2, k⟩
    · rw [← e1] at k
      exact .inl k
    · refine .inr ⟨e1.trans e2, ?_⟩
      rcases h with h | ⟨e3, h⟩
      · rcases k with k | ⟨e4, -⟩
        · exact .inl (List.lt_trans h k)
        · rw [e4] at h
          exact .inl h
      · rcases k with k | ⟨e4, k⟩
        · rw [← e3] at k
          exact .inl k
        · exact .inr ⟨e3.trans e4, by omega⟩
theorem klt_eq {a b c : Cl} (h : klt a b) (k : keq b c) : klt a c := by
  obtain ⟨k1, k2, k3⟩ := k
  unfold klt at *
  rw [← k1, ← k2, ← k3]
  exact h
theorem eq_klt {a b c : Cl} (h : keq a b) (k : klt b c) : klt a c := by
  obtain ⟨k1, k2, k3⟩ := h
  unfold klt at *
  rw [k1, k2, k3]
  exact k
theorem keq_symm {a b : Cl} (h : keq a b) : keq b a := ⟨h.1.symm, h.2.1.symm, h.2.2.symm⟩
theorem keq_trans {a b c : Cl} (h : keq a b) (k : keq b c) : keq a c := ⟨h.1.trans k.1, h.2.1.trans k.2.1, h.2.2.trans k.2.2⟩
theorem klt_neq {a b : Cl} (h : klt a b) : ¬ keq a b := fun k => klt_irrefl b (eq_klt (keq_symm k) h)
theorem ccmp_lt {a b : Cl} : ccmp a b = -1 ↔ klt a b := by
  refine ⟨fun h => ?_, fun h => ?_⟩
  · rcases ccmp_cases a b with ⟨e, k⟩ | ⟨e, k⟩ | ⟨e, k⟩
    · exact k
    · omega
    · omega
  · rcases ccmp_cases a b with ⟨e, k⟩ | ⟨e, k⟩ | ⟨e, k⟩
    · exact e
    · exact absurd k (klt_neq h)
    · exact absurd (klt_trans h k) (klt_irrefl _)
theorem ccmp_eq {a b : Cl} : ccmp a b = 0 ↔ keq a b := by
  refine ⟨fun h => ?_, fun h => ?_⟩
  · rcases ccmp_cases a b with ⟨e, k⟩ | ⟨e, k⟩ | ⟨e, k⟩
    · omega
    · exact k
    · omega
  · rcases ccmp_cases a b with ⟨e, k⟩ | ⟨e, k⟩ | ⟨e, k⟩
    · exact absurd h (klt_neq k)
    · exact e
    · exact absurd (keq_symm h) (klt_neq k)
theorem ccmp_gt {a b : Cl} : ccmp a b = 1 ↔ klt b a := by
  refine ⟨fun h => ?_, fun h => ?_⟩
  · rcases ccmp_cases a b with ⟨e, k⟩ | ⟨e, k⟩ | ⟨e, k⟩
    · omega
    · omega
    · exact k
  · rcases ccmp_cases a b with ⟨e, k⟩ | ⟨e, k⟩ | ⟨e, k⟩
    · exact absurd (klt_trans h k) (klt_irrefl _)
    · exact absurd (keq_symm k) (klt_neq h)
    · exact e
theorem ccmp_le {a b : Cl} : ccmp a b ≤ 0 ↔ klt a b ∨ keq a b := by
  rcases ccmp_cases a b with ⟨e, k⟩ | ⟨e, k⟩ | ⟨e, k⟩
  · exact ⟨fun _ => .inl k, fun _ => by omega⟩
  · exact ⟨fun _ => .inr k, fun _ => by omega⟩
  · refine ⟨fun _ => by omega, fun h => ?_⟩
    rcases h with h | h
    · exact absurd (klt_trans h k) (klt_irrefl _)
    · exact absurd (keq_symm h) (klt_neq k)
theorem ccmp_neg (a b : Cl) : ccmp a b = -ccmp b a := by
  rcases ccmp_cases a b with ⟨e, k⟩ | ⟨e, k⟩ | ⟨e, k⟩
  · rw [e, ccmp_gt.2 k]
  · rw [e, ccmp_eq.2 (keq_symm k)]; rfl
  · rw [e, ccmp_lt.2 k]; rfl
theorem ccmp_range (a b : Cl) : -1 ≤ ccmp a b ∧ ccmp a b ≤ 1 := by
  rcases ccmp_cases a b with ⟨e, k⟩ | ⟨e, k⟩ | ⟨e, k⟩ <;> omega
theorem klt_total {a b : Cl} (h : ¬ klt a b) (k : ¬ keq a b) : klt b a := by
  rcases ccmp_cases a b with ⟨e, q⟩ | ⟨e, q⟩ | ⟨e, q⟩
  · exact absurd q h
  · exact absurd q k
  · exact q

/-! sorted: all right, each key ahead of the next one -/
def Srt (L : List Cl) : Prop := L.Pairwise klt
/-- sorted up to k -/
def sortedTo (L : List Cl) (k : Nat) : Prop := (∀ j c, j < k → L[j]? = some c → c.ok) ∧ (∀ j c d, j + 1 < k → L[j]? = some c → L[j + 1]? = some d → klt c d)
def Sorted (L : List Cl) : Prop := sortedTo L L.length
instance (a b : Cl) : Decidable (klt a b) := decidable_of_iff _ ccmp_lt
theorem srt_of_next : ∀ {L : List Cl}, (∀ j c d, L[j]? = some c → L[j + 1]? = some d → klt c d) → Srt L
  | [], _ => List.Pairwise.nil
  | [a], _ => List.pairwise_singleton _ _
  | a :: b :: L, h => by
    have ih : Srt (b :: L) := srt_of_next fun j c d hc hd => h (j + 1) c d (by simpa using hc) (by simpa using hd)
    have hab : klt a b := h 0 a b rfl rfl
    refine List.pairwise_cons.2 ⟨fun x hx => ?_, ih⟩
    rcases List.mem_cons.1 hx with rfl | hx
    · exact hab
    · exact klt_trans hab ((List.pairwise_cons.1 ih).1 x hx)
theorem srt_at {L : List Cl} (h : Srt L) {i j : Nat} {c d : Cl} (hij : i < j) (hc : L[i]? = some c) (hd : L[j]? = some d) : klt c d := by
  obtain ⟨h1, rfl⟩ := List.getElem?_eq_some_iff.1 hc
  obtain ⟨h2, rfl⟩ := List.getElem?_eq_some_iff.1 hd
  exact List.pairwise_iff_getElem.1 h i j h1 h2 hij
theorem sorted_iff {L : List Cl} : Sorted L ↔ (∀ c ∈ L, c.ok) ∧ Srt L := by
  refine ⟨fun h => ⟨fun c hc => ?_, srt_of_next fun j c d hc hd => h.2 j c d (List.getElem?_eq_some_iff.1 hd).1 hc hd⟩, fun h => ⟨fun j c _ hc => h.1 c (List.mem_of_getElem? hc), fun j c d _ hc hd => srt_at h.2 (Nat.lt_succ_self j) hc hd⟩⟩
  obtain ⟨j, hj⟩ := List.getElem?_of_mem hc
  exact h.1 j c (List.getElem?_eq_some_iff.1 hj).1 hj
theorem sortedTo_succ {L : List Cl} {k : Nat} {c : Cl} (h : sortedTo L k) (hc : L[k]? = some c) (hok : c.ok) (hn : ∀ b, 0 < k → L[k - 1]? = some b → klt b c) : sortedTo L (k + 1) := by
  refine ⟨fun j d hj hd => ?_, fun j d e hj hd he => ?_⟩
  · by_cases hjk : j = k
    · subst hjk
      rw [hc] at hd
      injection hd with hd
      exact hd ▸ hok
    · exact h.1 j d (by omega) hd
  · by_cases hjk : j + 1 = k
    · subst hjk
      rw [hc] at he
      injection he with he
      subst he
      exact hn d (by omega) (by simpa using hd)
    · exact h.2 j d e (by omega) hd he
theorem not_sorted_ok {L : List Cl} {k : Nat} {c : Cl} (hc : L[k]? = some c) (h : ¬ c.ok) : ¬ Sorted L := fun hs => h (hs.1 k c (List.getElem?_eq_some_iff.1 hc).1 hc)
theorem not_sorted_lt {L : List Cl} {k : Nat} {b c : Cl} (hb : L[k]? = some b) (hc : L[k + 1]? = some c) (h : ¬ klt b c) : ¬ Sorted L := fun hs => h (hs.2 k b c (List.getElem?_eq_some_iff.1 hc).1 hb hc)
noncomputable def sortedB (L : List Cl) : Bool := @decide (Sorted L) (Classical.propDecidable _)
theorem sortedB_true {L : List Cl} (h : Sorted L) : sortedB L = true := by unfold sortedB; simpa using h
theorem sortedB_false {L : List Cl} (h : ¬ Sorted L) : sortedB L = false := by unfold sortedB; simpa using h

/-! put in, in the place of one with its key -/
def put1 (c : Cl) : List Cl → List Cl
  | [] => [c]
  | d :: r => if ccmp d c = -1 then d :: put1 c r else if ccmp d c = 0 then c :: r else c :: d :: r
def sortC (l : List Cl) : List Cl := l.foldl (fun s c => put1 c s) []
theorem mem_put1 {c x : Cl} : ∀ {L : List Cl}, x ∈ put1 c L → x = c ∨ x ∈ L
  | [], h => by simpa [put1] using h
  | d :: r, h => by
    unfold put1 at h
    split at h
    · rcases List.mem_cons.1 h with rfl | h
      · exact .inr (by simp)
      · rcases mem_put1 h with h | h
        · exact .inl h
        · exact .inr (by simp [h])
    · split at h
      · rcases List.mem_cons.1 h with h | h
        · exact .inl h
        · exact .inr (by simp [h])
      · rcases List.mem_cons.1 h with h | h
        · exact .inl h
        · exact .inr h
theorem srt_put1 {c : Cl} : ∀ {L : List Cl}, Srt L → Srt (put1 c L)
  | [], _ => List.pairwise_singleton _ _
  | d :: r, h => by
    obtain ⟨h1, h2⟩ := List.pairwise_cons.1 h
    unfold put1
    rcases ccmp_cases d c with ⟨e, k⟩ | ⟨e, k⟩ | ⟨e, k⟩
    · rw [if_pos e]
      refine List.pairwise_cons.2 ⟨fun x hx => ?_, srt_put1 h2⟩
      rcases mem_put1 hx with rfl | hx
      · exact k
      · exact h1 x hx
    · rw [if_neg (by omega), if_pos e]
      exact List.pairwise_cons.2 ⟨fun x hx => eq_klt (keq_symm k) (h1 x hx), h2⟩
    · rw [if_neg (by omega), if_neg (by omega)]
      refine List.pairwise_cons.2 ⟨fun x hx => ?_, h⟩
      rcases List.mem_cons.1 hx with rfl | hx
      · exact k
      · exact klt_trans k (h1 x hx)
theorem ok_put1 {c : Cl} {L : List Cl} (hc : c.ok) (h : ∀ x ∈ L, x.ok) : ∀ x ∈ put1 c L, x.ok := fun x hx => by
  rcases mem_put1 hx with rfl | hx
  · exact hc
  · exact h x hx
theorem len_put1 (c : Cl) : ∀ L : List Cl, (put1 c L).length ≤ L.length + 1
  | [] => by simp [put1]
  | d :: r => by
    have := len_put1 c r
    unfold put1
    split
    · simp; omega
    · split <;> simp
theorem sortC_snoc {l : List Cl} {k : Nat} {c : Cl} (h : l[k]? = some c) : sortC (l.take (k + 1)) = put1 c (sortC (l.take k)) := by
  obtain ⟨hl, rfl⟩ := List.getElem?_eq_some_iff.1 h
  unfold sortC
  rw [List.take_succ_eq_append_getElem hl, List.foldl_append]
  rfl
theorem sortC_ind {l : List Cl} (hok : ∀ c ∈ l, c.ok) : ∀ k, Srt (sortC (l.take k)) ∧ (∀ x ∈ sortC (l.take k), x.ok) ∧ (sortC (l.take k)).length ≤ k
  | 0 => by simp [sortC, Srt]
  | k + 1 => by
    obtain ⟨h1, h2, h3⟩ := sortC_ind hok k
    cases hk : l[k]? with
    | none =>
      have : l.length ≤ k := by simpa using hk
      rw [List.take_of_length_le (by omega)] at h1 h2 h3
      rw [List.take_of_length_le (by omega)]
      exact ⟨h1, h2, by omega⟩
    | some c =>
      rw [sortC_snoc hk]
      have := len_put1 c (sortC (l.take k))
      exact ⟨srt_put1 h1, ok_put1 (hok c (List.mem_of_getElem? hk)) h2, by omega⟩
theorem sortC_ok {l : List Cl} (hok : ∀ c ∈ l, c.ok) : Srt (sortC l) ∧ (∀ x ∈ sortC l, x.ok) ∧ (sortC l).length ≤ l.length := by
  have := sortC_ind hok l.length
  rw [List.take_length] at this
  exact this
/-- put1 by places: the first k stand ahead -/
theorem put1_at {c : Cl} : ∀ {L : List Cl} {k : Nat}, k ≤ L.length → (∀ j d, j < k → L[j]? = some d → ccmp d c = -1) → (∀ d, L[k]? = some d → ccmp d c ≠ -1) →
    put1 c L = L.take k ++ c :: (if L[k]?.map (fun d => ccmp d c) = some 0 then L.drop (k + 1) else L.drop k)
  | [], k, hk, _, _ => by
    obtain rfl : k = 0 := by simpa using hk
    simp [put1]
  | d :: r, 0, _, _, h2 => by
    have h0 := h2 d rfl
    unfold put1
    rw [if_neg h0]
    simp only [List.getElem?_cons_zero, Option.map_some, Option.some.injEq]
    split <;> simp
  | d :: r, k + 1, hk, h1, h2 => by
    have h0 := h1 0 d (by omega) rfl
    have ih := put1_at (c := c) (L := r) (k := k) (by simpa using hk) (fun j e hj he => h1 (j + 1) e (by omega) (by simpa using he)) (fun e he => h2 e (by simpa using he))
    unfold put1
    rw [if_pos h0, ih]
    simp

/-! the newest of a row and a column up to a time -/
/-- the first of the list that is of the row and column, not later -/
def fits (row col : ByteArray) (at_ : Int) (c : Cl) : Prop := c.row = row ∧ c.col = col ∧ c.at_ ≤ at_
instance (row col : ByteArray) (at_ : Int) (c : Cl) : Decidable (fits row col at_ c) := by unfold fits; infer_instance
def newest (row col : ByteArray) (at_ : Int) (L : List Cl) : Option Cl := L.find? fun c => decide (fits row col at_ c)
/-- the cells ahead of the key asked for -/
theorem fits_iff {row col : ByteArray} {at_ : Int} {c : Cl} : fits row col at_ c ↔ c.row = row ∧ c.col = col ∧ ¬ klt c ⟨row, col, at_, ⟨#[]⟩, false⟩ := by
  unfold fits klt
  constructor
  · rintro ⟨rfl, rfl, h⟩
    refine ⟨rfl, rfl, ?_⟩
    rintro (h1 | ⟨-, h1 | ⟨-, h1⟩⟩)
    · exact List.lt_irrefl _ h1
    · exact List.lt_irrefl _ h1
    · simp only at h1; omega
  · rintro ⟨rfl, rfl, h⟩
    refine ⟨rfl, rfl, ?_⟩
    by_cases h1 : c.at_ ≤ at_
    · exact h1
    · exact absurd (.inr ⟨rfl, .inr ⟨rfl, by simp only; omega⟩⟩) h
/-- between two cells of one row and column stand such alone -/
theorem between {a b c : Cl} (h1 : klt a b) (h2 : klt b c ∨ keq b c) (hr : a.row = c.row) (hc : a.col = c.col) : b.row = c.row ∧ b.col = c.col := by
  rcases h2 with h2 | h2
  · unfold klt at h1 h2
    rw [hr, hc] at h1
    rcases h1 with h1 | ⟨e1, h1⟩
    · rcases h2 with h2 | ⟨e2, h2⟩
      · exact absurd (List.lt_trans h1 h2) (List.lt_irrefl _)
      · rw [e2] at h1; exact absurd h1 (List.lt_irrefl _)
    · refine ⟨e1.symm, ?_⟩
      rcases h2 with h2 | ⟨e2, h2⟩
      · rw [e1] at h2; exact absurd h2 (List.lt_irrefl _)
      · rcases h1 with h1 | ⟨e3, -⟩
        · rcases h2 with h2 | ⟨e4, -⟩
          · exact absurd (List.lt_trans h1 h2) (List.lt_irrefl _)
          · rw [e4] at h1; exact absurd h1 (List.lt_irrefl _)
        · exact e3.symm
  · exact ⟨h2.1, h2.2.1⟩
end Go.Proofs.Ytpflcnndloielaa.Ce
