/- A table in memory: the contracts of start, Get and Rows. -/
import Derived.Test.YtffkbepcdidnjaaMm
namespace Go.Proofs.Ytffkbepcdidnjaa.Ce
open Go.RowKit

/-- the key ahead of all cells of a row -/
def keyR (row : ByteArray) : Cl := tgt row ⟨#[]⟩ 0
theorem klt_keyR {c : Cl} {row : ByteArray} (h : 1 ≤ c.col.size) : klt c (keyR row) ↔ c.row.data.toList < row.data.toList := by
  unfold klt keyR tgt
  refine ⟨fun k => ?_, .inl⟩
  rcases k with k | ⟨-, k | ⟨k, -⟩⟩
  · exact k
  · exact absurd k (List.not_lt_nil _)
  · rw [k] at h
    exact absurd (show 1 ≤ (0 : Nat) from h) (by decide)
set_option maxHeartbeats 400000 in
theorem mstart_any (b : Nat) (v : Value) (L : List Cl) (row : ByteArray) (w : World) (h : MemV w b v L) (hs : Srt L) (hl : L.length ≤ 1000000) (k : Nat) (hk : Place L (keyR row) k) :
    Calls Try.prog 34 #[.pointer (some ⟨b, 0, none⟩), .string row] w fun e w' => e = .returned (.int .i64 (k : Int)) ∧ Below w.heap.size w w' := by
  have hf := mfind_any b v L (keyR row) w h hs (by omega) k hk
  generalize fnd L (keyR row) k = q at *
  clear h hs hk
  go_enter Try.func34, Try.ntmps34
  go_wp2_with fail
  refine hf.mono ?_
  rintro e w1 ⟨rfl, hb⟩
  go_wp2_with fail
  go_ret
  exact ⟨rfl, hb⟩
set_option maxHeartbeats 1000000 in
set_option maxRecDepth 100000 in
theorem mget_any (b : Nat) (v : Value) (L : List Cl) (row col : ByteArray) (at_ : Int) (w : World) (h : MemV w b v L) (hs : Srt L) (hl : L.length ≤ 1000000) :
    Calls Try.prog 21 #[.pointer (some ⟨b, 0, none⟩), .string row, .string col, .int .i64 at_] w fun e w' => e = .returned (.tuple #[(nwC row col at_ L).v, .bool (nwB row col at_ L)]) ∧ Below w.heap.size w w' := by
  have hn := fun w hv => newest_any v L row col at_ w hv hs (by omega)
  generalize nwC row col at_ L = d at *
  generalize nwB row col at_ L = q at *
  go_enter Try.func21, Try.ntmps21
  go_wp2_with (refine allocC rfl rfl ?_)
  constructor
  intro w1 hI1 hb1 _
  have h1 := h.up hb1
  have c0 := h1.c0
  have HR := Lib.hid h1.rd
  have HB := Lib.hid hb1
  clear h h1 hb1 hs
  go_wp2_with fail
  refine (hn _ HR.out).mono ?_
  rintro e w2 ⟨rfl, hb2⟩
  have hI2 := hI1.up hb2
  have HB2 := Lib.hid (bwstep HB.out hb2)
  clear hI1 hb2 hn c0
  go_wp2_with (refine storeC (c := d) rfl (.tmp 8) (.tmp 18) rfl rfl rfl hI2 ?_)
  constructor
  intro w3 hs3
  have HS := Lib.hid hs3
  clear hs3
  go_wp2_with fail
  exact bodyPost_ret (res2 Try.results21 rfl HS.out.i) rfl ⟨rfl, HS.out.bel HB2.out (Nat.le_refl _)⟩
/-- l[lo:hi] -/
theorem RdL.mid {w : World} {S : List Nat} {L : List Cl} {A : Option Addr} {n c lo hi : Nat} (h : RdL w S (.slice A n c) L) (h1 : lo ≤ hi) (h2 : hi ≤ L.length) :
    ∃ A', (if c = lo then A else A.map (·.add (lo * 5))) = A' ∧ RdL w S (.slice A' (hi - lo) (c - lo)) ((L.take hi).drop lo) := by
  refine ⟨_, rfl, ?_⟩
  have hc : L.length ≤ c := by obtain ⟨_, _, e, q, _⟩ := h; injection e with _ _ e; subst e; exact q
  have hm : c ≤ maxLen := by obtain ⟨_, _, e, _, q, _⟩ := h; injection e with _ _ e; subst e; exact q
  rcases Nat.eq_zero_or_pos (hi - lo) with h0 | hp
  · rw [h0, List.drop_of_length_le (by simp; omega)]
    exact RdL.none_ (by omega)
  · rw [if_neg (by omega)]
    obtain ⟨b, off, rfl, -, -⟩ := h.open_ (by omega)
    have := (h.to_ h2).from_ (k := lo) (by simp; omega)
    rw [Option.map_some, Addr.add_lit]
    exact this
/-- what stands from place k1 to k2 -/
theorem filter_mid (p : Cl → Bool) : ∀ {L : List Cl} {k1 k2 : Nat}, (∀ j c, L[j]? = some c → (p c = true ↔ k1 ≤ j ∧ j < k2)) → L.filter p = (L.take k2).drop k1
  | [], k1, k2, _ => by simp
  | c :: L, k1, 0, h => by
    rw [List.take_zero, List.drop_nil, List.filter_eq_nil_iff]
    intro x hx hp
    obtain ⟨j, hj⟩ := List.getElem?_of_mem hx
    have := ((h j x hj).1 hp).2
    omega
  | c :: L, 0, k2 + 1, h => by
    have h0 := (h 0 c rfl).2 ⟨Nat.le_refl _, Nat.succ_pos _⟩
    have ih := filter_mid p (L := L) (k1 := 0) (k2 := k2) fun j d hd => by
      have := h (j + 1) d hd
      rw [this]
      omega
    rw [List.filter_cons_of_pos h0, ih]
    simp
  | c :: L, k1 + 1, k2 + 1, h => by
    have h0 : ¬ p c = true := fun hp => by have := ((h 0 c rfl).1 hp).1; omega
    have ih := filter_mid p (L := L) (k1 := k1) (k2 := k2) fun j d hd => by
      have := h (j + 1) d hd
      rw [this]
      omega
    rw [List.filter_cons_of_neg h0, ih]
    simp
/-- is the cell in one of these rows? -/
def inR (row to : ByteArray) (c : Cl) : Bool := decide (¬ c.row.data.toList < row.data.toList) && (decide (to.size = 0) || decide (c.row.data.toList < to.data.toList))
def rowsC (row to : ByteArray) (L : List Cl) : List Cl := L.filter (inR row to)
theorem place_iff {L : List Cl} {row : ByteArray} {k j : Nat} {c : Cl} (hok : ∀ c ∈ L, c.ok) (hk : Place L (keyR row) k) (hc : L[j]? = some c) : c.row.data.toList < row.data.toList ↔ j < k := by
  rw [← klt_keyR (hok c (List.mem_of_getElem? hc)).c1]
  refine ⟨fun h => ?_, fun h => hk.lt j c h hc⟩
  rcases Nat.lt_or_ge j k with q | q
  · exact q
  · exact absurd h (hk.ge j c q hc)
theorem rowsC_all {L : List Cl} {row to : ByteArray} {k : Nat} (hok : ∀ c ∈ L, c.ok) (hk : Place L (keyR row) k) (h0 : to.size = 0) : rowsC row to L = (L.take L.length).drop k := by
  refine filter_mid _ fun j c hc => ?_
  have hj := (List.getElem?_eq_some_iff.1 hc).1
  have h1 := place_iff hok hk hc
  unfold inR
  simp [h0, h1, hj]
theorem rowsC_to {L : List Cl} {row to : ByteArray} {k k2 : Nat} (hok : ∀ c ∈ L, c.ok) (hk : Place L (keyR row) k) (hk2 : Place L (keyR to) k2) (h0 : to.size ≠ 0) : rowsC row to L = (L.take (max k k2)).drop k := by
  refine filter_mid _ fun j c hc => ?_
  have h1 := place_iff hok hk hc
  have h2 := place_iff hok hk2 hc
  unfold inR
  simp only [h0, h1, h2, Bool.and_eq_true, decide_eq_true_eq, Bool.or_eq_true, false_or, decide_false, Bool.false_eq_true]
  omega
theorem MemV.mid {w : World} {b : Nat} {A : Option Addr} {c : Nat} {L : List Cl} (h : MemV w b (.slice A L.length c) L) {lo hi : Nat} (h1 : lo ≤ hi) (h2 : hi ≤ L.length) : RdL w [] (.slice (if c = lo then A else A.map (·.add (lo * 5))) (hi - lo) (c - lo)) ((L.take hi).drop lo) := by
  obtain ⟨A', rfl, q⟩ := h.rd.mid h1 h2
  exact q
theorem MemV.midN {w : World} {b : Nat} {A : Option Addr} {c : Nat} {L : List Cl} (h : MemV w b (.slice A L.length c) L) {lo hi : Nat} (h1 : lo ≤ hi) (h2 : hi ≤ L.length) (e : ¬ c = lo) : RdL w [] (.slice (A.map fun x => x.add (lo * 5)) (hi - lo) (c - lo)) ((L.take hi).drop lo) := by
  have q := h.mid h1 h2
  rw [if_neg e] at q
  exact q
theorem MemV.midE {w : World} {b : Nat} {A : Option Addr} {c : Nat} {L : List Cl} (h : MemV w b (.slice A L.length c) L) {lo hi : Nat} (h1 : lo ≤ hi) (h2 : hi ≤ L.length) (e : c = lo) : RdL w [] (.slice A (hi - lo) 0) ((L.take hi).drop lo) := by
  have q := h.mid h1 h2
  rw [if_pos e] at q
  subst e
  rw [Nat.sub_self] at q
  exact q
def Mc0 (b : Nat) (v : Value) (w0 w' : World) : Prop := w'.cell? ⟨b, 0, none⟩ = some v ∧ Below w0.heap.size w0 w'
theorem Mc0.of {b : Nat} {v : Value} {L : List Cl} {w0 w' : World} (h : MemV w0 b v L) (hb : Below w0.heap.size w0 w') : Mc0 b v w0 w' := ⟨(h.up hb).c0, hb⟩
set_option maxHeartbeats 4000000 in
set_option maxRecDepth 100000 in
theorem mrows_any (b : Nat) (v : Value) (L : List Cl) (row to : ByteArray) (w : World) (h : MemV w b v L) (hs : Srt L) (hok : ∀ c ∈ L, c.ok) (hl : L.length ≤ 1000000) :
    Calls Try.prog 24 #[.pointer (some ⟨b, 0, none⟩), .string row, .string to] w fun e w' => (∃ x, e = .returned x ∧ OwL w' w.heap.size x (rowsC row to L)) ∧ Below w.heap.size w w' := by
  obtain ⟨A, c, rfl, hc, hm⟩ := h.shape
  unfold maxLen at hm
  obtain ⟨k, hk⟩ := place_exists hs (keyR row)
  have hkl := hk.le
  have HST := Lib.hid (fun W hW => mstart_any b (.slice A L.length c) L row W hW hs hl k hk)
  have HM := Lib.hid h
  have HT := Lib.hid (Mc0.of h ((Below.refl w.heap.size w).drew))
  have HU : Hid (∀ x y : World, Mc0 b (.slice A L.length c) w x → Below x.heap.size x y → Mc0 b (.slice A L.length c) w y) := Lib.hid fun x y hS hb => Mc0.of h (bwstep hS.2 hb)
  have hk0 : (0 : Int) ≤ (k : Int) := by omega
  by_cases h0 : to.size = 0
  · have e0 := empB h0
    obtain ⟨L', hL'⟩ : ∃ L', L' = rowsC row to L := ⟨_, rfl⟩
    have HRC := Lib.hid (rowsC_all hok hk h0)
    rw [← hL'] at HRC ⊢
    have h1 : (k : Int) ≤ (L.length : Int) := by omega
    have h2 : (L.length : Int) ≤ (c : Int) := by omega
    clear h hk hs hok h0 hL'
    go_enter Try.func24, Try.ntmps24
    go_wp2_with fail
    go_region_held3 (fun w' => w'.cell? ⟨b, 0, none⟩ = some (.slice A L.length c) ∧ Below w.heap.size w w') (first | exact HT.out | assumption | exact HU.out _ _ (by assumption) (by assumption))
      (first | (go_at_call 34; refine (HST.out _ (HM.out.up (Below.refl _ _).drew)).mono ?_; rintro e w1 ⟨rfl, hb1⟩))
    have hb2 := bwstep (Below.refl w.heap.size w).drew hb1
    have HM1 := Lib.hid (HM.out.up hb2)
    have c0 := HM1.out.c0
    have HB1 := Lib.hid hb2
    clear hb1 hb2
    go_wp2_with fail
    all_goals
      refine (cloneL_any _ L' _ [] (by rw [HRC.out]; first | exact HM1.out.midN hkl (Nat.le_refl _) (by assumption) | exact HM1.out.midE hkl (Nat.le_refl _) (by assumption)) (by rw [HRC.out]; simp; omega)).mono ?_
      rintro e w2 ⟨⟨x, rfl, hx⟩, hb2⟩
      go_wp2_with fail
      go_ret
      exact ⟨⟨_, rfl, hx.mono HB1.out.size⟩, bwstep HB1.out hb2⟩
  · have e0 := nempB h0
    obtain ⟨k2, hk2⟩ := place_exists hs (keyR to)
    have hkl2 := hk2.le
    have HST2 := Lib.hid (fun W hW => mstart_any b (.slice A L.length c) L to W hW hs hl k2 hk2)
    obtain ⟨L', hL'⟩ : ∃ L', L' = rowsC row to L := ⟨_, rfl⟩
    have HRC := Lib.hid (rowsC_to hok hk hk2 h0)
    rw [← hL'] at HRC ⊢
    obtain ⟨k3, hk3⟩ : ∃ k3, k3 = max k k2 := ⟨_, rfl⟩
    rw [← hk3] at HRC
    have hmx : max (k : Int) (k2 : Int) = (k3 : Int) := by omega
    have hle : k ≤ k3 := by omega
    have hle2 : k3 ≤ L.length := by omega
    have h1 : (k : Int) ≤ (k3 : Int) := by omega
    have h2 : (k3 : Int) ≤ (c : Int) := by omega
    have h3 : (0 : Int) ≤ (k3 : Int) := by omega
    clear h hk hk2 hs hok h0 hL' hk3
    go_enter Try.func24, Try.ntmps24
    go_wp2_with fail
    go_region_held3 (fun w' => w'.cell? ⟨b, 0, none⟩ = some (.slice A L.length c) ∧ Below w.heap.size w w') (first | exact HT.out | assumption | exact HU.out _ _ (by assumption) (by assumption))
      (first | (go_at_call 34; refine (HST.out _ (HM.out.up (Below.refl _ _).drew)).mono ?_; rintro e w1 ⟨rfl, hb1⟩))
    have hb2 := bwstep (Below.refl w.heap.size w).drew hb1
    have HM1 := Lib.hid (HM.out.up hb2)
    have HB1 := Lib.hid hb2
    clear hb1 hb2
    go_wp2_with fail
    refine (HST2.out _ HM1.out).mono ?_
    rintro e w2 ⟨rfl, hb2⟩
    have HM2 := Lib.hid (HM1.out.up hb2)
    have HB2 := Lib.hid (bwstep HB1.out hb2)
    have c0 := HM2.out.c0
    clear hb2
    go_wp2_with fail
    all_goals
      refine (cloneL_any _ L' _ [] (by rw [HRC.out]; first | exact HM2.out.midN hle hle2 (by assumption) | exact HM2.out.midE hle hle2 (by assumption)) (by rw [HRC.out]; simp; omega)).mono ?_
      rintro e w3 ⟨⟨x, rfl, hx⟩, hb3⟩
      go_wp2_with fail
      go_ret
      exact ⟨⟨_, rfl, hx.mono HB2.out.size⟩, bwstep HB2.out hb3⟩
end Go.Proofs.Ytffkbepcdidnjaa.Ce
