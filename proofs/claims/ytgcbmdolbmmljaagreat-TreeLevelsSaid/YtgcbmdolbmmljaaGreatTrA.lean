/- Layer 14's awake, by the contracts of a tree. -/
import Derived.Test.YtgcbmdolbmmljaaGreatTrI
namespace Go.Proofs.YtgcbmdolbmmljaaGreat.Ce
open Go.RowKit

def tw1 : Cl := ⟨⟨#[97]⟩, ⟨#[120]⟩, 1, ⟨#[49]⟩, false⟩
def tw2 : Cl := ⟨⟨#[97]⟩, ⟨#[120]⟩, 4, ⟨#[]⟩, true⟩
def tws : Sf := ⟨1, 50, 2⟩
def twa : Tr := Tr.empty.after tws tw1
def twb : Tr := twa.after tws tw2
theorem tw1_ok : tw1.ok := by decide
theorem tw2_ok : tw2.ok := by decide
theorem tws_right : tws.right := by decide
theorem tw_c1 : Tr.empty.code tw1 = 0 := by decide +kernel
theorem tw_c2 : twa.code tw2 = 0 := by decide +kernel
theorem tw_lv : twb.lv.map List.length = [2] := by decide +kernel
theorem tw_n : twb.cells.length = 2 := by decide +kernel
theorem tw_g3 : getV twb ⟨#[97]⟩ ⟨#[120]⟩ 3 = ⟨#[49]⟩ := by decide +kernel
theorem tw_b3 : getB twb ⟨#[97]⟩ ⟨#[120]⟩ 3 = true := by decide +kernel
theorem tw_b9 : getB twb ⟨#[97]⟩ ⟨#[120]⟩ 9 = false := by decide +kernel
theorem tw_s : (someP ⟨#[]⟩ ⟨#[]⟩ 2 twb.cells).length = 1 := by decide +kernel
theorem tw_fit1 : FitsK [tw1] := ⟨by decide, by decide +kernel, .inl (by decide)⟩
theorem tw_fit2 : FitsK [tw2, tw1] := ⟨by decide, by decide +kernel, .inl (by decide)⟩
theorem tw_good0 : GoodT tws Tr.empty [] := ⟨tws_right, Tr.empty_ok, Tr.empty_in, ⟨by decide, by decide +kernel, .inl (by decide)⟩⟩
theorem tw_good1 : GoodT tws twa [tw1] := ⟨tws_right, after_ok Tr.empty_ok _ _, after_in Tr.empty_in _ _, tw_fit1⟩
theorem tw_good2 : GoodT tws twb [tw2, tw1] := ⟨tws_right, after_ok (after_ok Tr.empty_ok _ _) _ _, after_in (after_in Tr.empty_in _ _) _ _, tw_fit2⟩
section
variable {At : World → List Nat → List Nat → Nat → Sf → Tr → Prop}
theorem TreeI.bel (I : TreeI At) {w w' : World} {S M : List Nat} {b : Nat} {s : Sf} {t : Tr} (h : At w S M b s t) (hb : Below w.heap.size w w') : At w' S M b s t :=
  I.keep h (Kp.of_below hb []) (by simp) (fun _ hk => .inl hk) (fun k hk => (I.sub h k hk).1) (fun k hk => Nat.lt_of_lt_of_le (I.slt h k hk) hb.size)
/-- one tree, whose blocks that may turn are all from B on -/
def OneT (At : World → List Nat → List Nat → Nat → Sf → Tr → Prop) (w0 w : World) (b : Nat) (s : Sf) (t : Tr) : Prop := ∃ S M, At w S M b s t ∧ (∀ k ∈ M, w0.heap.size ≤ k) ∧ Below w0.heap.size w0 w
theorem OneT.up (I : TreeI At) {w0 w w' : World} {b : Nat} {s : Sf} {t : Tr} (h : OneT At w0 w b s t) (hb : Below w.heap.size w w') : OneT At w0 w' b s t := by
  obtain ⟨S, M, h1, h2, h3⟩ := h
  exact ⟨S, M, I.bel h1 hb, h2, bwstep h3 hb⟩
theorem OneT.put (I : TreeI At) {w0 w : World} {b : Nat} {s : Sf} {t : Tr} {K : List Cl} (c : Cl) (h : OneT At w0 w b s t) (hg : GoodT s t K) (hf : c.ok → FitsK (c :: K)) :
    Calls Tryz.prog 14 #[.pointer (some ⟨b, 0, none⟩), c.v] w fun e w' => e = .returned (.int .i64 (t.code c)) ∧ OneT At w0 w' b s (t.after s c) ∧ Below w0.heap.size w0 w' := by
  obtain ⟨S, M, h1, h2, h3⟩ := h
  refine (I.put c h1 hg hf).mono ?_
  rintro e w' ⟨M', rfl, h4, h5, h6⟩
  have hb : Below w0.heap.size w0 w' := h3.trans (h5.below h2 h3.size)
  exact ⟨rfl, ⟨_, M', h4, fun k hk => (h6 k hk).elim (h2 k) fun q => Nat.le_trans h3.size q, hb⟩, hb⟩
theorem OneT.flush (I : TreeI At) {w0 w : World} {b : Nat} {s : Sf} {t : Tr} {K : List Cl} (h : OneT At w0 w b s t) (hg : GoodT s t K) :
    Calls Tryz.prog 15 #[.pointer (some ⟨b, 0, none⟩)] w fun e w' => (∃ u, e = .returned u) ∧ OneT At w0 w' b s (t.flush s.fan.toNat) ∧ Below w0.heap.size w0 w' := by
  obtain ⟨S, M, h1, h2, h3⟩ := h
  refine (I.flush h1 hg).mono ?_
  rintro e w' ⟨M', hu, h4, h5, h6⟩
  have hb : Below w0.heap.size w0 w' := h3.trans (h5.below h2 h3.size)
  exact ⟨hu, ⟨_, M', h4, fun k hk => (h6 k hk).elim (h2 k) fun q => Nat.le_trans h3.size q, hb⟩, hb⟩
theorem OneT.new (I : TreeI At) (s : Sf) (w : World) (hs : s.right) : Calls Tryz.prog 10 #[s.v] w fun e w' => ∃ b, e = .returned (.tuple #[.pointer (some ⟨b, 0, none⟩), .int .i64 0]) ∧ OneT At w w' b s Tr.empty := by
  refine (I.new_ok s w [] hs (by simp)).mono ?_
  rintro e w' ⟨⟨b, M, rfl, h1, h2⟩, hb⟩
  exact ⟨b, rfl, _, M, h1, h2, hb⟩
theorem OneT.get (I : TreeI At) {w0 w : World} {b : Nat} {s : Sf} {t : Tr} {K : List Cl} (row col : ByteArray) (at_ : Int) (h : OneT At w0 w b s t) (hg : GoodT s t K) (h1 : row.size ≤ 1000000) (h2 : col.size ≤ 1000000) :
    Calls Tryz.prog 16 #[.pointer (some ⟨b, 0, none⟩), .string row, .string col, .int .i64 at_] w fun e w' => e = .returned (.tuple #[.string (getV t row col at_), .bool (getB t row col at_)]) ∧ Below w.heap.size w w' := by
  obtain ⟨S, M, h3, -, -⟩ := h
  exact I.get row col at_ h3 hg h1 h2
theorem OneT.scan (I : TreeI At) {w0 w : World} {b : Nat} {s : Sf} {t : Tr} {K : List Cl} (fr to : ByteArray) (at_ : Int) (h : OneT At w0 w b s t) (hg : GoodT s t K) (h1 : fr.size ≤ 1000000) (h2 : to.size ≤ 1000000) :
    Calls Tryz.prog 19 #[.pointer (some ⟨b, 0, none⟩), .string fr, .string to, .int .i64 at_] w fun e w' => (∃ x, e = .returned x ∧ OwL w' w.heap.size x (someP fr to at_ t.cells)) ∧ Below w.heap.size w w' := by
  obtain ⟨S, M, h3, -, -⟩ := h
  exact I.scan fr to at_ h3 hg h1 h2
theorem OneT.cells (I : TreeI At) {w0 w : World} {b : Nat} {s : Sf} {t : Tr} {K : List Cl} (h : OneT At w0 w b s t) (hg : GoodT s t K) :
    Calls Tryz.prog 21 #[.pointer (some ⟨b, 0, none⟩)] w fun e w' => (∃ x, e = .returned x ∧ OwL w' w.heap.size x t.cells) ∧ Below w.heap.size w w' := by
  obtain ⟨S, M, h3, -, -⟩ := h
  exact I.cells h3 hg
theorem OneT.levels (I : TreeI At) {w0 w : World} {b : Nat} {s : Sf} {t : Tr} {K : List Cl} (h : OneT At w0 w b s t) (hg : GoodT s t K) :
    Calls Tryz.prog 24 #[.pointer (some ⟨b, 0, none⟩)] w fun e w' => (∃ x, e = .returned x ∧ Ow w' w.heap.size 3 x (t.lv.map fun T => .int .i64 (T.length : Int))) ∧ Below w.heap.size w w' := by
  obtain ⟨S, M, h3, -, -⟩ := h
  exact I.levels h3 hg
/-- a slice of so many cells -/
def LenE (n : Nat) (w : World) (e : Ending) (w' : World) : Prop := (∃ A c, e = .returned (.slice A n c)) ∧ Below w.heap.size w w'
theorem LenE.of {n : Nat} {L : List Cl} {w w' : World} {e : Ending} (hn : L.length = n) (h : (∃ x, e = .returned x ∧ OwL w' w.heap.size x L) ∧ Below w.heap.size w w') : LenE n w e w' := by
  obtain ⟨⟨x, rfl, hx⟩, hb⟩ := h
  obtain ⟨A, c, rfl, -, -⟩ := (hx.rd (S := []) (fun _ h => by cases h)).shape
  exact ⟨⟨A, c, by rw [hn]⟩, hb⟩
set_option maxHeartbeats 2000000 in
set_option maxRecDepth 100000 in
theorem awake14_ok (I : TreeI At) (w : World) : Calls Tryz.prog 8 #[] w fun e w' => e = .returned (.bool true) ∧ Below w.heap.size w w' := by
  go_enter Tryz.func8, Tryz.ntmps8
  go_wp2_with fail
  refine (OneT.new I tws w tws_right).mono ?_
  rintro e w1 ⟨b, rfl, hT⟩
  have HT1 := Lib.hid hT
  clear hT
  go_wp2_with fail
  refine (I.new_no ⟨0, 0, 0⟩ w1 (by decide)).mono ?_
  rintro e w2 ⟨rfl, hb2⟩
  have HT2 := Lib.hid (HT1.out.up I hb2)
  clear hb2 HT1
  go_wp2_with fail
  refine (HT2.out.put I tw1 tw_good0 (fun _ => tw_fit1)).mono ?_
  rintro e w3 ⟨rfl, hT, -⟩
  have HT3 : Hid (OneT At w w3 b tws twa) := Lib.hid hT
  rw [tw_c1]
  clear hT HT2
  go_wp2_with fail
  refine (HT3.out.put I tw2 tw_good1 (fun _ => tw_fit2)).mono ?_
  rintro e w4 ⟨rfl, hT, -⟩
  have HT4 : Hid (OneT At w w4 b tws twb) := Lib.hid hT
  rw [tw_c2]
  clear hT HT3
  go_wp2_with fail
  refine (HT4.out.get I ⟨#[97]⟩ ⟨#[120]⟩ 3 tw_good2 (by decide) (by decide)).mono ?_
  rintro e w5 ⟨rfl, hb5⟩
  rw [tw_g3, tw_b3]
  have HT5 := Lib.hid (HT4.out.up I hb5)
  clear hb5 HT4
  go_wp2_with fail
  refine (HT5.out.get I ⟨#[97]⟩ ⟨#[120]⟩ 9 tw_good2 (by decide) (by decide)).mono ?_
  rintro e w6 ⟨rfl, hb6⟩
  rw [tw_b9]
  have HT6 := Lib.hid (HT5.out.up I hb6)
  clear hb6 HT5
  go_wp2_with fail
  have hlv := HT6.out.levels I tw_good2
  rw [show (twb.lv.map fun T => Value.int .i64 (T.length : Int)) = [.int .i64 2] by
    have := tw_lv
    have e : (twb.lv.map fun T => Value.int .i64 (T.length : Int)) = (twb.lv.map List.length).map fun n => .int .i64 (n : Int) := by rw [List.map_map]; rfl
    rw [e, this]
    rfl] at hlv
  refine hlv.mono ?_
  rintro e w7 ⟨⟨x7, rfl, hx7⟩, hb7⟩
  have HT7 := Lib.hid (HT6.out.up I hb7)
  obtain ⟨A7, c7, rfl, hc7, hm7⟩ := hx7.rd.shape
  obtain ⟨g7, rfl, -, -, hg7, -, -⟩ := hx7.at_ (k := 0) (by simp)
  have HCL := Lib.hid ((HT7.out.cells I tw_good2).mono fun e w' h => LenE.of tw_n h)
  clear hx7 hb7 hlv HT6
  go_wp2_with fail
  refine HCL.out.mono ?_
  rintro e w8 ⟨⟨A8, c8, rfl⟩, hb8⟩
  have HT8 := Lib.hid (HT7.out.up I hb8)
  have HSC := Lib.hid ((HT8.out.scan I ⟨#[]⟩ ⟨#[]⟩ 2 tw_good2 (by decide) (by decide)).mono fun e w' h => LenE.of tw_s h)
  clear hb8 HCL HT7
  go_wp2_with fail
  refine HSC.out.mono ?_
  rintro e w9 ⟨⟨A9, c9, rfl⟩, hb9⟩
  have HT9 := Lib.hid (HT8.out.up I hb9)
  clear hb9 HSC HT8
  go_wp2_with fail
  go_ret
  obtain ⟨S, M, -, -, hb⟩ := HT9.out
  exact ⟨rfl, hb⟩
end
end Go.Proofs.YtgcbmdolbmmljaaGreat.Ce
