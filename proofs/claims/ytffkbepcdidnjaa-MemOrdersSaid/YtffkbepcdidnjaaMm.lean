/- A table in memory: what it holds, the contracts of what only reads it. -/
import Derived.Test.YtffkbepcdidnjaaInt
import Derived.Test.YtffkbepcdidnjaaCnw
import Derived.Test.YtffkbepcdidnjaaCput
namespace Go.Proofs.Ytffkbepcdidnjaa.Ce
open Go.RowKit

set_option maxHeartbeats 400000 in
theorem cloneL_any (v : Value) (L : List Cl) (w : World) (S : List Nat) (hr : RdL w S v L) (hl : L.length ≤ 1000000) :
    Calls Try.prog 32 #[v] w fun e w' => (∃ x, e = .returned x ∧ OwL w' w.heap.size x L) ∧ Below w.heap.size w w' := by
  obtain ⟨A, c, rfl, hc, hm⟩ := hr.shape
  have qT : ∀ (w : World) (a : Option Addr) (n c n' c' : Nat), (binOp .eql 22 (.slice a n c) (.slice none n' c')).run Try.prog w = .ok (.bool a.isNone) w := fun w a n c n' c' => Lib.run_eql_slice_nil w _ _ a n c n' c' Try.underlying22
  cases A with
  | none =>
    have h0 : L = [] := by
      rcases Nat.eq_zero_or_pos L.length with h | h
      · exact List.eq_nil_of_length_eq_zero h
      · obtain ⟨b, off, e, -⟩ := hr.open_ h
        cases e
    subst h0
    go_enter Try.func32, Try.ntmps32
    go_wp2_with fail
    go_ret
    exact ⟨⟨_, rfl, OwL.nil _ _⟩, Below.refl _ _⟩
  | some a =>
    have hr1 := hr.bel (bwalloc (bwrefl w) (.cells #[] 29))
    have hl1 : ([] : List Cl).length + L.length ≤ 2199023255552 := by simp; omega
    go_enter Try.func32, Try.ntmps32
    go_wp2_with (at_builtin; refine wpList_appL rfl (.tmp 5) (.tmp 6) rfl rfl (OwL.empty w (Nat.le_refl _) _ rfl) rfl hr1 hl1 (by simp) ?_; intro v2 w2 ho2 hg2 _; have hB2 : Below w.heap.size w w2 := (bwalloc (Below.refl _ _) _).grown hg2 (by simp) (fun k hk => ((OwL.empty w (Nat.le_refl _) _ rfl).lt k hk).1))
    go_ret
    exact ⟨⟨_, rfl, ho2⟩, hB2⟩

/-- the bytes of all cells -/
def szs : List Cl → Int
  | [] => 0
  | c :: L => ((cellB c).length : Int) + szs L
theorem szs_app : ∀ A C : List Cl, szs (A ++ C) = szs A + szs C
  | [], C => by simp [szs]
  | c :: A, C => by rw [List.cons_append, szs, szs, szs_app A C]; omega
/-- block b is a table whose cells stand in the slice v -/
structure MemV (w : World) (b : Nat) (v : Value) (L : List Cl) : Prop where
  h : w.heap[b]? = some (.cells #[v, .int .i64 (szs L)] 46 (0, 0))
  own : OwL w 0 v L
  ne : v.ownBlock ≠ some b
/-- the blocks that are the table's own -/
def blks (b : Nat) (v : Value) : List Nat := b :: v.ownBlock.toList
section
variable {w w' : World} {b : Nat} {v : Value} {L : List Cl}
theorem MemV.c0 (h : MemV w b v L) : w.cell? ⟨b, 0, none⟩ = some v := cell_of_row _ _ 0 _ _ _ h.h
theorem MemV.c1 (h : MemV w b v L) : w.cell? ⟨b, 1, none⟩ = some (.int .i64 (szs L)) := cell_of_row _ _ 1 _ _ _ h.h
theorem MemV.lt (h : MemV w b v L) : b < w.heap.size := (Array.getElem?_eq_some_iff.1 h.h).1
theorem MemV.up (h : MemV w b v L) (hb : Below w.heap.size w w') : MemV w' b v L := ⟨(hb.block b h.lt).trans h.h, h.own.below hb, h.ne⟩
theorem MemV.rd (h : MemV w b v L) : RdL w [] v L := h.own.rd (fun _ h => by cases h)
theorem MemV.shape (h : MemV w b v L) : ∃ A c, v = .slice A L.length c ∧ L.length ≤ c ∧ c ≤ maxLen := h.rd.shape
theorem mem_blks {k : Nat} : k ∈ blks b v ↔ k = b ∨ v.ownBlock = some k := by simp [blks]
theorem MemV.blk_lt (h : MemV w b v L) : ∀ k ∈ blks b v, k < w.heap.size := fun k hk => by
  rcases mem_blks.1 hk with rfl | hk
  · exact h.lt
  · exact (h.own.lt k hk).2
end
set_option maxHeartbeats 400000 in
theorem mnew_any (w : World) : Calls Try.prog 9 #[] w fun e w' => (∃ b, e = .returned (.pointer (some ⟨b, 0, none⟩)) ∧ w.heap.size ≤ b ∧ MemV w' b (.slice none 0 0) []) ∧ Below w.heap.size w w' := by
  go_enter Try.func9, Try.ntmps9
  go_wp2
  go_ret
  exact ⟨⟨w.heap.size, rfl, Nat.le_refl _, ⟨heap_alloc_new _ _, OwL.nil _ _, by simp [Value.ownBlock]⟩⟩, bwalloc (Below.refl _ _) _⟩
set_option maxHeartbeats 400000 in
theorem mlen_any (b : Nat) (v : Value) (L : List Cl) (w : World) (h : MemV w b v L) : Calls Try.prog 16 #[.pointer (some ⟨b, 0, none⟩)] w fun e w' => e = .returned (.int .i64 (L.length : Int)) ∧ w = w' := by
  obtain ⟨A, c, rfl, hc, hm⟩ := h.shape
  have c0 := h.c0
  clear h
  go_enter Try.func16, Try.ntmps16
  go_wp2
  go_ret
  exact ⟨rfl, rfl⟩
set_option maxHeartbeats 400000 in
theorem msize_any (b : Nat) (v : Value) (L : List Cl) (w : World) (h : MemV w b v L) : Calls Try.prog 17 #[.pointer (some ⟨b, 0, none⟩)] w fun e w' => e = .returned (.int .i64 (szs L)) ∧ w = w' := by
  have c1 := h.c1
  clear h
  generalize szs L = z at *
  go_enter Try.func17, Try.ntmps17
  go_wp2
  go_ret
  exact ⟨rfl, rfl⟩
set_option maxHeartbeats 400000 in
theorem mcells_any (b : Nat) (v : Value) (L : List Cl) (w : World) (h : MemV w b v L) (hl : L.length ≤ 1000000) : Calls Try.prog 15 #[.pointer (some ⟨b, 0, none⟩)] w fun e w' => (∃ x, e = .returned x ∧ OwL w' w.heap.size x L) ∧ Below w.heap.size w w' := by
  have c0 := h.c0
  have hr := h.rd
  clear h
  go_enter Try.func15, Try.ntmps15
  go_wp2_with fail
  refine (cloneL_any v L _ [] hr hl).mono ?_
  rintro e w1 ⟨⟨x, rfl, hx⟩, hb⟩
  go_wp2_with fail
  go_ret
  exact ⟨⟨_, rfl, hx⟩, hb⟩
set_option maxHeartbeats 400000 in
theorem csize_any (c : Cl) (w : World) (hok : c.ok) : Calls Try.prog 27 #[c.v] w fun e w' => e = .returned (.int .i64 ((cellB c).length : Int)) ∧ Below w.heap.size w w' := by
  go_enter Try.func27, Try.ntmps27
  go_wp2_with (refine boxC rfl (.tmp 0) c rfl rfl ?_)
  constructor
  intro w1 hI1 hb1 _
  go_wp2_with (refine loadC rfl (.tmp 1) rfl rfl hI1 ?_)
  refine (put_ok c _ hok).mono ?_
  rintro e w2 ⟨⟨x, rfl, hx⟩, hb2⟩
  have HB := Lib.hid (bwstep hb1 hb2)
  obtain ⟨A, cp, rfl, -, -⟩ := hx.rd.shapeM
  clear hx hb1 hb2 hI1
  go_wp2_with fail
  go_ret
  exact ⟨rfl, HB.out⟩
/-- the table's cells, a cell in a block -/
def MC (b : Nat) (v : Value) (g : Nat) (c : Cl) (w0 w' : World) : Prop :=
  w'.cell? ⟨b, 0, none⟩ = some v ∧ w'.cell? ⟨g, 0, none⟩ = some (.string c.row) ∧ w'.cell? ⟨g, 1, none⟩ = some (.string c.col) ∧ w'.cell? ⟨g, 2, none⟩ = some (.int .i64 c.at_) ∧ w'.cell? ⟨g, 3, none⟩ = some (.string c.val) ∧ w'.cell? ⟨g, 4, none⟩ = some (.bool c.gone) ∧ Below w0.heap.size w0 w'
theorem MC.of {b g : Nat} {v : Value} {L : List Cl} {c : Cl} {w0 w' : World} (h : MemV w0 b v L) (hi : InC g c w0) (hb : Below w0.heap.size w0 w') : MC b v g c w0 w' :=
  let p := hi.up hb; ⟨(h.up hb).c0, p.c0, p.c1, p.c2, p.c3, p.c4, hb⟩
theorem MC.bel {b g : Nat} {v : Value} {c : Cl} {w0 w' : World} (h : MC b v g c w0 w') : Below w0.heap.size w0 w' := h.2.2.2.2.2.2
set_option maxHeartbeats 2000000 in
set_option maxRecDepth 100000 in
theorem mfind_any (b : Nat) (v : Value) (L : List Cl) (c : Cl) (w : World) (h : MemV w b v L) (hs : Srt L) (hl : L.length < 2199023255552) (k : Nat) (hk : Place L c k) :
    Calls Try.prog 26 #[.pointer (some ⟨b, 0, none⟩), c.v] w (BsEnd w k (fnd L c k)) := by
  have hbs := fun w hv => bs_any v L c w hv hs (by omega) k hk
  generalize fnd L c k = q at *
  have HBS := Lib.hid hbs
  clear hbs hk
  go_enter Try.func26, Try.ntmps26
  go_wp2_with (refine boxC rfl (.tmp 1) c rfl rfl ?_)
  constructor
  intro w1 hI1 hb1 hz1
  have h1 := h.up hb1
  have HR := Lib.hid h1.rd
  have HT := Lib.hid (MC.of h1 hI1 ((Below.refl w1.heap.size w1).drew))
  have HU : Hid (∀ x y : World, MC b v w.heap.size c w1 x → Below x.heap.size x y → MC b v w.heap.size c w1 y) := Lib.hid fun x y hS hb => MC.of h1 hI1 (bwstep hS.bel hb)
  have HB := Lib.hid hb1
  clear h h1 hI1 hb1 hz1
  go_wp2_with fail
  go_region_held3 (fun w' => w'.cell? ⟨b, 0, none⟩ = some v ∧ w'.cell? ⟨w.heap.size, 0, none⟩ = some (.string c.row) ∧ w'.cell? ⟨w.heap.size, 1, none⟩ = some (.string c.col) ∧ w'.cell? ⟨w.heap.size, 2, none⟩ = some (.int .i64 c.at_) ∧ w'.cell? ⟨w.heap.size, 3, none⟩ = some (.string c.val) ∧ w'.cell? ⟨w.heap.size, 4, none⟩ = some (.bool c.gone) ∧ Below w1.heap.size w1 w') (first | exact HT.out | assumption | exact HU.out _ _ (by assumption) (by assumption))
    (first | (go_at_call 36; refine (HBS.out _ (HR.out.bel (Below.refl _ _).drew)).mono ?_; rintro e w2 ⟨rfl, hb2⟩))
  go_wp2_with fail
  go_ret2
  exact ⟨rfl, bwstep HB.out (bwstep (Below.refl _ _).drew hb2)⟩
end Go.Proofs.Ytffkbepcdidnjaa.Ce
