/- A disk in memory: its row, its map of files, each file's row and bytes ('DiskAt'); what a store into one of them does; which blocks a call may turn ('Kp'). -/
import Derived.Test.YtblejjjifokmgaaDskP
import Derived.Test.YtblejjjifokmgaaKp
import Derived.Maps.RangeWalk
import Derived.Maps.Ext
namespace Go.Proofs.Ytblejjjifokmgaa
open Go.RowKit Go.Maps Dk
open Go.WideMaps (keyOf_string_mk)

/-- values that lie in no block of S -/
def RdV (w : World) (S : List Nat) (x : Value) (xs : List Value) : Prop := Rd w w.heap.size x xs ∧ (0 < xs.length → ∀ k, x.ownBlock = some k → k ∉ S)
/-- bytes that lie in no block of S -/
def RdS (w : World) (S : List Nat) (x : Value) (l : List UInt8) : Prop := RdV w S x (l.map bv)
theorem Rd.kp {w w' : World} {S : List Nat} {x : Value} {xs : List Value} (h : Rd w w.heap.size x xs) (ho : 0 < xs.length → ∀ k, x.ownBlock = some k → k ∉ S) (hk : Kp S w w') : Rd w' w'.heap.size x xs := by
  obtain ⟨A, c, rfl, h1, h2, h3⟩ := h
  refine ⟨A, c, rfl, h1, h2, fun hp => ?_⟩
  obtain ⟨b, off, rfl, hb, hc⟩ := h3 hp
  refine ⟨b, off, rfl, Nat.lt_of_lt_of_le hb hk.size, fun j u hu => ?_⟩
  rw [World.cell?_of_block (w := w) (a := ⟨b, off + j, none⟩) (hk.block b hb (ho hp b rfl))]
  exact hc j u hu
theorem RdV.up {w w' : World} {S S' : List Nat} {x : Value} {xs : List Value} (h : RdV w S x xs) (hk : Kp S w w') (hS : ∀ k ∈ S', k ∈ S ∨ w.heap.size ≤ k) : RdV w' S' x xs := by
  refine ⟨h.1.kp h.2 hk, fun hp k hx hm => ?_⟩
  obtain ⟨b, off, c, e, _, _, hb, _⟩ := h.1.at_ hp
  rw [e] at hx
  injection hx with hx
  rcases hS k hm with h1 | h1
  · exact h.2 hp k (by rw [e]; exact congrArg some hx) h1
  · have : b = k := hx
    omega
theorem RdS.up {w w' : World} {S S' : List Nat} {x : Value} {l : List UInt8} (h : RdS w S x l) (hk : Kp S w w') (hS : ∀ k ∈ S', k ∈ S ∨ w.heap.size ≤ k) : RdS w' S' x l := RdV.up h hk hS
theorem RdV.of_low {w : World} {B : Nat} {S : List Nat} {x : Value} {xs : List Value} (h : Rd w B x xs) (hB : B ≤ w.heap.size) (hS : ∀ k ∈ S, B ≤ k) : RdV w S x xs := by
  refine ⟨h.mono hB, fun hp k hx hm => ?_⟩
  obtain ⟨b, off, c, e, _, _, hb, _⟩ := h.at_ hp
  rw [e] at hx
  injection hx with hx
  have h1 := hS k hm
  have : b = k := hx
  omega
theorem RdS.of_low {w : World} {B : Nat} {S : List Nat} {x : Value} {l : List UInt8} (h : Rd w B x (l.map bv)) (hB : B ≤ w.heap.size) (hS : ∀ k ∈ S, B ≤ k) : RdS w S x l := RdV.of_low h hB hS
theorem Ow.rdS {w : World} {B e : Nat} {S : List Nat} {x : Value} {l : List UInt8} (h : Ow w B e x (l.map bv)) (hS : ∀ k ∈ S, k < B) : RdS w S x l :=
  ⟨h.rd, fun _ k hx hm => by have := hS k hm; have := h.ge k hx; omega⟩
theorem Ow.same {w w' : World} {B e : Nat} {v : Value} {xs : List Value} (h : Ow w B e v xs) (hk : ∀ k, v.ownBlock = some k → w'.heap[k]? = w.heap[k]?) : Ow w' B e v xs := by
  obtain ⟨h1, h2⟩ := h
  refine ⟨h1, ?_⟩
  rcases h2 with h2 | ⟨g, cap, cur, rfl, hg, hh, r⟩
  · exact .inl h2
  · exact .inr ⟨g, cap, cur, rfl, hg, by rw [hk g rfl]; exact hh, r⟩
theorem Ow.tag {w : World} {B e k : Nat} {v : Value} {xs : List Value} (h : Ow w B e v xs) (hk : v.ownBlock = some k) : ∃ cur, w.heap[k]? = some (.cells cur e (0, 0)) := by
  obtain ⟨h1, h2⟩ := h
  rcases h2 with ⟨rfl, _⟩ | ⟨g, cap, cur, rfl, hg, hh, r⟩
  · cases hk
  · injection hk with hk
    have : g = k := hk
    subst this
    exact ⟨cur, hh⟩

/-! The files' map. -/
theorem nameK : Keyed Try.prog 9 := string_keyed Try.underlying9
theorem nameOf {s : ByteArray} (h : s.size ≤ maxLen) : keyOf Try.prog 9 (.string s) = some (.string s.data.toList) := keyOf_string_mk Try.underlying9 h
/-- how an element reads: by its block -/
def pR : Value → Option (DataW Unit × List MemPlace)
  | .pointer none => some (.nil, [])
  | .pointer (some ⟨b, 0, none⟩) => some (.lit (.int .i64 b), [])
  | _ => none
def ptrOf : Option Nat → Value
  | none => .pointer none
  | some b => .pointer (some ⟨b, 0, none⟩)
def datOf : Option Nat → DataW Unit
  | none => .nil
  | some b => .lit (.int .i64 b)
theorem pR_inv {v : Value} {y : DataW Unit × List MemPlace} (h : pR v = some y) : ∃ o : Option Nat, v = ptrOf o ∧ y = (datOf o, []) := by
  unfold pR at h
  split at h
  · cases h; exact ⟨none, rfl, rfl⟩
  · cases h; exact ⟨some _, rfl, rfl⟩
  · cases h
theorem pR_mk (o : Option Nat) : pR (ptrOf o) = some (datOf o, []) := by cases o <;> rfl
theorem datOf_inj {o o' : Option Nat} (h : datOf o = datOf o') : o = o' := by
  cases o <;> cases o' <;> simp [datOf] at h ⊢
  omega
theorem zeroPtr (w : World) : (zeroValue 51).run Try.prog w = .ok (.pointer none) w := by kernel_rfl
theorem ownsMap_tight {P : Program} {k b n : Nat} {R : Value → Option (DataW Unit × List MemPlace)} {w : World} {D : DataW Unit} (h : w.ownsMap P k R b n D) : w.ownsMap P k R b (Maps.size D) D := by
  obtain ⟨es, clock, hb, F, hs, rfl⟩ := h
  exact ⟨es, clock, hb, F, by simp [Maps.size, length_sorted], rfl⟩

/-- a file, where it lies -/
structure Fr where
  fl : Fl
  bl : Nat
  v : Value
def fk (f : Fr) : List UInt8 := key f.fl
def blks (f : Fr) : List Nat := f.bl :: f.v.ownBlock.toList
def fp (db mb : Nat) (L : List Fr) : List Nat := db :: mb :: L.flatMap blks
def ent (f : Fr) : Lit × DataW Unit := (.string (fk f), .lit (.int .i64 f.bl))
def dat (L : List Fr) : DataW Unit := .map (L.map ent)
theorem mem_fp {db mb k : Nat} {L : List Fr} : k ∈ fp db mb L ↔ k = db ∨ k = mb ∨ ∃ f ∈ L, k = f.bl ∨ f.v.ownBlock = some k := by
  unfold fp blks
  simp only [List.mem_cons, List.mem_flatMap, Option.mem_toList]
theorem bytesBefore_eq : ∀ x y : List UInt8, bytesBefore x y = decide (x < y)
  | [], [] => by simp [bytesBefore]
  | [], _ :: _ => by simp [bytesBefore]
  | _ :: _, [] => by simp [bytesBefore]
  | a :: x, b :: y => by
    rw [bytesBefore, bytesBefore_eq x y]
    by_cases h : a < b
    · simp [h, List.cons_lt_cons_iff]
    · by_cases h2 : a = b
      · subst h2; simp
      · simp [h, h2, List.cons_lt_cons_iff]
theorem ins_ent (f : Fr) : ∀ L : List Fr, DataW.insert (ent f) (L.map ent) = (ins fk f L).map ent
  | [] => rfl
  | y :: r => by
    have e : (ent f).1.before (ent y).1 = decide (fk f < fk y) := by
      show bytesBefore (fk f) (fk y) = _
      rw [bytesBefore_eq]
    rw [List.map_cons, DataW.insert, e, ins]
    by_cases h : fk f < fk y
    · simp [h]
    · simp only [h, decide_false, if_false, Bool.false_eq_true]
      rw [ins_ent f r, List.map_cons]
theorem flt_ent (n : List UInt8) (L : List Fr) : (L.map ent).filter (fun p => !p.1.sameKey (.string n)) = (wo fk n L).map ent := by
  unfold wo
  rw [List.filter_map]
  congr 1
  apply List.filter_congr
  intro x _
  show (!(fk x == n)) = decide (fk x ≠ n)
  by_cases e : fk x = n <;> simp [e]
theorem dat_put (f : Fr) (L : List Fr) : (dat L).put (.string (fk f)) (.lit (.int .i64 f.bl)) = dat (put fk f L) := by
  show DataW.map (DataW.insert (ent f) ((L.map ent).filter fun p => !p.1.sameKey (.string (fk f)))) = _
  rw [flt_ent, ins_ent]
  rfl
theorem dat_del (n : List UInt8) (L : List Fr) : (dat L).del (.string n) = dat (wo fk n L) := by
  show DataW.map ((L.map ent).filter fun p => !p.1.sameKey (.string n)) = _
  rw [flt_ent]
  rfl
theorem dat_at (n : List UInt8) (L : List Fr) : (dat L).atKey (.string n) .nil = datOf ((fnd fk n L).map (·.bl)) := by
  have e0 : (dat L).atKey (.string n) .nil = ((L.map ent).find? (fun p => p.1.sameKey (.string n))).elim .nil (fun p => p.2) := by
    unfold dat DataW.atKey
    dsimp only
    cases (L.map ent).find? (fun p => p.1.sameKey (.string n)) <;> rfl
  rw [e0, List.find?_map]
  have e : (fun p : Lit × DataW Unit => p.1.sameKey (.string n)) ∘ ent = fun f => decide (fk f = n) := by
    funext f
    show (fk f == n) = decide (fk f = n)
    by_cases e : fk f = n <;> simp [e]
  rw [e]
  unfold fnd
  cases List.find? (fun f => decide (fk f = n)) L <;> rfl
theorem dat_size (L : List Fr) : Maps.size (dat L) = L.length := by simp [dat, Maps.size]
theorem dat_keys (L : List Fr) : strKeys (dat L) = L.map fk := by simp [dat, strKeys, ent, strOf, Function.comp_def]

/-- the disk -/
structure DiskAt (w : World) (B : Nat) (d : Value) (db mb cap us : Nat) (L : List Fr) : Prop where
  hd : d = .pointer (some ⟨db, 0, none⟩)
  row : w.heap[db]? = some (.cells #[.int .i64 (cap : Int), .int .i64 (us : Int), .map (some mb)] 50 (0, 0))
  map : w.ownsMap Try.prog 9 pR mb L.length (dat L)
  cel : ∀ f ∈ L, w.heap[f.bl]? = some (.cells #[f.v, .int .i64 (f.fl.s : Int)] 54 (0, 0))
  own : ∀ f ∈ L, Ow w B 5 f.v (f.fl.l.map bv)
  ap : ∀ f ∈ L, ∀ g ∈ L, fk f ≠ fk g → f.bl ≠ g.bl ∧ Apart f.v g.v
  srt : Srt fk L
  geb : B ≤ db ∧ B ≤ mb ∧ ∀ f ∈ L, B ≤ f.bl

section
variable {w w' : World} {B : Nat} {d : Value} {db mb cap us us' : Nat} {L A C : List Fr} {f : Fr}
theorem DiskAt.ge (h : DiskAt w B d db mb cap us L) : ∀ k ∈ fp db mb L, B ≤ k := by
  intro k hk
  rcases mem_fp.1 hk with rfl | rfl | ⟨f, hf, rfl | hk⟩
  · exact h.geb.1
  · exact h.geb.2.1
  · exact h.geb.2.2 f hf
  · exact (h.own f hf).ge k hk
theorem DiskAt.lt (h : DiskAt w B d db mb cap us L) : ∀ k ∈ fp db mb L, k < w.heap.size := by
  intro k hk
  rcases mem_fp.1 hk with rfl | rfl | ⟨f, hf, rfl | hk⟩
  · exact (Array.getElem?_eq_some_iff.1 h.row).1
  · exact h.map.lt
  · exact (Array.getElem?_eq_some_iff.1 (h.cel f hf)).1
  · exact ((h.own f hf).lt k hk).2
theorem DiskAt.keep (h : DiskAt w B d db mb cap us L) (hk : ∀ k ∈ fp db mb L, w'.heap[k]? = w.heap[k]?) : DiskAt w' B d db mb cap us L := by
  refine ⟨h.hd, by rw [hk db (mem_fp.2 (.inl rfl))]; exact h.row, ?_, fun f hf => ?_, fun f hf => ?_, h.ap, h.srt, h.geb⟩
  · obtain ⟨es, clock, hb, r⟩ := h.map
    exact ⟨es, clock, by rw [hk mb (mem_fp.2 (.inr (.inl rfl)))]; exact hb, r⟩
  · rw [hk f.bl (mem_fp.2 (.inr (.inr ⟨f, hf, .inl rfl⟩)))]
    exact h.cel f hf
  · exact (h.own f hf).same fun k hv => hk k (mem_fp.2 (.inr (.inr ⟨f, hf, .inr hv⟩)))
theorem DiskAt.kp {S : List Nat} (h : DiskAt w B d db mb cap us L) (hk : Kp S w w') (hS : ∀ k ∈ fp db mb L, k ∉ S) : DiskAt w' B d db mb cap us L := h.keep fun k hm => hk.block k (h.lt k hm) (hS k hm)
theorem DiskAt.below (h : DiskAt w B d db mb cap us L) (hb : Below w.heap.size w w') : DiskAt w' B d db mb cap us L := h.keep fun k hm => hb.block k (h.lt k hm)
theorem DiskAt.c0 (h : DiskAt w B d db mb cap us L) : w.cell? ⟨db, 0, none⟩ = some (.int .i64 (cap : Int)) := by rw [cell_of_row w db 0 _ _ (0, 0) h.row]; rfl
theorem DiskAt.c1 (h : DiskAt w B d db mb cap us L) : w.cell? ⟨db, 1, none⟩ = some (.int .i64 (us : Int)) := by rw [cell_of_row w db 1 _ _ (0, 0) h.row]; rfl
theorem DiskAt.c2 (h : DiskAt w B d db mb cap us L) : w.cell? ⟨db, 2, none⟩ = some (.map (some mb)) := by rw [cell_of_row w db 2 _ _ (0, 0) h.row]; rfl
theorem DiskAt.z1 (h : DiskAt w B d db mb cap us L) : w.frozen? ⟨db, 1, none⟩ = false := by simp [World.frozen?, h.row]
theorem DiskAt.g0 (h : DiskAt w B d db mb cap us L) (hf : f ∈ L) : w.cell? ⟨f.bl, 0, none⟩ = some f.v := by rw [cell_of_row w f.bl 0 _ _ (0, 0) (h.cel f hf)]; rfl
theorem DiskAt.g1 (h : DiskAt w B d db mb cap us L) (hf : f ∈ L) : w.cell? ⟨f.bl, 1, none⟩ = some (.int .i64 (f.fl.s : Int)) := by rw [cell_of_row w f.bl 1 _ _ (0, 0) (h.cel f hf)]; rfl
theorem DiskAt.y0 (h : DiskAt w B d db mb cap us L) (hf : f ∈ L) : w.frozen? ⟨f.bl, 0, none⟩ = false := by simp [World.frozen?, h.cel f hf]
theorem DiskAt.y1 (h : DiskAt w B d db mb cap us L) (hf : f ∈ L) : w.frozen? ⟨f.bl, 1, none⟩ = false := by simp [World.frozen?, h.cel f hf]
/-- blocks of unlike kinds -/
theorem DiskAt.neDF (h : DiskAt w B d db mb cap us L) (hf : f ∈ L) : db ≠ f.bl := by
  intro e
  have h1 := h.row
  rw [e, h.cel f hf] at h1
  injection h1 with h1
  injection h1 with _ h2 _
  exact absurd h2 (by decide)
theorem DiskAt.neMF (h : DiskAt w B d db mb cap us L) (hf : f ∈ L) : mb ≠ f.bl := by
  intro e
  obtain ⟨es, clock, hb, _⟩ := h.map
  rw [e, h.cel f hf] at hb
  cases hb
theorem DiskAt.neDM (h : DiskAt w B d db mb cap us L) : db ≠ mb := by
  intro e
  obtain ⟨es, clock, hb, _⟩ := h.map
  rw [← e, h.row] at hb
  cases hb
theorem DiskAt.neV {k : Nat} (h : DiskAt w B d db mb cap us L) (hf : f ∈ L) (hk : f.v.ownBlock = some k) : k ≠ db ∧ k ≠ mb ∧ ∀ g ∈ L, k ≠ g.bl := by
  obtain ⟨cur, hc⟩ := (h.own f hf).tag hk
  refine ⟨fun e => ?_, fun e => ?_, fun g hg e => ?_⟩
  · subst e; rw [h.row] at hc; cases hc
  · subst e
    obtain ⟨es, clock, hb, _⟩ := h.map
    rw [hb] at hc; cases hc
  · subst e; rw [h.cel g hg] at hc; cases hc
/-- 'd.files[name]' -/
theorem DiskAt.look (h : DiskAt w B d db mb cap us L) {s : ByteArray} (hs : s.size ≤ maxLen) :
    (Instr.lookup 48 (.map (some mb)) (.string s) false).run Try.prog w = .ok (ptrOf ((fnd fk s.data.toList L).map (·.bl))) w := by
  obtain ⟨v, ps, hrun, hv⟩ := h.map.lookup nameK Try.underlying48 (zeroPtr w) (zd := .nil) (zp := []) rfl (nameOf hs)
  obtain ⟨o, rfl, e⟩ := pR_inv hv
  rw [dat_at] at e
  simp only [Prod.mk.injEq] at e
  rw [hrun, datOf_inj e.1]
end

/-- a call's step on a disk: what it is then, which blocks have turned -/
structure Step (w w' : World) (B : Nat) (d : Value) (db mb cap : Nat) (L : List Fr) (us' : Nat) (L' : List Fr) : Prop where
  at_ : DiskAt w' B d db mb cap us' L'
  kp : Kp (fp db mb L) w w'
  sub : ∀ k ∈ fp db mb L', k ∈ fp db mb L ∨ w.heap.size ≤ k
section
variable {w w1 w' : World} {B : Nat} {d : Value} {db mb cap us us' us1 : Nat} {L L1 L' A C : List Fr} {f f' : Fr}
theorem Step.refl (h : DiskAt w B d db mb cap us L) : Step w w B d db mb cap L us L := ⟨h, Kp.refl _ _, fun _ hk => .inl hk⟩
theorem Step.bel (h : DiskAt w B d db mb cap us L) (hb : Below w.heap.size w w') : Step w w' B d db mb cap L us L := ⟨h.below hb, Kp.of_below hb _, fun _ hk => .inl hk⟩
theorem Step.trans (h : Step w w1 B d db mb cap L us1 L1) (k : Step w1 w' B d db mb cap L1 us' L') : Step w w' B d db mb cap L us' L' :=
  ⟨k.at_, h.kp.trans k.kp h.sub, fun x hx => by
    rcases k.sub x hx with h1 | h1
    · exact h.sub x h1
    · exact .inr (Nat.le_trans h.kp.size h1)⟩
theorem Step.thenB (h : Step w w1 B d db mb cap L us1 L1) (hb : Below w1.heap.size w1 w') : Step w w' B d db mb cap L us1 L1 := h.trans (Step.bel h.at_ hb)
theorem setCell_same {w : World} {b o : Nat} {cs : Array Value} {t : Nat} (u : Value) (h : w.heap[b]? = some (.cells cs t (0, 0))) : (w.setCell ⟨b, o, none⟩ u).heap[b]? = some (.cells (cs.setIfInBounds o u) t (0, 0)) := by
  simp only [World.setCell, Array.getElem?_modify, h]
  simp
/-- 'd.used = n' -/
theorem Step.used (h : DiskAt w B d db mb cap us L) (us' : Nat) : Step w (w.setCell ⟨db, 1, none⟩ (.int .i64 (us' : Int))) B d db mb cap L us' L := by
  have ot : ∀ k, k ≠ db → (w.setCell ⟨db, 1, none⟩ (.int .i64 (us' : Int))).heap[k]? = w.heap[k]? := fun k hk => Below.heap_setCell _ _ _ _ hk
  refine ⟨⟨h.hd, ?_, ?_, fun f hf => ?_, fun f hf => ?_, h.ap, h.srt, h.geb⟩, Kp.set _ (p := ⟨db, 1, none⟩) (mem_fp.2 (.inl rfl)) _, fun _ hk => .inl hk⟩
  · rw [setCell_same _ h.row]; simp
  · exact h.map.setCell h.neDM.symm _
  · rw [ot _ (h.neDF hf).symm]; exact h.cel f hf
  · exact (h.own f hf).same fun k hk => ot k (h.neV hf hk).1
/-- one file turned: all else is as it was -/
theorem Step.file (h : DiskAt w B d db mb cap us (A ++ f :: C)) (hn : fk f' = fk f) (hb : f'.bl = f.bl) (hk : Kp (blks f) w w')
    (hc : w'.heap[f.bl]? = some (.cells #[f'.v, .int .i64 (f'.fl.s : Int)] 54 (0, 0))) (ho : Ow w' B 5 f'.v (f'.fl.l.map bv)) (hv : ∀ k, f'.v.ownBlock = some k → f.v.ownBlock = some k ∨ w.heap.size ≤ k) :
    Step w w' B d db mb cap (A ++ f :: C) us (A ++ f' :: C) := by
  have hf : f ∈ A ++ f :: C := by simp
  have bf : ∀ k, k ∈ blks f → k = f.bl ∨ f.v.ownBlock = some k := fun k hk => by unfold blks at hk; simpa [Option.mem_toList] using hk
  have mem : ∀ g, g ∈ A ++ f' :: C → g = f' ∨ (g ∈ A ++ f :: C ∧ fk g ≠ fk f) := fun g hg => by
    rw [List.mem_append, List.mem_cons] at hg
    have hp := List.pairwise_append.1 h.srt
    rcases hg with hg | rfl | hg
    · exact .inr ⟨by simp [hg], fun e => by have := hp.2.2 g hg f (by simp); rw [e] at this; exact lt_irrefl _ this⟩
    · exact .inl rfl
    · exact .inr ⟨by simp [hg], fun e => by have := (List.pairwise_cons.1 hp.2.1).1 g hg; rw [e] at this; exact lt_irrefl _ this⟩
  have keep : ∀ k, k < w.heap.size → k ≠ f.bl → f.v.ownBlock ≠ some k → w'.heap[k]? = w.heap[k]? := fun k hl h1 h2 => hk.block k hl fun hm => by
    rcases bf k hm with e | e
    · exact h1 e
    · exact h2 e
  have hlt := h.lt
  refine ⟨⟨h.hd, ?_, ?_, fun g hg => ?_, fun g hg => ?_, fun g hg g' hg' hne => ?_, srt_mid h.srt hn, h.geb.1, h.geb.2.1, fun g hg => ?_⟩, ?_, fun k hm => ?_⟩
  · rw [keep db (hlt _ (mem_fp.2 (.inl rfl))) (h.neDF hf) fun e => (h.neV hf e).1 rfl]
    exact h.row
  · obtain ⟨es, clock, hbm, r1, r2, r3⟩ := h.map
    refine ⟨es, clock, ?_, r1, by simpa using r2, ?_⟩
    · rw [keep mb (hlt _ (mem_fp.2 (.inr (.inl rfl)))) (h.neMF hf) fun e => (h.neV hf e).2.1 rfl]
      exact hbm
    · rw [← r3]
      simp [dat, ent, hn, hb]
  · rcases mem g hg with rfl | ⟨hg, hne⟩
    · rw [hb]; exact hc
    · have hap := h.ap g hg f hf hne
      rw [keep g.bl (hlt _ (mem_fp.2 (.inr (.inr ⟨g, hg, .inl rfl⟩)))) hap.1 fun e => (h.neV hf e).2.2 g hg rfl]
      exact h.cel g hg
  · rcases mem g hg with rfl | ⟨hg, hne⟩
    · exact ho
    · have hap := h.ap g hg f hf hne
      exact (h.own g hg).same fun k hv => keep k (((h.own g hg).lt k hv).2) ((h.neV hg hv).2.2 f hf) (hap.2 k hv)
  · have one : ∀ x, x ∈ A ++ f :: C → fk x ≠ fk f → x.bl ≠ f'.bl ∧ Apart x.v f'.v := fun x hx hxe => by
      have hap := h.ap x hx f hf hxe
      refine ⟨by rw [hb]; exact hap.1, fun k hxk he => ?_⟩
      rcases hv k he with h1 | h1
      · exact hap.2 k hxk h1
      · have := ((h.own x hx).lt k hxk).2
        omega
    rcases mem g hg with rfl | ⟨hg1, hg2⟩
    · rcases mem g' hg' with rfl | ⟨hg1', hg2'⟩
      · exact absurd rfl hne
      · have := one g' hg1' hg2'
        exact ⟨this.1.symm, this.2.symm⟩
    · rcases mem g' hg' with rfl | ⟨hg1', hg2'⟩
      · exact one g hg1 hg2
      · exact h.ap g hg1 g' hg1' hne
  · rcases mem g hg with rfl | ⟨hg, _⟩
    · rw [hb]; exact h.geb.2.2 f hf
    · exact h.geb.2.2 g hg
  · refine ⟨hk.os, hk.tape, hk.output, hk.size, fun k hl hn => hk.block k hl fun hm => hn ?_⟩
    rcases bf k hm with rfl | e
    · exact mem_fp.2 (.inr (.inr ⟨f, hf, .inl rfl⟩))
    · exact mem_fp.2 (.inr (.inr ⟨f, hf, .inr e⟩))
  · rcases mem_fp.1 hm with rfl | rfl | ⟨g, hg, hq⟩
    · exact .inl (mem_fp.2 (.inl rfl))
    · exact .inl (mem_fp.2 (.inr (.inl rfl)))
    · rcases mem g hg with e | ⟨hg2, _⟩
      · rw [e] at hq
        rcases hq with hq | hq
        · exact .inl (mem_fp.2 (.inr (.inr ⟨f, hf, .inl (hq.trans hb)⟩)))
        · rcases hv k hq with h1 | h1
          · exact .inl (mem_fp.2 (.inr (.inr ⟨f, hf, .inr h1⟩)))
          · exact .inr h1
      · exact .inl (mem_fp.2 (.inr (.inr ⟨g, hg2, hq⟩)))
theorem mem_bl (f : Fr) : f.bl ∈ blks f := by simp [blks]
/-- 'f.synced = n' -/
theorem Step.synced (h : DiskAt w B d db mb cap us (A ++ f :: C)) (s' : Nat) :
    Step w (w.setCell ⟨f.bl, 1, none⟩ (.int .i64 (s' : Int))) B d db mb cap (A ++ f :: C) us (A ++ { f with fl := { f.fl with s := s' } } :: C) := by
  have hf : f ∈ A ++ f :: C := by simp
  refine Step.file h rfl rfl (Kp.set _ (mem_bl f) _) (by rw [setCell_same _ (h.cel f hf)]; simp) ?_ (fun k hk => .inl hk)
  exact (h.own f hf).same fun k hk => Below.heap_setCell _ _ _ _ ((h.neV hf hk).2.2 f hf)
/-- 'f.bytes = v': v has grown out of the old one, or is new -/
theorem Step.bytes (h : DiskAt w B d db mb cap us (A ++ f :: C)) {v' : Value} {l' : List UInt8} (hk : Kp (blks f) w w1) (hc : w1.heap[f.bl]? = w.heap[f.bl]?) (ho : Ow w1 B 5 v' (l'.map bv)) (hv : ∀ k, v'.ownBlock = some k → f.v.ownBlock = some k ∨ w.heap.size ≤ k) :
    Step w (w1.setCell ⟨f.bl, 0, none⟩ v') B d db mb cap (A ++ f :: C) us (A ++ { f with v := v', fl := { f.fl with l := l' } } :: C) := by
  have hf : f ∈ A ++ f :: C := by simp
  have hc' := hc.trans (h.cel f hf)
  refine Step.file h rfl rfl (hk.trans (Kp.set _ (mem_bl f) _) fun _ hx => .inl hx) (by rw [setCell_same _ hc']; simp) ?_ hv
  exact ho.same fun k hk => Below.heap_setCell _ _ _ _ fun e => by
    obtain ⟨cur, ht⟩ := ho.tag hk
    rw [e] at ht
    rw [hc'] at ht
    cases ht
/-- 'delete(d.files, n)' -/
theorem Step.del (h : DiskAt w B d db mb cap us L) (n : List UInt8) {m : Nat} (hm : w'.ownsMap Try.prog 9 pR mb m ((dat L).del (.string n))) (hg : w.grownBy w' (some mb)) :
    Step w w' B d db mb cap L us (wo fk n L) := by
  have sub : ∀ g, g ∈ wo fk n L → g ∈ L := fun g hg => (mem_wo.1 hg).1
  have ot : ∀ k, k < w.heap.size → k ≠ mb → w'.heap[k]? = w.heap[k]? := fun k hl hk => hg.block k hl fun e => hk (by injection e)
  refine ⟨⟨h.hd, ?_, ?_, fun f hf => ?_, fun f hf => ?_, fun f hf g hg => h.ap f (sub f hf) g (sub g hg), srt_wo h.srt, h.geb.1, h.geb.2.1, fun f hf => h.geb.2.2 f (sub f hf)⟩, Kp.grown hg fun k e => ?_, fun k hk => .inl ?_⟩
  · rw [ot db (h.lt db (mem_fp.2 (.inl rfl))) h.neDM]; exact h.row
  · rw [dat_del] at hm
    have := ownsMap_tight hm
    rw [dat_size] at this
    exact this
  · rw [ot f.bl (h.lt _ (mem_fp.2 (.inr (.inr ⟨f, sub f hf, .inl rfl⟩)))) (h.neMF (sub f hf)).symm]; exact h.cel f (sub f hf)
  · exact (h.own f (sub f hf)).same fun k hk => ot k ((h.own f (sub f hf)).lt k hk).2 (h.neV (sub f hf) hk).2.1
  · injection e with e; subst e; exact mem_fp.2 (.inr (.inl rfl))
  · rcases mem_fp.1 hk with rfl | rfl | ⟨g, hg, hm⟩
    · exact mem_fp.2 (.inl rfl)
    · exact mem_fp.2 (.inr (.inl rfl))
    · exact mem_fp.2 (.inr (.inr ⟨g, sub g hg, hm⟩))
/-- 'd.files[name] = f': f's memory is none of the other files' -/
theorem DiskAt.add (h : DiskAt w B d db mb cap us L) (f : Fr) (hc : w.heap[f.bl]? = some (.cells #[f.v, .int .i64 (f.fl.s : Int)] 54 (0, 0))) (ho : Ow w B 5 f.v (f.fl.l.map bv)) (hB : B ≤ f.bl)
    (hap : ∀ g ∈ L, fk g ≠ fk f → g.bl ≠ f.bl ∧ Apart g.v f.v) {m : Nat} (hm : w'.ownsMap Try.prog 9 pR mb m ((dat L).put (.string (fk f)) (.lit (.int .i64 f.bl)))) (hg : w.grownBy w' (some mb)) :
    DiskAt w' B d db mb cap us (put fk f L) := by
  have ot : ∀ k, k < w.heap.size → k ≠ mb → w'.heap[k]? = w.heap[k]? := fun k hl hk => hg.block k hl fun e => hk (by injection e)
  have fm : mb ≠ f.bl := fun e => by
    obtain ⟨es, clock, hb, _⟩ := h.map
    rw [e, hc] at hb
    cases hb
  refine ⟨h.hd, ?_, ?_, fun g hg => ?_, fun g hg => ?_, fun g hg g' hg' hne => ?_, srt_put h.srt, h.geb.1, h.geb.2.1, fun g hg => ?_⟩
  · rw [ot db (h.lt db (mem_fp.2 (.inl rfl))) h.neDM]; exact h.row
  · rw [dat_put] at hm
    have := ownsMap_tight hm
    rw [dat_size] at this
    exact this
  · rcases mem_put.1 hg with rfl | ⟨hg, _⟩
    · rw [ot g.bl (Array.getElem?_eq_some_iff.1 hc).1 fm.symm]; exact hc
    · rw [ot g.bl (h.lt _ (mem_fp.2 (.inr (.inr ⟨g, hg, .inl rfl⟩)))) (h.neMF hg).symm]; exact h.cel g hg
  · rcases mem_put.1 hg with rfl | ⟨hg, _⟩
    · exact ho.same fun k hk => ot k (ho.lt k hk).2 fun e => by
        obtain ⟨cur, ht⟩ := ho.tag hk
        obtain ⟨es, clock, hb, _⟩ := h.map
        rw [e, hb] at ht
        cases ht
    · exact (h.own g hg).same fun k hk => ot k ((h.own g hg).lt k hk).2 (h.neV hg hk).2.1
  · rcases mem_put.1 hg with e | ⟨hg1, h1⟩
    · rcases mem_put.1 hg' with e' | ⟨hg1', h2⟩
      · exact absurd (by rw [e, e']) hne
      · have := hap g' hg1' h2
        rw [e]
        exact ⟨this.1.symm, this.2.symm⟩
    · rcases mem_put.1 hg' with e' | ⟨hg1', h2⟩
      · rw [e']
        exact hap g hg1 h1
      · exact h.ap g hg1 g' hg1' hne
  · rcases mem_put.1 hg with rfl | ⟨hg, _⟩
    · exact hB
    · exact h.geb.2.2 g hg
/-- 'd.files[name] = &file{}' -/
theorem Step.new (h : DiskAt w B d db mb cap us L) (hB : B ≤ w.heap.size) (s : ByteArray) {m : Nat} (hm : w'.ownsMap Try.prog 9 pR mb m ((dat L).put (.string s.data.toList) (.lit (.int .i64 w.heap.size))))
    (hg : (w.alloc (.cells #[.slice none 0 0, .int .i64 0] 54)).grownBy w' (some mb)) : Step w w' B d db mb cap L us (put fk ⟨⟨s, [], 0⟩, w.heap.size, .slice none 0 0⟩ L) := by
  have hb := (Below.refl w.heap.size w).alloc (Nat.le_refl _) (.cells #[.slice none 0 0, .int .i64 0] 54)
  have h1 := h.below hb
  refine ⟨h1.add ⟨⟨s, [], 0⟩, w.heap.size, .slice none 0 0⟩ (heap_alloc_new _ _) (Ow.nil _ _ _) hB (fun g hg _ => ⟨?_, fun k _ hk => by cases hk⟩) hm hg,
    ⟨hg.os, hg.tape, hg.output, Nat.le_trans (by simp) hg.size, fun k hl hn => (hg.block k (by simp; omega) (fun e => hn (by injection e with e; subst e; exact mem_fp.2 (.inr (.inl rfl))))).trans (Below.heap_alloc _ _ _ hl)⟩, fun k hk => ?_⟩
  · have := h.lt g.bl (mem_fp.2 (.inr (.inr ⟨g, hg, .inl rfl⟩)))
    show g.bl ≠ w.heap.size
    omega
  · rcases mem_fp.1 hk with rfl | rfl | ⟨g, hg, hq⟩
    · exact .inl (mem_fp.2 (.inl rfl))
    · exact .inl (mem_fp.2 (.inr (.inl rfl)))
    · rcases mem_put.1 hg with e | ⟨hg2, _⟩
      · rw [e] at hq
        rcases hq with hq | hq
        · exact .inr (Nat.le_of_eq hq.symm)
        · cases hq
      · exact .inl (mem_fp.2 (.inr (.inr ⟨g, hg2, hq⟩)))
end
end Go.Proofs.Ytblejjjifokmgaa
