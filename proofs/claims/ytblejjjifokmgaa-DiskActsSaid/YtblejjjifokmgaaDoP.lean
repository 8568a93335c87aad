/- What acts do to files, as lists. Plain. -/
import Derived.Test.YtblejjjifokmgaaDskI
import Derived.Test.YtblejjjifokmgaaAct
namespace Go.Proofs.Ytblejjjifokmgaa
open Go.RowKit Dk

def apF (most : Nat) (s : ByteArray) (b : List UInt8) (M : List Fl) : List Fl × Int :=
  if named s = false then (M, 1) else if most < total M + b.length then (M, 4) else (put key ⟨(opF s M).nm, (opF s M).l ++ b, (opF s M).s⟩ (opL s M), 0)
def syF (s : ByteArray) (M : List Fl) : List Fl × Int :=
  match fnd key s.data.toList M with
  | none => (M, 5)
  | some f => (put key { f with s := f.l.length } M, 0)
def reF (a b : ByteArray) (M : List Fl) : List Fl × Int :=
  if named a = false ∨ named b = false then (M, 1) else
    match fnd key a.data.toList M with
    | none => (M, 5)
    | some f => (put key { f with nm := b } (wo key a.data.toList M), 0)
def deF (s : ByteArray) (M : List Fl) : List Fl × Int :=
  match fnd key s.data.toList M with
  | none => (M, 5)
  | some _ => (wo key s.data.toList M, 0)
def tuF (s : ByteArray) (n : Int) (x : UInt8) (M : List Fl) : List Fl × Int :=
  match fnd key s.data.toList M with
  | none => (M, 5)
  | some f => if n < 0 ∨ (f.l.length : Int) ≤ n then (M, 1) else (put key { f with l := turnB f.l n.toNat x } M, 0)
def trF (s : ByteArray) (n : Int) (M : List Fl) : List Fl × Int :=
  match fnd key s.data.toList M with
  | none => (M, 5)
  | some f => if n < 0 ∨ (f.l.length : Int) < n then (M, 1) else (put key { f with l := f.l.take n.toNat, s := min f.s n.toNat } M, 0)
/-- an act, done -/
def doF (most : Nat) (a : Ac) (M : List Fl) : List Fl × Int :=
  if a.op = 0 then apF most a.nm a.b M else if a.op = 1 then syF a.nm M else if a.op = 2 then reF a.nm a.ot M else if a.op = 3 then deF a.nm M
  else if a.op = 4 then tuF a.nm a.at_ (UInt8.ofNat (a.b.length + 1)) M else if a.op = 6 then trF a.nm a.at_ M else (crash M a.ks, 0)

/-- files as a disk has them -/
structure Inv (cap : Nat) (M : List Fl) : Prop where
  srt : Srt key M
  fine : ∀ f ∈ M, f.s ≤ f.l.length
  tot : total M ≤ cap
  capb : cap ≤ 65536
  nmd : ∀ f ∈ M, named f.nm = true
theorem named_le {s : ByteArray} (h : named s = true) : s.size ≤ 24 := by
  unfold named at h
  simp at h
  exact h.2
theorem total_wo_le (n : List UInt8) : ∀ M : List Fl, total (wo key n M) ≤ total M
  | [] => Nat.le_refl _
  | f :: M => by
    have := total_wo_le n M
    unfold wo at *
    rw [List.filter_cons]
    split
    · rw [total_cons, total_cons]; omega
    · rw [total_cons]; omega
theorem total_put {M : List Fl} {f f' : Fl} (hs : Srt key M) (hf : f ∈ M) (e : key f' = key f) : total (put key f' M) + f.l.length = total M + f'.l.length := by
  obtain ⟨A, C, rfl⟩ := List.append_of_mem hf
  rw [put_mid hs e, total_app, total_app, total_cons, total_cons]
  omega
theorem len_le_total {M : List Fl} {f : Fl} (hf : f ∈ M) : f.l.length ≤ total M := by
  obtain ⟨A, C, rfl⟩ := List.append_of_mem hf
  rw [total_app, total_cons]
  omega
theorem fnd_mem {n : List UInt8} {M : List Fl} {f : Fl} (h : fnd key n M = some f) : f ∈ M ∧ key f = n := ⟨List.mem_of_find?_eq_some h, by simpa [fnd] using List.find?_some h⟩
/-- one file in another's place -/
theorem Inv.put {cap : Nat} {M : List Fl} {f f' : Fl} (h : Inv cap M) (hf : f ∈ M) (e : f'.nm = f.nm) (h1 : f'.s ≤ f'.l.length) (h2 : f'.l.length ≤ f.l.length) : Inv cap (Dk.put key f' M) := by
  have ek : key f' = key f := by unfold key; rw [e]
  have ht := total_put h.srt hf ek
  have := h.tot
  refine ⟨srt_put h.srt, fun g hg => ?_, by omega, h.capb, fun g hg => ?_⟩
  · rcases mem_put.1 hg with rfl | ⟨hg, _⟩
    · exact h1
    · exact h.fine g hg
  · rcases mem_put.1 hg with rfl | ⟨hg, _⟩
    · rw [e]; exact h.nmd f hf
    · exact h.nmd g hg
theorem Inv.wo {cap : Nat} {M : List Fl} (h : Inv cap M) (n : List UInt8) : Inv cap (Dk.wo key n M) :=
  ⟨srt_wo h.srt, fun g hg => h.fine g (mem_wo.1 hg).1, Nat.le_trans (total_wo_le n M) h.tot, h.capb, fun g hg => h.nmd g (mem_wo.1 hg).1⟩
theorem Inv.op {cap : Nat} {M : List Fl} (h : Inv cap M) {s : ByteArray} (hs : named s = true) : Inv cap (opL s M) ∧ opF s M ∈ opL s M ∧ (opF s M).nm = s ∧ total (opL s M) = total M := by
  unfold opL opF
  cases hf : fnd key s.data.toList M with
  | none =>
    have hk : key (⟨s, [], 0⟩ : Fl) = s.data.toList := rfl
    have ht : total (Dk.put key ⟨s, [], 0⟩ M) = total M := by rw [put_none (hk ▸ hf), total_ins]; simp
    refine ⟨⟨srt_put h.srt, fun g hg => ?_, ?_, h.capb, fun g hg => ?_⟩, mem_put.2 (.inl rfl), rfl, ht⟩
    · rcases mem_put.1 hg with rfl | ⟨hg, _⟩
      · exact Nat.le_refl _
      · exact h.fine g hg
    · simp only [Option.isSome_none, Bool.false_eq_true, if_false]
      rw [ht]; exact h.tot
    · rcases mem_put.1 hg with rfl | ⟨hg, _⟩
      · exact hs
      · exact h.nmd g hg
  | some f =>
    obtain ⟨h1, h2⟩ := fnd_mem hf
    exact ⟨h, h1, name_ext h2, rfl⟩
theorem wo_comm (a b : List UInt8) (M : List Fl) : wo key a (wo key b M) = wo key b (wo key a M) := by
  unfold wo
  rw [List.filter_filter, List.filter_filter]
  apply List.filter_congr
  intro x _
  exact Bool.and_comm _ _
theorem wo_twice (a : List UInt8) (M : List Fl) : wo key a (wo key a M) = wo key a M := by
  unfold wo
  rw [List.filter_filter]
  apply List.filter_congr
  intro x _
  exact Bool.and_self _
/-- renamed: whether the other name's file is struck before or with it -/
theorem put_wo {a b : List UInt8} {f : Fl} (M : List Fl) (h : key f = b) : put key f (wo key a (wo key b M)) = put key f (wo key a M) := by
  unfold put
  rw [h, wo_comm a b, wo_twice]
theorem put_self {M : List Fl} {f : Fl} (hs : Srt key M) (hf : f ∈ M) : put key f (wo key (key f) M) = M := by
  refine srt_ext (srt_put (srt_wo hs)) hs fun x => ?_
  rw [mem_put, mem_wo]
  constructor
  · rintro (rfl | ⟨⟨h, _⟩, _⟩)
    · exact hf
    · exact h
  · intro h
    by_cases e : key x = key f
    · exact .inl (srt_uniq hs h hf e)
    · exact .inr ⟨⟨h, e⟩, e⟩
theorem turnB_len (l : List UInt8) (n : Nat) (b : UInt8) : (turnB l n b).length = l.length := by simp [turnB]
theorem crash_spec : ∀ (M : List Fl) (ks : List Int), (∀ f ∈ M, f.s ≤ f.l.length) → (crash M ks).map key = M.map key ∧ (crash M ks).map (·.nm) = M.map (·.nm) ∧ total (crash M ks) ≤ total M ∧ (∀ g ∈ crash M ks, g.s = g.l.length)
  | [], _, _ => by simp [crash]
  | f :: M, ks, h => by
    have hf := h f (by simp)
    have one : ∀ n ks', n ≤ rst f → (keepF f n :: crash M ks').map key = (f :: M).map key ∧ (keepF f n :: crash M ks').map (·.nm) = (f :: M).map (·.nm) ∧ total (keepF f n :: crash M ks') ≤ total (f :: M) ∧ (∀ g ∈ keepF f n :: crash M ks', g.s = g.l.length) := fun n ks' hn => by
      obtain ⟨i1, i2, i3, i4⟩ := crash_spec M ks' fun g hg => h g (by simp [hg])
      have hl : (keepF f n).l.length = f.s + n := by unfold keepF rst at *; simp; omega
      refine ⟨by rw [List.map_cons, List.map_cons, i1]; rfl, by rw [List.map_cons, List.map_cons, i2]; rfl, ?_, fun g hg => ?_⟩
      · rw [total_cons, total_cons, hl]
        unfold rst at hn
        omega
      · rcases List.mem_cons.1 hg with rfl | hg
        · rw [hl]; rfl
        · exact i4 g hg
    by_cases h0 : rst f = 0
    · rw [crash_skip _ h0]; exact one 0 ks (by omega)
    · cases ks with
      | nil => rw [crash_none h0]; exact one 0 [] (by omega)
      | cons q r => rw [crash_one q r h0]; exact one _ r (by have := Nat.mod_lt q.natAbs (show 0 < rst f + 1 by omega); omega)
theorem Inv.cr {cap : Nat} {M : List Fl} (h : Inv cap M) (ks : List Int) : Inv cap (crash M ks) := by
  obtain ⟨h1, h2, h3, h4⟩ := crash_spec M ks h.fine
  refine ⟨?_, fun g hg => Nat.le_of_eq (h4 g hg), Nat.le_trans h3 h.tot, h.capb, fun g hg => ?_⟩
  · have : Srt (fun l : List UInt8 => l) ((crash M ks).map key) := by
      rw [h1]
      have := h.srt
      unfold Srt at this ⊢
      rw [List.pairwise_map]
      exact this
    unfold Srt at this ⊢
    rw [List.pairwise_map] at this
    exact this
  · have : g.nm ∈ (crash M ks).map (·.nm) := List.mem_map.2 ⟨g, hg, rfl⟩
    rw [h2] at this
    obtain ⟨f, hf, e⟩ := List.mem_map.1 this
    rw [← e]
    exact h.nmd f hf
theorem Inv.ap {cap : Nat} {M : List Fl} (h : Inv cap M) (s : ByteArray) (b : List UInt8) : Inv cap (apF cap s b M).1 := by
  unfold apF
  split
  · exact h
  · split
    · exact h
    · rename_i h1 h2
      have hs : named s = true := by simpa using h1
      obtain ⟨h3, h4, h5, h6⟩ := h.op hs
      have hk : key (⟨(opF s M).nm, (opF s M).l ++ b, (opF s M).s⟩ : Fl) = key (opF s M) := rfl
      have ht := total_put h3.srt h4 hk
      have := h.tot
      show Inv cap (Dk.put key (⟨(opF s M).nm, (opF s M).l ++ b, (opF s M).s⟩ : Fl) (opL s M))
      refine ⟨srt_put h3.srt, fun g hg => ?_, ?_, h.capb, fun g hg => ?_⟩
      · rcases mem_put.1 hg with rfl | ⟨hg, _⟩
        · have := h3.fine _ h4
          show (opF s M).s ≤ ((opF s M).l ++ b).length
          rw [List.length_append]
          omega
        · exact h3.fine g hg
      · simp only [List.length_append] at ht
        omega
      · rcases mem_put.1 hg with rfl | ⟨hg, _⟩
        · show named (opF s M).nm = true
          exact h3.nmd _ h4
        · exact h3.nmd g hg
theorem Inv.do {cap : Nat} {M : List Fl} (h : Inv cap M) (a : Ac) : Inv cap (doF cap a M).1 := by
  unfold doF
  split
  · exact h.ap _ _
  split
  · unfold syF
    split
    · exact h
    · rename_i f hf
      exact h.put (fnd_mem hf).1 rfl (Nat.le_refl _) (Nat.le_refl _)
  split
  · unfold reF
    split
    · exact h
    · rename_i h1
      split
      · exact h
      · rename_i f hf
        obtain ⟨h2, h3⟩ := fnd_mem hf
        have hw := h.wo a.nm.data.toList
        have h4 := h.fine f h2
        refine ⟨srt_put hw.srt, fun g hg => ?_, ?_, h.capb, fun g hg => ?_⟩
        · rcases mem_put.1 hg with rfl | ⟨hg, _⟩
          · exact h4
          · exact hw.fine g hg
        · obtain ⟨A, C, rfl⟩ := List.append_of_mem h2
          rw [← h3, wo_mid h.srt]
          show total (ins key _ (Dk.wo key _ (A ++ C))) ≤ cap
          rw [total_ins]
          have := total_wo_le (key { f with nm := a.ot }) (A ++ C)
          have := h.tot
          rw [total_app, total_cons] at this
          rw [total_app] at *
          show f.l.length + _ ≤ cap
          omega
        · rcases mem_put.1 hg with rfl | ⟨hg, _⟩
          · show named a.ot = true
            simp at h1
            exact h1.2
          · exact hw.nmd g hg
  split
  · unfold deF
    split
    · exact h
    · exact h.wo _
  split
  · unfold tuF
    split
    · exact h
    · rename_i f hf
      split
      · exact h
      · refine h.put (fnd_mem hf).1 rfl ?_ ?_
        · show f.s ≤ _; rw [turnB_len]; exact h.fine f (fnd_mem hf).1
        · show (turnB _ _ _).length ≤ _; rw [turnB_len]; exact Nat.le_refl _
  split
  · unfold trF
    split
    · exact h
    · rename_i f hf
      split
      · exact h
      · refine h.put (fnd_mem hf).1 rfl ?_ ?_
        · have := h.fine f (fnd_mem hf).1
          show min f.s _ ≤ (f.l.take _).length
          rw [List.length_take]
          omega
        · show (f.l.take _).length ≤ _
          rw [List.length_take]
          omega
  · exact h.cr _
theorem opL_len (s : ByteArray) (M : List Fl) : (opL s M).length ≤ M.length + 1 := by
  unfold opL
  split
  · omega
  · exact put_length _ _
theorem put_len_mem {M : List Fl} {f f' : Fl} (hs : Srt key M) (hf : f ∈ M) (e : key f' = key f) : (put key f' M).length = M.length := by
  obtain ⟨A, C, rfl⟩ := List.append_of_mem hf
  rw [put_mid hs e]
  simp
theorem do_len {cap : Nat} {M : List Fl} (h : Inv cap M) (a : Ac) : (doF cap a M).1.length ≤ M.length + 1 := by
  unfold doF
  split
  · unfold apF
    split
    · exact Nat.le_succ _
    split
    · exact Nat.le_succ _
    rename_i h1 h2
    obtain ⟨h3, h4, h5, h6⟩ := h.op (show named a.nm = true by simpa using h1)
    rw [put_len_mem h3.srt h4 (show key (⟨(opF a.nm M).nm, (opF a.nm M).l ++ a.b, (opF a.nm M).s⟩ : Fl) = key (opF a.nm M) from rfl)]
    exact opL_len _ _
  split
  · unfold syF
    split
    · exact Nat.le_succ _
    · exact put_length _ _
  split
  · unfold reF
    split
    · exact Nat.le_succ _
    split
    · exact Nat.le_succ _
    · have h2 := wo_length (k := key) a.nm.data.toList M
      exact Nat.le_trans (put_length _ _) (by omega)
  split
  · unfold deF
    split
    · exact Nat.le_succ _
    · have h2 := wo_length (k := key) a.nm.data.toList M
      show (wo key _ M).length ≤ _
      omega
  split
  · unfold tuF
    split
    · exact Nat.le_succ _
    split
    · exact Nat.le_succ _
    · exact put_length _ _
  split
  · unfold trF
    split
    · exact Nat.le_succ _
    split
    · exact Nat.le_succ _
    · exact put_length _ _
  · have := congrArg List.length (crash_spec M a.ks h.fine).1
    rw [List.length_map, List.length_map] at this
    show (crash M a.ks).length ≤ _
    omega
end Go.Proofs.Ytblejjjifokmgaa
