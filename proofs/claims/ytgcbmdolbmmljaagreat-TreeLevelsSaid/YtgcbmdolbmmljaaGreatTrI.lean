/- Trees: one put more, plainly; what the exported functions of package tree promise, as one structure of contracts. -/
import Derived.Test.YtgcbmdolbmmljaaGreatTrP
import Derived.Test.YtgcbmdolbmmljaaGreatTrL
import Derived.Test.YtgcbmdolbmmljaaGreatMemA
namespace Go.Proofs.YtgcbmdolbmmljaaGreat.Ce
open Go.RowKit

/-! all cells of a list of lists have a property -/
theorem P_over {P : Cl → Prop} {M acc : List Cl} (h : ∀ c ∈ acc, P c) (hM : ∀ c ∈ M, P c) : ∀ c ∈ over M acc, P c := by
  unfold over
  induction M generalizing acc with
  | nil => exact h
  | cons c M ih =>
    refine ih (fun d hd => ?_) (fun d hd => hM d (by simp [hd]))
    rcases mem_put1 hd with rfl | hd
    · exact hM d (by simp)
    · exact h d hd
theorem P_all {P : Cl → Prop} {LL : List (List Cl)} (h : ∀ M ∈ LL, ∀ c ∈ M, P c) : ∀ c ∈ allP LL, P c := by
  induction LL with
  | nil => intro c hc; cases hc
  | cons M LL ih => exact P_over (ih fun A hA => h A (by simp [hA])) (h M (by simp))
theorem P_casc {P : Cl → Prop} (fan : Nat) : ∀ (n : Nat) (X : List (List (List Cl))), (∀ T ∈ X, ∀ M ∈ T, ∀ c ∈ M, P c) → ∀ T ∈ casc fan n X, ∀ M ∈ T, ∀ c ∈ M, P c
  | 0, X, h => h
  | _ + 1, [], h => h
  | _ + 1, [T], h => by
    rw [casc]
    split
    · intro A hA M hM
      simp only [List.mem_cons, List.not_mem_nil, or_false] at hA
      rcases hA with rfl | rfl
      · cases hM
      · rw [List.mem_singleton.1 hM]
        exact P_all (h T (by simp))
    · exact h
  | n + 1, T :: U :: X, h => by
    rw [casc]
    split
    · have h1 := P_casc (P := P) fan n ([allP (T ++ U)] :: X) fun A hA M hM => by
        rcases List.mem_cons.1 hA with rfl | hA
        · rw [List.mem_singleton.1 hM]
          refine P_all (P := P) (fun B hB => ?_)
          rcases List.mem_append.1 hB with q | q
          · exact h T (by simp) B q
          · exact h U (by simp) B q
        · exact h A (by simp [hA]) M hM
      intro A hA M hM
      rcases List.mem_cons.1 hA with rfl | hA
      · cases hM
      · exact h1 A hA M hM
    · have h1 := P_casc (P := P) fan n (U :: X) fun A hA => h A (List.mem_cons_of_mem _ hA)
      intro A hA M hM
      rcases List.mem_cons.1 hA with rfl | hA
      · exact h A (by simp) M hM
      · exact h1 A hA M hM
theorem P_first0 {P : Cl → Prop} {M : List Cl} {X : List (List (List Cl))} (hM : ∀ c ∈ M, P c) (h : ∀ T ∈ X, ∀ A ∈ T, ∀ c ∈ A, P c) : ∀ T ∈ first0 M X, ∀ A ∈ T, ∀ c ∈ A, P c := by
  unfold first0
  split
  · exact h
  · intro T hT A hA
    cases X with
    | nil =>
      rw [List.mem_singleton.1 hT] at hA
      rw [List.mem_singleton.1 hA]
      exact hM
    | cons U X =>
      rcases List.mem_cons.1 hT with rfl | hT
      · rcases List.mem_cons.1 hA with rfl | hA
        · exact hM
        · exact h U (by simp) A hA
      · exact h T (by simp [hT]) A hA
/-- all cells of a tree are of K -/
structure Tr.inK (t : Tr) (K : List Cl) : Prop where
  m : ∀ c ∈ t.mem, c ∈ K
  l : ∀ T ∈ t.lv, ∀ M ∈ T, ∀ c ∈ M, c ∈ K
/-- so few cells, of so few bytes, that tables can be made of them -/
structure FitsK (K : List Cl) : Prop where
  n : K.length ≤ 1000
  b : szs K ≤ 50000
  o : K.length ≤ 80 ∨ szs K ≤ 10000
theorem fits_nil : FitsK [] := ⟨by simp, by simp [szs], .inl (by simp)⟩
def Tr.empty : Tr := ⟨[], []⟩
theorem Tr.empty_ok : Tr.empty.ok := ⟨List.Pairwise.nil, fun T h => (by cases h), fun c h => (by cases h), fun T h => (by cases h)⟩
theorem Tr.empty_in : Tr.empty.inK [] := ⟨fun c h => (by cases h), fun T h => (by cases h)⟩
theorem Tr.empty_cells : Tr.empty.cells = [] := rfl
/-- a right cell that is put, and the tree has room for it -/
def Tr.step (s : Sf) (t : Tr) (c : Cl) : Tr := if s.mem ≤ szs (t.put c).mem then (t.put c).flush s.fan.toNat else t.put c
def Tr.after (s : Sf) (t : Tr) (c : Cl) : Tr := if c.ok then (if (put1 c t.cells).length ≤ 400 then t.step s c else t) else t
/-- the answer -/
def Tr.code (t : Tr) (c : Cl) : Int := if c.ok then (if (put1 c t.cells).length ≤ 400 then 0 else 4) else 1
section
variable {s : Sf} {t : Tr} {c : Cl} {K : List Cl}
theorem inK_flush (h : t.inK K) (fan : Nat) : (t.flush fan).inK K := ⟨fun c hc => (by cases hc), P_casc fan _ _ (P_first0 h.m h.l)⟩
theorem inK_more (h : t.inK K) (c : Cl) : t.inK (c :: K) := ⟨fun d hd => by simp [h.m d hd], fun T hT M hM d hd => by simp [h.l T hT M hM d hd]⟩
theorem inK_put (h : t.inK K) (c : Cl) : (t.put c).inK (c :: K) := by
  refine ⟨fun d hd => ?_, fun T hT M hM d hd => by simp [h.l T hT M hM d hd]⟩
  rcases mem_put1 hd with rfl | hd
  · simp
  · simp [h.m d hd]
theorem step_ok (h : t.ok) (hc : c.ok) (s : Sf) : (t.step s c).ok := by
  unfold Tr.step
  split
  · exact flush_ok (tput_ok h hc) _
  · exact tput_ok h hc
theorem step_cells (h : t.ok) (hc : c.ok) (s : Sf) : (t.step s c).cells = put1 c t.cells := by
  unfold Tr.step
  split
  · rw [flush_cells (tput_ok h hc), tput_cells h]
  · rw [tput_cells h]
theorem step_in (h : t.inK K) (s : Sf) (c : Cl) : (t.step s c).inK (c :: K) := by
  unfold Tr.step
  split
  · exact inK_flush (inK_put h c) _
  · exact inK_put h c
theorem after_ok (h : t.ok) (s : Sf) (c : Cl) : (t.after s c).ok := by
  unfold Tr.after
  split
  · split
    · exact step_ok h (by assumption) s
    · exact h
  · exact h
theorem after_in (h : t.inK K) (s : Sf) (c : Cl) : (t.after s c).inK (c :: K) := by
  unfold Tr.after
  split
  · split
    · exact step_in h s c
    · exact inK_more h c
  · exact inK_more h c
theorem after_put (h : t.ok) (hc : c.ok) (hl : (put1 c t.cells).length ≤ 400) (s : Sf) : (t.after s c).cells = put1 c t.cells ∧ t.code c = 0 := by
  unfold Tr.after Tr.code
  rw [if_pos hc, if_pos hl, if_pos hc, if_pos hl]
  exact ⟨step_cells h hc s, rfl⟩
theorem after_full (hc : c.ok) (hl : ¬ (put1 c t.cells).length ≤ 400) (s : Sf) : t.after s c = t ∧ t.code c = 4 := by
  unfold Tr.after Tr.code
  rw [if_pos hc, if_neg hl, if_pos hc, if_neg hl]
  exact ⟨rfl, rfl⟩
theorem after_no (hc : ¬ c.ok) (s : Sf) : t.after s c = t ∧ t.code c = 1 := by
  unfold Tr.after Tr.code
  rw [if_neg hc, if_neg hc]
  exact ⟨rfl, rfl⟩
theorem szs_ok (hc : c.ok) : ((cellB c).length : Int) ≤ 401 := by
  rw [cellB_len]
  have h1 := hc.r2
  have h2 := hc.c2
  have h3 := hc.v
  omega
theorem fits_snoc (_ : FitsK K) (hc : c.ok) (hK : K.length ≤ 79) (hb : szs K ≤ 401 * (K.length : Int)) : FitsK (c :: K) ∧ szs (c :: K) ≤ 401 * ((c :: K).length : Int) := by
  have h1 := szs_ok hc
  have h2 : szs (c :: K) = ((cellB c).length : Int) + szs K := rfl
  have h3 : (c :: K).length = K.length + 1 := rfl
  refine ⟨⟨by omega, by rw [h2]; omega, .inl (by omega)⟩, by rw [h2, h3]; omega⟩
end
/-- what may be read -/
def getV (t : Tr) (row col : ByteArray) (at_ : Int) : ByteArray := match newest row col at_ t.cells with | some c => if c.gone then ⟨#[]⟩ else c.val | none => ⟨#[]⟩
def getB (t : Tr) (row col : ByteArray) (at_ : Int) : Bool := match newest row col at_ t.cells with | some c => !c.gone | none => false
/-- a tree that stands: its shelf is right, it is in order, its cells are of K, which fits -/
structure GoodT (s : Sf) (t : Tr) (K : List Cl) : Prop where
  r : s.right
  ok : t.ok
  i : t.inK K
  f : FitsK K
/-- the contracts of package tree: 'At w S M b s t' says that block b is a tree of shelf s, as t; M are the blocks of its own that may turn, S are such blocks of all trees, in which nothing else of it lies -/
structure TreeI (At : World → List Nat → List Nat → Nat → Sf → Tr → Prop) : Prop where
  sub : ∀ {w S M b s t}, At w S M b s t → ∀ k ∈ M, k ∈ S ∧ k < w.heap.size
  slt : ∀ {w S M b s t}, At w S M b s t → ∀ k ∈ S, k < w.heap.size
  keep : ∀ {w w' : World} {S S' M N : List Nat} {b s t}, At w S M b s t → Kp N w w' → (∀ k ∈ N, (k ∈ S ∧ k ∉ M) ∨ w.heap.size ≤ k) → (∀ k ∈ S', k ∈ S ∨ w.heap.size ≤ k) → (∀ k ∈ M, k ∈ S') → (∀ k ∈ S', k < w'.heap.size) → At w' S' M b s t
  new_ok : ∀ (s : Sf) (w : World) (S : List Nat), s.right → (∀ k ∈ S, k < w.heap.size) → Calls Tryz.prog 10 #[s.v] w fun e w' => (∃ b M, e = .returned (.tuple #[.pointer (some ⟨b, 0, none⟩), .int .i64 0]) ∧ At w' (M ++ S) M b s Tr.empty ∧ ∀ k ∈ M, w.heap.size ≤ k) ∧ Below w.heap.size w w'
  new_no : ∀ (s : Sf) (w : World), ¬ s.right → Calls Tryz.prog 10 #[s.v] w fun e w' => e = .returned (.tuple #[.pointer none, .int .i64 1]) ∧ Below w.heap.size w w'
  put : ∀ {w S M b s t K} (c : Cl), At w S M b s t → GoodT s t K → (c.ok → FitsK (c :: K)) → Calls Tryz.prog 14 #[.pointer (some ⟨b, 0, none⟩), c.v] w fun e w' => ∃ M', e = .returned (.int .i64 (t.code c)) ∧ At w' (M' ++ S) M' b s (t.after s c) ∧ Kp M w w' ∧ ∀ k ∈ M', k ∈ M ∨ w.heap.size ≤ k
  flush : ∀ {w S M b s t K}, At w S M b s t → GoodT s t K → Calls Tryz.prog 15 #[.pointer (some ⟨b, 0, none⟩)] w fun e w' => ∃ M', (∃ u, e = .returned u) ∧ At w' (M' ++ S) M' b s (t.flush s.fan.toNat) ∧ Kp M w w' ∧ ∀ k ∈ M', k ∈ M ∨ w.heap.size ≤ k
  get : ∀ {w S M b s t K} (row col : ByteArray) (at_ : Int), At w S M b s t → GoodT s t K → row.size ≤ 1000000 → col.size ≤ 1000000 → Calls Tryz.prog 16 #[.pointer (some ⟨b, 0, none⟩), .string row, .string col, .int .i64 at_] w fun e w' => e = .returned (.tuple #[.string (getV t row col at_), .bool (getB t row col at_)]) ∧ Below w.heap.size w w'
  scan : ∀ {w S M b s t K} (fr to : ByteArray) (at_ : Int), At w S M b s t → GoodT s t K → fr.size ≤ 1000000 → to.size ≤ 1000000 → Calls Tryz.prog 19 #[.pointer (some ⟨b, 0, none⟩), .string fr, .string to, .int .i64 at_] w fun e w' => (∃ x, e = .returned x ∧ OwL w' w.heap.size x (someP fr to at_ t.cells)) ∧ Below w.heap.size w w'
  cells : ∀ {w S M b s t K}, At w S M b s t → GoodT s t K → Calls Tryz.prog 21 #[.pointer (some ⟨b, 0, none⟩)] w fun e w' => (∃ x, e = .returned x ∧ OwL w' w.heap.size x t.cells) ∧ Below w.heap.size w w'
  levels : ∀ {w S M b s t K}, At w S M b s t → GoodT s t K → Calls Tryz.prog 24 #[.pointer (some ⟨b, 0, none⟩)] w fun e w' => (∃ x, e = .returned x ∧ Ow w' w.heap.size 3 x (t.lv.map fun T => .int .i64 (T.length : Int))) ∧ Below w.heap.size w w'
end Go.Proofs.YtgcbmdolbmmljaaGreat.Ce
