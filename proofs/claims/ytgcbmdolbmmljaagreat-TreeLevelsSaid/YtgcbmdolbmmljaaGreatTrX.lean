/- How many tables each level has, plainly: as the law's loop reckons it. A tree, beside it a list of numbers that the caller turns and a list of cells that it reads. -/
import Derived.Test.YtgcbmdolbmmljaaGreatTrI
import Derived.Test.YtgcbmdolbmmljaaGreatTrS
namespace Go.Proofs.YtgcbmdolbmmljaaGreat.Ce
open Go.RowKit

/-- from some level on -/
def cascC (fan : Nat) : Nat → List Nat → List Nat
  | 0, X => X
  | _ + 1, [] => []
  | _ + 1, [t] => if fan < t then [0, 1] else [t]
  | n + 1, t :: u :: X => if fan < t then 0 :: cascC fan n (1 :: X) else t :: cascC fan n (u :: X)
theorem lens_casc (fan : Nat) : ∀ (n : Nat) (X : List (List (List Cl))), (casc fan n X).map List.length = cascC fan n (X.map List.length)
  | 0, X => rfl
  | _ + 1, [] => rfl
  | _ + 1, [T] => by
    rw [casc, List.map_cons, List.map_nil, cascC]
    split <;> rfl
  | n + 1, T :: U :: X => by
    rw [casc, List.map_cons, List.map_cons, cascC]
    split
    · rw [List.map_cons, lens_casc fan n]
      rfl
    · rw [List.map_cons, lens_casc fan n]
      rfl
theorem cascC_one {fan : Nat} (hf : 1 ≤ fan) (n : Nat) : cascC fan (n + 1) [1] = [1] := by
  rw [cascC, if_neg (by omega)]
/-- one level less to come -/
theorem cascC_more (fan : Nat) : ∀ (n : Nat) (X : List Nat), X.length ≤ n → cascC fan (n + 1) X = cascC fan n X
  | 0, X, h => by
    obtain rfl : X = [] := List.eq_nil_of_length_eq_zero (by omega)
    rfl
  | n + 1, [], _ => rfl
  | n + 1, [t], _ => by rw [cascC, cascC]
  | n + 1, t :: u :: X, h => by
    rw [cascC, cascC]
    have h1 : (u :: X).length ≤ n := by simp only [List.length_cons] at h ⊢; omega
    split
    · rw [cascC_more fan n (1 :: X) (by simp only [List.length_cons] at h1 ⊢; omega)]
    · rw [cascC_more fan n (u :: X) h1]
theorem cascC_fuel (fan : Nat) {X : List Nat} : ∀ {n : Nat}, X.length ≤ n → cascC fan n X = cascC fan X.length X := fun {n} h => by
  obtain ⟨d, rfl⟩ : ∃ d, n = X.length + d := ⟨n - X.length, by omega⟩
  induction d with
  | zero => rfl
  | succ d ih => rw [← Nat.add_assoc, cascC_more fan (X.length + d) X (by omega), ih (by omega)]
/-- the first k levels are done -/
def cascAt (fan k : Nat) (X : List Nat) : List Nat := X.take k ++ cascC fan (X.length - k) (X.drop k)
theorem cascAt_start (fan : Nat) (X : List Nat) : cascAt fan 0 X = cascC fan X.length X := by
  unfold cascAt
  rw [List.take_zero, List.nil_append, Nat.sub_zero, List.drop_zero]
theorem cascAt_end (fan : Nat) (X : List Nat) : cascAt fan X.length X = X := by
  unfold cascAt
  rw [List.take_length, Nat.sub_self, List.drop_length]
  exact List.append_nil X
theorem drop_two {X : List Nat} {k : Nat} (h : k + 1 < X.length) : X.drop k = X[k] :: X[k + 1] :: X.drop (k + 2) := by
  rw [List.drop_eq_getElem_cons (by omega), List.drop_eq_getElem_cons h]
theorem drop_one {X : List Nat} {k : Nat} (h : k + 1 = X.length) : X.drop k = [X[k]'(by omega)] := by
  rw [List.drop_eq_getElem_cons (by omega), h, List.drop_length]
theorem cascAt_stay {fan k : Nat} {X : List Nat} (hk : k < X.length) (hf : ¬ fan < X[k]) : cascAt fan (k + 1) X = cascAt fan k X := by
  unfold cascAt
  rw [List.take_succ_eq_append_getElem hk, List.append_assoc]
  congr 1
  by_cases h : k + 1 < X.length
  · rw [drop_two h, List.drop_eq_getElem_cons h]
    obtain ⟨n, hn⟩ : ∃ n, X.length - k = n + 1 := ⟨X.length - k - 1, by omega⟩
    rw [hn, cascC, if_neg hf, show X.length - (k + 1) = n by omega]
    rfl
  · have he : k + 1 = X.length := by omega
    rw [drop_one he, he, List.drop_length, Nat.sub_self]
    obtain ⟨n, hn⟩ : ∃ n, X.length - k = n + 1 := ⟨X.length - k - 1, by omega⟩
    have e : cascC fan (n + 1) [X[k]] = [X[k]] := by rw [cascC, if_neg hf]
    rw [hn, e]
    rfl
theorem cascAt_last {fan k : Nat} {X : List Nat} (h1 : 1 ≤ fan) (he : k + 1 = X.length) (hf : fan < X[k]'(by omega)) : cascAt fan (k + 1) ((X.set k 0 ++ [0]).set (k + 1) 1) = cascAt fan k X := by
  have hl : (X.set k 0).length = k + 1 := by rw [List.length_set, he]
  have e1 : (X.set k 0 ++ [0]).set (k + 1) 1 = X.set k 0 ++ [1] := by
    rw [List.set_append_right _ _ (by omega), hl, Nat.sub_self]
    rfl
  have e2 : X.set k 0 = X.take k ++ [0] := by
    rw [List.set_eq_take_append_cons_drop, if_pos (by omega), he, List.drop_length]
  unfold cascAt
  rw [e1, List.take_left' hl, List.drop_left' hl, List.length_append, hl, drop_one he, e2, List.append_assoc]
  congr 1
  obtain ⟨n, hn⟩ : ∃ n, X.length - k = n + 1 := ⟨X.length - k - 1, by omega⟩
  rw [hn, cascC, if_pos hf, show k + 1 + [1].length - (k + 1) = 0 + 1 by simp, cascC_one h1]
  rfl
theorem cascAt_next {fan k : Nat} {X : List Nat} (h : k + 1 < X.length) (hf : fan < X[k]'(by omega)) : cascAt fan (k + 1) ((X.set k 0).set (k + 1) 1) = cascAt fan k X := by
  have e1 : (X.set k 0).set (k + 1) 1 = X.take k ++ 0 :: 1 :: X.drop (k + 2) := by
    refine List.ext_getElem? fun i => ?_
    rw [List.getElem?_set, List.getElem?_append]
    simp only [List.length_set, List.length_take, List.getElem?_set]
    have hm : min k X.length = k := by omega
    rw [hm]
    by_cases hi : i < k
    · rw [if_pos hi, if_neg (by omega), if_neg (by omega), List.getElem?_take, if_pos hi]
    · rw [if_neg hi]
      obtain ⟨d, rfl⟩ : ∃ d, i = k + d := ⟨i - k, by omega⟩
      rw [Nat.add_sub_cancel_left]
      match d with
      | 0 => rw [if_neg (by omega), if_pos (by omega), if_pos (by omega)]; rfl
      | 1 => rw [if_pos rfl, if_pos h]; rfl
      | d + 2 =>
        rw [if_neg (by omega), if_neg (by omega)]
        simp only [List.getElem?_cons_succ, List.getElem?_drop]
        rw [show k + 2 + d = k + (d + 2) by omega]
  have hl : (X.take k ++ [0]).length = k + 1 := by simp; omega
  unfold cascAt
  rw [e1, show X.take k ++ 0 :: 1 :: X.drop (k + 2) = (X.take k ++ [0]) ++ 1 :: X.drop (k + 2) by simp, List.take_left' hl, List.drop_left' hl, drop_two h, List.append_assoc]
  congr 1
  obtain ⟨n, hn⟩ : ∃ n, X.length - k = n + 1 := ⟨X.length - k - 1, by omega⟩
  have e : cascC fan (n + 1) (X[k]'(by omega) :: X[k + 1] :: X.drop (k + 2)) = 0 :: cascC fan n (1 :: X.drop (k + 2)) := by rw [cascC, if_pos hf]
  have hn2 : (X.take k ++ [0] ++ 1 :: X.drop (k + 2)).length - (k + 1) = n := by
    rw [List.length_append, hl, List.length_cons, List.length_drop]
    omega
  rw [hn, e, hn2]
  rfl
/-- the counts of a tree that is flushed -/
theorem lens_flush {t : Tr} {fan : Nat} (hm : t.mem ≠ []) : ((t.flush fan).lv.map List.length) = cascC fan (match t.lv.map List.length with | [] => [1] | n :: X => (n + 1) :: X).length (match t.lv.map List.length with | [] => [1] | n :: X => (n + 1) :: X) := by
  unfold Tr.flush
  have e : (first0 t.mem t.lv).map List.length = (match t.lv.map List.length with | [] => [1] | n :: X => (n + 1) :: X) := by
    unfold first0
    rw [if_neg hm]
    cases t.lv with
    | nil => rfl
    | cons T X => simp
  rw [← e, List.length_map]
  exact lens_casc fan _ _
end Go.Proofs.YtgcbmdolbmmljaaGreat.Ce

namespace Go.Proofs.YtgcbmdolbmmljaaGreat.Ce
open Go.RowKit

variable {At : World → List Nat → List Nat → Nat → Sf → Tr → Prop}
def iv (n : Nat) : Value := .int .i64 (n : Int)
theorem iv_one (l : List Nat) : One (l.map iv) := one_map _ (fun _ => rfl) l
theorem kp_mono {S T : List Nat} {w w' : World} (h : Kp S w w') (hs : ∀ k ∈ S, k ∈ T) : Kp T w w' := ⟨h.os, h.tape, h.output, h.size, fun k hk hn => h.block k hk fun hm => hn (hs k hm)⟩
theorem ow_kp {w w' : World} {B e : Nat} {v : Value} {xs : List Value} {N : List Nat} (h : Ow w B e v xs) (hk : Kp N w w') (hn : ∀ k, v.ownBlock = some k → k ∉ N) : Ow w' B e v xs := by
  obtain ⟨h1, h2⟩ := h
  refine ⟨h1, ?_⟩
  rcases h2 with h2 | ⟨g, cap, cur, rfl, hg, hh, r⟩
  · exact .inl h2
  · exact .inr ⟨g, cap, cur, rfl, hg, by rw [hk.block g (Array.getElem?_eq_some_iff.1 hh).1 (hn g rfl)]; exact hh, r⟩
/-- the tree at b; x holds the numbers lv, and is the caller's; y reads the cells m -/
def LvT (At : World → List Nat → List Nat → Nat → Sf → Tr → Prop) (w0 w : World) (b : Nat) (s : Sf) (t : Tr) (x : Value) (lv : List Nat) (y : Value) (m : List Cl) : Prop :=
  ∃ S M, At w S M b s t ∧ (∀ k ∈ M, w0.heap.size ≤ k) ∧ (∀ k ∈ S, k < w.heap.size) ∧ Below w0.heap.size w0 w ∧ RdL w S y m ∧ Ow w w0.heap.size 3 x (lv.map iv) ∧ ∀ k, x.ownBlock = some k → k ∈ S ∧ k ∉ M
section
variable {w0 w w' : World} {b : Nat} {s : Sf} {t : Tr} {x y : Value} {lv : List Nat} {m K : List Cl}
theorem LvT.bel (h : LvT At w0 w b s t x lv y m) : Below w0.heap.size w0 w := by
  obtain ⟨S, M, -, -, -, h4, -⟩ := h
  exact h4
theorem LvT.rd0 (h : LvT At w0 w b s t x lv y m) : RdL w [] y m := by
  obtain ⟨S, M, -, -, -, -, h5, -⟩ := h
  exact h5.up (Kp.refl S w) (by simp)
theorem LvT.ow (h : LvT At w0 w b s t x lv y m) : Ow w w0.heap.size 3 x (lv.map iv) := by
  obtain ⟨S, M, -, -, -, -, -, h6, -⟩ := h
  exact h6
theorem LvT.up (I : TreeI At) (h : LvT At w0 w b s t x lv y m) (hb : Below w.heap.size w w') : LvT At w0 w' b s t x lv y m := by
  obtain ⟨S, M, h1, h2, h3, h4, h5, h6, h7⟩ := h
  exact ⟨S, M, I.bel h1 hb, h2, fun k hk => Nat.lt_of_lt_of_le (h3 k hk) hb.size, bwstep h4 hb, h5.bel hb, h6.below hb, h7⟩
/-- the list of cells is another one now, new -/
theorem LvT.mem (I : TreeI At) {y' : Value} {m' : List Cl} (h : LvT At w0 w b s t x lv y m) (hb : Below w.heap.size w w') (hy : OwL w' w.heap.size y' m') : LvT At w0 w' b s t x lv y' m' := by
  obtain ⟨S, M, h1, h2, h3, h4, h5, h6, h7⟩ := h
  exact ⟨S, M, I.bel h1 hb, h2, fun k hk => Nat.lt_of_lt_of_le (h3 k hk) hb.size, bwstep h4 hb, hy.rd h3, h6.below hb, h7⟩
theorem LvT.nil (h : LvT At w0 w b s t x lv y m) : LvT At w0 w b s t x lv (.slice none 0 0) [] := by
  obtain ⟨S, M, h1, h2, h3, h4, h5, h6, h7⟩ := h
  exact ⟨S, M, h1, h2, h3, h4, RdL.nil _ _, h6, h7⟩
/-- the numbers are another slice now -/
theorem LvT.turn (I : TreeI At) {x' : Value} {lv' : List Nat} (h : LvT At w0 w b s t x lv y m) (hk : Kp x.ownBlock.toList w w') (hx : Ow w' w0.heap.size 3 x' (lv'.map iv)) (hn : ∀ k, x'.ownBlock = some k → x.ownBlock = some k ∨ w.heap.size ≤ k) : LvT At w0 w' b s t x' lv' y m := by
  obtain ⟨S, M, h1, h2, h3, h4, h5, h6, h7⟩ := h
  have hin : ∀ k ∈ x.ownBlock.toList, k ∈ S ∧ k ∉ M := fun k hk => h7 k (by simpa using hk)
  have hge : ∀ k ∈ x.ownBlock.toList, w0.heap.size ≤ k := fun k hk => (h6.lt k (by simpa using hk)).1
  have hS' : ∀ k ∈ x'.ownBlock.toList ++ S, k ∈ S ∨ w.heap.size ≤ k := fun k hk => by
    rcases List.mem_append.1 hk with q | q
    · rcases hn k (by simpa using q) with q | q
      · exact .inl (h7 k q).1
      · exact .inr q
    · exact .inl q
  refine ⟨x'.ownBlock.toList ++ S, M, I.keep h1 hk (fun k hk => .inl (hin k hk)) hS' (fun k hk => by simp [(I.sub h1 k hk).1]) (fun k hk2 => by rcases List.mem_append.1 hk2 with q | q; exact (hx.lt k (by simpa using q)).2; exact Nat.lt_of_lt_of_le (I.slt h1 k q) hk.size), h2, fun k hk2 => ?_, h4.trans (hk.below hge h4.size), h5.up (kp_mono hk fun k hk => (hin k hk).1) hS', hx, fun k hk2 => ⟨by simp [hk2], fun hq => ?_⟩⟩
  · rcases List.mem_append.1 hk2 with q | q
    · exact (hx.lt k (by simpa using q)).2
    · exact Nat.lt_of_lt_of_le (h3 k q) hk.size
  · rcases hn k hk2 with q | q
    · exact (h7 k q).2 hq
    · have := (I.sub h1 k hq).2
      omega
/-- a number is stored -/
theorem LvT.store (I : TreeI At) {g n c i : Nat} (h : LvT At w0 w b s t (.slice (some ⟨g, 0, none⟩) n c) lv y m) (hi : i < lv.length) (v : Nat) : LvT At w0 (w.setCell ⟨g, i, none⟩ (iv v)) b s t (.slice (some ⟨g, 0, none⟩) n c) (lv.set i v) y m := by
  have ho := h.ow
  obtain ⟨g', hA, -, -, -, -, hset⟩ := ho.at_ (k := i) (by simpa using hi)
  obtain ⟨rfl⟩ : g = g' := by injection hA with q; injection q
  have h2 := hset (iv v)
  rw [← List.map_set] at h2
  exact h.turn I (Kp.set w (by simp [Value.ownBlock]) _) h2 fun k hk => .inl hk
/-- one more -/
theorem LvT.app (I : TreeI At) {x' : Value} {v : Nat} (h : LvT At w0 w b s t x lv y m) (hg : w.grownBy w' x.ownBlock) (hx : Ow w' w0.heap.size 3 x' ((lv ++ [v]).map iv)) (hn : x'.ownBlock = x.ownBlock ∨ x'.ownBlock = some w.heap.size) : LvT At w0 w' b s t x' (lv ++ [v]) y m :=
  h.turn I (Kp.grown hg fun k hk => by simp [hk]) hx fun k hk => by
    rcases hn with q | q
    · exact .inl (q ▸ hk)
    · rw [q] at hk
      injection hk with hk
      exact .inr (by omega)
/-- a new slice of numbers -/
theorem LvT.new (I : TreeI At) {x' : Value} {lv' : List Nat} (h : LvT At w0 w b s t x lv y m) (hb : Below w.heap.size w w') (hx : Ow w' w.heap.size 3 x' (lv'.map iv)) : LvT At w0 w' b s t x' lv' y m :=
  h.turn I (Kp.of_below hb _) (hx.mono h.bel.size) fun k hk => .inr (hx.lt k hk).1
theorem LvT.put (I : TreeI At) (c : Cl) (h : LvT At w0 w b s t x lv y m) (hg : GoodT s t K) (hf : c.ok → FitsK (c :: K)) :
    Calls Tryz.prog 14 #[.pointer (some ⟨b, 0, none⟩), c.v] w fun e w' => e = .returned (.int .i64 (t.code c)) ∧ LvT At w0 w' b s (t.after s c) x lv y m := by
  obtain ⟨S, M, h1, h2, h3, h4, h5, h6, h7⟩ := h
  refine (I.put c h1 hg hf).mono ?_
  rintro e w' ⟨M', rfl, k1, k2, k3⟩
  have hMS : ∀ k ∈ M, k ∈ S := fun k hk => (I.sub h1 k hk).1
  have hS' : ∀ k ∈ M' ++ S, k ∈ S ∨ w.heap.size ≤ k := fun k hk => by
    rcases List.mem_append.1 hk with q | q
    · exact (k3 k q).imp (hMS k) id
    · exact .inl q
  refine ⟨rfl, M' ++ S, M', k1, fun k hk => (k3 k hk).elim (h2 k) fun q => Nat.le_trans h4.size q, fun k hk => ?_, h4.trans (k2.below h2 h4.size), h5.up (kp_mono k2 hMS) hS', ow_kp h6 k2 fun k hk => (h7 k hk).2, fun k hk => ⟨by simp [(h7 k hk).1], fun hq => ?_⟩⟩
  · rcases List.mem_append.1 hk with q | q
    · exact (I.sub k1 k q).2
    · exact Nat.lt_of_lt_of_le (h3 k q) k2.size
  · rcases k3 k hq with q | q
    · exact (h7 k hk).2 q
    · have := (h6.lt k hk).2
      omega
theorem LvT.levels (I : TreeI At) (h : LvT At w0 w b s t x lv y m) (hg : GoodT s t K) :
    Calls Tryz.prog 24 #[.pointer (some ⟨b, 0, none⟩)] w fun e w' => (∃ z, e = .returned z ∧ Ow w' w.heap.size 3 z ((t.lv.map List.length).map iv)) ∧ Below w.heap.size w w' := by
  obtain ⟨S, M, h1, -⟩ := h
  refine (I.levels h1 hg).mono ?_
  rintro e w' ⟨⟨z, rfl, hz⟩, hb⟩
  refine ⟨⟨z, rfl, ?_⟩, hb⟩
  rw [List.map_map]
  exact hz
end
/-! how great the numbers may become -/
theorem cascC_le {fan B : Nat} (hB : 1 ≤ B) : ∀ (n : Nat) (X : List Nat), (∀ k ∈ X, k ≤ B) → ∀ k ∈ cascC fan n X, k ≤ B
  | 0, X, h => h
  | _ + 1, [], h => h
  | _ + 1, [t], h => by
    rw [cascC]
    split
    · intro k hk
      simp only [List.mem_cons, List.not_mem_nil, or_false] at hk
      omega
    · exact h
  | n + 1, t :: u :: X, h => by
    rw [cascC]
    split
    · intro k hk
      rcases List.mem_cons.1 hk with rfl | hk
      · omega
      · refine cascC_le hB n (1 :: X) (fun j hj => ?_) k hk
        rcases List.mem_cons.1 hj with rfl | hj
        · exact hB
        · exact h j (by simp [hj])
    · intro k hk
      rcases List.mem_cons.1 hk with rfl | hk
      · exact h k (by simp)
      · exact cascC_le hB n (u :: X) (fun j hj => h j (List.mem_cons_of_mem _ hj)) k hk
theorem cascC_len (fan : Nat) : ∀ (n : Nat) (X : List Nat), (cascC fan n X).length ≤ X.length + 1
  | 0, X => by rw [cascC]; omega
  | _ + 1, [] => by rw [cascC]; simp
  | _ + 1, [t] => by
    rw [cascC]
    split <;> simp
  | n + 1, t :: u :: X => by
    rw [cascC]
    split
    · have := cascC_len fan n (1 :: X)
      simp only [List.length_cons] at this ⊢
      omega
    · have := cascC_len fan n (u :: X)
      simp only [List.length_cons] at this ⊢
      omega
end Go.Proofs.YtgcbmdolbmmljaaGreat.Ce
