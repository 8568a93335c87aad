/- The contract of the reference function Do of layer 7: errors, delete. -/
import Derived.Test.YtblejjjifokmgaaRfP
namespace Go.Proofs.Ytblejjjifokmgaa
open Go.RowKit Go.Maps Dk
set_option linter.unusedVariables false

/-- what the reference's act leaves -/
def RRes (w w' : World) (S : List Nat) (r : List Fl × Int) (e : Ending) : Prop :=
  (∃ v' M', e = .returned (.tuple #[v', .int .i64 r.2]) ∧ RdF w' S v' M' ∧ M'.map Rf.fl = r.1) ∧ Below w.heap.size w w'
/-- found, or not, by the place -/
theorem rfnd_cases {L : List Rf} (hs : Srt rk L) (s : ByteArray) : (fnd key s.data.toList (L.map Rf.fl) = none ∧ fidx s.data.toList L = -1) ∨
    ∃ A f C, L = A ++ f :: C ∧ rk f = s.data.toList ∧ fnd key s.data.toList (L.map Rf.fl) = some f.fl ∧ fidx s.data.toList L = (A.length : Int) ∧ L[A.length]? = some f ∧ wo rk s.data.toList L = L.take A.length ++ L.drop (A.length + 1) := by
  have hm : fnd key s.data.toList (L.map Rf.fl) = (fnd rk s.data.toList L).map Rf.fl := fnd_map (k := rk) (k' := key) (g := Rf.fl) (fun _ => rfl) _ L
  rcases fnd_cases rk s.data.toList L with h0 | ⟨A, f, C, rfl, h1, h2⟩
  · left
    refine ⟨by rw [hm, h0]; rfl, fidx_none fun j f hf e => ?_⟩
    unfold fnd at h0
    rw [List.find?_eq_none] at h0
    exact h0 f (List.mem_of_getElem? hf) (by simpa using e)
  · right
    refine ⟨A, f, C, rfl, h1, by rw [hm, h2]; rfl, fidx_at (k := A.length) (f := f) (by simp) h1 fun j g hj hg e => ?_, by simp, ?_⟩
    · have hgA : g ∈ A := by
        rw [List.getElem?_append_left hj] at hg
        exact List.mem_of_getElem? hg
      have := (List.pairwise_append.1 hs).2.2 g hgA f (by simp)
      rw [e, h1] at this
      exact lt_irrefl _ this
    · rw [← h1, wo_mid hs]
      simp
theorem rl_wo (n : List UInt8) (L : List Rf) : (wo rk n L).map Rf.fl = wo key n (L.map Rf.fl) := map_wo (k := rk) (k' := key) (g := Rf.fl) (fun _ => rfl) n L
theorem rl_put (f : Rf) (L : List Rf) : (put rk f L).map Rf.fl = put key f.fl (L.map Rf.fl) := map_put (k := rk) (k' := key) (g := Rf.fl) (fun _ => rfl) f L
theorem rl_srt {L : List Rf} : Srt key (L.map Rf.fl) ↔ Srt rk L := srt_map (k := rk) (k' := key) (g := Rf.fl) (fun _ => rfl)
/-- an act's cells in its box, in a later world -/
structure ActC (w : World) (ab : Nat) (op : Int) (nm ot : ByteArray) (bx : Value) (at_ : Int) (kx : Value) : Prop where
  lt : ab < w.heap.size
  a0 : w.cell? ⟨ab, 0, none⟩ = some (.int .i64 op)
  a1 : w.cell? ⟨ab, 1, none⟩ = some (.string nm)
  a2 : w.cell? ⟨ab, 2, none⟩ = some (.string ot)
  a3 : w.cell? ⟨ab, 3, none⟩ = some bx
  a4 : w.cell? ⟨ab, 4, none⟩ = some (.int .i64 at_)
  a5 : w.cell? ⟨ab, 5, none⟩ = some kx
theorem ActC.new (w : World) (op : Int) (nm ot : ByteArray) (bx : Value) (at_ : Int) (kx : Value) (t : Nat) : ActC (w.alloc (.cells #[.int .i64 op, .string nm, .string ot, bx, .int .i64 at_, kx] t)) w.heap.size op nm ot bx at_ kx := by
  have h := heap_alloc_new w (.cells #[.int .i64 op, .string nm, .string ot, bx, .int .i64 at_, kx] t)
  exact ⟨by simp, by rw [cell_of_row _ _ 0 _ _ (0, 0) h]; rfl, by rw [cell_of_row _ _ 1 _ _ (0, 0) h]; rfl, by rw [cell_of_row _ _ 2 _ _ (0, 0) h]; rfl, by rw [cell_of_row _ _ 3 _ _ (0, 0) h]; rfl, by rw [cell_of_row _ _ 4 _ _ (0, 0) h]; rfl, by rw [cell_of_row _ _ 5 _ _ (0, 0) h]; rfl⟩
theorem ActC.kp {w w' : World} {ab : Nat} {op : Int} {nm ot : ByteArray} {bx : Value} {at_ : Int} {kx : Value} {S : List Nat} (h : ActC w ab op nm ot bx at_ kx) (hk : Kp S w w') (hS : ab ∉ S) : ActC w' ab op nm ot bx at_ kx := by
  have e := hk.block ab h.lt hS
  have q : ∀ o, w'.cell? ⟨ab, o, none⟩ = w.cell? ⟨ab, o, none⟩ := fun o => World.cell?_of_block (w := w) (a := ⟨ab, o, none⟩) e
  exact ⟨Nat.lt_of_lt_of_le h.lt hk.size, (q 0).trans h.a0, (q 1).trans h.a1, (q 2).trans h.a2, (q 3).trans h.a3, (q 4).trans h.a4, (q 5).trans h.a5⟩
theorem ActC.bel {w w' : World} {ab : Nat} {op : Int} {nm ot : ByteArray} {bx : Value} {at_ : Int} {kx : Value} (h : ActC w ab op nm ot bx at_ kx) (hb : Below w.heap.size w w') : ActC w' ab op nm ot bx at_ kx := h.kp (Kp.of_below hb []) (by simp)
/-- a file's cells in its variable -/
structure FilC (w : World) (fb : Nat) (f : Rf) : Prop where
  lt : fb < w.heap.size
  f0 : w.cell? ⟨fb, 0, none⟩ = some (.string f.fl.nm)
  f1 : w.cell? ⟨fb, 1, none⟩ = some f.v
  f2 : w.cell? ⟨fb, 2, none⟩ = some (.int .i64 (f.fl.s : Int))
  z0 : w.frozen? ⟨fb, 0, none⟩ = false
  z1 : w.frozen? ⟨fb, 1, none⟩ = false
  z2 : w.frozen? ⟨fb, 2, none⟩ = false
theorem FilC.new (w : World) (f : Rf) (t : Nat) : FilC (w.alloc (.cells #[.string f.fl.nm, f.v, .int .i64 (f.fl.s : Int)] t)) w.heap.size f := by
  have h := heap_alloc_new w (.cells #[.string f.fl.nm, f.v, .int .i64 (f.fl.s : Int)] t)
  have z : ∀ o, (w.alloc (.cells #[.string f.fl.nm, f.v, .int .i64 (f.fl.s : Int)] t)).frozen? ⟨w.heap.size, o, none⟩ = false := fun o => by
    unfold World.frozen?
    rw [h]
    simp
  exact ⟨by simp, by rw [cell_of_row _ _ 0 _ _ (0, 0) h]; rfl, by rw [cell_of_row _ _ 1 _ _ (0, 0) h]; rfl, by rw [cell_of_row _ _ 2 _ _ (0, 0) h]; rfl, z 0, z 1, z 2⟩
theorem FilC.bel {w w' : World} {fb : Nat} {f : Rf} (h : FilC w fb f) (hb : Below w.heap.size w w') : FilC w' fb f := by
  have q : ∀ o, w'.cell? ⟨fb, o, none⟩ = w.cell? ⟨fb, o, none⟩ := fun o => hb.cell (p := ⟨fb, o, none⟩) h.lt
  have z : ∀ o, w'.frozen? ⟨fb, o, none⟩ = w.frozen? ⟨fb, o, none⟩ := fun o => hb.frozen (p := ⟨fb, o, none⟩) h.lt
  exact ⟨Nat.lt_of_lt_of_le h.lt hb.size, (q 0).trans h.f0, (q 1).trans h.f1, (q 2).trans h.f2, (z 0).trans h.z0, (z 1).trans h.z1, (z 2).trans h.z2⟩
/-- the files without the k-th, beside the variable f -/
theorem rest_rd {w0 w w2 : World} {S : List Nat} {v v2 : Value} {L Lw : List Rf} {B fb : Nat} (hv : RdF w S v L) (hb : Below w.heap.size w w2) (hp : OwF w2 B v2 Lw) (hS : ∀ k ∈ S, k < w.heap.size) (hw : w.heap.size ≤ fb) (hB : fb < B) (hsub : ∀ g ∈ Lw, g ∈ L) : RdF w2 (fb :: S) v2 Lw :=
  ⟨hp.rdC fun k hk => by
    rcases List.mem_cons.1 hk with rfl | hk
    · exact hB
    · have := hS k hk; omega, fun g hg => (hv.b g (hsub g hg)).up (Kp.of_below hb _) fun k hk => by
    rcases List.mem_cons.1 hk with rfl | hk
    · exact .inr hw
    · exact .inl hk⟩
theorem RdF.mono {w : World} {S S' : List Nat} {v : Value} {L : List Rf} (h : RdF w S v L) (hS : ∀ k ∈ S', k ∈ S) : RdF w S' v L := by
  obtain ⟨⟨A, c, e, h1, h2, h3⟩, hb⟩ := h
  refine ⟨⟨A, c, e, h1, h2, fun hp => ?_⟩, fun f hf => ⟨(hb f hf).1, fun hp k hk hm => (hb f hf).2 hp k hk (hS k hm)⟩⟩
  obtain ⟨b, off, ea, hl, hn, hc⟩ := h3 hp
  exact ⟨b, off, ea, hl, fun hm => hn (hS b hm), hc⟩
/-- Put's answer as what the act leaves -/
theorem put_res {w w3 w4 : World} {S : List Nat} {v4 : Value} {Lw : List Rf} {f : Rf} {M : List Fl} {fb : Nat} {B : Nat} (hp : OwF w4 B v4 (ins rk f Lw)) {v2 : Value} (h3 : RdF w3 (fb :: S) v2 Lw) (hf : RdS w3 (fb :: S) f.v f.fl.l) (hb : Below w3.heap.size w3 w4) (hB : B = w3.heap.size) (hS : ∀ k ∈ S, k < w3.heap.size) (hbw : Below w.heap.size w w4)
    (hM : (ins rk f Lw).map Rf.fl = M) : RRes w w4 S (M, 0) (.returned (.tuple #[v4, .int .i64 0])) := by
  subst hB
  refine ⟨⟨v4, _, rfl, ⟨hp.rdC hS, fun g hg => ?_⟩, hM⟩, hbw⟩
  have q : RdS w4 (fb :: S) g.v g.fl.l := by
    rcases mem_ins.1 hg with rfl | hg
    · exact hf.up (Kp.of_below hb _) fun _ hk => .inl hk
    · exact (h3.b g hg).up (Kp.of_below hb _) fun _ hk => .inl hk
  exact ⟨q.1, fun hp k hk hm => q.2 hp k hk (by simp [hm])⟩
theorem Kp.sub_ {S S' : List Nat} {a b : World} (h : Kp S a b) (hS : ∀ k ∈ S, k ∈ S') : Kp S' a b := ⟨h.os, h.tape, h.output, h.size, fun k hk hn => h.block k hk fun hm => hn (hS k hm)⟩
theorem ins_wo {L : List Rf} {f' : Rf} {n : List UInt8} (h : rk f' = n) : (ins rk f' (wo rk n L)).map Rf.fl = put key f'.fl (L.map Rf.fl) := by
  rw [← rl_put, ← h]
  rfl
theorem keep_rest {w2 w3 w4 : World} {S : List Nat} {fb : Nat} {v : Value} {L : List Rf} (h : RdF w2 (fb :: S) v L) (hb : Below w2.heap.size w2 w3) (hk : Kp [fb] w3 w4) : RdF w4 (fb :: S) v L :=
  (h.bel hb).up (hk.sub_ (S' := fb :: S) fun k hk => by simpa using Or.inl (List.mem_singleton.1 hk)) fun _ hk => .inl hk
theorem own_bytes {w3 w4 : World} {B e fb : Nat} {S : List Nat} {v : Value} {l : List UInt8} (h : Ow w3 B e v (l.map bv)) (hB : ∀ k ∈ fb :: S, k < B) (hk : Kp [fb] w3 w4) : RdS w4 (fb :: S) v l :=
  (h.rdS hB).up (hk.sub_ (S' := fb :: S) fun k hk => by simpa using Or.inl (List.mem_singleton.1 hk)) fun _ hk => .inl hk
theorem all_bel {w w2 w3 w4 : World} {fb : Nat} (h2 : Below w.heap.size w w2) (hb : Below w2.heap.size w2 w3) (hk : Kp [fb] w3 w4) (hf : w.heap.size ≤ fb) : Below w.heap.size w w4 :=
  (bwstep h2 hb).trans (hk.below (B := w.heap.size) (fun k hk => by rw [List.mem_singleton.1 hk]; exact hf) (bwstep h2 hb).size)
theorem low_all {w w2 : World} {fb : Nat} {S : List Nat} (h2 : Below w.heap.size w w2) (hS : ∀ k ∈ S, k < w.heap.size) (hf : fb < w2.heap.size) : ∀ k ∈ fb :: S, k < w2.heap.size := fun k hk => by
  rcases List.mem_cons.1 hk with rfl | hk
  · exact hf
  · have := hS k hk; have := h2.size; omega
theorem Ow.kpS {w w' : World} {B e : Nat} {v : Value} {xs : List Value} {S : List Nat} (h : Ow w B e v xs) (hk : Kp S w w') (hS : ∀ k ∈ S, k < B) : Ow w' B e v xs := h.same fun k hx => hk.block k (h.lt k hx).2 fun hm => by have := hS k hm; have := (h.lt k hx).1; omega
/-- a byte of the copy that lies in f's variable: read, and turned -/
theorem turn_facts {w2 w3 : World} {fb n c3 e : Nat} {A3 : Option Addr} {l : List UInt8} (t : UInt8) (ho : Ow w3 w2.heap.size e (.slice A3 l.length c3) (l.map bv)) (hf : fb < w2.heap.size) (hn : n < l.length) :
    ∃ g u, A3 = some ⟨g, 0, none⟩ ∧ ¬ g = fb ∧ ¬ fb = g ∧ w2.heap.size ≤ g ∧ g < w3.heap.size ∧ w3.cell? ⟨g, n, none⟩ = some (bv u) ∧ w3.frozen? ⟨g, n, none⟩ = false ∧
      Ow ((w3.setCell ⟨fb, 1, none⟩ (.slice A3 l.length c3)).setCell ⟨g, n, none⟩ (bv (u ^^^ t))) w2.heap.size e (.slice A3 l.length c3) ((turnB l n t).map bv) := by
  obtain ⟨g, hA, hgb, hgs, hgc, hgf, -⟩ := ho.at_ (k := n) (by rw [List.length_map]; exact hn)
  obtain ⟨g', hA', -, -, -, -, hset⟩ := (ho.kpS (S := [fb]) (Kp.set w3 (p := ⟨fb, 1, none⟩) (by simp) (.slice A3 l.length c3)) (fun k hk => by rw [List.mem_singleton.1 hk]; exact hf)).at_ (k := n) (by rw [List.length_map]; exact hn)
  have hg : g' = g := by
    rw [hA] at hA'
    injection hA' with hA'
    injection hA' with h1
    exact h1.symm
  subst hg
  refine ⟨g', l[n], hA, by omega, by omega, hgb, hgs, by rw [hgc]; simp, hgf, ?_⟩
  have hs := hset (bv (l[n] ^^^ t))
  rw [← List.map_set] at hs
  unfold turnB
  rw [show l.getD n 0 = l[n] by simp [List.getD, hn]]
  exact hs
theorem set_self {w : World} {b o : Nat} {u0 u : Value} (h : w.cell? ⟨b, o, none⟩ = some u0) : (w.setCell ⟨b, o, none⟩ u).cell? ⟨b, o, none⟩ = some u := by
  have q := World.cell?_setCells_in b [u] o w (fun j hj => by
    have hj : j = 0 := by simpa using hj
    subst hj
    rw [Nat.add_zero, h]
    rfl) 0 (by simp)
  exact q
theorem set_other {w : World} {b o o' : Nat} {u : Value} (ho : o ≠ o') : (w.setCell ⟨b, o, none⟩ u).cell? ⟨b, o', none⟩ = w.cell? ⟨b, o', none⟩ := by
  have q := World.cell?_setCells_out b [u] o w ⟨b, o', none⟩ (fun _ _ => by simp only [List.length_cons, List.length_nil]; omega)
  exact q
theorem set_fro {w : World} {b o : Nat} {u : Value} (x : Addr) : (w.setCell ⟨b, o, none⟩ u).frozen? x = w.frozen? x := by
  have q := World.frozen?_setCells b [u] o w x
  exact q
theorem FilC.ren {w : World} {fb : Nat} {f : Rf} (h : FilC w fb f) (ot : ByteArray) : FilC (w.setCell ⟨fb, 0, none⟩ (.string ot)) fb ⟨⟨ot, f.fl.l, f.fl.s⟩, f.v⟩ :=
  ⟨by simpa [World.setCell] using h.lt, set_self h.f0, (set_other (by omega)).trans h.f1, (set_other (by omega)).trans h.f2, (set_fro _).trans h.z0, (set_fro _).trans h.z1, (set_fro _).trans h.z2⟩
theorem fnd_no {L : List Rf} {n : List UInt8} (h : fnd key n (L.map Rf.fl) = none) : ∀ y ∈ L, rk y ≠ n := fun y hy e => by
  unfold fnd at h
  rw [List.find?_eq_none] at h
  exact h y.fl (List.mem_map_of_mem hy) (decide_eq_true e)
theorem wo_no {L : List Rf} {n : List UInt8} (h : ∀ y ∈ L, rk y ≠ n) : wo rk n L = L := by
  unfold wo
  rw [List.filter_eq_self]
  intro y hy
  simpa using h y hy
theorem ren_wo {L Lz : List Rf} {f' : Rf} {n m : List UInt8} (h : rk f' = m) (hz : wo rk m (wo rk n L) = Lz) : (ins rk f' Lz).map Rf.fl = put key f'.fl (wo key n (L.map Rf.fl)) := by
  rw [← rl_wo, ← rl_put, ← hz, ← h]
  rfl
/-- the files without another, beside the variable f -/
theorem rest2 {w3 w4 : World} {S : List Nat} {v3 v4 : Value} {L Lw : List Rf} (hv : RdF w3 S v3 L) (hb : Below w3.heap.size w3 w4) (hp : OwF w4 w3.heap.size v4 Lw) (hS : ∀ k ∈ S, k < w3.heap.size) (hsub : ∀ g ∈ Lw, g ∈ L) : RdF w4 S v4 Lw :=
  ⟨hp.rdC hS, fun g hg => (hv.b g (hsub g hg)).up (Kp.of_below hb _) fun _ hk => .inl hk⟩
theorem wo_ins_ {f : Fl} {n : List UInt8} (h : key f = n) : ∀ L : List Fl, wo key n (ins key f L) = wo key n L
  | [] => by simp [ins, wo, h]
  | y :: r => by
    unfold ins
    split
    · simp [wo, h]
    · have q := wo_ins_ h r
      unfold wo at *
      simp only [List.filter_cons, q]
theorem put_over {x y : Fl} (h : key y = key x) (M : List Fl) : put key x (put key y M) = put key x M := by
  unfold put
  rw [h, wo_ins_ h]
  unfold wo
  simp
-- act6
theorem OwF.rdF {w0 w : World} {B : Nat} {S : List Nat} {v : Value} {L : List Rf} (h : OwF w B v L) (hS : ∀ k ∈ S, k < B) (hb : ∀ f ∈ L, RdS w S f.v f.fl.l) : RdF w S v L := ⟨h.rdC hS, hb⟩

end Go.Proofs.Ytblejjjifokmgaa
