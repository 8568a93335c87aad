/- Layer 18's law LogActs, over package log's contracts. -/
import Derived.Test.YtaddbhdkgneiaaaGreatLgG
import Derived.Deep.CutRange
set_option maxHeartbeats 8000000
set_option maxRecDepth 100000
namespace Go.Proofs.YtaddbhdkgneiaaaGreat
open Go.RowKit
theorem RdS.bel {w w' : World} {S : List Nat} {x : Value} {l : List UInt8} (h : RdS w S x l) (hb : Below w.heap.size w w') : RdS w' S x l := RdS.up h (Kp.of_below hb _) fun _ hk => .inl hk
end Go.Proofs.YtaddbhdkgneiaaaGreat
namespace Go.Proofs.YtaddbhdkgneiaaaGreat.Ce
open Go.RowKit Dk
structure AcC (w : World) (g : Nat) (f : A18) : Prop where
 c0 : w.cell? ⟨g, 0, none⟩ = some (.int .i64 f.do_)
 c1 : w.cell? ⟨g, 1, none⟩ = some (.int .i64 f.ballot)
 c3 : w.cell? ⟨g, 3, none⟩ = some (.int .i64 f.vote.ballot)
 c7 : w.cell? ⟨g, 7, none⟩ = some (.slice f.ha f.ks.length f.hc)
 v : ∀ (i : Nat) (u : Value), (vtD.f f.vote)[i]? = some u → w.cell? ((⟨g, 2, none⟩ : Addr).add i) = some u
theorem AcC.of {w : World} {g : Nat} {f : A18} (h : a8D.In g f w) : AcC w g f := ⟨h.at_ rfl, h.at_ rfl, h.at_ rfl, h.at_ rfl, fun i u hu => by
 rw [Addr.add_lit]
 exact h.at_ (vt_in_act f hu)⟩
theorem loadAtV {ops : Array Oper} {rest : List Oper} {o : Oper} {a : Act} {w : World} {Q : Exit → Act → World → Prop} {c : Vt} (hw : Region.wanted o (yielded ops a.tmps) = true) (x : Operand) (ho : o.op = .load 33 x) (ad : Addr) (hx : a.eval x = .pointer (some ad)) (hc : ∀ (k : Nat) (v : Value), (vtD.f c)[k]? = some v → w.cell? (ad.add k) = some v)
  (h : wpList Tryz.prog ops Q rest (a.put o.dst (.agg #[.int .i64 c.slot, .int .i64 c.ballot, .int .i64 c.origin, .bool c.full, .string c.bytes])) w) : wpList Tryz.prog ops Q (o :: rest) a w := St.loadAt vtOk hw x ho ad hx hc h
theorem recs_pr {b : Int} (h : PrOk b) : Frm.flat (recsV b []) = Frm.frm (prB b) := by
 unfold recsV
 rw [if_pos (by have := h.1; omega), List.map_nil, List.append_nil, Frm.flat_one]
theorem recs_vt (c : Vt) : Frm.flat (recsV 0 [c]) = Frm.frm (vtB c) := by
 unfold recsV
 rw [if_neg (by omega), List.nil_append, List.map_singleton, Frm.flat_one]
section
variable {Own : World → Value → Nat → Lg → List Nat → Prop} {w w' : World} {B : Nat} {d : Value} {cap db mb : Nat} {o o' : Option (List UInt8)} {lb : Nat} {g g' : Lg} {S S' : List Nat} {L : List Fr}
theorem LogAt.read (h : LogAt Own w B d cap o lb g S) : Calls Tryz.prog 17 #[d, .string logNm] w fun e w' => (∃ v E, e = .returned (.tuple #[v, .int .i64 E]) ∧ Ow w' w.heap.size 5 v ((byt o).map bv)) ∧ Below w.heap.size w w' := by
 obtain ⟨db, mb, L, T, h1, -⟩ := h
 exact h1.read_any
theorem LogAt.crash (h : LogAt Own w B d cap o lb g S) {kv : Value} {ks : List Int} {n : Nat} (hk : Rd w n kv (ks.map iv)) (hn : n ≤ B) (hw : ∀ q ∈ ks, inR q) : Calls Tryz.prog 15 #[d, kv] w fun e w' => e = .returned (.tuple #[]) ∧ ∃ db mb L', DkAt w' B d cap (filesOf o) db mb L' ∧ LogWf o g ∧ Kp S w w' ∧ ∀ k ∈ fp db mb L', k ∈ S ∨ w.heap.size ≤ k := by
 obtain ⟨db, mb, L, T, h1, h2, h3, h4, rfl⟩ := h
 have hv : RdV w (fp db mb L) kv (ks.map iv) := RdV.of_low hk (Nat.le_trans hn h1.hB) fun k hm => Nat.le_trans hn (h1.at_.ge k hm)
 refine (h1.dk.crash (FilAt.of o) hv hw).mono ?_
 rintro e w' ⟨rfl, L', k1, k2, k3⟩
 rw [crash_filesOf] at k1
 exact ⟨rfl, db, mb, L', k1, h3, ⟨k2.os, k2.tape, k2.output, k2.size, fun k hk hn => k2.block k hk fun hm => hn (by simp [hm])⟩, fun k hk => (k3 k hk).imp (fun h => by simp [h]) id⟩
theorem LogI.reopen (I : LogI Own) (h : DkAt w B d cap (filesOf o) db mb L) (hw : LogWf o g) : Calls Tryz.prog 9 #[d] w fun e w' => ∃ lb' S', e = .returned (.pointer (some ⟨lb', 0, none⟩)) ∧ LogAt Own w' B d cap o lb' g S' ∧ Kp (fp db mb L) w w' ∧ ∀ k ∈ S', k ∈ fp db mb L ∨ w.heap.size ≤ k := by
 have h1 := h.ld
 obtain ⟨R, hs, hR⟩ := hw.scanned
 refine (I.open_ h1.at_ (by rw [h1.fil]; exact FilAt.of o) h1.len_le h1.cap_le h1.hB hs).mono ?_
 rintro e w' ⟨lb', L', T', rfl, k1, k2, k3, k4, k5⟩
 obtain ⟨a1, a2⟩ := hw.again hs
 rw [a1] at k2
 rw [a2] at k1
 refine ⟨lb', _, rfl, ⟨db, mb, L', T', k1, k2, hw, fun k hk => ⟨(k3 k hk).2, Nat.le_trans h1.hB (k3 k hk).1⟩, rfl⟩, k4, fun k hk => ?_⟩
 rcases List.mem_append.1 hk with hk | hk
 ·exact .inr (k3 k hk).1
 ·exact k5 k hk
end
theorem VoteEnd.no {cap : Nat} {o o' : Option (List UInt8)} {g g' : Lg} {c : Vt} {E : Int} (h : VoteEnd cap o g c E o' g') (h1 : ¬ (c.Right ∧ g.most ≤ c.ballot)) : E = 1 ∧ o' = o ∧ g' = g := by
 cases h with
 | arg h => exact ⟨rfl, rfl, rfl⟩
 | full h hf => exact absurd h h1
 | ok h hf => exact absurd h h1
theorem PromEnd.full_ {cap : Nat} {o o' : Option (List UInt8)} {g g' : Lg} {b E : Int} (h : PromEnd cap o g b E o' g') (h1 : PrOk b ∧ g.most < b) (h2 : cap < (byt o).length + 20) : E = 4 ∧ o' = o ∧ g' = g := by
 cases h with
 | arg h => exact absurd h1 h
 | full h hf => exact ⟨rfl, rfl, rfl⟩
 | ok h hf => omega
theorem VoteEnd.full_ {cap : Nat} {o o' : Option (List UInt8)} {g g' : Lg} {c : Vt} {E : Int} (h : VoteEnd cap o g c E o' g') (h1 : c.Right ∧ g.most ≤ c.ballot) (h2 : cap < (byt o).length + (12 + (vtB c).length)) : E = 4 ∧ o' = o ∧ g' = g := by
 cases h with
 | arg h => exact absurd h1 h
 | full h hf => exact ⟨rfl, rfl, rfl⟩
 | ok h hf => omega
theorem CompEnd.full_ {cap : Nat} {o o' : Option (List UInt8)} {g g' : Lg} {E : Int} (h : CompEnd cap o g E o' g') (h2 : cap < (byt o).length + (compB g).length) : E = 4 ∧ o' = o ∧ g' = g := by
 cases h with
 | full hf => exact ⟨rfl, rfl, rfl⟩
 | ok hf => omega
structure Rn (Own : World → Value → Nat → Lg → List Nat → Prop) (w1 : World) (d : Value) (cap : Nat) (o : Option (List UInt8)) (lb : Nat) (g : Lg) (S : List Nat) (fv : Value) (F : List UInt8) (ga : Nat) (f : A18) (wx : World) : Prop where
 l : LogAt Own wx w1.heap.size d cap o lb g S
 fl : RdS wx S fv F
 act : a8D.In ga f wx
 bel : Below w1.heap.size w1 wx
theorem Rn.up {Own : World → Value → Nat → Lg → List Nat → Prop} (I : LogI Own) {w1 : World} {d : Value} {cap : Nat} {o : Option (List UInt8)} {lb : Nat} {g : Lg} {S : List Nat} {fv : Value} {F : List UInt8} {ga : Nat} {f : A18} {wx wy : World} (h : Rn Own w1 d cap o lb g S fv F ga f wx) (hb : Below wx.heap.size wx wy) : Rn Own w1 d cap o lb g S fv F ga f wy :=
 ⟨h.l.up I hb, h.fl.bel hb, h.act.up hb, bwstep h.bel hb⟩
theorem Rn.step {Own : World → Value → Nat → Lg → List Nat → Prop} {w1 : World} {d : Value} {cap : Nat} {o o' : Option (List UInt8)} {lb lb' : Nat} {g g' : Lg} {S S' : List Nat} {fv : Value} {F : List UInt8} {ga : Nat} {f : A18} {wx wy : World} (h : Rn Own w1 d cap o lb g S fv F ga f wx) (hl : LogAt Own wy w1.heap.size d cap o' lb' g' S') (hk : Kp S wx wy) (hs : ∀ k ∈ S', k ∈ S ∨ wx.heap.size ≤ k) (hn : ga ∉ S) : Rn Own w1 d cap o' lb' g' S' fv F ga f wy :=
 ⟨hl, h.fl.up hk hs, St.In_kp h.act hk hn, h.bel.trans (hk.below h.l.ge h.l.caps.2.2)⟩
inductive WantAt (f : A18) (g : Lg) : List UInt8 → Int → Prop
 | p0no (h : f.do_ = 0) (hc : ¬ (PrOk f.ballot ∧ g.most < f.ballot)) : WantAt f g [] 1
 | p0ok (h : f.do_ = 0) (hc : PrOk f.ballot ∧ g.most < f.ballot) : WantAt f g (Frm.frm (prB f.ballot)) 0
 | p1no (h : f.do_ = 1) (hc : ¬ (f.vote.Right ∧ g.most ≤ f.vote.ballot)) : WantAt f g [] 1
 | p1ok (h : f.do_ = 1) (hc : f.vote.Right ∧ g.most ≤ f.vote.ballot) : WantAt f g (Frm.frm (vtB f.vote)) 0
 | p3 (h : f.do_ = 3) : WantAt f g (compB g) 0
 | no (h0 : f.do_ ≠ 0) (h1 : f.do_ ≠ 1) (h3 : f.do_ ≠ 3) : WantAt f g [] 0
def W1 (f : A18) (g : Lg) (MO : List UInt8) (E : Int) : Prop := (f.do_ = 0 ∧ WantAt f g MO E) ∨ (f.do_ ≠ 0 ∧ MO = [] ∧ E = 0)
def W2 (f : A18) (g : Lg) (MO : List UInt8) (E : Int) : Prop := ((f.do_ = 0 ∨ f.do_ = 1) ∧ WantAt f g MO E) ∨ (f.do_ ≠ 0 ∧ f.do_ ≠ 1 ∧ MO = [] ∧ E = 0)
def W4 (f : A18) (g : Lg) (cap : Nat) (F MO : List UInt8) (E' : Int) : Prop := ∃ E, WantAt f g MO E ∧ ((cap < F.length + MO.length ∧ E' = 4) ∨ (F.length + MO.length ≤ cap ∧ E' = E))
def OpEnd (f : A18) (F MO : List UInt8) (E' : Int) (o : Option (List UInt8)) : Prop := (E' ≠ 0 ∧ byt o = F) ∨ (E' = 0 ∧ f.do_ = 3 ∧ byt o = MO) ∨ (E' = 0 ∧ f.do_ ≠ 3 ∧ byt o = F ++ MO)
theorem prom_meets {f : A18} {g g6 : Lg} {cap : Nat} {F MO : List UInt8} {E' E6 : Int} {o o6 : Option (List UInt8)} (h0 : f.do_ = 0) (hw : W4 f g cap F MO E') (hF : byt o = F) (hc : F.length ≤ cap) (h : PromEnd cap o g f.ballot E6 o6 g6) : E6 = E' ∧ OpEnd f F MO E' o6 := by
 obtain ⟨E, hw, hE⟩ := hw
 have hp : (Frm.frm (prB f.ballot)).length = 20 := by rw [Frm.frm_len, prB_len]
 cases hw with
 | p1no h1 _ => omega
 | p1ok h1 _ => omega
 | p3 h3 => omega
 | no q _ _ => exact absurd h0 q
 | p0no _ hn =>
  have hE' : E' = 1 := by
              rcases hE with ⟨h1, -⟩ | ⟨-, h2⟩; · simp at h1; omega
              ·exact h2
  obtain ⟨rfl, rfl, rfl⟩ := h.no hn
  exact ⟨hE'.symm, .inl ⟨by omega, hF⟩⟩
 | p0ok _ hy =>
  rw [hp] at hE
  rcases hE with ⟨h1, rfl⟩ | ⟨h1, rfl⟩
  ·obtain ⟨rfl, rfl, rfl⟩ := h.full_ hy (by rw [hF]; exact h1)
   exact ⟨rfl, .inl ⟨by omega, hF⟩⟩
  ·obtain ⟨rfl, rfl, rfl⟩ := h.yes hy (by rw [hF]; exact h1)
   exact ⟨rfl, .inr (.inr ⟨rfl, by omega, by rw [← hF]; rfl⟩)⟩
theorem vote_meets {f : A18} {g g6 : Lg} {cap : Nat} {F MO : List UInt8} {E' E6 : Int} {o o6 : Option (List UInt8)} (h1 : f.do_ = 1) (hw : W4 f g cap F MO E') (hF : byt o = F) (hc : F.length ≤ cap) (h : VoteEnd cap o g f.vote E6 o6 g6) : E6 = E' ∧ OpEnd f F MO E' o6 := by
 obtain ⟨E, hw, hE⟩ := hw
 have hp : (Frm.frm (vtB f.vote)).length = 12 + (vtB f.vote).length := Frm.frm_len _
 cases hw with
 | p0no h0 _ => omega
 | p0ok h0 _ => omega
 | p3 h3 => omega
 | no _ q _ => exact absurd h1 q
 | p1no _ hn =>
  have hE' : E' = 1 := by
              rcases hE with ⟨h1, -⟩ | ⟨-, h2⟩; · simp at h1; omega
              ·exact h2
  obtain ⟨rfl, rfl, rfl⟩ := h.no hn
  exact ⟨hE'.symm, .inl ⟨by omega, hF⟩⟩
 | p1ok _ hy =>
  rw [hp] at hE
  rcases hE with ⟨q1, rfl⟩ | ⟨q1, rfl⟩
  ·obtain ⟨rfl, rfl, rfl⟩ := h.full_ hy (by rw [hF]; exact q1)
   exact ⟨rfl, .inl ⟨by omega, hF⟩⟩
  ·obtain ⟨rfl, rfl, rfl⟩ := h.yes hy (by rw [hF]; exact q1)
   exact ⟨rfl, .inr (.inr ⟨rfl, by omega, by rw [← hF]; rfl⟩)⟩
theorem comp_meets {f : A18} {g g6 : Lg} {cap : Nat} {F MO : List UInt8} {E' E6 : Int} {o o6 : Option (List UInt8)} (h3 : f.do_ = 3) (hw : W4 f g cap F MO E') (hF : byt o = F) (h : CompEnd cap o g E6 o6 g6) : E6 = E' ∧ OpEnd f F MO E' o6 := by
 obtain ⟨E, hw, hE⟩ := hw
 cases hw with
 | p0no h0 _ => omega
 | p0ok h0 _ => omega
 | p1no h1 _ => omega
 | p1ok h1 _ => omega
 | no _ _ q => exact absurd h3 q
 | p3 _ =>
  rcases hE with ⟨q1, rfl⟩ | ⟨q1, rfl⟩
  ·obtain ⟨rfl, rfl, rfl⟩ := h.full_ (by rw [hF]; exact q1)
   exact ⟨rfl, .inl ⟨by omega, hF⟩⟩
  ·obtain ⟨rfl, rfl, rfl⟩ := h.yes (by rw [hF]; exact q1)
   exact ⟨rfl, .inr (.inl ⟨rfl, h3, rfl⟩)⟩
theorem open_meets {f : A18} {g : Lg} {cap : Nat} {F MO : List UInt8} {E' : Int} {o : Option (List UInt8)} (h0 : f.do_ ≠ 0) (h1 : f.do_ ≠ 1) (h3 : f.do_ ≠ 3) (hw : W4 f g cap F MO E') (hF : byt o = F) (hc : F.length ≤ cap) : 0 = E' ∧ OpEnd f F MO E' o := by
 obtain ⟨E, hw, hE⟩ := hw
 cases hw with
 | p0no q _ => exact absurd q h0
 | p0ok q _ => exact absurd q h0
 | p1no q _ => exact absurd q h1
 | p1ok q _ => exact absurd q h1
 | p3 q => exact absurd q h3
 | no _ _ _ =>
  have hE' : E' = 0 := by
              rcases hE with ⟨h1, -⟩ | ⟨-, h2⟩; · simp at h1; omega
              ·exact h2
  exact ⟨hE'.symm, .inr (.inr ⟨hE', h3, by rw [hF, List.append_nil]⟩)⟩
theorem more_len {f : A18} {g : Lg} {MO : List UInt8} {E : Int} (hg : g.Ok) (h : WantAt f g MO E) : MO.length ≤ 100000 := by
 cases h with
 | p0no => simp
 | p0ok => rw [Frm.frm_len, prB_len]; omega
 | p1no => simp
 | p1ok _ hc => rw [Frm.frm_len, vtB_len]; have := hc.1.2.2.2.2.2; omega
 | p3 =>
  have h1 := recsV_le (m := g.most) (V := g.votes) fun c hc => (hg.right c hc).1
  have h2 := hg.len
  show (Frm.flat (recsV g.most g.votes)).length ≤ _
  omega
 | no => simp
theorem nil_rdS (w : World) (S : List Nat) : RdS w S (.slice none 0 0) [] := ⟨Rd.nil _ _, fun h => by simp at h⟩
structure AcR (Own : World → Value → Nat → Lg → List Nat → Prop) (w3 : World) (d : Value) (cap lb : Nat) (x8 x9 : Value) (mo : Int) (F : List UInt8) (wr : World) : Prop where
 ex : ∃ o g S, LogAt Own wr w3.heap.size d cap o lb g S ∧ g.most = mo ∧ St.RdS vtL wr [] x8 g.votes ∧ RdS wr S x9 F ∧ byt o = F
 bel : Below w3.heap.size w3 wr
theorem logActs_gen {Own : World → Value → Nat → Lg → List Nat → Prop} (I : LogI Own) (v : Value) (L : List A18) (c : Int) (w : World) (hv : RdA18 w v L) (hc0 : 0 ≤ c) (hc1 : c ≤ 65535) : Calls Tryz.prog 3 #[v, .int .u16 c] w fun e w' => e = .returned (.bool true) ∧ Below w.heap.size w w' := by
 obtain ⟨A, cp, rfl, hc, hm⟩ := hv.rd.shape
 unfold maxLen at hm
 have HV := Lib.hid hv
 have hwc : IntKind.i64.wrap c = c := IntWalk.i64_in _ (by omega)
 have hcc : (capN c : Int) = c := by unfold capN; omega
 clear hv
 go_enter Tryz.func3, Tryz.ntmps3
 go_wp2_with fail
 refine (awake18_ok I _).mono ?_
 rintro e w1 ⟨rfl, hb1⟩
 go_wp2_with fail
 refine (few18_any _ L _ (HV.out.bel hb1).rd).mono ?_
 rintro e w2 ⟨⟨q, rfl, hq⟩, rfl⟩
 cases q
 case false =>
  go_wp2_with fail
  refine (awake18_ok I _).mono ?_
  rintro e w3 ⟨rfl, hb3⟩
  have hw3 := bwstep hb1 hb3
  clear hb1 hb3 hq
  go_wp2_with fail
  go_ret
  exact ⟨rfl, hw3⟩
 have HW := Lib.hid hb1
 clear hq hb1
 go_wp2_with fail
 refine (dnew_any c _ (by omega) (by omega)).mono ?_
 rintro e w4 ⟨db, mb, rfl, hd4, hb4⟩
 generalize capN c = cap at hd4 hcc
 go_wp2_with fail
 refine (I.fresh hd4 (by omega) hb4.size).mono ?_
 rintro e w5 ⟨lb, S5, rfl, hl5, -, hb5⟩
 have HR5 : Hid (AcR Own w1 (.pointer (some ⟨db, 0, none⟩)) cap lb (.slice none 0 0) (.slice none 0 0) 0 [] w5) := Lib.hid ⟨⟨_, _, _, hl5, rfl, St.RdS.nil _ _ _, ⟨Rd.nil _ _, fun h => by simp at h⟩, rfl⟩, hb4.trans hb5⟩
 clear hd4 hb4 hb5 hl5
 go_wp2_with fail
 go_loopw [6, 7, 8, 9, 10] (fun x6 x7 x8 x9 i wr => ∃ (k lb : Nat) (mo : Int) (F : List UInt8), k ≤ L.length ∧ i = .int .i64 (k : Int) ∧ x6 = .pointer (some ⟨lb, 0, none⟩) ∧ x7 = .int .i64 mo ∧ Hid (AcR Own w1 (.pointer (some ⟨db, 0, none⟩)) cap lb x8 x9 mo F wr)) (fun _ _ _ _ i _ => L.length - (intOf i).toNat)
 case atStart => exact ⟨0, lb, 0, [], by omega, rfl, rfl, rfl, HR5⟩
 case round =>
  clear HR5
  obtain ⟨k, lb, mo, F, hk, rfl, rfl, rfl, HR⟩ := hrel
  by_cases hlt : k < L.length
  case neg =>
   have hge : L.length ≤ k := by omega
   have HB := Lib.hid (HW.out.trans (HR.out.bel.mono HW.out.size))
   clear HR hlt
   go_wp2_with fail
   go_ret
   exact ⟨rfl, HB.out⟩
  obtain ⟨b, off, rfl, -, -⟩ := HV.out.rd.open_ (by omega)
  have hh3 : (0 : Int) ≤ (k : Int) := by omega
  have hh4 : (k : Int) < (L.length : Int) := by omega
  have hfk : L[k]? = some (L[k]'hlt) := List.getElem?_eq_getElem _
  have HKS := Lib.hid (HV.out.ks _ (List.getElem_mem hlt))
  generalize L[k]'hlt = f at hfk HKS
  obtain ⟨⟨o, g, S, hl, hmo, hvv, hf, hbo⟩, hb⟩ := HR.out
  subst hmo
  obtain ⟨A8, c8, rfl, -, -⟩ := hvv.shape
  obtain ⟨A9, c9, rfl, -, -⟩ := hf.1.shapeM
  have HALL := Lib.hid ((HV.out.bel (HW.out.trans (hb.mono HW.out.size))).at_ hfk).all
  have HBO := Lib.hid hbo
  have hlen : F.length ≤ cap ∧ cap ≤ 65536 := by have := hl.caps; rw [hbo] at this; exact ⟨this.2.1, this.1⟩
  have hl0 := hlen.1
  have HFL0 : Hid (F.length ≤ 65536) := Lib.hid (by omega)
  have hwr : IntKind.i64.wrap (c - (F.length : Int)) = c - (F.length : Int) := IntWalk.i64_in _ (by omega)
  have hnn : ¬ c - (F.length : Int) < 0 := by omega
  clear HR hfk hbo
  obtain ⟨wo, hwo⟩ : ∃ wo, wo = wr := ⟨_, rfl⟩
  subst hwo
  have HLT0 := Lib.hid (hl.lt I)
  go_wp2_with (first | refine St.loadAt a8Ok rfl (.tmp 45) rfl _ rfl HALL.out ?_ | refine St.alloc a8Ok rfl rfl ?_)
  constructor
  intro w2 hI2 hb2 hz2
  clear hz2
  go_wp2_with (refine St.store a8Ok (c := f) rfl (.tmp 11) (.tmp 46) rfl rfl rfl hI2 ?_)
  constructor
  intro w4 hs4
  have hb4 := hs4.bel hb2 (Nat.le_refl _)
  have hl4 := hl.up I hb4
  have HNA : Hid (wo.heap.size ∉ S) := Lib.hid fun h => by have := HLT0.out _ h; omega
  have HVV : Hid (St.RdS vtL w4 [] (.slice A8 g.votes.length c8) g.votes) := Lib.hid (hvv.bel hb4)
  have HRN : Hid (Rn Own w1 (.pointer (some ⟨db, 0, none⟩)) cap o lb g S (.slice A9 F.length c9) F wo.heap.size f w4) := Lib.hid ⟨hl4, hf.bel hb4, hs4.i, bwstep hb hb4⟩
  have HOK := Lib.hid hl4.wf.ok
  clear hs4 hb4 hb2 hI2 hl hvv hf hb HLT0 HALL hl4
  obtain ⟨ga, hga⟩ : ∃ ga, ga = wo.heap.size := ⟨_, rfl⟩
  rw [← hga] at HRN HNA ⊢
  clear hga
  rename_i q1 w4x lbx k2 a4 q0 k1 a3 kz az
  obtain ⟨c0, c1, c3, c7, cv⟩ := AcC.of HRN.out.act
  go_upto_if 49 with fail
  go_cut [12, 13] from 37 to 179 (fun v12 v13 wx => Hid (∃ MO E, v13 = .int .i64 E ∧ W1 f g MO E ∧ RdS wx S v12 MO ∧ St.RdS vtL wx [] (.slice A8 g.votes.length c8) g.votes ∧ Rn Own w1 (.pointer (some ⟨db, 0, none⟩)) cap o lb g S (.slice A9 F.length c9) F ga f wx))
  case first =>
   rename_i k0 a2 j0 kk a1 a0
   clear a2 a3 a4
   clear_value q0 q1
   as_aux_lemma =>
    by_cases h0 : f.do_ = 0
    ·by_cases g1 : f.ballot < 1
     ·have HC : Hid (¬ (PrOk f.ballot ∧ g.most < f.ballot)) := Lib.hid fun h => by have q1 := h.1.1; have q2 := h.1.2; have q3 := h.2; omega
      clear cv c3 c7
      go_wp2_with fail
      go_meet
      case rel => exact Lib.hid (⟨[], 1, rfl, .inl ⟨h0, .p0no h0 HC.out⟩, nil_rdS _ _, HVV.out, HRN.out⟩)
     by_cases g2 : (2147483647 : Int) < f.ballot
     ·have HC : Hid (¬ (PrOk f.ballot ∧ g.most < f.ballot)) := Lib.hid fun h => by have q1 := h.1.1; have q2 := h.1.2; have q3 := h.2; omega
      clear cv c3 c7
      go_wp2_with fail
      go_meet
      case rel => exact Lib.hid (⟨[], 1, rfl, .inl ⟨h0, .p0no h0 HC.out⟩, nil_rdS _ _, HVV.out, HRN.out⟩)
     by_cases g3 : f.ballot ≤ g.most
     ·have HC : Hid (¬ (PrOk f.ballot ∧ g.most < f.ballot)) := Lib.hid fun h => by have q1 := h.1.1; have q2 := h.1.2; have q3 := h.2; omega
      clear cv c3 c7
      go_wp2_with fail
      go_meet
      case rel => exact Lib.hid (⟨[], 1, rfl, .inl ⟨h0, .p0no h0 HC.out⟩, nil_rdS _ _, HVV.out, HRN.out⟩)
     have HP : Hid (PrOk f.ballot ∧ g.most < f.ballot) := Lib.hid ⟨⟨by omega, by omega⟩, by omega⟩
     clear cv c3 c7
     go_wp2_with fail
     refine (rput18_any _ f.ballot [] _ (St.RdS.nil _ _ _) (fun _ => HP.out.1) (by simp) (by simp)).mono ?_
     rintro e w5 ⟨⟨mv, rfl, hm5⟩, hb5⟩
     rw [recs_pr HP.out.1] at hm5
     have HM5 := Lib.hid (hm5.rdS (S := S) (HRN.out.l.lt I))
     have HV5 := Lib.hid (HVV.out.bel hb5)
     have HR5 := Lib.hid (HRN.out.up I hb5)
     clear hm5 hb5 c1
     go_wp2_with fail
     go_meet
     case rel => exact Lib.hid (⟨_, 0, rfl, .inl ⟨h0, .p0ok h0 HP.out⟩, HM5.out, HV5.out, HR5.out⟩)
    ·have d0 : (f.do_ == 0) = false := by simpa using h0
     clear cv c1 c3 c7
     go_wp2_with fail
     go_meet
     case rel => exact Lib.hid (⟨[], 0, rfl, .inr ⟨h0, rfl, rfl⟩, nil_rdS _ _, HVV.out, HRN.out⟩)
  case rest =>
   clear HVV HRN c0 c1 c3 c7 cv
   obtain ⟨MO, E, rfl, hW, hM, hvv, hrn⟩ := hcut.out
   obtain ⟨Am, cm, rfl, -, -⟩ := hM.1.shapeM
   have HW1 := Lib.hid hW
   have HM := Lib.hid hM
   have HVV := Lib.hid hvv
   have HRN := Lib.hid hrn
   clear hcut hW hM hvv hrn
   obtain ⟨c0, c1, c3, c7, cv⟩ := AcC.of HRN.out.act
   go_upto_if 69 with fail
   go_cut [12, 13] from 37 to 179 (fun v12 v13 wx => Hid (∃ MO E, v13 = .int .i64 E ∧ W2 f g MO E ∧ RdS wx S v12 MO ∧ St.RdS vtL wx [] (.slice A8 g.votes.length c8) g.votes ∧ Rn Own w1 (.pointer (some ⟨db, 0, none⟩)) cap o lb g S (.slice A9 F.length c9) F ga f wx))
   case first =>
    by_cases h1 : f.do_ = 1
    ·obtain ⟨rfl, rfl⟩ : MO = [] ∧ E = 0 := HW1.out.elim (fun h => by omega) (fun h => h.2)
     by_cases hR : f.vote.Right
     case neg =>
      have hrr := rright17_any f.vote wc
      rw [decide_eq_false hR] at hrr
      go_wp2_with (refine St.loadAt vtOk rfl (.tmp 70) rfl _ rfl cv ?_)
      refine hrr.mono ?_
      rintro e w5 ⟨rfl, hb5⟩
      have HV5 := Lib.hid (HVV.out.bel hb5)
      have HR5 := Lib.hid (HRN.out.up I hb5)
      have HB5 := Lib.hid hb5
      clear hrr hb5 c0 c1 c3 c7 cv HVV HRN
      obtain ⟨-, -, c3, -, cv⟩ := AcC.of HR5.out.act
      clear c3 cv
      go_wp2_with fail
      go_meet
      case rel => exact Lib.hid (⟨[], 1, rfl, .inl ⟨.inr h1, .p1no h1 fun h => hR h.1⟩, HM.out.bel HB5.out, HV5.out, HR5.out⟩)
     have hrr := rright17_any f.vote wc
     rw [decide_eq_true hR] at hrr
     go_wp2_with (refine St.loadAt vtOk rfl (.tmp 70) rfl _ rfl cv ?_)
     refine hrr.mono ?_
     rintro e w5 ⟨rfl, hb5⟩
     have HV5 := Lib.hid (HVV.out.bel hb5)
     have HR5 := Lib.hid (HRN.out.up I hb5)
     have HB5 := Lib.hid hb5
     clear hrr hb5 c0 c1 c3 c7 cv HVV HRN
     obtain ⟨-, -, c3, -, cv⟩ := AcC.of HR5.out.act
     by_cases g1 : f.vote.ballot < g.most
     ·have HC : Hid (¬ (f.vote.Right ∧ g.most ≤ f.vote.ballot)) := Lib.hid fun h => by have := h.2; omega
      clear cv hR
      go_wp2_with fail
      go_meet
      case rel => exact Lib.hid (⟨[], 1, rfl, .inl ⟨.inr h1, .p1no h1 HC.out⟩, HM.out.bel HB5.out, HV5.out, HR5.out⟩)
     have HP : Hid (f.vote.Right ∧ g.most ≤ f.vote.ballot) := Lib.hid ⟨hR, by omega⟩
     clear hR
     go_wp2_with (refine loadAtV rfl (.tmp 81) rfl _ rfl cv ?_)
     refine (rput18_any _ 0 [f.vote] _ (St.RdS.new _ [] [f.vote] _ rfl (by simp) (by simp [maxLen]) _) (fun h => absurd h (by decide)) (fun d hd => by rw [List.mem_singleton.1 hd]; exact HP.out.1) (by simp)).mono ?_
     rintro e w7 ⟨⟨mv, rfl, hm7⟩, hb7⟩
     have hb7 := bwstep (bwalloc (bwrefl w5) _) hb7
     have hm7 := hm7.mono (B' := w5.heap.size) (by simp)
     rw [recs_vt] at hm7
     have HM7 := Lib.hid (hm7.rdS (S := S) (HR5.out.l.lt I))
     have HV7 := Lib.hid (HV5.out.bel hb7)
     have HR7 := Lib.hid (HR5.out.up I hb7)
     clear hm7 hb7 c3 cv HV5 HR5
     go_wp2_with fail
     go_meet
     case rel => exact Lib.hid (⟨_, 0, rfl, .inl ⟨.inr h1, .p1ok h1 HP.out⟩, HM7.out, HV7.out, HR7.out⟩)
    ·have d1 : (f.do_ == 1) = false := by simpa using h1
     clear c0 c1 c3 c7 cv
     go_wp2_with fail
     go_meet
     case rel => exact Lib.hid (⟨MO, E, rfl, HW1.out.elim (fun h => .inl ⟨.inl h.1, h.2⟩) (fun h => .inr ⟨h.1, h1, h.2⟩), HM.out, HVV.out, HRN.out⟩)
   case rest =>
    clear HVV HRN HW1 HM c0 c1 c3 c7 cv
    obtain ⟨MO, E, rfl, hW, hM, hvv, hrn⟩ := hcut.out
    obtain ⟨Am, cm, rfl, -, -⟩ := hM.1.shapeM
    have HW1 := Lib.hid hW
    have HM := Lib.hid hM
    have HVV := Lib.hid hvv
    have HRN := Lib.hid hrn
    clear hcut hW hM hvv hrn
    obtain ⟨c0, c1, c3, c7, cv⟩ := AcC.of HRN.out.act
    go_upto_if 87 with fail
    go_cut [12, 13] from 37 to 179 (fun v12 v13 wx => Hid (∃ MO E, v13 = .int .i64 E ∧ WantAt f g MO E ∧ RdS wx S v12 MO ∧ Rn Own w1 (.pointer (some ⟨db, 0, none⟩)) cap o lb g S (.slice A9 F.length c9) F ga f wx))
    case first =>
     rename_i k0 a2 j0 kk a1 a0
     clear a2 a3 a4
     clear_value q0 q1
     as_aux_lemma =>
      by_cases h3 : f.do_ = 3
      ·obtain ⟨rfl, rfl⟩ : MO = [] ∧ E = 0 := HW1.out.elim (fun h => by omega) (fun h => h.2.2)
       clear c0 c1 c3 c7 cv
       go_wp2_with fail
       refine (rput18_any _ g.most g.votes _ HVV.out (fun h => ⟨by omega, HOK.out.m1⟩) (fun d hd => (HOK.out.right d hd).1) (by have := HOK.out.len; omega)).mono ?_
       rintro e w5 ⟨⟨mv, rfl, hm5⟩, hb5⟩
       have HM5 := Lib.hid (hm5.rdS (S := S) (HRN.out.l.lt I))
       have HR5 := Lib.hid (HRN.out.up I hb5)
       clear hm5 hb5
       go_wp2_with fail
       go_meet
       case rel => exact Lib.hid (⟨_, 0, rfl, .p3 h3, HM5.out, HR5.out⟩)
      ·have d3 : (f.do_ == 3) = false := by simpa using h3
       clear c0 c1 c3 c7 cv
       go_wp2_with fail
       go_meet
       case rel => exact Lib.hid (⟨MO, E, rfl, HW1.out.elim (fun h => h.2) (fun h => by rw [h.2.2.1, h.2.2.2]; exact .no h.1 h.2.1 h3), HM.out, HRN.out⟩)
    case rest =>
     clear HVV HRN HW1 HM c0 c1 c3 c7 cv
     obtain ⟨MO, E, rfl, hW, hM, hrn⟩ := hcut.out
     obtain ⟨Am, cm, rfl, -, -⟩ := hM.1.shapeM
     have HML := Lib.hid (more_len HOK.out hW)
     have HW1 := Lib.hid hW
     have HM := Lib.hid hM
     have HRN := Lib.hid hrn
     clear hcut hW hM hrn HOK
     go_upto_if 98 with fail
     go_cut [13] from 37 to 179 (fun v13 wx => Hid (∃ E, v13 = .int .i64 E ∧ W4 f g cap F MO E ∧ RdS wx S (.slice Am MO.length cm) MO ∧ Rn Own w1 (.pointer (some ⟨db, 0, none⟩)) cap o lb g S (.slice A9 F.length c9) F ga f wx))
     case first =>
      by_cases hfull : c - (F.length : Int) < (MO.length : Int)
      ·go_wp2_with fail
       go_meet
       case rel => exact Lib.hid (⟨4, rfl, ⟨E, HW1.out, .inl ⟨by omega, rfl⟩⟩, HM.out, HRN.out⟩)
      ·go_wp2_with fail
       go_meet
       case rel => exact Lib.hid (⟨E, rfl, ⟨E, HW1.out, .inr ⟨by omega, rfl⟩⟩, HM.out, HRN.out⟩)
     case rest =>
      obtain ⟨EW, hEW, hW⟩ : ∃ EW, EW = E ∧ WantAt f g MO EW := ⟨E, rfl, HW1.out⟩
      clear HW1 HM HRN hEW hW EW
      obtain ⟨E, rfl, hW, hM, hrn⟩ := hcut.out
      have HW4 := Lib.hid hW
      have HM := Lib.hid hM
      have HRN := Lib.hid hrn
      clear hcut hW hM hrn
      obtain ⟨c0, c1, c3, c7, cv⟩ := AcC.of HRN.out.act
      go_upto_if 101 with fail
      go_cut [6, 14] from 37 to 179 (fun v6 v14 wx => Hid (∃ (lb6 : Nat) (o6 : Option (List UInt8)) (g6 : Lg) (S6 : List Nat), v6 = .pointer (some ⟨lb6, 0, none⟩) ∧ v14 = .int .i64 E ∧ OpEnd f F MO E o6 ∧ RdS wx S6 (.slice Am MO.length cm) MO ∧ ga ∉ S6 ∧ Rn Own w1 (.pointer (some ⟨db, 0, none⟩)) cap o6 lb6 g6 S6 (.slice A9 F.length c9) F ga f wx))
      case first =>
       rename_i k0 a2 j0 kk a1 a0
       clear a2 a3 a4
       clear_value q0 q1
       as_aux_lemma =>
        by_cases h0 : f.do_ = 0
        ·rw [h0] at c0
         have HLA : Hid (ga < wc.heap.size) := Lib.hid HRN.out.act.lt
         clear c3 c7 cv
         go_wp2_with fail
         refine (I.prom f.ballot HRN.out.l).mono ?_
         rintro e w6 ⟨E6, o6, g6, rfl, hE, S6, hl6, hk6, hs6⟩
         obtain ⟨rfl, hop⟩ := prom_meets h0 HW4.out HBO.out hl0 hE
         have HR6 := Lib.hid (HRN.out.step hl6 hk6 hs6 HNA.out)
         have HM6 := Lib.hid (HM.out.up hk6 hs6)
         have HN6 := Lib.hid (not_later HNA.out hs6 HLA.out)
         have HOP := Lib.hid hop
         clear hE hl6 hk6 hs6 hop HLA
         go_wp2_with fail
         go_meet
         case rel => exact Lib.hid (⟨lb, o6, g6, S6, rfl, rfl, HOP.out, HM6.out, HN6.out, HR6.out⟩)
        have d0 : (f.do_ == 0) = false := by simpa using h0
        by_cases h1 : f.do_ = 1
        ·rw [h1] at c0
         have HLA : Hid (ga < wc.heap.size) := Lib.hid HRN.out.act.lt
         clear c1 c3 c7
         go_wp2_with (refine St.loadAt vtOk rfl (.tmp 110) rfl _ rfl cv ?_)
         refine (I.vote f.vote HRN.out.l).mono ?_
         rintro e w6 ⟨E6, o6, g6, rfl, hE, S6, hl6, hk6, hs6⟩
         obtain ⟨rfl, hop⟩ := vote_meets h1 HW4.out HBO.out hl0 hE
         have HR6 := Lib.hid (HRN.out.step hl6 hk6 hs6 HNA.out)
         have HM6 := Lib.hid (HM.out.up hk6 hs6)
         have HN6 := Lib.hid (not_later HNA.out hs6 HLA.out)
         have HOP := Lib.hid hop
         clear hE hl6 hk6 hs6 hop HLA
         go_wp2_with fail
         go_meet
         case rel => exact Lib.hid (⟨lb, o6, g6, S6, rfl, rfl, HOP.out, HM6.out, HN6.out, HR6.out⟩)
        have d1 : (f.do_ == 1) = false := by simpa using h1
        by_cases h3 : f.do_ = 3
        ·rw [h3] at c0
         have HLA : Hid (ga < wc.heap.size) := Lib.hid HRN.out.act.lt
         clear c1 c3 c7 cv
         go_wp2_with fail
         refine (I.comp HRN.out.l).mono ?_
         rintro e w6 ⟨E6, o6, g6, rfl, hE, S6, hl6, hk6, hs6⟩
         obtain ⟨rfl, hop⟩ := comp_meets h3 HW4.out HBO.out hE
         have HR6 := Lib.hid (HRN.out.step hl6 hk6 hs6 HNA.out)
         have HM6 := Lib.hid (HM.out.up hk6 hs6)
         have HN6 := Lib.hid (not_later HNA.out hs6 HLA.out)
         have HOP := Lib.hid hop
         clear hE hl6 hk6 hs6 hop HLA
         go_wp2_with fail
         go_meet
         case rel => exact Lib.hid (⟨lb, o6, g6, S6, rfl, rfl, HOP.out, HM6.out, HN6.out, HR6.out⟩)
        have d3 : (f.do_ == 3) = false := by simpa using h3
        by_cases h2 : f.do_ = 2
        ·rw [h2] at c0
         have HK4 : Hid (Rd wc w.heap.size (.slice f.ha f.ks.length f.hc) (f.ks.map iv)) := Lib.hid (by rw [← HKS.out.e]; exact HKS.out.rd.below (HW.out.trans (HRN.out.bel.mono HW.out.size)))
         have HLA : Hid (ga < wc.heap.size) := Lib.hid HRN.out.act.lt
         clear c1 c3 cv
         go_wp2_with fail
         refine (HRN.out.l.crash HK4.out HW.out.size HKS.out.r).mono ?_
         rintro e w5 ⟨rfl, db5, mb5, L5, hd5, hwf5, hk5, hs5⟩
         have HF5 := Lib.hid (HRN.out.fl.up hk5 hs5)
         have HM5 := Lib.hid (HM.out.up hk5 hs5)
         have HIN5 := Lib.hid (St.In_kp HRN.out.act hk5 HNA.out)
         have HN5 := Lib.hid (not_later HNA.out hs5 HLA.out)
         have hw5 := HRN.out.bel.trans (hk5.below HRN.out.l.ge HRN.out.l.caps.2.2)
         have HLA5 : Hid (ga < w5.heap.size) := Lib.hid HIN5.out.lt
         clear hk5 hs5 HK4 HLA c0 c7
         go_wp2_with fail
         refine (I.reopen hd5 hwf5).mono ?_
         rintro e w6 ⟨lb6, S6, rfl, hl6, hk6, hs6⟩
         have HR6 : Hid (Rn Own w1 (.pointer (some ⟨db, 0, none⟩)) cap o lb6 g S6 (.slice A9 F.length c9) F ga f w6) := Lib.hid ⟨hl6, HF5.out.up hk6 hs6, St.In_kp HIN5.out hk6 HN5.out, hw5.trans (hk6.below hd5.at_.ge hd5.hB)⟩
         have HM6 := Lib.hid (HM5.out.up hk6 hs6)
         have HN6 := Lib.hid (not_later HN5.out hs6 HLA5.out)
         obtain ⟨hE0, hop⟩ := open_meets h0 h1 h3 HW4.out HBO.out hl0
         have HOP := Lib.hid hop
         have HE0 := Lib.hid hE0
         clear hd5 hwf5 hl6 hk6 hs6 HF5 HM5 HIN5 HN5 hw5 HLA5 hE0 hop
         go_wp2_with fail
         go_meet
         case rel => exact Lib.hid (⟨lb6, o, g, S6, rfl, by rw [← HE0.out], HOP.out, HM6.out, HN6.out, HR6.out⟩)
        ·have d2 : (f.do_ == 2) = false := by simpa using h2
         have HLA : Hid (ga < wc.heap.size) := Lib.hid HRN.out.act.lt
         clear c1 c3 c7 cv
         go_wp2_with fail
         refine (I.again HRN.out.l).mono ?_
         rintro e w6 ⟨lb6, S6, S9, rfl, hl6, -, hk6, hs6, -⟩
         have HR6 := Lib.hid (HRN.out.step hl6 hk6 hs6 HNA.out)
         have HM6 := Lib.hid (HM.out.up hk6 hs6)
         have HN6 := Lib.hid (not_later HNA.out hs6 HLA.out)
         obtain ⟨hE0, hop⟩ := open_meets h0 h1 h3 HW4.out HBO.out hl0
         have HOP := Lib.hid hop
         have HE0 := Lib.hid hE0
         clear hl6 hk6 hs6 HLA hE0 hop c0
         go_wp2_with fail
         go_meet
         case rel => exact Lib.hid (⟨lb6, o, g, S6, rfl, by rw [← HE0.out], HOP.out, HM6.out, HN6.out, HR6.out⟩)
      case rest =>
       clear HNA HW4 HM HRN HBO HKS c0 c1 c3 c7 cv hl0 hlen hwr hnn
       obtain ⟨lb6, o6, g6, S6, rfl, rfl, hop, hM, hn6, hrn⟩ := hcut.out
       have HOP := Lib.hid hop
       have HM := Lib.hid hM
       have HRN := Lib.hid hrn
       have HFL : Hid (F.length ≤ 65536) := Lib.hid HFL0.out
       clear hcut hop hM hn6 hrn
       obtain ⟨c0, -, -, -, -⟩ := AcC.of HRN.out.act
       go_upto_if 133 with fail
       go_cut [9] from 37 to 179 (fun v9 wx => Hid (∃ F8, RdS wx S6 v9 F8 ∧ byt o6 = F8 ∧ LogAt Own wx w1.heap.size (.pointer (some ⟨db, 0, none⟩)) cap o6 lb6 g6 S6 ∧ Below w1.heap.size w1 wx))
       case first =>
        rename_i k0 a2 j0 kk a1 a0
        clear a2 a3 a4
        clear_value q0 q1
        as_aux_lemma =>
         rcases HOP.out with ⟨he, hfe⟩ | ⟨he, h3, hfe⟩ | ⟨he, h3, hfe⟩
         ·have hne : (E == 0) = false := by simpa using he
          have HFE := Lib.hid hfe
          clear hfe c0
          go_wp2_with fail
          go_meet
          case rel => exact Lib.hid (⟨F, HRN.out.fl, HFE.out, HRN.out.l, HRN.out.bel⟩)
         ·have HFE := Lib.hid hfe
          subst he
          rw [h3] at c0
          clear hfe
          go_wp2_with fail
          go_meet
          case rel => exact Lib.hid (⟨MO, HM.out, HFE.out, HRN.out.l, HRN.out.bel⟩)
         ·have HFE := Lib.hid hfe
          subst he
          have d3 : (f.do_ == 3) = false := by simpa using h3
          clear hfe
          have hf6 := HRN.out.fl.1
          have hm6 := HM.out.1
          have HLT6 := Lib.hid (HRN.out.l.lt I)
          have e6 := (bwrefl wc).alloc (Nat.le_refl _) (.cells #[] 5)
          have hl1 : ([] : List UInt8).length + F.length ≤ 140737488355328 := by have := HFL.out; simp; omega
          have hlm : F.length + MO.length ≤ 140737488355328 := by have := HFL.out; have := HML.out; omega
          go_wp2_with (first
           | (at_builtin; refine wpList_appB bytesT rfl (.tmp 140) (.tmp 141) rfl rfl ho7 rfl hm7 hlm hs7 ?_; intro v8 w8 ho8 hg8 _; have HO8 := Lib.hid ho8; have HB8 := Lib.hid (hB7.grown hg8 hs7 ho7.ge); clear ho8 hg8 ho7 hm7 hB7 hs7)
           | (at_builtin; refine wpList_appB bytesT rfl (.tmp 138) (.tmp 139) rfl rfl (Ow.empty wc (Nat.le_refl _) _) rfl (hf6.up e6) hl1 (by simp) ?_; intro v7 w7 ho7 hg7 _; have hB7 := Ow.emptyG hg7; have hs7 := hB7.size; have hm7 := hm6.up hB7; rw [List.nil_append] at ho7; clear hg7))
          go_meet
          case rel => exact Lib.hid (⟨F ++ MO, HO8.out.rdS (S := S6) HLT6.out, HFE.out, HRN.out.l.up I HB8.out, bwstep HRN.out.bel HB8.out⟩)
       case rest =>
        clear HOP HM HRN HFL HML c0
        obtain ⟨F8, hf8, hfe, hl6, hb6⟩ := hcut.out
        obtain ⟨A10, c10, rfl, -, -⟩ := hf8.1.shapeM
        have HFT := Lib.hid hf8
        have HFF := Lib.hid hfe
        have hlT := hl6
        have hbT := hb6
        clear hcut hf8 hfe hl6 hb6
        obtain ⟨R, hsc, hR⟩ := hlT.wf.scanned
        rw [HFF.out] at hsc
        have hrd := rread18_any _ F8 [] R _ HFT.out.1 hsc (by have h1 := hlT.caps; rw [HFF.out] at h1; omega)
        rw [← hR] at hrd
        have hwf := hlT.wf.ok
        have HVL := Lib.hid hwf.len
        clear hsc hR hwf
        go_wp2_with fail
        refine hrd.mono ?_
        rintro e wa ⟨⟨vx, rfl, hvx⟩, hba⟩
        obtain ⟨Av, cv, rfl, -, -⟩ := hvx.shape
        have hla := hlT.up I hba
        have HFA := Lib.hid (HFT.out.bel hba)
        have HVA := Lib.hid hvx
        have hbA := bwstep hbT hba
        clear hrd hlT HFT hbT hba hvx
        go_wp2_with fail
        refine hla.read.mono ?_
        rintro e wb ⟨⟨bb, Eb, rfl, hbr⟩, hbb⟩
        rw [HFF.out] at hbr
        have hbr := hbr.rd
        obtain ⟨Ab, cb, rfl, -, -⟩ := hbr.shapeM
        have hlb := hla.up I hbb
        have HFB := Lib.hid (HFA.out.bel hbb)
        have HVB := Lib.hid (HVA.out.bel hbb)
        have HBB := Lib.hid hbr
        have hbB := bwstep hbA hbb
        clear hla HFA HVA hbA hbb hbr
        go_wp2_with fail
        refine (I.promised hlb).mono ?_
        rintro e wc ⟨rfl, hbc⟩
        have hlc := hlb.up I hbc
        have HFC := Lib.hid (HFB.out.bel hbc)
        have HVC := Lib.hid (HVB.out.bel hbc)
        have HBC := Lib.hid (HBB.out.up hbc)
        have hbC := bwstep hbB hbc
        clear hlb HFB HVB HBB hbB hbc
        have hmm : (g6.most != g6.most) = false := by simp
        go_wp2_with fail
        refine (I.votes hlc).mono ?_
        rintro e wd ⟨⟨q, rfl, hq⟩, hbd⟩
        have hq := hq.rd (S := []) (by simp)
        have hld := hlc.up I hbd
        have HFD := Lib.hid (HFC.out.bel hbd)
        have HVD := Lib.hid (HVC.out.bel hbd)
        have HBD := Lib.hid (HBC.out.up hbd)
        have hbD := bwstep hbC hbd
        clear hlc HFC HVC HBC hbC hbd
        go_wp2_with fail
        refine (rvsame_self _ _ _ _ hq HVD.out HVL.out).mono ?_
        rintro e we ⟨rfl, hbe⟩
        have hle := hld.up I hbe
        have HFE := Lib.hid (HFD.out.bel hbe)
        have HVE := Lib.hid (HVD.out.bel hbe)
        have HBE := Lib.hid (HBD.out.up hbe)
        have hbE := bwstep hbD hbe
        clear hld HFD HVD HBD hbD hbe hq
        go_wp2_with fail
        have hsz := I.size hle
        rw [HFF.out] at hsz
        refine hsz.mono ?_
        rintro e wf ⟨rfl, hbf⟩
        have hlf := hle.up I hbf
        have HFG := Lib.hid (HFE.out.bel hbf)
        have HVG := Lib.hid (HVE.out.bel hbf)
        have HBG := Lib.hid (HBE.out.up hbf)
        have hbF := bwstep hbE hbf
        clear hle HFE HVE HBE hbE hbf hsz
        go_wp2_with fail
        refine (rsame_self _ _ _ _ HBG.out HFG.out.1).mono ?_
        rintro e wg ⟨rfl, hbg⟩
        have HRG : Hid (AcR Own w1 (.pointer (some ⟨db, 0, none⟩)) cap lb6 _ _ g6.most F8 wg) := Lib.hid ⟨⟨_, _, _, hlf.up I hbg, rfl, HVG.out.bel hbg, HFG.out.bel hbg, HFF.out⟩, bwstep hbF hbg⟩
        clear hlf HFG HVG HBG hbF hbg
        go_wp2_with fail
        go_roundw
        case rel => exact ⟨k + 1, lb6, _, F8, by omega, by go_num, rfl, rfl, HRG⟩
        case measure => simp [intOf]; omega
end Go.Proofs.YtaddbhdkgneiaaaGreat.Ce
