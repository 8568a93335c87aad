/- The contracts of package disk: Turn, Rename, distance. -/
import Derived.Test.YtblejjjifokmgaaDskG
namespace Go.Proofs.Ytblejjjifokmgaa
open Go.RowKit Go.Maps Dk

set_option maxHeartbeats 400000 in
theorem turn_no {w : World} {B : Nat} {d x : Value} {db mb cap us : Nat} {L : List Fr} (h : DiskAt w B d db mb cap us L) (s : ByteArray) (n : Int) (hs : s.size ≤ 1000000000) (hf : fnd fk s.data.toList L = none) :
    Calls Try.prog 26 #[d, .string s, .int .i64 n, x] w fun e w' => e = .returned (.int .i64 5) ∧ w = w' := by
  obtain rfl := h.hd
  have c2 := h.c2
  have hl := h.look (s := s) (by unfold maxLen; omega)
  rw [hf] at hl
  simp only [Option.map_none, ptrOf] at hl
  clear h hf
  go_enter Try.func26, Try.ntmps26
  go_wp2
  go_ret
  exact ⟨rfl, rfl⟩
set_option maxHeartbeats 400000 in
set_option maxRecDepth 100000 in
theorem turn_arg {w : World} {B : Nat} {d x : Value} {db mb cap us : Nat} {L : List Fr} {f : Fr} (h : DiskAt w B d db mb cap us L) (s : ByteArray) (n : Int) (hs : s.size ≤ 1000000000) (hf : f ∈ L) (hff : fnd fk s.data.toList L = some f) (hn : n < 0 ∨ (f.fl.l.length : Int) ≤ n) :
    Calls Try.prog 26 #[d, .string s, .int .i64 n, x] w fun e w' => e = .returned (.int .i64 1) ∧ w = w' := by
  obtain rfl := h.hd
  have c2 := h.c2
  have hl := h.look (s := s) (by unfold maxLen; omega)
  rw [hff] at hl
  simp only [Option.map_some, ptrOf] at hl
  have g0 := h.g0 hf
  obtain ⟨Av, c, e, hc, hm⟩ := (h.own f hf).rd.shapeM
  rw [e] at g0
  clear h hff e
  by_cases h0 : n < 0
  · go_enter Try.func26, Try.ntmps26
    go_wp2
    go_ret
    exact ⟨rfl, rfl⟩
  · have h1 : (f.fl.l.length : Int) ≤ n := by omega
    go_enter Try.func26, Try.ntmps26
    go_wp2
    go_ret
    exact ⟨rfl, rfl⟩
/-- a byte turned -/
def turnB (l : List UInt8) (n : Nat) (b : UInt8) : List UInt8 := l.set n (l.getD n 0 ^^^ b)
theorem turn_step {w : World} {B : Nat} {d : Value} {db mb cap us : Nat} {A C : List Fr} {f : Fr} (h : DiskAt w B d db mb cap us (A ++ f :: C)) {n : Nat} (hn : n < f.fl.l.length) (b : UInt8) :
    ∃ g c, f.v = .slice (some ⟨g, 0, none⟩) f.fl.l.length c ∧ f.fl.l.length ≤ c ∧ c ≤ maxLen ∧ w.cell? ⟨g, n, none⟩ = some (bv (f.fl.l.getD n 0)) ∧ w.frozen? ⟨g, n, none⟩ = false ∧
      Step w (w.setCell ⟨g, n, none⟩ (bv (f.fl.l.getD n 0 ^^^ b))) B d db mb cap (A ++ f :: C) us (A ++ { f with fl := { f.fl with l := turnB f.fl.l n b } } :: C) := by
  have hf : f ∈ A ++ f :: C := by simp
  have ho := h.own f hf
  obtain ⟨Av, c, ev, hc, hm⟩ := ho.rd.shapeM
  have ho' := ho
  rw [ev] at ho'
  obtain ⟨g, rfl, hB, hlt, hcell, hfr, hset⟩ := ho'.at_ (k := n) (by simpa using hn)
  have hgd : f.fl.l.getD n 0 = f.fl.l[n] := by simp [List.getD, hn]
  have hb : f.v.ownBlock = some g := by rw [ev]; rfl
  refine ⟨g, c, ev, hc, hm, by rw [hcell, hgd]; simp, hfr, Step.file h rfl rfl (Kp.set _ (p := ⟨g, n, none⟩) (by unfold blks; simp [hb]) _) ?_ ?_ (fun k hk => .inl hk)⟩
  · rw [Below.heap_setCell _ _ _ _ (show f.bl ≠ g from fun e => (h.neV hf hb).2.2 f hf e.symm)]
    exact h.cel f hf
  · have := hset (bv (f.fl.l.getD n 0 ^^^ b))
    rw [← List.map_set] at this
    show Ow _ B _ f.v _
    rw [ev]
    exact this
set_option maxHeartbeats 1000000 in
set_option maxRecDepth 100000 in
theorem turn_ok {w : World} {B : Nat} {d : Value} {db mb cap us : Nat} {A C : List Fr} {f : Fr} (h : DiskAt w B d db mb cap us (A ++ f :: C)) (s : ByteArray) (n : Nat) (b : UInt8) (hs : s.size ≤ 1000000000) (hff : fnd fk s.data.toList (A ++ f :: C) = some f) (hn : n < f.fl.l.length) :
    Calls Try.prog 26 #[d, .string s, .int .i64 (n : Int), .int .u8 (b.toNat : Int)] w fun e w' => e = .returned (.int .i64 0) ∧ Step w w' B d db mb cap (A ++ f :: C) us (A ++ { f with fl := { f.fl with l := turnB f.fl.l n b } } :: C) := by
  obtain rfl := h.hd
  have hf : f ∈ A ++ f :: C := by simp
  have c2 := h.c2
  have hl := h.look (s := s) (by unfold maxLen; omega)
  rw [hff] at hl
  simp only [Option.map_some, ptrOf] at hl
  have g0 := h.g0 hf
  obtain ⟨g, c, ev, hc, hm, hcell, hfr, st⟩ := turn_step h hn b
  rw [ev] at g0
  unfold maxLen at hm
  unfold bv at hcell st
  rw [← xor_u8] at st
  generalize f.fl.l.getD n 0 = u at *
  have ST := Lib.hid st
  clear h hff ev st
  have h0 : ¬ (n : Int) < 0 := by omega
  have h1 : ¬ ((f.fl.l.length : Int) ≤ (n : Int)) := by omega
  go_enter Try.func26, Try.ntmps26
  go_wp2
  go_ret
  exact ⟨rfl, ST.out⟩
set_option maxHeartbeats 400000 in
theorem distance_any (n : Int) (w : World) (h1 : -9223372036854775808 ≤ n) (h2 : n ≤ 9223372036854775807) :
    Calls Try.prog 31 #[.int .i64 n] w fun e w' => e = .returned (.int .u64 (n.natAbs : Int)) ∧ w = w' := by
  by_cases h : n < 0
  · go_enter Try.func31, Try.ntmps31
    go_wp2
    go_ret
    refine ⟨ret1 (vi ?_), rfl⟩
    rw [IntKind.wrap_u64, IntKind.wrap_u64]
    omega
  · go_enter Try.func31, Try.ntmps31
    go_wp2
    go_ret
    exact ⟨ret1 (vi (by omega)), rfl⟩

set_option maxHeartbeats 400000 in
theorem rename_arg {w : World} {d : Value} (a b : ByteArray) (hs : named a = false ∨ named b = false) :
    Calls Try.prog 25 #[d, .string a, .string b] w fun e w' => e = .returned (.int .i64 1) ∧ w = w' := by
  by_cases ha : named a = false
  · go_enter Try.func25, Try.ntmps25
    go_wp2_with fail
    refine (isName_any a w).mono ?_
    rintro e w1 ⟨rfl, rfl⟩
    rw [ha]
    go_wp2_with fail
    go_ret
    exact ⟨rfl, rfl⟩
  · have ha : named a = true := by simpa using ha
    have hb : named b = false := by simpa [ha] using hs
    go_enter Try.func25, Try.ntmps25
    go_wp2_with fail
    refine (isName_any a w).mono ?_
    rintro e w1 ⟨rfl, rfl⟩
    rw [ha]
    go_wp2_with fail
    refine (isName_any b w).mono ?_
    rintro e w1 ⟨rfl, rfl⟩
    rw [hb]
    go_wp2_with fail
    go_ret
    exact ⟨rfl, rfl⟩
set_option maxHeartbeats 400000 in
theorem rename_no {w : World} {B : Nat} {d : Value} {db mb cap us : Nat} {L : List Fr} (h : DiskAt w B d db mb cap us L) (a b : ByteArray) (ha : named a = true) (hb : named b = true) (hs : a.size ≤ 1000000000) (hf : fnd fk a.data.toList L = none) :
    Calls Try.prog 25 #[d, .string a, .string b] w fun e w' => e = .returned (.int .i64 5) ∧ w = w' := by
  obtain rfl := h.hd
  have c2 := h.c2
  have hl := h.look (s := a) (by unfold maxLen; omega)
  rw [hf] at hl
  simp only [Option.map_none, ptrOf] at hl
  clear h hf
  go_enter Try.func25, Try.ntmps25
  go_wp2_with fail
  refine (isName_any a w).mono ?_
  rintro e w1 ⟨rfl, rfl⟩
  rw [ha]
  go_wp2_with fail
  refine (isName_any b w).mono ?_
  rintro e w1 ⟨rfl, rfl⟩
  rw [hb]
  go_wp2_with fail
  go_ret
  exact ⟨rfl, rfl⟩
set_option maxHeartbeats 400000 in
theorem rename_same {w : World} {B : Nat} {d : Value} {db mb cap us : Nat} {L : List Fr} {f : Fr} (h : DiskAt w B d db mb cap us L) (a : ByteArray) (ha : named a = true) (hs : a.size ≤ 1000000000) (hf : fnd fk a.data.toList L = some f) :
    Calls Try.prog 25 #[d, .string a, .string a] w fun e w' => e = .returned (.int .i64 0) ∧ w = w' := by
  obtain rfl := h.hd
  have c2 := h.c2
  have hl := h.look (s := a) (by unfold maxLen; omega)
  rw [hf] at hl
  simp only [Option.map_some, ptrOf] at hl
  have he := str_eq (rfl : a = a)
  clear h hf
  go_enter Try.func25, Try.ntmps25
  go_wp2_with fail
  refine (isName_any a w).mono ?_
  rintro e w1 ⟨rfl, rfl⟩
  rw [ha]
  go_wp2_with fail
  refine (isName_any a w).mono ?_
  rintro e w1 ⟨rfl, rfl⟩
  rw [ha]
  go_wp2_with fail
  go_ret
  exact ⟨rfl, rfl⟩
theorem total_wo (A C : List Fr) (f : Fr) : total ((A ++ f :: C).map Fr.fl) - f.fl.l.length = total ((A ++ C).map Fr.fl) ∧ f.fl.l.length ≤ total ((A ++ f :: C).map Fr.fl) := by
  rw [List.map_append, List.map_append, List.map_cons, total_app, total_app, total_cons]
  omega
/-- Delete, whether there is a file of that name or not -/
theorem delete_any {w : World} {B : Nat} {d : Value} {db mb cap us : Nat} {L : List Fr} (h : DiskAt w B d db mb cap us L) (hB : B ≤ w.heap.size) (s : ByteArray) (hs : s.size ≤ 1000000000) (hu : us = total (L.map Fr.fl)) (hus : us ≤ 1000000000) :
    Calls Try.prog 19 #[d, .string s] w fun e w' => e = .returned (.int .i64 (if (fnd key s.data.toList (L.map Fr.fl)).isSome then 0 else 5)) ∧ Step w w' B d db mb cap L (total ((wo fk s.data.toList L).map Fr.fl)) (wo fk s.data.toList L) := by
  rcases fnd_cases fk s.data.toList L with h0 | ⟨A, f, C, rfl, h1, h2⟩
  · rw [fl_fnd, h0, wo_none h0, ← hu]
    exact (delete_no h s hs h0).mono fun e w' ⟨h1, h2⟩ => ⟨h1, h2 ▸ Step.refl h⟩
  · obtain ⟨t1, t2⟩ := total_wo A C f
    rw [fl_fnd, h2, ← h1, wo_mid h.srt, ← t1, ← hu]
    exact (delete_ok h hB s hs h2 h1 (by omega) hus).mono fun e w' ⟨h1, h2⟩ => ⟨h1, h2⟩
theorem Step.ren {w w1 w2 w3 : World} {B : Nat} {d : Value} {db mb cap us1 m m' : Nat} {L L1 : List Fr} {f : Fr} {a b : ByteArray} (st : Step w w1 B d db mb cap L us1 L1) (hf : f ∈ L1) (ha : fk f = a.data.toList)
    (hm2 : w2.ownsMap Try.prog 9 pR mb m ((dat L1).del (.string a.data.toList))) (hg2 : w1.grownBy w2 (some mb)) (hm3 : w3.ownsMap Try.prog 9 pR mb m' (((dat L1).del (.string a.data.toList)).put (.string b.data.toList) (.lit (.int .i64 f.bl)))) (hg3 : w2.grownBy w3 (some mb)) :
    Step w w3 B d db mb cap L us1 (put fk { f with fl := { f.fl with nm := b } } (wo fk a.data.toList L1)) := by
  have s2 := Step.del st.at_ a.data.toList hm2 hg2
  have h1 := st.at_
  have ot : ∀ k, k < w1.heap.size → k ≠ mb → w2.heap[k]? = w1.heap[k]? := fun k hl hk => hg2.block k hl fun e => hk (by injection e)
  rw [dat_del] at hm3
  have mb1 : mb ∈ fp db mb L := by
    exact mem_fp.2 (.inr (.inl rfl))
  refine ⟨s2.at_.add { f with fl := { f.fl with nm := b } } ?_ ?_ (h1.geb.2.2 f hf) (fun g hg _ => ?_) hm3 hg3, (st.trans s2).kp.trans (Kp.grown (S := [mb]) hg3 fun k e => by injection e with e; simp [e]) (fun x hx => .inl (by simp at hx; subst hx; exact mb1)), fun k hk => ?_⟩
  · exact (ot _ (h1.lt _ (mem_fp.2 (.inr (.inr ⟨f, hf, .inl rfl⟩)))) (h1.neMF hf).symm).trans (h1.cel f hf)
  · exact (h1.own f hf).same fun k hk => ot k ((h1.own f hf).lt k hk).2 (h1.neV hf hk).2.1
  · obtain ⟨h3, h4⟩ := mem_wo.1 hg
    exact h1.ap g h3 f hf (by rw [ha]; exact h4)
  · rcases mem_fp.1 hk with rfl | rfl | ⟨g, hg, hq⟩
    · exact .inl (mem_fp.2 (.inl rfl))
    · exact .inl mb1
    · rcases mem_put.1 hg with e | ⟨hg2, _⟩
      · rw [e] at hq
        exact st.sub k (mem_fp.2 (.inr (.inr ⟨f, hf, hq⟩)))
      · exact st.sub k (mem_fp.2 (.inr (.inr ⟨g, (mem_wo.1 hg2).1, hq⟩)))
set_option maxHeartbeats 1000000 in
set_option maxRecDepth 100000 in
theorem rename_ok {w : World} {B : Nat} {d : Value} {db mb cap us : Nat} {L : List Fr} {f : Fr} (h : DiskAt w B d db mb cap us L) (hL : L.length ≤ 1000000000) (hB : B ≤ w.heap.size) (a b : ByteArray) (ha : named a = true) (hb : named b = true) (hab : a ≠ b) (hsa : a.size ≤ 1000000000) (hsb : b.size ≤ 1000000000) (hf : f ∈ L) (hff : fnd fk a.data.toList L = some f) (hk : fk f = a.data.toList) (hu : us = total (L.map Fr.fl)) (hus : us ≤ 1000000000) :
    Calls Try.prog 25 #[d, .string a, .string b] w fun e w' => e = .returned (.int .i64 0) ∧
      Step w w' B d db mb cap L (total ((wo fk b.data.toList L).map Fr.fl)) (put fk { f with fl := { f.fl with nm := b } } (wo fk a.data.toList (wo fk b.data.toList L))) := by
  obtain rfl := h.hd
  have c2 := h.c2
  have hl := h.look (s := a) (by unfold maxLen; omega)
  rw [hff] at hl
  simp only [Option.map_some, ptrOf] at hl
  have he := str_ne hab
  have hka := nameOf (s := a) (by unfold maxLen; omega)
  have hkb := nameOf (s := b) (by unfold maxLen; omega)
  have hdel := Lib.hid ((delete_any h hB b hsb hu hus).mono (R' := fun e w' => (∃ q : Int, e = .returned (.int .i64 q)) ∧ Step w w' B (.pointer (some ⟨db, 0, none⟩)) db mb cap L (total ((wo fk b.data.toList L).map Fr.fl)) (wo fk b.data.toList L)) fun e w' ⟨h1, h2⟩ => ⟨⟨_, h1⟩, h2⟩)
  have hf1 : f ∈ wo fk b.data.toList L := mem_wo.2 ⟨hf, fun e => hab (name_ext (hk.symm.trans e))⟩
  have hL1 : (wo fk b.data.toList L).length < maxLen := by have := wo_length (k := fk) b.data.toList L; unfold maxLen; omega
  have HF := Lib.hid hf1
  have HK := Lib.hid hk
  generalize hL1e : wo fk b.data.toList L = L1 at *
  generalize hte : total (L1.map Fr.fl) = t1 at *
  clear h hff hab hk hf1 hL1e hte hu
  go_enter Try.func25, Try.ntmps25
  go_wp2_with fail
  refine (isName_any a w).mono ?_
  rintro e w1 ⟨rfl, rfl⟩
  rw [ha]
  go_wp2_with fail
  refine (isName_any b w).mono ?_
  rintro e w1 ⟨rfl, rfl⟩
  rw [hb]
  go_wp2_with fail
  refine hdel.out.mono ?_
  rintro e w1 ⟨⟨q, rfl⟩, st⟩
  have ST := Lib.hid st
  have c2 := st.at_.c2
  have hown := st.at_.map
  clear st hdel
  go_wp2_with (first
    | (at_delete; refine wpList_delete_own _ rfl _ _ 48 9 rfl 51 nameK Try.underlying48 pR mb _ _ rfl hown _ _ rfl hka ?_; intro w2 hown2 hturn; have c2 := (Step.del ST.out.at_ a.data.toList hown2 hturn.grown).at_.c2; have HG := Lib.hid hturn.grown; clear hown hturn)
    | (at_mapUpdate; go_loud (refine wpList_mapUpdate_own _ rfl _ _ _ 48 rfl 9 51 nameK Try.underlying48 pR mb L1.length ((dat L1).del (.string a.data.toList)) rfl hown2 hL1 _ _ _ rfl rfl hkb (.lit (.int .i64 f.bl)) [] (pR_mk (some f.bl)) ?_; intro w3 hown3 hgrow3; have HR := Lib.hid (Step.ren ST.out HF.out HK.out hown2 HG.out hown3 hgrow3); clear hown3 hgrow3))
    | go_in)
  go_ret
  exact ⟨rfl, HR.out⟩
end Go.Proofs.Ytblejjjifokmgaa
