/- The contracts of package disk: Sync, Append, Delete, Rename, Trim, Turn. -/
import Derived.Test.YtblejjjifokmgaaDskF
namespace Go.Proofs.Ytblejjjifokmgaa
open Go.RowKit Go.Maps Dk

set_option maxHeartbeats 400000 in
theorem sync_no {w : World} {B : Nat} {d : Value} {db mb cap us : Nat} {L : List Fr} (h : DiskAt w B d db mb cap us L) (s : ByteArray) (hs : s.size ≤ 1000000000) (hf : fnd fk s.data.toList L = none) :
    Calls Try.prog 15 #[d, .string s] w fun e w' => e = .returned (.int .i64 5) ∧ w = w' := by
  obtain rfl := h.hd
  have c2 := h.c2
  have hl := h.look (s := s) (by unfold maxLen; omega)
  rw [hf] at hl
  simp only [Option.map_none, ptrOf] at hl
  clear h hf
  go_enter Try.func15, Try.ntmps15
  go_wp2
  go_ret
  exact ⟨rfl, rfl⟩
set_option maxHeartbeats 400000 in
set_option maxRecDepth 100000 in
theorem sync_ok {w : World} {B : Nat} {d : Value} {db mb cap us : Nat} {A C : List Fr} {f : Fr} (h : DiskAt w B d db mb cap us (A ++ f :: C)) (s : ByteArray) (hs : s.size ≤ 1000000000) (hff : fnd fk s.data.toList (A ++ f :: C) = some f) :
    Calls Try.prog 15 #[d, .string s] w fun e w' => e = .returned (.int .i64 0) ∧ Step w w' B d db mb cap (A ++ f :: C) us (A ++ { f with fl := { f.fl with s := f.fl.l.length } } :: C) := by
  obtain rfl := h.hd
  have hf : f ∈ A ++ f :: C := by simp
  have c2 := h.c2
  have hl := h.look (s := s) (by unfold maxLen; omega)
  rw [hff] at hl
  simp only [Option.map_some, ptrOf] at hl
  have g0 := h.g0 hf
  have g1 := h.g1 hf
  have y1 := h.y1 hf
  obtain ⟨Av, c, e, hc, hm⟩ := (h.own f hf).rd.shapeM
  rw [e] at g0
  have HS := Lib.hid (Step.synced h f.fl.l.length)
  clear h hff e
  go_enter Try.func15, Try.ntmps15
  go_wp2
  go_ret
  exact ⟨rfl, HS.out⟩

/-- the file of that name, made if need be -/
def opF (s : ByteArray) (M : List Fl) : Fl := (fnd key s.data.toList M).getD ⟨s, [], 0⟩
def opL (s : ByteArray) (M : List Fl) : List Fl := if (fnd key s.data.toList M).isSome then M else put key ⟨s, [], 0⟩ M
theorem fl_fnd (n : List UInt8) (L : List Fr) : fnd key n (L.map Fr.fl) = (fnd fk n L).map Fr.fl := fnd_map (k := fk) (k' := key) (g := Fr.fl) (fun _ => rfl) n L
theorem fl_put (f : Fr) (L : List Fr) : (put fk f L).map Fr.fl = put key f.fl (L.map Fr.fl) := map_put (k := fk) (k' := key) (g := Fr.fl) (fun _ => rfl) f L
theorem fl_wo (n : List UInt8) (L : List Fr) : (wo fk n L).map Fr.fl = wo key n (L.map Fr.fl) := map_wo (k := fk) (k' := key) (g := Fr.fl) (fun _ => rfl) n L
theorem fl_srt {L : List Fr} (h : Srt fk L) : Srt key (L.map Fr.fl) := (srt_map (k := fk) (k' := key) (g := Fr.fl) (fun _ => rfl)).2 h
theorem fl_mid {A C : List Fr} {f f' : Fr} (h : Srt fk (A ++ f :: C)) (e : fk f' = fk f) : (A ++ f' :: C).map Fr.fl = put key f'.fl ((A ++ f :: C).map Fr.fl) := by rw [← fl_put, put_mid h e]
theorem open_any {w : World} {B : Nat} {d : Value} {db mb cap us : Nat} {L : List Fr} (h : DiskAt w B d db mb cap us L) (hL : L.length ≤ 1000000000) (hB : B ≤ w.heap.size) (s : ByteArray) (hs : s.size ≤ 1000000000) :
    Calls Try.prog 30 #[d, .string s] w fun e w' => ∃ A f C, e = .returned (.pointer (some ⟨f.bl, 0, none⟩)) ∧ Step w w' B d db mb cap L us (A ++ f :: C) ∧ f.fl = opF s (L.map Fr.fl) ∧ (A ++ f :: C).map Fr.fl = opL s (L.map Fr.fl) := by
  rcases fnd_cases fk s.data.toList L with h0 | ⟨A, f, C, rfl, h1, h2⟩
  · refine (open_new h hL hB s hs h0).mono ?_
    rintro e w' ⟨bl, rfl, st⟩
    obtain ⟨A, C, e⟩ := List.append_of_mem (mem_put.2 (.inl rfl) : (⟨⟨s, [], 0⟩, bl, .slice none 0 0⟩ : Fr) ∈ put fk ⟨⟨s, [], 0⟩, bl, .slice none 0 0⟩ L)
    refine ⟨A, _, C, rfl, e ▸ st, ?_, ?_⟩
    · unfold opF; rw [fl_fnd, h0]; rfl
    · unfold opL; rw [← e, fl_put, fl_fnd, h0]; rfl
  · refine (open_ok h s hs h2).mono ?_
    rintro e w' ⟨rfl, rfl⟩
    refine ⟨A, f, C, rfl, Step.refl h, ?_, ?_⟩
    · unfold opF; rw [fl_fnd, h2]; rfl
    · unfold opL; rw [fl_fnd, h2]; rfl

set_option maxHeartbeats 400000 in
theorem append_arg {w : World} {d x : Value} (s : ByteArray) (hs : named s = false) :
    Calls Try.prog 14 #[d, .string s, x] w fun e w' => e = .returned (.int .i64 1) ∧ w = w' := by
  go_enter Try.func14, Try.ntmps14
  go_wp2_with fail
  refine (isName_any s w).mono ?_
  rintro e w1 ⟨rfl, rfl⟩
  rw [hs]
  go_wp2_with fail
  go_ret
  exact ⟨rfl, rfl⟩
set_option maxHeartbeats 400000 in
theorem append_full {w : World} {B : Nat} {d x : Value} {db mb cap us : Nat} {L : List Fr} (h : DiskAt w B d db mb cap us L) (s : ByteArray) (hs : named s = true) (l : List UInt8) (hx : Rd w w.heap.size x (l.map bv)) (hl : l.length ≤ 1000000000) (hu : us ≤ cap) (hfull : cap < us + l.length) :
    Calls Try.prog 14 #[d, .string s, x] w fun e w' => e = .returned (.int .i64 4) ∧ Below w.heap.size w w' := by
  obtain rfl := h.hd
  have c0 := h.c0
  have c1 := h.c1
  obtain ⟨Ax, cx, rfl, hcx, hmx⟩ := hx.shapeM
  clear h
  go_enter Try.func14, Try.ntmps14
  go_wp2_with fail
  refine (isName_any s w).mono ?_
  rintro e w1 ⟨rfl, rfl⟩
  rw [hs]
  have hgt : ((cap : Int) - (us : Int) < (l.length : Int)) := by omega
  go_wp2_with fail
  go_quiet (fail)
  go_wp2_with fail
  go_ret
  exact ⟨rfl, bwN _⟩
theorem app_facts {w0 w w3 : World} {B : Nat} {d v v' : Value} {db mb cap us : Nat} {L A C : List Fr} {f : Fr} {l' : List UInt8} (st : Step w0 w B d db mb cap L us (A ++ f :: C)) (ev : f.v = v) (ho : Ow w3 B 5 v' (l'.map bv)) (hg : w.grownBy w3 v.ownBlock) (h3 : v'.ownBlock = v.ownBlock ∨ v'.ownBlock = some w.heap.size) :
    Step w (w3.setCell ⟨f.bl, 0, none⟩ v') B d db mb cap (A ++ f :: C) us (A ++ { f with v := v', fl := { f.fl with l := l' } } :: C) ∧ w3.frozen? ⟨f.bl, 0, none⟩ = false ∧ w3.cell? ⟨db, 1, none⟩ = some (.int .i64 (us : Int)) ∧ w3.frozen? ⟨db, 1, none⟩ = false ∧ w3.cell? ⟨f.bl, 0, none⟩ = some v := by
  have h := st.at_
  subst ev
  have hf : f ∈ A ++ f :: C := by simp
  have hlt1 := h.lt db (mem_fp.2 (.inl rfl))
  have hlt2 := h.lt f.bl (mem_fp.2 (.inr (.inr ⟨f, hf, .inl rfl⟩)))
  have k1 : w3.heap[db]? = w.heap[db]? := hg.block db hlt1 fun e => (h.neV hf e.symm).1 rfl
  have k2 : w3.heap[f.bl]? = w.heap[f.bl]? := hg.block f.bl hlt2 fun e => (h.neV hf e.symm).2.2 f hf rfl
  refine ⟨Step.bytes h (Kp.grown hg fun k e => by unfold blks; simp [e]) k2 ho (fun k hk => ?_), ?_, ?_, ?_, ?_⟩
  · rcases h3 with e | e
    · exact .inl (by rw [← e]; exact hk)
    · rw [e] at hk; injection hk with hk; exact .inr (Nat.le_of_eq hk)
  · exact (World.frozen?_of_block (w := w) (a := ⟨f.bl, 0, none⟩) k2).trans (h.y0 hf)
  · exact (World.cell?_of_block (w := w) (a := ⟨db, 1, none⟩) k1).trans h.c1
  · exact (World.frozen?_of_block (w := w) (a := ⟨db, 1, none⟩) k1).trans h.z1
  · exact (World.cell?_of_block (w := w) (a := ⟨f.bl, 0, none⟩) k2).trans (h.g0 hf)
set_option maxHeartbeats 1000000 in
set_option maxRecDepth 100000 in
theorem append_ok {w : World} {B : Nat} {d x : Value} {db mb cap us : Nat} {L : List Fr} (h : DiskAt w B d db mb cap us L) (hL : L.length ≤ 1000000000) (hB : B ≤ w.heap.size) (s : ByteArray) (hs : named s = true) (hs2 : s.size ≤ 1000000000) (l : List UInt8) (hx : RdS w (fp db mb L) x l) (hcap : cap ≤ 65536) (hu : us + l.length ≤ cap)
    (hz : (opF s (L.map Fr.fl)).l.length ≤ 1000000000) :
    Calls Try.prog 14 #[d, .string s, x] w fun e w' => e = .returned (.int .i64 0) ∧ ∃ L', Step w w' B d db mb cap L (us + l.length) L' ∧ L'.map Fr.fl = put key { opF s (L.map Fr.fl) with l := (opF s (L.map Fr.fl)).l ++ l } (opL s (L.map Fr.fl)) := by
  obtain rfl := h.hd
  have c0 := h.c0
  have c1 := h.c1
  obtain ⟨Ax, cx, rfl, hcx, hmx⟩ := hx.1.shapeM
  have HX := Lib.hid hx
  have H := Lib.hid h
  clear h hx
  go_enter Try.func14, Try.ntmps14
  go_wp2_with fail
  refine (isName_any s w).mono ?_
  rintro e w1 ⟨rfl, rfl⟩
  rw [hs]
  have hgt : ¬ ((cap : Int) - (us : Int) < (l.length : Int)) := by omega
  go_wp2_with fail
  go_quiet (fail)
  have st0 := Step.bel H.out (bwN (w := w) nq)
  have hx0 := HX.out.up st0.kp st0.sub
  have hB0 := Nat.le_trans hB st0.kp.size
  have ST := Lib.hid st0
  go_wp2_with fail
  refine (open_any ST.out.at_ hL hB0 s hs2).mono ?_
  rintro e w2 ⟨A, f, C, rfl, st2, hfl, hfL⟩
  have hx2 := hx0.up st2.kp st2.sub
  have hB2 := Nat.le_trans hB0 st2.kp.size
  have ST2 := Lib.hid (ST.out.trans st2)
  clear hx0 st0 st2 hB0 c0 c1 ST
  generalize w.drewN nq = w1 at *
  have hf : f ∈ A ++ f :: C := by simp
  have h2 := ST2.out.at_
  rw [← hfl] at hz
  have c1 := h2.c1
  have z1 := h2.z1
  have g0 := h2.g0 hf
  have y0 := h2.y0 hf
  have ho := h2.own f hf
  have hne := h2.neDF hf
  have hlt1 := h2.lt db (mem_fp.2 (.inl rfl))
  have hlt2 := h2.lt f.bl (mem_fp.2 (.inr (.inr ⟨f, hf, .inl rfl⟩)))
  have hV := Lib.hid (fun k hk => h2.neV (k := k) hf hk)
  obtain ⟨Av, cv, ev, hcv, hmv⟩ := ho.rd.shapeM
  rw [ev] at g0 ho
  have EV := Lib.hid ev
  have FL := Lib.hid hfl
  have FM := Lib.hid hfL
  clear h2 ev hfl hfL
  have hap : f.fl.l.length + l.length ≤ 140737488355328 := by omega
  have hx2 := hx2.1
  go_wp2_with (at_builtin; refine wpList_appB bytesT rfl (.tmp 30) (.tmp 31) rfl rfl ho rfl hx2 hap hB2 ?_; intro v' w3 ho3 hg3 h3; obtain ⟨A3, c3, ev3, hc3, hm3⟩ := ho3.rd.shapeM; rw [List.length_append] at ev3; subst ev3; have FT := Lib.hid (app_facts ST2.out EV.out ho3 hg3 h3); have y0 := FT.out.2.1; have c1 := FT.out.2.2.1; have z1 := FT.out.2.2.2.1; have g0 := FT.out.2.2.2.2; clear ho3 hg3 h3 ho hx2)
  go_ret
  have hcast : (us : Int) + (l.length : Int) = ((us + l.length : Nat) : Int) := by omega
  rw [hcast]
  refine ⟨rfl, _, (ST2.out.trans FT.out.1).trans (Step.used FT.out.1.at_ (us + l.length)), ?_⟩
  refine (fl_mid (f := f) (f' := ⟨{ f.fl with l := f.fl.l ++ l }, f.bl, .slice A3 (f.fl.l.length + l.length) c3⟩) ST2.out.at_.srt rfl).trans ?_
  rw [FM.out, ← FL.out]

set_option maxHeartbeats 400000 in
theorem delete_no {w : World} {B : Nat} {d : Value} {db mb cap us : Nat} {L : List Fr} (h : DiskAt w B d db mb cap us L) (s : ByteArray) (hs : s.size ≤ 1000000000) (hf : fnd fk s.data.toList L = none) :
    Calls Try.prog 19 #[d, .string s] w fun e w' => e = .returned (.int .i64 5) ∧ w = w' := by
  obtain rfl := h.hd
  have c2 := h.c2
  have hl := h.look (s := s) (by unfold maxLen; omega)
  rw [hf] at hl
  simp only [Option.map_none, ptrOf] at hl
  clear h hf
  go_enter Try.func19, Try.ntmps19
  go_wp2
  go_ret
  exact ⟨rfl, rfl⟩
set_option maxHeartbeats 1000000 in
set_option maxRecDepth 100000 in
theorem delete_ok {w : World} {B : Nat} {d : Value} {db mb cap us : Nat} {A C : List Fr} {f : Fr} (h : DiskAt w B d db mb cap us (A ++ f :: C)) (hB : B ≤ w.heap.size) (s : ByteArray) (hs : s.size ≤ 1000000000) (hff : fnd fk s.data.toList (A ++ f :: C) = some f) (hk : fk f = s.data.toList) (hu : f.fl.l.length ≤ us) (hus : us ≤ 1000000000) :
    Calls Try.prog 19 #[d, .string s] w fun e w' => e = .returned (.int .i64 0) ∧ Step w w' B d db mb cap (A ++ f :: C) (us - f.fl.l.length) (A ++ C) := by
  obtain rfl := h.hd
  have c2 := h.c2
  have hl := h.look (s := s) (by unfold maxLen; omega)
  rw [hff] at hl
  simp only [Option.map_some, ptrOf] at hl
  have hkey := nameOf (s := s) (by unfold maxLen; omega)
  have hct := cut_any h hB 0 (Nat.zero_le _) hu hus
  have HK := Lib.hid hk
  clear h hff hk
  go_enter Try.func19, Try.ntmps19
  go_wp2_with fail
  refine hct.mono ?_
  rintro e w1 ⟨rfl, v, st⟩
  have ST := Lib.hid st
  have c2 := st.at_.c2
  have hown := st.at_.map
  clear st hct
  go_wp2_with (at_delete; refine wpList_delete_own _ rfl _ _ 48 9 rfl 51 nameK Try.underlying48 pR mb _ _ rfl hown _ _ rfl hkey ?_; intro w2 hown2 hturn; have HD := Lib.hid (Step.del ST.out.at_ s.data.toList hown2 hturn.grown); clear hown2 hturn)
  go_ret
  have st := ST.out.trans HD.out
  have e1 : wo fk s.data.toList (A ++ { f with v := v, fl := { f.fl with l := f.fl.l.take 0, s := min f.fl.s 0 } } :: C) = A ++ C := by
    have := wo_mid ST.out.at_.srt
    rw [show fk ({ f with v := v, fl := { f.fl with l := f.fl.l.take 0, s := min f.fl.s 0 } } : Fr) = s.data.toList from HK.out] at this
    exact this
  rw [e1, Nat.sub_zero] at st
  exact ⟨rfl, st⟩

set_option maxHeartbeats 400000 in
theorem trim_no {w : World} {B : Nat} {d : Value} {db mb cap us : Nat} {L : List Fr} (h : DiskAt w B d db mb cap us L) (s : ByteArray) (n : Int) (hs : s.size ≤ 1000000000) (hf : fnd fk s.data.toList L = none) :
    Calls Try.prog 27 #[d, .string s, .int .i64 n] w fun e w' => e = .returned (.int .i64 5) ∧ w = w' := by
  obtain rfl := h.hd
  have c2 := h.c2
  have hl := h.look (s := s) (by unfold maxLen; omega)
  rw [hf] at hl
  simp only [Option.map_none, ptrOf] at hl
  clear h hf
  go_enter Try.func27, Try.ntmps27
  go_wp2
  go_ret
  exact ⟨rfl, rfl⟩
set_option maxHeartbeats 400000 in
set_option maxRecDepth 100000 in
theorem trim_arg {w : World} {B : Nat} {d : Value} {db mb cap us : Nat} {L : List Fr} {f : Fr} (h : DiskAt w B d db mb cap us L) (s : ByteArray) (n : Int) (hs : s.size ≤ 1000000000) (hf : f ∈ L) (hff : fnd fk s.data.toList L = some f) (hn : n < 0 ∨ (f.fl.l.length : Int) < n) :
    Calls Try.prog 27 #[d, .string s, .int .i64 n] w fun e w' => e = .returned (.int .i64 1) ∧ w = w' := by
  obtain rfl := h.hd
  have c2 := h.c2
  have hl := h.look (s := s) (by unfold maxLen; omega)
  rw [hff] at hl
  simp only [Option.map_some, ptrOf] at hl
  have g0 := h.g0 hf
  obtain ⟨Av, c, e, hc, hm⟩ := (h.own f hf).rd.shapeM
  rw [e] at g0
  clear h hff e
  by_cases h0 : n < 0
  · go_enter Try.func27, Try.ntmps27
    go_wp2
    go_ret
    exact ⟨rfl, rfl⟩
  · have h1 : (f.fl.l.length : Int) < n := by omega
    go_enter Try.func27, Try.ntmps27
    go_wp2
    go_ret
    exact ⟨rfl, rfl⟩
set_option maxHeartbeats 400000 in
set_option maxRecDepth 100000 in
theorem trim_ok {w : World} {B : Nat} {d : Value} {db mb cap us : Nat} {A C : List Fr} {f : Fr} (h : DiskAt w B d db mb cap us (A ++ f :: C)) (hB : B ≤ w.heap.size) (s : ByteArray) (n : Nat) (hs : s.size ≤ 1000000000) (hff : fnd fk s.data.toList (A ++ f :: C) = some f) (hn : n ≤ f.fl.l.length) (hu : f.fl.l.length ≤ us) (hus : us ≤ 1000000000) :
    Calls Try.prog 27 #[d, .string s, .int .i64 (n : Int)] w fun e w' => e = .returned (.int .i64 0) ∧ ∃ v', Step w w' B d db mb cap (A ++ f :: C) (us - (f.fl.l.length - n)) (A ++ { f with v := v', fl := { f.fl with l := f.fl.l.take n, s := min f.fl.s n } } :: C) := by
  obtain rfl := h.hd
  have hf : f ∈ A ++ f :: C := by simp
  have c2 := h.c2
  have hl := h.look (s := s) (by unfold maxLen; omega)
  rw [hff] at hl
  simp only [Option.map_some, ptrOf] at hl
  have g0 := h.g0 hf
  obtain ⟨Av, c, e, hc, hm⟩ := (h.own f hf).rd.shapeM
  rw [e] at g0
  have hct := Lib.hid (cut_any h hB n hn hu hus)
  clear h hff e
  have h0 : ¬ (n : Int) < 0 := by omega
  have h1 : ¬ ((f.fl.l.length : Int) < (n : Int)) := by omega
  go_enter Try.func27, Try.ntmps27
  go_wp2_with fail
  refine hct.out.mono ?_
  rintro e w1 ⟨rfl, v, st⟩
  have ST := Lib.hid st
  clear st hct
  go_wp2_with fail
  go_ret
  exact ⟨rfl, v, ST.out⟩
end Go.Proofs.Ytblejjjifokmgaa
