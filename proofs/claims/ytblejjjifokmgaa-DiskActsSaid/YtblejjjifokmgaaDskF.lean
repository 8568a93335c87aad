/- The contracts of package disk that turn files: New, open, cut, Sync, distance. -/
import Derived.Test.YtblejjjifokmgaaDskC
namespace Go.Proofs.Ytblejjjifokmgaa
open Go.RowKit Go.Maps Dk

def capN (c : Int) : Nat := (min (max c 0) 65536).toNat
theorem qMap (w : World) (r : Option Nat) : (binOp .eql 48 (.map r) (.map none)).run Try.prog w = .ok (.bool r.isNone) w := run_eql_map_nil w _ _ _ r Try.underlying48
set_option maxHeartbeats 400000 in
theorem dnew_any (c : Int) (w : World) (h1 : -9223372036854775808 ≤ c) (h2 : c ≤ 9223372036854775807) :
    Calls Try.prog 6 #[.int .i64 c] w fun e w' => ∃ db mb, e = .returned (.pointer (some ⟨db, 0, none⟩)) ∧ DiskAt w' w.heap.size (.pointer (some ⟨db, 0, none⟩)) db mb (capN c) 0 [] ∧ Below w.heap.size w w' := by
  have hmm := @run_makeMap Try.prog
  go_enter Try.func6, Try.ntmps6
  go_wp2
  go_ret
  have e : ((capN c : Nat) : Int) = min (max c 0) 65536 := by unfold capN; omega
  rw [← e]
  refine ⟨w.heap.size + 1, w.heap.size, rfl, ⟨rfl, ?_, ?_, by simp, by simp, by simp, List.Pairwise.nil, by omega, by omega, by simp⟩, ((Below.refl _ w).alloc (Nat.le_refl _) _).alloc (by simp) _⟩
  · have := heap_alloc_new (w.alloc (Obj.map #[] 0)) (Obj.cells #[.int .i64 ((capN c : Nat) : Int), .int .i64 0, .map (some w.heap.size)] 50)
    simpa using this
  · exact (World.ownsMap_made w Try.prog 9 pR).alloc _
set_option maxHeartbeats 400000 in
theorem open_ok {w : World} {B : Nat} {d : Value} {db mb cap us : Nat} {L : List Fr} {f : Fr} (h : DiskAt w B d db mb cap us L) (s : ByteArray) (hs : s.size ≤ 1000000000) (hff : fnd fk s.data.toList L = some f) :
    Calls Try.prog 30 #[d, .string s] w fun e w' => e = .returned (.pointer (some ⟨f.bl, 0, none⟩)) ∧ w = w' := by
  obtain rfl := h.hd
  have c2 := h.c2
  have hl := h.look (s := s) (by unfold maxLen; omega)
  rw [hff] at hl
  simp only [Option.map_some, ptrOf] at hl
  have q := qMap
  clear h hff
  go_enter Try.func30, Try.ntmps30
  go_wp2
  go_ret
  exact ⟨rfl, rfl⟩
theorem look_put {L : List Fr} (h : Srt fk L) {s : ByteArray} {l : List UInt8} {n bl : Nat} {v : Value} : ptrOf ((fnd fk s.data.toList (put fk ⟨⟨s, l, n⟩, bl, v⟩ L)).map (·.bl)) = .pointer (some ⟨bl, 0, none⟩) := by
  have := fnd_put h (⟨⟨s, l, n⟩, bl, v⟩ : Fr)
  rw [show fk (⟨⟨s, l, n⟩, bl, v⟩ : Fr) = s.data.toList from rfl] at this
  rw [this]
  rfl
set_option maxHeartbeats 400000 in
set_option maxRecDepth 100000 in
theorem open_new {w : World} {B : Nat} {d : Value} {db mb cap us : Nat} {L : List Fr} (h : DiskAt w B d db mb cap us L) (hL : L.length ≤ 1000000000) (hB : B ≤ w.heap.size) (s : ByteArray) (hs : s.size ≤ 1000000000) (hff : fnd fk s.data.toList L = none) :
    Calls Try.prog 30 #[d, .string s] w fun e w' => ∃ bl, e = .returned (.pointer (some ⟨bl, 0, none⟩)) ∧ Step w w' B d db mb cap L us (put fk ⟨⟨s, [], 0⟩, bl, .slice none 0 0⟩ L) := by
  obtain rfl := h.hd
  have c2 := h.c2
  have hl := h.look (s := s) (by unfold maxLen; omega)
  rw [hff] at hl
  simp only [Option.map_none, ptrOf] at hl
  have q := qMap
  have hn : L.length < maxLen := by unfold maxLen; omega
  have hkey := nameOf (s := s) (by unfold maxLen; omega)
  have HA := Lib.hid h
  have hown := h.map.alloc (.cells #[.slice none 0 0, .int .i64 0] 54)
  clear h
  go_enter Try.func30, Try.ntmps30
  go_wp2_with (first
    | (at_mapUpdate; refine wpList_mapUpdate_own _ rfl _ _ _ 48 rfl 9 51 nameK Try.underlying48 pR mb L.length (dat L) rfl hown hn _ _ _ rfl rfl hkey (.lit (.int .i64 w.heap.size)) [] (pR_mk (some w.heap.size)) ?_; intro w1 hown1 hgrow1; have st1 := Step.new HA.out hB s hown1 hgrow1; have c2 := st1.at_.c2; have hl := st1.at_.look (s := s) (by unfold maxLen; omega); rw [look_put HA.out.srt] at hl; have HT := Lib.hid st1; clear st1 hown1 hgrow1)
    | go_in)
  go_ret
  exact ⟨_, rfl, HT.out⟩
set_option maxHeartbeats 400000 in
theorem cut_any {w : World} {B : Nat} {d : Value} {db mb cap us : Nat} {A C : List Fr} {f : Fr} (h : DiskAt w B d db mb cap us (A ++ f :: C)) (hB : B ≤ w.heap.size) (n : Nat) (hn : n ≤ f.fl.l.length) (hu : f.fl.l.length ≤ us) (hus : us ≤ 1000000000) :
    Calls Try.prog 32 #[d, .pointer (some ⟨f.bl, 0, none⟩), .int .i64 (n : Int)] w fun e w' => e = .returned (.tuple #[]) ∧ ∃ v', Step w w' B d db mb cap (A ++ f :: C) (us - (f.fl.l.length - n)) (A ++ { f with v := v', fl := { f.fl with l := f.fl.l.take n, s := min f.fl.s n } } :: C) := by
  obtain rfl := h.hd
  have hf : f ∈ A ++ f :: C := by simp
  have c1 := h.c1
  have z1 := h.z1
  have g0 := h.g0 hf
  have hr := (h.own f hf).rd
  have HA := Lib.hid h
  obtain ⟨Av, c, e, hc, hm⟩ := hr.shapeM
  have hm' : c ≤ 9223372036854775807 := hm
  rw [e] at g0 hr
  clear h
  go_enter Try.func32, Try.ntmps32
  go_wp2_with fail
  go_region
  have hcast : (us : Int) - ((f.fl.l.length : Int) - (n : Int)) = ((us - (f.fl.l.length - n) : Nat) : Int) := by omega
  rw [hcast]
  have st1 := (Step.used HA.out (us - (f.fl.l.length - n))).thenB ((Below.refl _ _).drew)
  clear hcast
  generalize (w.setCell ⟨db, 1, none⟩ (.int .i64 ((us - (f.fl.l.length - n) : Nat) : Int))).drew = w1 at *
  have h1 := st1.at_
  have g0 := h1.g0 hf
  have hr1 := (h1.own f hf).rd
  rw [e] at g0 hr1
  have hct := hr1.cutTo hn
  rw [← List.map_take] at hct
  have ST := Lib.hid st1
  have hlt := h1.lt f.bl (mem_fp.2 (.inr (.inr ⟨f, hf, .inl rfl⟩)))
  clear h1 hr1 st1 c1 z1 hr
  go_wp2_with fail
  refine (bclone_any _ _ _ _ hct (Nat.le_refl _) (by simp; omega)).mono ?_
  rintro e w2 ⟨v, rfl, ho, hb⟩
  obtain ⟨A2, c2, ev, hc2, hm2⟩ := ho.rd.shapeM
  rw [List.length_take, Nat.min_eq_left hn] at ev
  subst ev
  have h2 := ST.out.at_.below hb
  have y0 := h2.y0 hf
  have y1 := h2.y1 hf
  have g0 := h2.g0 hf
  have g1 := h2.g1 hf
  have st2 := Step.bytes (w1 := w2) ST.out.at_ (Kp.of_below hb _) (hb.block _ hlt) (ho.mono (Nat.le_trans hB ST.out.kp.size)) (fun k hk => .inr (ho.ge k hk))
  have HS := Lib.hid st2
  clear h2 st2
  go_wp2_with fail
  go_end0
  have hmin : min (f.fl.s : Int) (n : Int) = ((min f.fl.s n : Nat) : Int) := by omega
  rw [hmin]
  exact ⟨rfl, _, (ST.out.trans HS.out).trans (Step.synced HS.out.at_ (min f.fl.s n))⟩
end Go.Proofs.Ytblejjjifokmgaa
