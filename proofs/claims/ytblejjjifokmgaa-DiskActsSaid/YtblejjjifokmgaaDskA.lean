/- awake of layer 7. -/
import Derived.Test.YtblejjjifokmgaaDskI
import Derived.Lib.SlBytesConst
namespace Go.Proofs.Ytblejjjifokmgaa
open Go.RowKit Go.Maps Dk

theorem map_one {α β : Type} {g : α → β} {L : List α} {y : β} (h : L.map g = [y]) : ∃ f, L = [f] ∧ g f = y := by
  match L, h with
  | [f], h => exact ⟨f, rfl, by simpa using h⟩
theorem RdS.const {w : World} {B : Nat} {d : Value} {db mb cap us : Nat} {L : List Fr} (h : DiskAt w B d db mb cap us L) (l : List UInt8) (hl : l.length ≤ 1000) (fz : Nat × Nat) :
    RdS (w.alloc (.cells (l.map bv).toArray 5 fz)) (fp db mb L) (.slice (some ⟨w.heap.size, 0, none⟩) l.length l.length) l := by
  refine ⟨Rd.newF (n := l.length) (xs := l.map bv) w _ _ _ (by simp) (by unfold maxLen; omega) (by simp), fun _ k hk hm => ?_⟩
  injection hk with hk
  have := h.lt k hm
  have : w.heap.size = k := hk
  omega
theorem fnd_self {L : List Fr} (h : Srt fk L) {f : Fr} (hf : f ∈ L) {s : List UInt8} (hs : key f.fl = s) : fnd fk s L = some f := by rw [← hs]; exact fnd_of_mem h hf
theorem fnd_nil_of {n : List UInt8} {f : Fr} (h : key f.fl ≠ n) : fnd fk n [f] = none := by
  unfold fnd
  rw [List.find?_eq_none]
  intro x hx
  rw [List.mem_singleton.1 hx]
  have : fk f ≠ n := h
  simpa using this
theorem RdV.ints {w : World} {B : Nat} {d : Value} {db mb cap us : Nat} {L : List Fr} (h : DiskAt w B d db mb cap us L) (l : List Int) (hl : l.length ≤ 1000) :
    RdV (w.alloc (.cells (l.map iv).toArray 3)) (fp db mb L) (.slice (some ⟨w.heap.size, 0, none⟩) l.length l.length) (l.map iv) := by
  refine ⟨Rd.newW (n := l.length) (xs := l.map iv) w _ _ (by simp) (by unfold maxLen; omega) (by simp), fun _ k hk hm => ?_⟩
  injection hk with hk
  have := h.lt k hm
  have : w.heap.size = k := hk
  omega
abbrev nA : ByteArray := ⟨#[97]⟩
abbrev fA0 : Fl := ⟨nA, [120, 121, 122], 0⟩
abbrev fA1 : Fl := ⟨nA, [120, 121, 122], 3⟩
abbrev fA2 : Fl := ⟨nA, [120, 121, 122, 109, 111, 114, 101], 3⟩
abbrev fA3 : Fl := ⟨nA, [120, 121, 122, 109, 111], 5⟩
set_option maxHeartbeats 4000000 in
set_option maxRecDepth 100000 in
theorem dawake_ok (w : World) : Calls Try.prog 4 #[] w fun e w' => e = .returned (.bool true) ∧ Below w.heap.size w w' := by
  have kc := fun (w : World) (C : Array Value) (n c : Nat) => Lib.run_convert_bytes_const (P := Try.prog) w 28 5 C n c Try.underlying28 Try.underlying5
  go_enter Try.func4, Try.ntmps4
  go_wp2_with fail
  refine (dnew_any 10 w (by omega) (by omega)).mono ?_
  rintro e w1 ⟨db, mb, rfl, hd, hb⟩
  rw [show capN 10 = 10 from rfl] at hd
  have HD := Lib.hid hd
  have HB := Lib.hid hb
  have hx : RdS (w1.alloc (.cells #[.int .u8 120, .int .u8 121, .int .u8 122] 5 (3, 4))) (fp db mb []) (.slice (some ⟨w1.heap.size, 0, none⟩) 3 3) [120, 121, 122] := RdS.const hd [120, 121, 122] (by simp) (3, 4)
  have st := Step.bel hd (bwalloc (bwrefl w1) (.cells #[.int .u8 120, .int .u8 121, .int .u8 122] 5 (3, 4)))
  have ap := append_ok st.at_ (by simp) (Nat.le_trans hb.size st.kp.size) nA rfl (by decide) _ hx (by omega) (by simp) (by simp [opF, fnd])
  have ST := Lib.hid st
  clear hd hb hx st
  go_wp2_with fail
  refine ap.mono ?_
  rintro e w2 ⟨rfl, L1, st2, hf1⟩
  rw [show put key { opF nA (List.map Fr.fl []) with l := (opF nA (List.map Fr.fl [])).l ++ [120, 121, 122] } (opL nA (List.map Fr.fl [])) = [fA0] from rfl] at hf1
  obtain ⟨f1, rfl, e1⟩ := map_one hf1
  have st := ST.out.trans st2
  have sy := sync_ok (A := []) (C := []) st.at_ nA (by decide) (fnd_self (L := [f1]) st.at_.srt (by simp) (by rw [e1]; rfl))
  rw [e1] at sy
  have ST := Lib.hid st
  clear ap st2 hf1 st
  go_wp2_with fail
  refine sy.mono ?_
  rintro e w3 ⟨rfl, st3⟩
  have st := ST.out.trans st3
  clear sy st3
  obtain ⟨f2, hf2⟩ : ∃ f2 : Fr, f2 = { f1 with fl := { fA0 with s := [120, 121, 122].length } } := ⟨_, rfl⟩
  have e2 : f2.fl = fA1 := by rw [hf2]; rfl
  have st : Step w1 w3 w.heap.size (.pointer (some ⟨db, 0, none⟩)) db mb 10 [] 3 [f2] := by rw [hf2]; exact st
  clear hf2 e1
  -- the second append
  have hx := RdS.const st.at_ [109, 111, 114, 101] (by simp) (4, 5)
  have st := st.thenB (bwalloc (bwrefl w3) (.cells (([109, 111, 114, 101] : List UInt8).map bv).toArray 5 (4, 5)))
  have hB : w.heap.size ≤ _ := Nat.le_trans HB.out.size st.kp.size
  have ap := append_ok st.at_ (by simp) hB nA rfl (by decide) _ hx (by omega) (by simp) (by rw [List.map_cons, e2]; exact (by decide : (opF nA [fA1]).l.length ≤ 1000000000))
  have ST := Lib.hid st
  clear hx st hB
  go_wp2_with fail
  refine ap.mono ?_
  rintro e w4 ⟨rfl, L3, st4, hf3⟩
  simp only [List.map_cons, List.map_nil, e2] at hf3
  rw [show put key { opF nA [fA1] with l := (opF nA [fA1]).l ++ [109, 111, 114, 101] } (opL nA [fA1]) = [fA2] from rfl] at hf3
  obtain ⟨f3, rfl, e3⟩ := map_one hf3
  have st := ST.out.trans st4
  clear ap hf3 st4 e2
  -- the third
  have hx := RdS.const st.at_ [109, 111, 114, 101] (by simp) (4, 5)
  have st := st.thenB (bwalloc (bwrefl w4) (.cells (([109, 111, 114, 101] : List UInt8).map bv).toArray 5 (4, 5)))
  have ap := append_full st.at_ ⟨#[98]⟩ rfl _ hx.1 (by simp) (by simp) (by simp)
  have ST := Lib.hid st
  clear hx st
  go_wp2_with fail
  refine ap.mono ?_
  rintro e w5 ⟨rfl, hb5⟩
  have st := ST.out.thenB hb5
  have sy := synced_ok (f := f3) st.at_ nA (by decide) (by simp) (fnd_self (L := [f3]) st.at_.srt (by simp) (by rw [e3]; rfl)) (by rw [e3]; simp) (by rw [e3]; simp)
  rw [e3] at sy
  have ST := Lib.hid st
  clear ap hb5 st
  go_wp2_with fail
  refine sy.mono ?_
  rintro e w6 ⟨⟨v6, rfl, ho6⟩, hb6⟩
  have st := ST.out.thenB hb6
  rw [show List.take fA2.s fA2.l = [120, 121, 122] from rfl] at ho6
  have r6 : RdS w6 (fp db mb [f3]) v6 [120, 121, 122] := ho6.rdS ST.out.at_.lt
  clear sy hb6 ho6
  -- the crash
  have hk := RdV.ints st.at_ [2] (by simp)
  have hba := bwalloc (bwrefl w6) (.cells (([2] : List Int).map iv).toArray 3)
  have st := st.thenB hba
  have r6 := r6.up (Kp.of_below hba _) (fun _ h => .inl h)
  have hB : w.heap.size ≤ _ := Nat.le_trans HB.out.size st.kp.size
  have cr := crash_any st.at_ (by simp) hB (by intro f hf; rw [List.mem_singleton.1 hf, e3]; decide) (by simp [e3, total]) (by simp) (by intro f hf; rw [List.mem_singleton.1 hf, e3]; decide) hk (by intro q hq; rw [List.mem_singleton.1 hq]; unfold inR; omega)
  have ST := Lib.hid st
  have R6 := Lib.hid r6
  clear hk hba st r6 hB
  go_wp2_with fail
  refine cr.mono ?_
  rintro e w7 ⟨rfl, L7, st7, hf7⟩
  simp only [List.map_cons, List.map_nil, e3] at hf7
  rw [show crash [fA2] [2] = [fA3] from rfl] at hf7
  obtain ⟨f7, rfl, e7⟩ := map_one hf7
  have r6 := R6.out.up st7.kp st7.sub
  have st := ST.out.trans st7
  rw [show total (List.map Fr.fl [f7]) = 5 by simp [e7, total]] at st
  clear cr hf7 e3 st7 R6
  have rd := read_ok (f := f7) st.at_ nA (by decide) (by simp) (fnd_self (L := [f7]) st.at_.srt (by simp) (by rw [e7]; rfl)) (by rw [e7]; simp)
  rw [e7] at rd
  have ST := Lib.hid st
  have R6 := Lib.hid r6
  clear r6 st
  go_wp2_with fail
  refine rd.mono ?_
  rintro e w8 ⟨⟨v8, rfl, ho8⟩, hb8⟩
  have st := ST.out.thenB hb8
  have r6 := R6.out.up (Kp.of_below hb8 _) (fun _ h => .inl h)
  obtain ⟨A6, c6, rfl, -, -⟩ := r6.1.shapeM
  obtain ⟨A8, c8, rfl, -, -⟩ := ho8.rd.shapeM
  have s6 : (convert 28 9 (.slice A6 3 c6)).run Try.prog w8 = .ok (.string ⟨#[120, 121, 122]⟩) w8 := run_str (P := Try.prog) (w := w8) Try.underlying28 Try.underlying5 Try.underlying9 r6.1
  have s8 : (convert 28 9 (.slice A8 5 c8)).run Try.prog w8 = .ok (.string ⟨#[120, 121, 122, 109, 111]⟩) w8 := run_str (P := Try.prog) (w := w8) Try.underlying28 Try.underlying5 Try.underlying9 ho8.rd
  have us := used_any st.at_
  have nm := names_any st.at_ (by simp)
  have hB : w.heap.size ≤ _ := Nat.le_trans HB.out.size st.kp.size
  have hq : fnd fk (⟨#[113]⟩ : ByteArray).data.toList [f7] = none := fnd_nil_of (by rw [e7]; decide)
  have ST := Lib.hid st
  clear rd hb8 st r6 R6 ho8
  go_wp2_with fail
  refine us.mono ?_
  rintro e w9 ⟨rfl, rfl⟩
  go_wp2_with fail
  refine nm.mono ?_
  rintro e w10 ⟨⟨v10, rfl, ho10⟩, hb10⟩
  obtain ⟨A10, c10, e10, -, -⟩ := ho10.rd.shapeM
  simp only [List.map_cons, List.map_nil, List.length_cons, List.length_nil] at e10
  subst e10
  have st := ST.out.thenB hb10
  have dn := delete_no st.at_ ⟨#[113]⟩ (by decide) hq
  have ST := Lib.hid st
  clear us nm ho10 hb10 st
  go_wp2_with fail
  refine dn.mono ?_
  rintro e w11 ⟨rfl, rfl⟩
  go_wp2_with fail
  go_ret
  exact ⟨rfl, HB.out.trans (ST.out.kp.below HD.out.ge HB.out.size)⟩
end Go.Proofs.Ytblejjjifokmgaa
