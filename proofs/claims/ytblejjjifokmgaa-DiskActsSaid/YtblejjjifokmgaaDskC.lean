/- The contracts of package disk that turn no file: isName, distance, Used, Names, Read, Synced. -/
import Derived.Test.YtblejjjifokmgaaDskW
import Derived.Test.YtblejjjifokmgaaCln
import Derived.Test.YtblejjjifokmgaaIter
import Derived.Deep.RegionHeld3
namespace Go.Proofs.Ytblejjjifokmgaa
open Go.RowKit Go.Maps Go.Sort Go.Shelf Dk

def named (s : ByteArray) : Bool := decide (0 < s.size) && decide (s.size ≤ 24)
set_option maxHeartbeats 400000 in
theorem isName_any (s : ByteArray) (w : World) : Calls Try.prog 29 #[.string s] w fun e w' => e = .returned (.bool (named s)) ∧ w = w' := by
  by_cases h : 1 ≤ s.size
  · have h1 : (1 : Int) ≤ s.size := by omega
    go_enter Try.func29, Try.ntmps29
    go_wp2
    go_ret
    refine ⟨ret1 (vb ?_), rfl⟩
    unfold named
    rw [Bool.eq_iff_iff]
    simp
    omega
  · have h0 : s.size = 0 := by omega
    have h1 : ¬ (1 : Int) ≤ s.size := by omega
    go_enter Try.func29, Try.ntmps29
    go_wp2
    go_ret
    refine ⟨ret1 (vb ?_), rfl⟩
    unfold named
    simp [h0]
set_option maxHeartbeats 400000 in
theorem used_any {w : World} {B : Nat} {d : Value} {db mb cap us : Nat} {L : List Fr} (h : DiskAt w B d db mb cap us L) :
    Calls Try.prog 17 #[d] w fun e w' => e = .returned (.int .i64 (us : Int)) ∧ w = w' := by
  obtain rfl := h.hd
  have c1 := h.c1
  go_enter Try.func17, Try.ntmps17
  go_wp2
  go_ret
  exact ⟨rfl, rfl⟩
theorem keys_sorted {L : List Fr} (h : Srt fk L) {ss : List (List UInt8)} (hp : ss.Perm (strKeys (dat L))) : (ss.mergeSort fun x y => decide (x ≤ y)) = L.map fk := by
  rw [dat_keys] at hp
  have h1 := mergeSort_of_perm hp
  have h2 : (L.map fk).mergeSort leB = L.map fk := List.mergeSort_of_pairwise (List.pairwise_map.2 (List.Pairwise.imp (fun {a b} hab => decide_eq_true (List.le_of_lt hab)) h))
  exact h1.trans h2
set_option maxHeartbeats 1000000 in
theorem names_any {w : World} {B : Nat} {d : Value} {db mb cap us : Nat} {L : List Fr} (h : DiskAt w B d db mb cap us L) (hL : L.length ≤ 1000000000) :
    Calls Try.prog 18 #[d] w fun e w' => (∃ v, e = .returned v ∧ Ow w' w.heap.size 9 v ((L.map fun f => f.fl.nm).map sv)) ∧ Below w.heap.size w w' := by
  obtain rfl := h.hd
  have c2 := h.c2
  have hmax : Maps.size (dat L) ≤ maxLen := by rw [dat_size]; unfold maxLen; omega
  have hbytes : Maps.size (dat L) * 16 ≤ 140737488355328 := by rw [dat_size]; omega
  have hown := h.map
  have HS := Lib.hid h.srt
  clear h
  refine (callsIn_wide (n := 6)).1 ?_
  have hfK : Fence.wide.fn 34 := trivial
  have hfS : Fence.wide.fn 33 := trivial
  refine callsIn_of_wp Try.func18 rfl trivial ?_ rfl
  simp only [Try.ntmps18, List.size_toArray, List.length_cons, List.length_nil, Nat.reduceAdd, Nat.reduceSub, Array.replicate_succ, Array.replicate_zero, List.push_toArray, List.append_toArray, List.nil_append, List.cons_append]
  gi_wp2_with (first
    | (gi_at_call 34; refine (Try.maps_Keys_34 _ _).mono ?_; rintro e w' ⟨rfl, rfl⟩)
    | (gi_at_call 33; refine (Try.slices_Sorted_keys_33_34 mb L.length (dat L) pR w hown hmax hbytes).mono ?_; rintro e w' ⟨v, ss, rfl, hS, hrow, hnil, hb⟩))
  go_ret
  have hrow2 := ownsRow_base_a hrow (show w.heap.size ≤ _ by simp)
  have hks := keys_sorted HS.out hS
  rw [hks] at hrow2
  have e1 : (L.map fk).map Go.Proofs.encStr = (L.map fun f => f.fl.nm).map sv := by
    rw [List.map_map, List.map_map]
    rfl
  have hlen : ss.length = ((L.map fun f => f.fl.nm).map sv).length := by
    have := hS.length_eq
    rw [dat_keys] at this
    simpa using this
  rw [e1, hlen] at hrow2
  exact ⟨⟨v, rfl, hrow2⟩, ((Below.refl _ w).alloc (Nat.le_refl _) _).trans (hb.mono (by simp))⟩

set_option maxHeartbeats 400000 in
theorem read_no {w : World} {B : Nat} {d : Value} {db mb cap us : Nat} {L : List Fr} (h : DiskAt w B d db mb cap us L) (s : ByteArray) (hs : s.size ≤ 1000000000) (hf : fnd fk s.data.toList L = none) :
    Calls Try.prog 11 #[d, .string s] w fun e w' => e = .returned (.tuple #[.slice none 0 0, .int .i64 5]) ∧ w = w' := by
  obtain rfl := h.hd
  have c2 := h.c2
  have hl := h.look (s := s) (by unfold maxLen; omega)
  rw [hf] at hl
  simp only [Option.map_none, ptrOf] at hl
  clear h hf
  go_enter Try.func11, Try.ntmps11
  go_wp2
  go_ret2
  exact ⟨rfl, rfl⟩
set_option maxHeartbeats 400000 in
theorem read_ok {w : World} {B : Nat} {d : Value} {db mb cap us : Nat} {L : List Fr} {f : Fr} (h : DiskAt w B d db mb cap us L) (s : ByteArray) (hs : s.size ≤ 1000000000) (hf : f ∈ L) (hff : fnd fk s.data.toList L = some f) (hz : f.fl.l.length ≤ 1000000000) :
    Calls Try.prog 11 #[d, .string s] w fun e w' => (∃ v, e = .returned (.tuple #[v, .int .i64 0]) ∧ Ow w' w.heap.size 5 v (f.fl.l.map bv)) ∧ Below w.heap.size w w' := by
  obtain rfl := h.hd
  have c2 := h.c2
  have hl := h.look (s := s) (by unfold maxLen; omega)
  rw [hff] at hl
  simp only [Option.map_some, ptrOf] at hl
  have g0 := h.g0 hf
  have hr := (h.own f hf).rd
  clear h hff
  obtain ⟨A, c, e, hc, hm⟩ := hr.shapeM
  rw [e] at g0 hr
  go_enter Try.func11, Try.ntmps11
  go_wp2_with fail
  refine (bclone_any _ _ _ _ hr (Nat.le_refl _) (by omega)).mono ?_
  rintro e w1 ⟨v, rfl, ho, hb⟩
  go_wp2_with fail
  go_ret2
  exact ⟨⟨v, rfl, ho⟩, hb⟩
set_option maxHeartbeats 400000 in
theorem synced_no {w : World} {B : Nat} {d : Value} {db mb cap us : Nat} {L : List Fr} (h : DiskAt w B d db mb cap us L) (s : ByteArray) (hs : s.size ≤ 1000000000) (hf : fnd fk s.data.toList L = none) :
    Calls Try.prog 12 #[d, .string s] w fun e w' => e = .returned (.tuple #[.slice none 0 0, .int .i64 5]) ∧ w = w' := by
  obtain rfl := h.hd
  have c2 := h.c2
  have hl := h.look (s := s) (by unfold maxLen; omega)
  rw [hf] at hl
  simp only [Option.map_none, ptrOf] at hl
  clear h hf
  go_enter Try.func12, Try.ntmps12
  go_wp2
  go_ret2
  exact ⟨rfl, rfl⟩
set_option maxHeartbeats 400000 in
theorem synced_ok {w : World} {B : Nat} {d : Value} {db mb cap us : Nat} {L : List Fr} {f : Fr} (h : DiskAt w B d db mb cap us L) (s : ByteArray) (hs : s.size ≤ 1000000000) (hf : f ∈ L) (hff : fnd fk s.data.toList L = some f) (hz : f.fl.l.length ≤ 1000000000) (hsy : f.fl.s ≤ f.fl.l.length) :
    Calls Try.prog 12 #[d, .string s] w fun e w' => (∃ v, e = .returned (.tuple #[v, .int .i64 0]) ∧ Ow w' w.heap.size 5 v ((f.fl.l.take f.fl.s).map bv)) ∧ Below w.heap.size w w' := by
  obtain rfl := h.hd
  have c2 := h.c2
  have hl := h.look (s := s) (by unfold maxLen; omega)
  rw [hff] at hl
  simp only [Option.map_some, ptrOf] at hl
  have g0 := h.g0 hf
  have g1 := h.g1 hf
  have hr := (h.own f hf).rd
  have hlt := h.lt f.bl (mem_fp.2 (.inr (.inr ⟨f, hf, .inl rfl⟩)))
  clear h hff
  obtain ⟨A, c, e, hc, hm⟩ := hr.shapeM
  unfold maxLen at hm
  rw [e] at g0 hr
  have hct := hr.cutTo hsy
  rw [← List.map_take] at hct
  clear hr
  have HT : Hid (w.drew.cell? ⟨f.bl, 0, none⟩ = some (.slice A f.fl.l.length c) ∧ w.drew.cell? ⟨f.bl, 1, none⟩ = some (.int .i64 (f.fl.s : Int)) ∧ Below w.heap.size w w.drew) := Lib.hid ⟨g0, g1, (Below.refl _ _).drew⟩
  have HU : Hid (∀ a z : World, (a.cell? ⟨f.bl, 0, none⟩ = some (.slice A f.fl.l.length c) ∧ a.cell? ⟨f.bl, 1, none⟩ = some (.int .i64 (f.fl.s : Int)) ∧ Below w.heap.size w a) → Below a.heap.size a z → (z.cell? ⟨f.bl, 0, none⟩ = some (.slice A f.fl.l.length c) ∧ z.cell? ⟨f.bl, 1, none⟩ = some (.int .i64 (f.fl.s : Int)) ∧ Below w.heap.size w z)) :=
    Lib.hid fun a z hS hb => ⟨(hb.cell (p := ⟨f.bl, 0, none⟩) (Nat.lt_of_lt_of_le hlt hS.2.2.size)).trans hS.1, (hb.cell (p := ⟨f.bl, 1, none⟩) (Nat.lt_of_lt_of_le hlt hS.2.2.size)).trans hS.2.1, bwstep hS.2.2 hb⟩
  go_enter Try.func12, Try.ntmps12
  have hs1 : f.fl.s ≤ c := by omega
  have hs2 : (0 : Int) ≤ (f.fl.s : Int) := by omega
  have hs3 : (f.fl.s : Int) ≤ (c : Int) := by omega
  go_wp2_with fail
  have hlen : (f.fl.l.take f.fl.s).length ≤ 1000000000000 := by simp; omega
  go_region_held3 (fun w' => w'.cell? ⟨f.bl, 0, none⟩ = some (.slice A f.fl.l.length c) ∧ w'.cell? ⟨f.bl, 1, none⟩ = some (.int .i64 (f.fl.s : Int)) ∧ Below w.heap.size w w') (first | exact HT.out | assumption | exact HU.out _ _ (by assumption) (by assumption))
    (first | (go_at_call 20; refine (bclone_any _ _ _ _ (hct.up (And.right (And.right (by assumption)))) (Nat.le_refl _) hlen).mono ?_; rintro e w1 ⟨v, rfl, ho, hb⟩))
  obtain ⟨-, -, hb9⟩ := (by assumption : w1.cell? ⟨f.bl, 0, none⟩ = some (.slice A f.fl.l.length c) ∧ w1.cell? ⟨f.bl, 1, none⟩ = some (.int .i64 (f.fl.s : Int)) ∧ Below w.heap.size w w1)
  go_wp2_with fail
  go_ret2
  exact ⟨⟨v, rfl, ho⟩, hb9⟩
end Go.Proofs.Ytblejjjifokmgaa
