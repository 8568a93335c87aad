/- The contracts of package bloom: words, place, Bits. -/
import Derived.Test.YtglagpaamoigmaaBlmP
import Derived.Test.YtglagpaamoigmaaBase
import Derived.Test.YtglagpaamoigmaaSumR
import Derived.Laws.Rows
namespace Go.Proofs.Ytglagpaamoigmaa.Blm
open Go.RowKit Crc

/-- a key's numbers -/
def kw (l : List UInt8) (k : Nat) : Nat := (ba l + k * bb l) % 4294967296
theorem kw_lt (l : List UInt8) (k : Nat) : kw l k < 4294967296 := Nat.mod_lt _ (by decide)
theorem ba_lt (l : List UInt8) : ba l < 4294967296 := vw_lt _
theorem bb_lt (l : List UInt8) : bb l < 4294967296 := vw_lt _
theorem kw0 (l : List UInt8) : kw l 0 = ba l := by
  have := ba_lt l
  unfold kw
  omega
def uw (n : Nat) : Value := .int .u32 (n : Int)
def wordsA (l : List UInt8) : Array Value := #[uw (kw l 0), uw (kw l 1), uw (kw l 2)]
theorem bitsL_kw (l : List UInt8) (n : Nat) : bitsL l n = [kw l 0 % n, kw l 1 % n, kw l 2 % n] := by
  unfold bitsL
  rw [kw0]
  unfold kw
  rw [Nat.one_mul]
theorem wordsA_at (l : List UInt8) {k : Nat} (h : k < 3) : (wordsA l)[k]? = some (uw (kw l k)) := by
  rcases (by omega : k = 0 ∨ k = 1 ∨ k = 2) with rfl | rfl | rfl <;> rfl
theorem words_idx (w : World) (l : List UInt8) {k : Nat} (h : k < 3) : (Instr.index 35 (.agg (wordsA l)) (.int .i64 (k : Int))).run Try.prog w = .ok (.int .u32 (kw l k : Int)) w := by
  rcases (by omega : k = 0 ∨ k = 1 ∨ k = 2) with rfl | rfl | rfl <;> kernel_rfl
theorem bitsL_len (l : List UInt8) (n : Nat) : (bitsL l n).length = 3 := rfl
theorem bitsL_at (l : List UInt8) (n : Nat) {k : Nat} (h : k < (bitsL l n).length) : (bitsL l n)[k] = kw l k % n := by
  have h3 : k < 3 := h
  have e : (bitsL l n)[k]? = some (kw l k % n) := by
    rw [bitsL_kw]
    rcases (by omega : k = 0 ∨ k = 1 ∨ k = 2) with rfl | rfl | rfl <;> rfl
  rw [List.getElem?_eq_getElem h] at e
  exact Option.some.inj e
theorem sum_one (l : List UInt8) : eats (sum [1] ^^^ ones) l ^^^ ones = sum (1 :: l) := sum_app [1] l

theorem zero3 : (Try.prog.info? 35).map (·.zero) = some (some (.agg #[uw 0, uw 0, uw 0])) := by kernel_rfl
theorem wordsA_eq (l : List UInt8) : #[.int .u32 (ba l : Int), .int .u32 (((ba l : Int) + (bb l : Int)) % 4294967296), .int .u32 (((ba l : Int) + 2 * (bb l : Int)) % 4294967296)] = wordsA l := by
  unfold wordsA uw
  rw [kw0]
  unfold kw
  simp
theorem one3 (l : List UInt8) : (wordsA l).all (·.oneCell') = true := by simp [wordsA, uw, Value.oneCell']
theorem size3 (l : List UInt8) : (Try.prog.info? 35).map (·.size) = some (wordsA l).size := by show _ = some 3; kernel_rfl
/-- the variable that is made, and the key's bytes behind it -/
theorem words_start (w : World) (s : ByteArray) (hs : s.size ≤ 140737488351232) :
    ∃ wA, wA = w.alloc (.cells #[uw 0, uw 0, uw 0] 35) ∧ ∃ x wB, (convert 9 26 (.string s)).run Try.prog wA = .ok x wB ∧ Rd wB wB.heap.size x (s.data.toList.map bv) ∧
      wB.heap[w.heap.size]? = some (.cells #[uw 0, uw 0, uw 0] 35 (0, 0)) ∧ Below w.heap.size w wB := by
  refine ⟨_, rfl, ?_⟩
  have HA := heap_alloc_new w (.cells #[uw 0, uw 0, uw 0] 35)
  have hbA : Below w.heap.size w (w.alloc (.cells #[uw 0, uw 0, uw 0] 35)) := (Below.refl _ _).alloc (Nat.le_refl _) _
  obtain ⟨x, wB, hcv, hx, hbB, _⟩ := run_bytes (P := Try.prog) (w.alloc (.cells #[uw 0, uw 0, uw 0] 35)) s Try.underlying9 Try.underlying26 Try.underlying5 (by simp [maxLen]; omega)
  exact ⟨x, wB, hcv, hx, (hbB.block _ (by simp)).trans HA, bwstep hbA hbB⟩
set_option maxHeartbeats 1000000 in
set_option maxRecDepth 100000 in
theorem words_any (s : ByteArray) (w : World) (hs : s.size ≤ 140737488351232) :
    Calls Try.prog 16 #[.string s] w fun e w' => e = .returned (.agg (wordsA s.data.toList)) ∧ Below w.heap.size w w' := by
  obtain ⟨wA, hwA, x, wB, hcv, hx, hcell, hb⟩ := words_start w s hs
  have hsz : s.data.toList.length ≤ 140737488351232 := hs
  have H1 := Lib.hid hwA
  clear hwA
  go_enter Try.func16, Try.ntmps16
  go_wp2_with (refine wpList_allocRow rfl 35 rfl #[uw 0, uw 0, uw 0] zero3 ?_; rw [← H1.out])
  clear hcv H1
  refine (sum_any _ _ _ _ hx (by omega)).mono ?_
  rintro e w' ⟨rfl, rfl⟩
  go_wp2_with fail
  refine (sum_any _ [1] _ _ (Rd.newF _ _ _ _ rfl (by simp [maxLen]) rfl) (by simp)).mono ?_
  rintro e w1 ⟨rfl, hw1⟩
  have hb1 : Below wB.heap.size wB w1 := hw1 ▸ bwalloc (Below.refl _ _) _
  clear hw1
  have hx1 := hx.up hb1
  have hc1 : w1.heap[w.heap.size]? = some (.cells #[uw 0, uw 0, uw 0] 35 (0, 0)) := by
    rw [hb1.block _ (Array.getElem?_eq_some_iff.1 hcell).1]
    exact hcell
  have hbw := bwstep hb hb1
  clear hx hb hb1 hcell
  go_wp2_with fail
  refine (more_any _ _ _ _ _ hx1 (by omega)).mono ?_
  rintro e w' ⟨rfl, rfl⟩
  rw [sum_one]
  have e0 : vw (sum s.data.toList) = ba s.data.toList := rfl
  have e1 : vw (sum (1 :: s.data.toList)) = bb s.data.toList := rfl
  rw [e0, e1]
  have ha := ba_lt s.data.toList
  have hbb := bb_lt s.data.toList
  have HW := Lib.hid (wordsA_eq s.data.toList)
  go_wp2_with (refine wpList_storeRow rfl 35 (.tmp 2) (.tmp 22) rfl w.heap.size (wordsA s.data.toList) rfl (congrArg Value.agg HW.out) 35 #[uw 0, uw 0, uw 0] hc1 (size3 _) rfl (one3 _) ?_)
  exact bodyPost_ret (v := .agg (wordsA s.data.toList)) (results_cell_row Try.results16 _ _ w.heap.size 35 (wordsA s.data.toList) (0, 0) _ rfl (setRow_heap _ _ _ _ _ _ hc1) Try.underlying35 rfl (size3 _)) rfl ⟨rfl, below_setRow hbw (Nat.le_refl _) _⟩

theorem pow8 : ∀ {r : Nat}, r < 8 → (2 ^ r % 256 : Int) = ((2 ^ r : Nat) : Int) := by decide
set_option maxHeartbeats 400000 in
theorem place_any (A : Option Addr) (n c q : Nat) (w : World) (h0 : 0 < n) (hn : n ≤ 140737488351232) (hq : q < 4294967296) :
    Calls Try.prog 17 #[.slice A n c, .int .u32 (q : Int)] w fun e w' => e = .returned (.tuple #[.int .i64 ((q % (8 * n) / 8 : Nat) : Int), .int .u8 ((2 ^ (q % (8 * n) % 8) : Nat) : Int)]) ∧ w = w' := by
  obtain ⟨r, hr⟩ : ∃ r, q % (8 * n) = r := ⟨_, rfl⟩
  have hlt : r < 8 * n := hr ▸ Nat.mod_lt _ (by omega)
  have hz : (((8 : Int) * (n : Int)) == 0) = false := by rw [beq_eq_false_iff_ne]; omega
  rw [hr]
  have HR : (q : Int) % (8 * (n : Int)) = (r : Int) := by rw [← hr, Int.natCast_emod]; simp
  clear hr
  go_enter Try.func17, Try.ntmps17
  go_wp2_with fail
  go_ret2
  exact ⟨ret2 (vi (by omega)) (vi (pow8 (Nat.mod_lt _ (by decide)))), rfl⟩
/-- ints as cells -/
def nvB (n : Nat) : Value := .int .i64 (n : Int)
theorem one_nv (l : List Nat) : One (l.map nvB) := one_map _ (fun _ => rfl) l
theorem natsT : ET Try.prog 29 3 (.int .i64 0) 8 := ⟨Try.underlying29, by kernel_rfl⟩
theorem bits_take (l : List UInt8) (n : Nat) {k : Nat} (h : k < 3) : (bitsL l n).take (k + 1) = (bitsL l n).take k ++ [kw l k % n] := by
  rw [List.take_succ_eq_append_getElem (show k < (bitsL l n).length from h), bitsL_at]

set_option maxHeartbeats 1000000 in
set_option maxRecDepth 100000 in
theorem bits_any (s : ByteArray) (n : Nat) (w : World) (hs : s.size ≤ 140737488351232) (h1 : 1 ≤ n) (h2 : n ≤ 1048576) :
    Calls Try.prog 12 #[.string s, .int .i64 (n : Int)] w fun e w' => (∃ v, e = .returned v ∧ Ow w' w.heap.size 3 v ((bitsL s.data.toList n).map nvB)) ∧ Below w.heap.size w w' := by
  generalize hl : s.data.toList = l
  have HL := Lib.hid hl
  clear hl
  have hz : ((n : Int) == 0) = false := by rw [beq_eq_false_iff_ne]; omega
  have hwn : IntKind.u32.wrap (n : Int) = n := by rw [IntKind.wrap_u32]; omega
  go_enter Try.func12, Try.ntmps12
  go_wp2_with fail
  refine (words_any s _ hs).mono ?_
  rintro e w1 ⟨rfl, hb1⟩
  rw [HL.out]
  go_wp2_with fail
  go_loopw [5, 7, 16] (fun v _ i wr => ∃ k : Nat, k ≤ 3 ∧ i = .int .i64 k ∧ Ow wr w.heap.size 3 v (((bitsL l n).take k).map nvB) ∧ Below w.heap.size w wr) (fun _ _ i _ => 3 - (intOf i).toNat)
  case atStart => exact ⟨0, by omega, rfl, Ow.nil _ _ _, hb1⟩
  case round =>
    clear hb1
    obtain ⟨k, hk, rfl, ho, hb⟩ := hrel
    by_cases hlt : k < 3
    · have HT := Lib.hid (bits_take l n hlt)
      have hq := kw_lt l k
      have HA := fun w => words_idx w l hlt
      generalize kw l k = q at HA HT hq
      generalize wordsA l = W at HA ⊢
      obtain ⟨r, hr⟩ : ∃ r, q % n = r := ⟨_, rfl⟩
      have hrn : r < n := hr ▸ Nat.mod_lt _ (by omega)
      have HR : (q : Int) % (n : Int) = (r : Int) := by rw [← hr, Int.natCast_emod]
      rw [hr] at HT
      clear hr
      have hbe : ∀ o, Below wr.heap.size wr (wr.alloc o) := fun o => bwalloc (Below.refl _ _) o
      go_wp2_with (at_builtin; refine wpList_app natsT rfl rfl (.tmp 19) (.tmp 25) rfl rfl (ho.below (hbe _)) rfl (Rd.newW (xs := [r].map nvB) _ _ _ rfl (by simp [maxLen]) rfl) (one_nv _) (by simp [maxLen]; omega) (by simp; omega) (Nat.le_trans hb.size (hbe _).size) ?_; intro v2 w2 ho2 hg2 _; have hb2 := (bwtrans hb (hbe _) (Nat.le_refl _)).grown hg2 (Nat.le_trans hb.size (hbe _).size) ho.ge)
      go_roundw
      case rel => exact ⟨k + 1, by omega, by go_num, by rw [HT.out, List.map_append]; exact ho2, hb2⟩
      case measure => simp [intOf]; omega
    · obtain rfl : k = 3 := by omega
      go_wp2_with fail
      go_ret
      exact ⟨⟨_, rfl, ho⟩, hb⟩
end Go.Proofs.Ytglagpaamoigmaa.Blm
