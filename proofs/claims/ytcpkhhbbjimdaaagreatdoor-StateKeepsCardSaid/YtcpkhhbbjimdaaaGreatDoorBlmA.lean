/- Bloom filters as plain lists of bytes: a key's bits, the filter of keys, whether it has a key. Plain. The contracts of package bloom: words, place, Bits. The contracts of package bloom: Make, Has. The contracts of the reference functions of layer 11: Bits. The contract of the reference's Make of layer 11. -/
import Derived.Test.YtcpkhhbbjimdaaaGreatDoorLow
import Derived.Test.YtcpkhhbbjimdaaaGreatDoorBase
import Derived.Laws.Rows
import Derived.Deep.Cut
import Derived.Deep.CutRange
import Derived.Deep.DeepCutAuto
set_option maxHeartbeats 8000000
set_option maxRecDepth 100000
namespace Go.Proofs.YtcpkhhbbjimdaaaGreatDoor.Blm
open Go.RowKit Crc
def ba (key : List UInt8) : Nat := vw (sum key)
def bb (key : List UInt8) : Nat := vw (sum (1 :: key))
def bitsL (key : List UInt8) (n : Nat) : List Nat := [ba key % n, (ba key + bb key) % 4294967296 % n, (ba key + 2 * bb key) % 4294967296 % n]
theorem bitsL_lt {key : List UInt8} {n i : Nat} (h : 0 < n) (hi : i ∈ bitsL key n) : i < n := by
 unfold bitsL at hi
 simp only [List.mem_cons, List.not_mem_nil, or_false] at hi
 rcases hi with rfl | rfl | rfl <;> exact Nat.mod_lt _ h
def bt (b : UInt8) (k : Nat) : Bool := b.toNat.testBit k
def bitAt (f : List UInt8) (i : Nat) : Bool := bt (f.getD (i / 8) 0) (i % 8)
def hasB (f : List UInt8) (key : List UInt8) : Bool := f.isEmpty || (bitsL key (8 * f.length)).all (bitAt f)
theorem bt_or (a b : UInt8) (k : Nat) : bt (a ||| b) k = (bt a k || bt b k) := by
 unfold bt
 rw [UInt8.toNat_or, Nat.testBit_or]
theorem bt_zero (k : Nat) : bt 0 k = false := by unfold bt; simp
theorem bt_ext {a b : UInt8} (h : ∀ k, k < 8 → bt a k = bt b k) : a = b := by
 apply UInt8.toNat_inj.1
 apply Nat.eq_of_testBit_eq
 intro k
 by_cases hk : k < 8
 ·exact h k hk
 ·have e : ∀ c : UInt8, c.toNat.testBit k = false := fun c => Nat.testBit_lt_two_pow (Nat.lt_of_lt_of_le c.toNat_lt (Nat.pow_le_pow_right (by decide) (by omega)))
  rw [e, e]
theorem bt_pow {i k : Nat} (hi : i < 8) : bt (UInt8.ofNat (2 ^ i)) k = decide (i = k) := by
 unfold bt
 rw [UInt8.toNat_ofNat', Nat.mod_eq_of_lt (Nat.pow_lt_pow_right (by decide) hi), Nat.testBit_two_pow]
theorem bits_ext {f g : List UInt8} (hl : f.length = g.length) (h : ∀ i, i < 8 * f.length → bitAt f i = bitAt g i) : f = g := by
 refine List.ext_getElem hl fun j h1 h2 => bt_ext fun k hk => ?_
 have := h (8 * j + k) (by omega)
 unfold bitAt at this
 rw [show (8 * j + k) / 8 = j by omega, show (8 * j + k) % 8 = k by omega] at this
 simpa [List.getD, h1, h2] using this
theorem bitAt_set {f : List UInt8} {i : Nat} (hi : i < 8 * f.length) (j : Nat) : bitAt (f.set (i / 8) (f.getD (i / 8) 0 ||| UInt8.ofNat (2 ^ (i % 8)))) j = (bitAt f j || decide (i = j)) := by
 have h8 : i / 8 < f.length := by omega
 unfold bitAt
 by_cases e : i / 8 = j / 8
 ·rw [← e, List.getD_eq_getElem?_getD, List.getElem?_set_self h8, Option.getD_some, bt_or, bt_pow (by omega)]
  congr 1
  rw [decide_eq_decide]
  omega
 ·rw [List.getD_eq_getElem?_getD, List.getElem?_set_ne e, ← List.getD_eq_getElem?_getD, decide_eq_false (show ¬ i = j from fun h => e (by rw [h])), Bool.or_false]
theorem bitAt_zeros (n i : Nat) : bitAt (List.replicate n 0) i = false := by
 unfold bitAt
 rw [List.getD_eq_getElem?_getD, List.getElem?_replicate]
 split <;> exact bt_zero _
def hor (S : Nat → Bool) (j : Nat) : Nat → Nat
 | 0 => 0
 | d + 1 => 2 * hor S j d + (if S (8 * j + (7 - d)) then 1 else 0)
theorem hor_lt (S : Nat → Bool) (j : Nat) : ∀ d, hor S j d < 2 ^ d
 | 0 => by simp [hor]
 | d + 1 => by
  have := hor_lt S j d
  rw [hor, Nat.pow_succ]
  split <;> omega
theorem hor_bit (S : Nat → Bool) (j : Nat) : ∀ d i, d ≤ 8 → i < d → (hor S j d).testBit i = S (8 * j + (8 - d) + i)
 | 0, i, _, h => by omega
 | d + 1, 0, hd, _ => by
  rw [hor, show 8 * j + (8 - (d + 1)) + 0 = 8 * j + (7 - d) by omega, Nat.testBit_zero]
  cases S (8 * j + (7 - d))
  ·simp
  ·simp
 | d + 1, i + 1, hd, hi => by
  have ih := hor_bit S j d i (by omega) (by omega)
  rw [hor, Nat.testBit_succ]
  have e : (2 * hor S j d + (if S (8 * j + (7 - d)) then 1 else 0)) / 2 = hor S j d := by split <;> omega
  rw [e, ih]
  congr 1
  omega
def byteS (S : Nat → Bool) (j : Nat) : UInt8 := UInt8.ofNat (hor S j 8)
theorem byteS_bit (S : Nat → Bool) (j k : Nat) (hk : k < 8) : bt (byteS S j) k = S (8 * j + k) := by
 unfold bt byteS
 have := hor_lt S j 8
 rw [UInt8.toNat_ofNat', Nat.mod_eq_of_lt (by simpa using this), hor_bit S j 8 k (by omega) hk]
 congr 1
def filterS (S : Nat → Bool) (n : Nat) : List UInt8 := (List.range n).map (byteS S)
theorem filterS_len (S : Nat → Bool) (n : Nat) : (filterS S n).length = n := by simp [filterS]
theorem filterS_bit (S : Nat → Bool) {n i : Nat} (hi : i < 8 * n) : bitAt (filterS S n) i = S i := by
 unfold bitAt
 have h8 : i / 8 < n := by omega
 rw [List.getD_eq_getElem?_getD, filterS, List.getElem?_map, List.getElem?_range h8, Option.map_some, Option.getD_some, byteS_bit S _ _ (by omega)]
 congr 1
 omega
def size (keys : List (List UInt8)) : Nat := if keys.length = 0 then 1 else keys.length
theorem size_pos (keys : List (List UInt8)) : 0 < size keys := by unfold size; split <;> omega
def setIn (keys : List (List UInt8)) (n i : Nat) : Bool := keys.any fun key => (bitsL key n).contains i
def mkB (keys : List (List UInt8)) : List UInt8 := filterS (setIn keys (8 * size keys)) (size keys)
theorem mkB_len (keys : List (List UInt8)) : (mkB keys).length = size keys := filterS_len _ _
theorem mkB_bit (keys : List (List UInt8)) {i : Nat} (hi : i < 8 * size keys) : bitAt (mkB keys) i = setIn keys (8 * size keys) i := filterS_bit _ hi
theorem mkB_of {keys : List (List UInt8)} {f : List UInt8} (hl : f.length = size keys) (h : ∀ i, i < 8 * size keys → bitAt f i = setIn keys (8 * size keys) i) : f = mkB keys := by
 refine bits_ext (by rw [hl, mkB_len]) fun i hi => ?_
 rw [hl] at hi
 rw [h i hi, mkB_bit keys hi]
theorem setIn_snoc {keys : List (List UInt8)} {k n i : Nat} {key : List UInt8} (h : keys[k]? = some key) : setIn (keys.take (k + 1)) n i = (setIn (keys.take k) n i || (bitsL key n).contains i) := by
 obtain ⟨hl, rfl⟩ := List.getElem?_eq_some_iff.1 h
 unfold setIn
 rw [List.take_succ_eq_append_getElem hl, List.any_append, List.any_cons, List.any_nil, Bool.or_false]
theorem hasB_iff {f key : List UInt8} : hasB f key = true ↔ f = [] ∨ ∀ i ∈ bitsL key (8 * f.length), bitAt f i = true := by
 unfold hasB
 rw [Bool.or_eq_true, List.isEmpty_iff, List.all_eq_true]
theorem has_make {keys : List (List UInt8)} {key : List UInt8} (h : key ∈ keys) : hasB (mkB keys) key = true := by
 refine hasB_iff.2 (.inr fun i hi => ?_)
 rw [mkB_len] at hi
 rw [mkB_bit keys (bitsL_lt (by have := size_pos keys; omega) hi)]
 exact List.any_eq_true.2 ⟨key, h, by simpa using hi⟩
end Go.Proofs.YtcpkhhbbjimdaaaGreatDoor.Blm
namespace Go.Proofs.YtcpkhhbbjimdaaaGreatDoor.Blm
open Go.RowKit Crc
def kw (l : List UInt8) (k : Nat) : Nat := (ba l + k * bb l) % 4294967296
theorem kw_lt (l : List UInt8) (k : Nat) : kw l k < 4294967296 := Nat.mod_lt _ (by decide)
theorem ba_lt (l : List UInt8) : ba l < 4294967296 := vw_lt _
theorem bb_lt (l : List UInt8) : bb l < 4294967296 := vw_lt _
theorem kw0 (l : List UInt8) : kw l 0 = ba l := by
 have := ba_lt l
 unfold kw
 omega
def uw (n : Nat) : Value := .int .u32 (n : Int)
def wordsA (l : List UInt8) : Array Value := #[uw (kw l 0), uw (kw l 1), uw (kw l 2)]
theorem bitsL_kw (l : List UInt8) (n : Nat) : bitsL l n = [kw l 0 % n, kw l 1 % n, kw l 2 % n] := by
 unfold bitsL
 rw [kw0]
 unfold kw
 rw [Nat.one_mul]
theorem words_idx (w : World) (l : List UInt8) {k : Nat} (h : k < 3) : (Instr.index 195 (.agg (wordsA l)) (.int .i64 (k : Int))).run Tryz.prog w = .ok (.int .u32 (kw l k : Int)) w := by
 rcases (by omega : k = 0 ∨ k = 1 ∨ k = 2) with rfl | rfl | rfl <;> kernel_rfl
theorem bitsL_at (l : List UInt8) (n : Nat) {k : Nat} (h : k < (bitsL l n).length) : (bitsL l n)[k] = kw l k % n := by
 have h3 : k < 3 := h
 have e : (bitsL l n)[k]? = some (kw l k % n) := by
  rw [bitsL_kw]
  rcases (by omega : k = 0 ∨ k = 1 ∨ k = 2) with rfl | rfl | rfl <;> rfl
 rw [List.getElem?_eq_getElem h] at e
 exact Option.some.inj e
theorem sum_one (l : List UInt8) : eats (sum [1] ^^^ ones) l ^^^ ones = sum (1 :: l) := sum_app [1] l
theorem zero3 : (Tryz.prog.info? 195).map (·.zero) = some (some (.agg #[uw 0, uw 0, uw 0])) := by kernel_rfl
theorem wordsA_eq (l : List UInt8) : #[.int .u32 (ba l : Int), .int .u32 (((ba l : Int) + (bb l : Int)) % 4294967296), .int .u32 (((ba l : Int) + 2 * (bb l : Int)) % 4294967296)] = wordsA l := by
 unfold wordsA uw
 rw [kw0]
 unfold kw
 simp
theorem one3 (l : List UInt8) : (wordsA l).all (·.oneCell') = true := by simp [wordsA, uw, Value.oneCell']
theorem size3 (l : List UInt8) : (Tryz.prog.info? 195).map (·.size) = some (wordsA l).size := by show _ = some 3; kernel_rfl
theorem words_start (w : World) (s : ByteArray) (hs : s.size ≤ 140737488351232) :
  ∃ wA, wA = w.alloc (.cells #[uw 0, uw 0, uw 0] 195) ∧ ∃ x wB, (convert 9 84 (.string s)).run Tryz.prog wA = .ok x wB ∧ Rd wB wB.heap.size x (s.data.toList.map bv) ∧
   wB.heap[w.heap.size]? = some (.cells #[uw 0, uw 0, uw 0] 195 (0, 0)) ∧ Below w.heap.size w wB := by
 refine ⟨_, rfl, ?_⟩
 have HA := heap_alloc_new w (.cells #[uw 0, uw 0, uw 0] 195)
 have hbA : Below w.heap.size w (w.alloc (.cells #[uw 0, uw 0, uw 0] 195)) := (Below.refl _ _).alloc (Nat.le_refl _) _
 obtain ⟨x, wB, hcv, hx, hbB, _⟩ := run_bytes (P := Tryz.prog) (w.alloc (.cells #[uw 0, uw 0, uw 0] 195)) s Tryz.underlying9 Tryz.underlying84 Tryz.underlying5 (by simp [maxLen]; omega)
 exact ⟨x, wB, hcv, hx, (hbB.block _ (by simp)).trans HA, bwstep hbA hbB⟩
theorem words_any (s : ByteArray) (w : World) (hs : s.size ≤ 140737488351232) :
  Calls Tryz.prog 138 #[.string s] w fun e w' => e = .returned (.agg (wordsA s.data.toList)) ∧ Below w.heap.size w w' := by
 obtain ⟨wA, hwA, x, wB, hcv, hx, hcell, hb⟩ := words_start w s hs
 have hsz : s.data.toList.length ≤ 140737488351232 := hs
 have H1 := Lib.hid hwA
 clear hwA
 go_enter Tryz.func138, Tryz.ntmps138
 go_wp2_with (refine wpList_allocRow rfl 195 rfl #[uw 0, uw 0, uw 0] zero3 ?_; rw [← H1.out])
 clear hcv H1
 refine (sum_any _ _ _ _ hx (by omega)).mono ?_
 rintro e w' ⟨rfl, rfl⟩
 go_wp2_with fail
 refine (sum_any _ [1] _ _ (Rd.newF _ _ _ _ rfl (by simp [maxLen]) rfl) (by simp)).mono ?_
 rintro e w1 ⟨rfl, hw1⟩
 have hb1 : Below wB.heap.size wB w1 := hw1 ▸ bwalloc (Below.refl _ _) _
 clear hw1
 have hx1 := hx.up hb1
 have hc1 : w1.heap[w.heap.size]? = some (.cells #[uw 0, uw 0, uw 0] 195 (0, 0)) := by
  rw [hb1.block _ (Array.getElem?_eq_some_iff.1 hcell).1]
  exact hcell
 have hbw := bwstep hb hb1
 clear hx hb hb1 hcell
 go_wp2_with fail
 refine (more_any _ _ _ _ _ hx1 (by omega)).mono ?_
 rintro e w' ⟨rfl, rfl⟩
 rw [sum_one]
 have e0 : vw (sum s.data.toList) = ba s.data.toList := rfl
 have e1 : vw (sum (1 :: s.data.toList)) = bb s.data.toList := rfl
 rw [e0, e1]
 have ha := ba_lt s.data.toList
 have hbb := bb_lt s.data.toList
 have HW := Lib.hid (wordsA_eq s.data.toList)
 go_wp2_with (refine wpList_storeRow rfl 195 (.tmp 2) (.tmp 22) rfl w.heap.size (wordsA s.data.toList) rfl (congrArg Value.agg HW.out) 195 #[uw 0, uw 0, uw 0] hc1 (size3 _) rfl (one3 _) ?_)
 exact bodyPost_ret (v := .agg (wordsA s.data.toList)) (results_cell_row Tryz.results138 _ _ w.heap.size 195 (wordsA s.data.toList) (0, 0) _ rfl (setRow_heap _ _ _ _ _ _ hc1) Tryz.underlying195 rfl (size3 _)) rfl ⟨rfl, below_setRow hbw (Nat.le_refl _) _⟩
theorem pow8 : ∀ {r : Nat}, r < 8 → (2 ^ r % 256 : Int) = ((2 ^ r : Nat) : Int) := by decide
theorem place_any (A : Option Addr) (n c q : Nat) (w : World) (h0 : 0 < n) (hn : n ≤ 140737488351232) (hq : q < 4294967296) :
  Calls Tryz.prog 139 #[.slice A n c, .int .u32 (q : Int)] w fun e w' => e = .returned (.tuple #[.int .i64 ((q % (8 * n) / 8 : Nat) : Int), .int .u8 ((2 ^ (q % (8 * n) % 8) : Nat) : Int)]) ∧ w = w' := by
 obtain ⟨r, hr⟩ : ∃ r, q % (8 * n) = r := ⟨_, rfl⟩
 have hlt : r < 8 * n := hr ▸ Nat.mod_lt _ (by omega)
 have hz : (((8 : Int) * (n : Int)) == 0) = false := by rw [beq_eq_false_iff_ne]; omega
 rw [hr]
 have HR : (q : Int) % (8 * (n : Int)) = (r : Int) := by rw [← hr, Int.natCast_emod]; simp
 clear hr
 go_enter Tryz.func139, Tryz.ntmps139
 go_wp2_with fail
 go_ret2
 exact ⟨ret2 (vi (by omega)) (vi (pow8 (Nat.mod_lt _ (by decide)))), rfl⟩
def nvB (n : Nat) : Value := .int .i64 (n : Int)
theorem one_nv (l : List Nat) : One (l.map nvB) := one_map _ (fun _ => rfl) l
theorem natsT : ET Tryz.prog 82 3 (.int .i64 0) 8 := ⟨Tryz.underlying82, by kernel_rfl⟩
theorem bits_take (l : List UInt8) (n : Nat) {k : Nat} (h : k < 3) : (bitsL l n).take (k + 1) = (bitsL l n).take k ++ [kw l k % n] := by
 rw [List.take_succ_eq_append_getElem (show k < (bitsL l n).length from h), bitsL_at]
end Go.Proofs.YtcpkhhbbjimdaaaGreatDoor.Blm
namespace Go.Proofs.YtcpkhhbbjimdaaaGreatDoor.Blm
open Go.RowKit Crc
def kl (l : List ByteArray) : List (List UInt8) := l.map fun s => s.data.toList
theorem kl_len (l : List ByteArray) : (kl l).length = l.length := by simp [kl]
theorem kl_at (l : List ByteArray) (k : Nat) (h : k < l.length) : (kl l)[k]? = some l[k].data.toList := by simp [kl, h]
theorem ofInt8u (c : UInt8) : BitVec.ofInt 8 (c.toNat : Int) = c.toBitVec := by
 rw [BitVec.ofInt_natCast]
 apply BitVec.eq_of_toNat_eq
 simp
theorem or_u8 (a b : UInt8) : bits .or .u8 (a.toNat : Int) (b.toNat : Int) = ((a ||| b).toNat : Int) := by
 show IntKind.u8.wrap ((BitVec.ofInt 8 (a.toNat : Int) ||| BitVec.ofInt 8 (b.toNat : Int)).toNat : Int) = _
 rw [ofInt8u, ofInt8u, IntKind.wrap_u8]
 have := (a ||| b).toNat_lt
 have e2 : (a.toBitVec ||| b.toBitVec).toNat = (a ||| b).toNat := rfl
 rw [e2]
 omega
theorem and_u8 (a b : UInt8) : bits .and .u8 (a.toNat : Int) (b.toNat : Int) = ((a &&& b).toNat : Int) := by
 show IntKind.u8.wrap ((BitVec.ofInt 8 (a.toNat : Int) &&& BitVec.ofInt 8 (b.toNat : Int)).toNat : Int) = _
 rw [ofInt8u, ofInt8u, IntKind.wrap_u8]
 have := (a &&& b).toNat_lt
 have e2 : (a.toBitVec &&& b.toBitVec).toNat = (a &&& b).toNat := rfl
 rw [e2]
 omega
theorem pow_u8 : ∀ {r : Nat}, r < 8 → ((2 ^ r : Nat) : Int) = ((UInt8.ofNat (2 ^ r)).toNat : Int) := by decide
theorem and_bit (a : UInt8) {r : Nat} (h : r < 8) : (bits .and .u8 (a.toNat : Int) ((2 ^ r : Nat) : Int) == 0) = !bt a r := by
 rw [pow_u8 h, and_u8]
 have e : (a &&& UInt8.ofNat (2 ^ r)).toNat = a.toNat &&& 2 ^ r := by
  rw [UInt8.toNat_and, UInt8.toNat_ofNat', Nat.mod_eq_of_lt (Nat.pow_lt_pow_right (by decide) h)]
 rw [e]
 unfold bt
 by_cases hb : a.toNat.testBit r = true
 ·have h1 : a.toNat &&& 2 ^ r ≠ 0 := fun h0 => by
   have h2 : (a.toNat &&& 2 ^ r).testBit r = true := by rw [Nat.testBit_and, hb, Nat.testBit_two_pow]; simp
   rw [h0] at h2
   simp at h2
  rw [hb, beq_eq_false_iff_ne.2 (by omega)]
  rfl
 ·have h1 : a.toNat &&& 2 ^ r = 0 := by
   apply Nat.eq_of_testBit_eq
   intro i
   rw [Nat.testBit_and, Nat.testBit_two_pow, Nat.zero_testBit]
   by_cases hi : r = i
   ·subst hi; rw [Bool.not_eq_true] at hb; rw [hb]; simp
   ·rw [decide_eq_false hi, Bool.and_false]
  rw [h1, Bool.not_eq_true] at *
  rw [hb]
  rfl
def Set_ (l : List ByteArray) (n k j : Nat) (f : List UInt8) : Prop :=
 f.length = n ∧ ∀ i, bitAt f i = (setIn ((kl l).take k) (8 * n) i || ((bitsL ((kl l).getD k []) (8 * n)).take j).contains i)
theorem Set_.zero (l : List ByteArray) (n : Nat) : Set_ l n 0 0 (List.replicate n 0) := by
 refine ⟨by simp, fun i => ?_⟩
 rw [bitAt_zeros]
 simp [setIn]
theorem Set_.next {l : List ByteArray} {n k : Nat} {f : List UInt8} (h : Set_ l n k 3 f) (hk : k < l.length) : Set_ l n (k + 1) 0 f := by
 refine ⟨h.1, fun i => ?_⟩
 rw [h.2 i, setIn_snoc (kl_at l k hk), List.take_zero, List.contains_nil, List.getD_eq_getElem?_getD, kl_at l k hk, Option.getD_some, List.take_of_length_le (show (bitsL l[k].data.toList (8 * n)).length ≤ 3 from Nat.le_refl _), Bool.or_false]
theorem Set_.step {l : List ByteArray} {n k j q : Nat} {f : List UInt8} (h : Set_ l n k j f) (hk : k < l.length) (hj : j < 3) (hn : 0 < n) (hq : kw l[k].data.toList j = q) :
  Set_ l n k (j + 1) (f.set (q % (8 * n) / 8) (f.getD (q % (8 * n) / 8) 0 ||| UInt8.ofNat (2 ^ (q % (8 * n) % 8)))) := by
 have hlt : q % (8 * n) < 8 * f.length := by rw [h.1]; exact Nat.mod_lt _ (by omega)
 refine ⟨by rw [List.length_set]; exact h.1, fun i => ?_⟩
 rw [bitAt_set hlt, h.2 i, List.getD_eq_getElem?_getD, kl_at l k hk, Option.getD_some, bits_take _ _ hj, hq, Bool.or_assoc]
 congr 1
 generalize (bitsL l[k].data.toList (8 * n)).take j = L
 generalize q % (8 * n) = m
 rw [Bool.eq_iff_iff]
 simp only [Bool.or_eq_true, List.contains_eq_mem, decide_eq_true_eq, List.mem_append, List.mem_singleton]
 exact or_congr Iff.rfl eq_comm
theorem Set_.all {l : List ByteArray} {f : List UInt8} (h : Set_ l (size (kl l)) l.length 0 f) : f = mkB (kl l) := by
 refine mkB_of h.1 fun i hi => ?_
 rw [h.2 i, List.take_of_length_le (by rw [kl_len]; exact Nat.le_refl _)]
 simp
theorem wpList_max {P : Program} {ops : Array Oper} {rest : List Oper} {o : Oper} {a : Act} {w : World} {Q : Exit → Act → World → Prop} (hgd : o.guard = none) (x y : Operand) (ts : Array TypeId)
  (ho : o.op = .call { callee := .builtin .max, args := #[x, y], argTypes := ts }) (p q r : Int) (hx : a.eval x = .int .i64 p) (hy : a.eval y = .int .i64 q) (hr : (if q > p then q else p) = r)
  (h : wpList P ops Q rest (a.put o.dst (.int .i64 r)) w) : wpList P ops Q (o :: rest) a w := by
 refine wpList_plain hgd fun K hK => ?_
 unfold Oper.wp execOp
 simp only [ho, resolve, invoke, builtin, Sem.run_bind, Sem.run_pure, Result.andThen_ok, List.map_toArray, List.map_cons, List.map_nil, hx, hy, run_max_int2, hr]
 exact hK _ _ h
theorem make_any (x : Value) (l : List ByteArray) (w : World) (hx : Rd w w.heap.size x (l.map sv)) (hl : l.length ≤ 1000000000000) (hs : ∀ s ∈ l, s.size ≤ 140737488351232) :
  Calls Tryz.prog 129 #[x] w fun e w' => (∃ v, e = .returned v ∧ Ow w' w.heap.size 5 v ((mkB (kl l)).map bv)) ∧ Below w.heap.size w w' := by
 obtain ⟨A, c, rfl, hc, hm⟩ := hx.shapeM
 have HS := Lib.hid hs
 clear hs
 have HM : Hid (∀ f, Set_ l (size (kl l)) l.length 0 f → f = mkB (kl l)) := Lib.hid fun f => Set_.all
 obtain ⟨n, hn⟩ : ∃ n, size (kl l) = n := ⟨_, rfl⟩
 rw [hn] at HM
 have HX : Hid ((if (1 : Int) > (l.length : Int) then (1 : Int) else (l.length : Int)) = n) := by
  refine Lib.hid ?_
  rw [← hn]
  unfold size
  rw [kl_len]
  split <;> split <;> omega
 have hn1 : 0 < n := hn ▸ size_pos _
 have hn2 : n ≤ 1000000000001 := by
  rw [← hn]
  unfold size
  rw [kl_len]
  split <;> omega
 clear hn
 go_enter Tryz.func129, Tryz.ntmps129
 go_wp2_with (first | (refine wpList_max rfl (.tmp 11) (.const (.int .i64 1)) _ rfl (l.length : Int) 1 (n : Int) rfl rfl HX.out ?_) | (refine wpList_makeB bytesT rfl (.tmp 12) (.tmp 12) rfl n rfl rfl (by omega) ?_; intro w1 ho hb))
 go_loopw [5, 7, 8, 9, 16] (fun _ _ _ _ i wr => ∃ (k : Nat) (f : List UInt8), k ≤ l.length ∧ i = .int .i64 k ∧ Set_ l n k 0 f ∧ Ow wr w.heap.size 5 (.slice (some ⟨w.heap.size, 0, none⟩) n n) (f.map bv) ∧ Below w.heap.size w wr) (fun _ _ _ _ i _ => l.length - (intOf i).toNat)
 case atStart => exact ⟨0, _, by omega, rfl, Set_.zero l n, ho, hb⟩
 case round =>
  clear ho hb
  obtain ⟨k, f, hk, rfl, hset, ho, hb⟩ := hrel
  by_cases hlt : k < l.length
  ·obtain ⟨b, off, rfl, hbb, hcell⟩ := (hx.up hb).cellM (by omega)
   have hck := hcell k hlt
   simp only [sv] at hck
   clear hcell
   have hsz := HS.out _ (List.getElem_mem hlt)
   have HQ : Hid (∀ j q, kw l[k].data.toList j = q → ∀ g, Set_ l n k j g → j < 3 → Set_ l n k (j + 1) (g.set (q % (8 * n) / 8) (g.getD (q % (8 * n) / 8) 0 ||| UInt8.ofNat (2 ^ (q % (8 * n) % 8))))) := Lib.hid fun j q hq g hg hj => hg.step hlt hj hn1 hq
   have HK : Hid (∀ g, Set_ l n k 3 g → Set_ l n (k + 1) 0 g) := Lib.hid fun g hg => hg.next hlt
   generalize l[k] = s at hck hsz HQ
   have HSET := Lib.hid hset
   have HO := Lib.hid ho
   have HB := Lib.hid hb
   clear hset ho hb
   go_wp2_with fail
   refine (words_any s _ hsz).mono ?_
   rintro e w2 ⟨rfl, hb2⟩
   have HO2 := Lib.hid (HO.out.below hb2)
   have HB2 := Lib.hid (bwstep HB.out hb2)
   clear hb2 HO HB hck
   generalize s.data.toList = sl at HQ ⊢
   obtain ⟨wo, hwo⟩ : ∃ wo, wo = wr := ⟨_, rfl⟩
   subst hwo
   obtain ⟨p7, hp7⟩ : ∃ p7, p7 = u7 := ⟨_, rfl⟩
   subst hp7
   obtain ⟨p8, hp8⟩ : ∃ p8, p8 = u8 := ⟨_, rfl⟩
   subst hp8
   obtain ⟨p9, hp9⟩ : ∃ p9, p9 = u9 := ⟨_, rfl⟩
   subst hp9
   go_wp2_with fail
   go_loopw [7, 8, 9, 22] (fun _ _ _ i wr => ∃ (j : Nat) (g : List UInt8), j ≤ 3 ∧ i = .int .i64 j ∧ Set_ l n k j g ∧ Ow wr w.heap.size 5 (.slice (some ⟨w.heap.size, 0, none⟩) n n) (g.map bv) ∧ Below w.heap.size w wr) (fun _ _ _ i _ => 3 - (intOf i).toNat)
   case atStart => exact ⟨0, f, by omega, rfl, HSET.out, HO2.out, HB2.out⟩
   case round =>
    clear HSET HO2 HB2
    obtain ⟨j, g, hj, rfl, hset, ho, hb⟩ := hrel
    by_cases hlt3 : j < 3
    ·have HA := fun w => words_idx w sl hlt3
     have hq := kw_lt sl j
     have HG : Hid (Set_ l n k (j + 1) (g.set (kw sl j % (8 * n) / 8) (g.getD (kw sl j % (8 * n) / 8) 0 ||| UInt8.ofNat (2 ^ (kw sl j % (8 * n) % 8))))) := Lib.hid (HQ.out j _ rfl g hset hlt3)
     have hgl := hset.1
     generalize kw sl j = q at HA hq HG
     generalize wordsA sl = W at HA ⊢
     have hpl := place_any (some ⟨w.heap.size, 0, none⟩) n n q wr hn1 (by omega) hq
     have hlt8 : q % (8 * n) < 8 * n := Nat.mod_lt _ (by omega)
     generalize q % (8 * n) = r at hpl hlt8 HG
     have hr8 : r / 8 < n := by omega
     have hr9 : r % 8 < 8 := Nat.mod_lt _ (by decide)
     rw [pow_u8 hr9] at hpl
     generalize UInt8.ofNat (2 ^ (r % 8)) = m at hpl HG
     generalize hrr : r / 8 = t at hpl HG hr8
     clear hrr hlt8 hr9
     obtain ⟨gb, hgb, hgB, hgs, hgc, hgf, hst⟩ := ho.at_ (k := t) (by rw [List.length_map]; omega)
     have hgb' : w.heap.size = gb := by injection hgb with hgb; injection hgb
     subst hgb'
     have hd : g.getD t 0 = g[t]'(by omega) := by simp [List.getD, show t < g.length by omega]
     rw [hd] at HG
     have hgc' : wr.cell? ⟨w.heap.size, t, none⟩ = some (.int .u8 ((g[t]'(by omega)).toNat : Int)) := by rw [hgc, List.getElem_map]; rfl
     have HST := Lib.hid hst
     clear hst hgb hgc hd hset ho
     have HB := Lib.hid hb
     clear hb
     generalize g[t]'(by omega) = b0 at HG hgc'
     have HOR := Lib.hid (or_u8 b0 m)
     have hm9 := m.toNat_lt
     go_wp2_with fail
     refine hpl.mono ?_
     rintro e w' ⟨rfl, rfl⟩
     go_wp2_with fail
     rw [HOR.out]
     have HO : Hid (Ow (wr.setCell ⟨w.heap.size, t, none⟩ (.int .u8 ((b0 ||| m).toNat : Int))) w.heap.size 5 (.slice (some ⟨w.heap.size, 0, none⟩) n n) ((g.set t (b0 ||| m)).map bv)) := Lib.hid (by rw [List.map_set]; exact HST.out (bv (b0 ||| m)))
     go_roundw
     case rel => exact ⟨j + 1, _, by omega, by go_num, HG.out, HO.out, HB.out.setCell (p := ⟨w.heap.size, t, none⟩) (Nat.le_refl _) _⟩
     case measure => simp [intOf]; omega
    ·obtain rfl : j = 3 := by omega
     have HSET := Lib.hid (HK.out g hset)
     have HO := Lib.hid ho
     have HB := Lib.hid hb
     clear hset ho hb
     go_wp2_with fail
     go_roundw
     case rel => exact ⟨k + 1, g, by omega, by go_num, HSET.out, HO.out, HB.out⟩
     case measure => simp [intOf]; omega
  ·obtain rfl : k = l.length := by omega
   have HF := Lib.hid (HM.out _ hset)
   go_wp2_with fail
   go_ret
   rw [← HF.out]
   exact ⟨⟨_, rfl, ho⟩, hb⟩
def All_ (f key : List UInt8) (j : Nat) : Prop := ∀ i ∈ (bitsL key (8 * f.length)).take j, bitAt f i = true
theorem All_.zero (f key : List UInt8) : All_ f key 0 := by intro i hi; simp at hi
theorem All_.step {f key : List UInt8} {j : Nat} (h : All_ f key j) (hj : j < 3) (hb : bitAt f (kw key j % (8 * f.length)) = true) : All_ f key (j + 1) := by
 intro i hi
 rw [bits_take _ _ hj, List.mem_append, List.mem_singleton] at hi
 rcases hi with hi | rfl
 ·exact h i hi
 ·exact hb
theorem All_.has {f key : List UInt8} (h : All_ f key 3) : hasB f key = true := hasB_iff.2 (.inr fun i hi => h i (by rwa [List.take_of_length_le (show (bitsL key (8 * f.length)).length ≤ 3 from Nat.le_refl _)]))
theorem has_not {f key : List UInt8} {j : Nat} (hf : f ≠ []) (hj : j < 3) (hb : bitAt f (kw key j % (8 * f.length)) = false) : hasB f key = false := by
 rw [← Bool.not_eq_true]
 intro h
 rcases hasB_iff.1 h with h | h
 ·exact hf h
 ·have hm : kw key j % (8 * f.length) ∈ bitsL key (8 * f.length) := by
   have e := bitsL_at key (8 * f.length) (k := j) hj
   rw [← e]
   exact List.getElem_mem _
  rw [h _ hm] at hb
  cases hb
theorem has_any (x : Value) (f : List UInt8) (s : ByteArray) (B : Nat) (w : World) (hB : B ≤ w.heap.size) (hx : Rd w B x (f.map bv)) (hl : f.length ≤ 140737488351232) (hs : s.size ≤ 140737488351232) :
  Calls Tryz.prog 123 #[x, .string s] w fun e w' => e = .returned (.bool (hasB f s.data.toList)) ∧ Below w.heap.size w w' := by
 obtain ⟨A, c, rfl, hc, hm⟩ := hx.shapeM
 by_cases h0 : f = []
 ·subst h0
  have HR : Hid (hasB [] s.data.toList = true) := Lib.hid (hasB_iff.2 (.inl rfl))
  go_enter Tryz.func123, Tryz.ntmps123
  go_wp2_with fail
  go_ret
  rw [HR.out]
  exact ⟨rfl, Below.refl _ _⟩
 have hp : 0 < f.length := List.length_pos_iff.2 h0
 have hz : ((f.length : Int) == 0) = false := by rw [beq_eq_false_iff_ne]; omega
 generalize hsl : s.data.toList = sl
 have HL := Lib.hid hsl
 clear hsl
 have HN : Hid (∀ j, j < 3 → bitAt f (kw sl j % (8 * f.length)) = false → hasB f sl = false) := Lib.hid fun j hj hb => has_not h0 hj hb
 clear h0
 go_enter Tryz.func123, Tryz.ntmps123
 go_wp2_with fail
 refine (words_any s _ hs).mono ?_
 rintro e w1 ⟨rfl, hb1⟩
 rw [HL.out]
 go_wp2_with fail
 go_loopw [6, 7, 8, 14] (fun _ _ _ i wr => ∃ j : Nat, j ≤ 3 ∧ i = .int .i64 j ∧ All_ f sl j ∧ Below w.heap.size w wr) (fun _ _ _ i _ => 3 - (intOf i).toNat)
 case atStart => exact ⟨0, by omega, rfl, All_.zero _ _, hb1⟩
 case round =>
  clear hb1
  obtain ⟨j, hj, rfl, hall, hb⟩ := hrel
  by_cases hlt3 : j < 3
  ·have HA := fun w => words_idx w sl hlt3
   have hq := kw_lt sl j
   have HG : Hid (bitAt f (kw sl j % (8 * f.length)) = true → All_ f sl (j + 1)) := Lib.hid fun h => hall.step hlt3 h
   have HM : Hid (bitAt f (kw sl j % (8 * f.length)) = false → hasB f sl = false) := Lib.hid (HN.out j hlt3)
   clear hall
   generalize kw sl j = q at HA hq HG HM
   generalize wordsA sl = W at HA ⊢
   have hpl := place_any A f.length c q wr hp hl hq
   have hlt8 : q % (8 * f.length) < 8 * f.length := Nat.mod_lt _ (by omega)
   generalize q % (8 * f.length) = r at hpl hlt8 HG HM
   have hr8 : r / 8 < f.length := by omega
   have hr9 : r % 8 < 8 := Nat.mod_lt _ (by decide)
   obtain ⟨b, off, rfl, hbb, hcell⟩ := (hx.below (hb.mono hB)).cellM hp
   have hck := hcell (r / 8) hr8
   simp only [bv] at hck
   clear hcell
   have hbit : bitAt f r = bt (f[r / 8]) (r % 8) := by unfold bitAt; simp [List.getD, hr8]
   rw [hbit] at HG HM
   have HOR := Lib.hid (and_bit f[r / 8] hr9)
   generalize f[r / 8] = b0 at hck hbit HG HM HOR
   clear hbit
   generalize hrr : r / 8 = t at hpl hr8 hck
   clear hrr hlt8
   have h2 : 2 ^ (r % 8) < 256 := Nat.pow_lt_pow_right (a := 2) (n := 8) (by decide) hr9
   generalize 2 ^ (r % 8) = m at hpl HOR h2
   generalize hbt : bt b0 (r % 8) = bb at HG HM HOR
   clear hbt
   have HB := Lib.hid hb
   clear hb
   go_wp2_with fail
   refine hpl.mono ?_
   rintro e w' ⟨rfl, rfl⟩
   cases bb
   ·have HX : (bits .and .u8 (b0.toNat : Int) (m : Int) == 0) = true := HOR.out
    clear HOR HG
    go_wp2_with fail
    go_ret
    rw [HM.out trivial]
    exact ⟨rfl, HB.out⟩
   ·have HX : (bits .and .u8 (b0.toNat : Int) (m : Int) == 0) = false := HOR.out
    clear HOR HM
    go_wp2_with fail
    go_roundw
    case rel => exact ⟨j + 1, by omega, by go_num, HG.out (by first | trivial | rfl), HB.out⟩
    case measure => simp [intOf]; omega
  ·obtain rfl : j = 3 := by omega
   have HF := Lib.hid hall.has
   clear hall
   go_wp2_with fail
   go_ret
   rw [HF.out]
   exact ⟨rfl, hb⟩
end Go.Proofs.YtcpkhhbbjimdaaaGreatDoor.Blm
namespace Go.Proofs.YtcpkhhbbjimdaaaGreatDoor.Blm
open Go.RowKit Crc
end Go.Proofs.YtcpkhhbbjimdaaaGreatDoor.Blm
namespace Go.Proofs.YtcpkhhbbjimdaaaGreatDoor.Blm
open Go.RowKit Crc
def tv (b : Bool) : Value := .bool b
def SetS (l : List ByteArray) (n k j : Nat) (S : List Bool) : Prop :=
 S.length = 8 * n ∧ ∀ i, i < 8 * n → S.getD i false = (setIn ((kl l).take k) (8 * n) i || ((bitsL ((kl l).getD k []) (8 * n)).take j).contains i)
theorem SetS.zero (l : List ByteArray) (n : Nat) : SetS l n 0 0 (List.replicate (8 * n) false) := by
 refine ⟨by simp, fun i hi => ?_⟩
 rw [List.getD_eq_getElem?_getD, List.getElem?_replicate, if_pos hi]
 simp [setIn]
theorem SetS.next {l : List ByteArray} {n k : Nat} {S : List Bool} (h : SetS l n k 3 S) (hk : k < l.length) : SetS l n (k + 1) 0 S := by
 refine ⟨h.1, fun i hi => ?_⟩
 rw [h.2 i hi, setIn_snoc (kl_at l k hk), List.take_zero, List.contains_nil, List.getD_eq_getElem?_getD, kl_at l k hk, Option.getD_some, List.take_of_length_le (show (bitsL l[k].data.toList (8 * n)).length ≤ 3 from Nat.le_refl _), Bool.or_false]
theorem SetS.step {l : List ByteArray} {n k j q : Nat} {S : List Bool} (h : SetS l n k j S) (hk : k < l.length) (hj : j < 3) (hn : 0 < n) (hq : kw l[k].data.toList j = q) : SetS l n k (j + 1) (S.set (q % (8 * n)) true) := by
 have hlt : q % (8 * n) < S.length := by rw [h.1]; exact Nat.mod_lt _ (by omega)
 refine ⟨by rw [List.length_set]; exact h.1, fun i hi => ?_⟩
 have e := h.2 i hi
 rw [List.getD_eq_getElem?_getD] at e ⊢
 rw [List.getD_eq_getElem?_getD, kl_at l k hk, Option.getD_some] at e ⊢
 rw [bits_take _ _ hj, hq, List.contains_append, ← Bool.or_assoc, ← e]
 by_cases hi2 : q % (8 * n) = i
 ·subst hi2
  rw [List.getElem?_set_self hlt]
  simp
 ·rw [List.getElem?_set_ne hi2]
  have hne : [q % (8 * n)].contains i = false := by simp; omega
  rw [hne, Bool.or_false]
theorem SetS.all {l : List ByteArray} {n : Nat} {S : List Bool} (hn : n = size (kl l)) (h : SetS l n l.length 0 S) : filterS (fun i => S.getD i false) n = mkB (kl l) := by
 subst hn
 refine mkB_of (filterS_len _ _) fun i hi => ?_
 rw [filterS_bit _ hi, h.2 i hi, List.take_of_length_le (by rw [kl_len]; exact Nat.le_refl _)]
 simp
end Go.Proofs.YtcpkhhbbjimdaaaGreatDoor.Blm
