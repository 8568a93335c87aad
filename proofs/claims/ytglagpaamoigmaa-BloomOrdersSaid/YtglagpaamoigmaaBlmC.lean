/- The contracts of package bloom: Make, Has. -/
import Derived.Test.YtglagpaamoigmaaBlm
namespace Go.Proofs.Ytglagpaamoigmaa.Blm
open Go.RowKit Crc

/-- the keys' bytes -/
def kl (l : List ByteArray) : List (List UInt8) := l.map fun s => s.data.toList
theorem kl_len (l : List ByteArray) : (kl l).length = l.length := by simp [kl]
theorem kl_at (l : List ByteArray) (k : Nat) (h : k < l.length) : (kl l)[k]? = some l[k].data.toList := by simp [kl, h]
theorem ofInt8u (c : UInt8) : BitVec.ofInt 8 (c.toNat : Int) = c.toBitVec := by
  rw [BitVec.ofInt_natCast]
  apply BitVec.eq_of_toNat_eq
  simp
theorem or_u8 (a b : UInt8) : bits .or .u8 (a.toNat : Int) (b.toNat : Int) = ((a ||| b).toNat : Int) := by
  show IntKind.u8.wrap ((BitVec.ofInt 8 (a.toNat : Int) ||| BitVec.ofInt 8 (b.toNat : Int)).toNat : Int) = _
  rw [ofInt8u, ofInt8u, IntKind.wrap_u8]
  have := (a ||| b).toNat_lt
  have e2 : (a.toBitVec ||| b.toBitVec).toNat = (a ||| b).toNat := rfl
  rw [e2]
  omega
theorem and_u8 (a b : UInt8) : bits .and .u8 (a.toNat : Int) (b.toNat : Int) = ((a &&& b).toNat : Int) := by
  show IntKind.u8.wrap ((BitVec.ofInt 8 (a.toNat : Int) &&& BitVec.ofInt 8 (b.toNat : Int)).toNat : Int) = _
  rw [ofInt8u, ofInt8u, IntKind.wrap_u8]
  have := (a &&& b).toNat_lt
  have e2 : (a.toBitVec &&& b.toBitVec).toNat = (a &&& b).toNat := rfl
  rw [e2]
  omega
theorem pow_u8 : ∀ {r : Nat}, r < 8 → ((2 ^ r : Nat) : Int) = ((UInt8.ofNat (2 ^ r)).toNat : Int) := by decide
theorem and_bit (a : UInt8) {r : Nat} (h : r < 8) : (bits .and .u8 (a.toNat : Int) ((2 ^ r : Nat) : Int) == 0) = !bt a r := by
  rw [pow_u8 h, and_u8]
  have e : (a &&& UInt8.ofNat (2 ^ r)).toNat = a.toNat &&& 2 ^ r := by
    rw [UInt8.toNat_and, UInt8.toNat_ofNat', Nat.mod_eq_of_lt (Nat.pow_lt_pow_right (by decide) h)]
  rw [e]
  unfold bt
  by_cases hb : a.toNat.testBit r = true
  · have h1 : a.toNat &&& 2 ^ r ≠ 0 := fun h0 => by
      have h2 : (a.toNat &&& 2 ^ r).testBit r = true := by rw [Nat.testBit_and, hb, Nat.testBit_two_pow]; simp
      rw [h0] at h2
      simp at h2
    rw [hb, beq_eq_false_iff_ne.2 (by omega)]
    rfl
  · have h1 : a.toNat &&& 2 ^ r = 0 := by
      apply Nat.eq_of_testBit_eq
      intro i
      rw [Nat.testBit_and, Nat.testBit_two_pow, Nat.zero_testBit]
      by_cases hi : r = i
      · subst hi; rw [Bool.not_eq_true] at hb; rw [hb]; simp
      · rw [decide_eq_false hi, Bool.and_false]
    rw [h1, Bool.not_eq_true] at *
    rw [hb]
    rfl
/-- what is set behind k keys and j words of the next -/
def Set_ (l : List ByteArray) (n k j : Nat) (f : List UInt8) : Prop :=
  f.length = n ∧ ∀ i, bitAt f i = (setIn ((kl l).take k) (8 * n) i || ((bitsL ((kl l).getD k []) (8 * n)).take j).contains i)
theorem Set_.zero (l : List ByteArray) (n : Nat) : Set_ l n 0 0 (List.replicate n 0) := by
  refine ⟨by simp, fun i => ?_⟩
  rw [bitAt_zeros]
  simp [setIn]
theorem Set_.next {l : List ByteArray} {n k : Nat} {f : List UInt8} (h : Set_ l n k 3 f) (hk : k < l.length) : Set_ l n (k + 1) 0 f := by
  refine ⟨h.1, fun i => ?_⟩
  rw [h.2 i, setIn_snoc (kl_at l k hk), List.take_zero, List.contains_nil, List.getD_eq_getElem?_getD, kl_at l k hk, Option.getD_some, List.take_of_length_le (show (bitsL l[k].data.toList (8 * n)).length ≤ 3 from Nat.le_refl _), Bool.or_false]
theorem Set_.step {l : List ByteArray} {n k j q : Nat} {f : List UInt8} (h : Set_ l n k j f) (hk : k < l.length) (hj : j < 3) (hn : 0 < n) (hq : kw l[k].data.toList j = q) :
    Set_ l n k (j + 1) (f.set (q % (8 * n) / 8) (f.getD (q % (8 * n) / 8) 0 ||| UInt8.ofNat (2 ^ (q % (8 * n) % 8)))) := by
  have hlt : q % (8 * n) < 8 * f.length := by rw [h.1]; exact Nat.mod_lt _ (by omega)
  refine ⟨by rw [List.length_set]; exact h.1, fun i => ?_⟩
  rw [bitAt_set hlt, h.2 i, List.getD_eq_getElem?_getD, kl_at l k hk, Option.getD_some, bits_take _ _ hj, hq, Bool.or_assoc]
  congr 1
  generalize (bitsL l[k].data.toList (8 * n)).take j = L
  generalize q % (8 * n) = m
  rw [Bool.eq_iff_iff]
  simp only [Bool.or_eq_true, List.contains_eq_mem, decide_eq_true_eq, List.mem_append, List.mem_singleton]
  exact or_congr Iff.rfl eq_comm
theorem Set_.all {l : List ByteArray} {f : List UInt8} (h : Set_ l (size (kl l)) l.length 0 f) : f = mkB (kl l) := by
  refine mkB_of h.1 fun i hi => ?_
  rw [h.2 i, List.take_of_length_le (by rw [kl_len]; exact Nat.le_refl _)]
  simp

/-- max of two ints -/
theorem wpList_max {P : Program} {ops : Array Oper} {rest : List Oper} {o : Oper} {a : Act} {w : World} {Q : Exit → Act → World → Prop} (hgd : o.guard = none) (x y : Operand) (ts : Array TypeId)
    (ho : o.op = .call { callee := .builtin .max, args := #[x, y], argTypes := ts }) (p q r : Int) (hx : a.eval x = .int .i64 p) (hy : a.eval y = .int .i64 q) (hr : (if q > p then q else p) = r)
    (h : wpList P ops Q rest (a.put o.dst (.int .i64 r)) w) : wpList P ops Q (o :: rest) a w := by
  refine wpList_plain hgd fun K hK => ?_
  unfold Oper.wp execOp
  simp only [ho, resolve, invoke, builtin, Sem.run_bind, Sem.run_pure, Result.andThen_ok, List.map_toArray, List.map_cons, List.map_nil, hx, hy, run_max_int2, hr]
  exact hK _ _ h

set_option maxHeartbeats 2000000 in
set_option maxRecDepth 100000 in
theorem make_any (x : Value) (l : List ByteArray) (w : World) (hx : Rd w w.heap.size x (l.map sv)) (hl : l.length ≤ 1000000000000) (hs : ∀ s ∈ l, s.size ≤ 140737488351232) :
    Calls Try.prog 10 #[x] w fun e w' => (∃ v, e = .returned v ∧ Ow w' w.heap.size 5 v ((mkB (kl l)).map bv)) ∧ Below w.heap.size w w' := by
  obtain ⟨A, c, rfl, hc, hm⟩ := hx.shapeM
  have HS := Lib.hid hs
  clear hs
  have HM : Hid (∀ f, Set_ l (size (kl l)) l.length 0 f → f = mkB (kl l)) := Lib.hid fun f => Set_.all
  obtain ⟨n, hn⟩ : ∃ n, size (kl l) = n := ⟨_, rfl⟩
  rw [hn] at HM
  have HX : Hid ((if (1 : Int) > (l.length : Int) then (1 : Int) else (l.length : Int)) = n) := by
    refine Lib.hid ?_
    rw [← hn]
    unfold size
    rw [kl_len]
    split <;> split <;> omega
  have hn1 : 0 < n := hn ▸ size_pos _
  have hn2 : n ≤ 1000000000001 := by
    rw [← hn]
    unfold size
    rw [kl_len]
    split <;> omega
  clear hn
  go_enter Try.func10, Try.ntmps10
  go_wp2_with (first | (refine wpList_max rfl (.tmp 11) (.const (.int .i64 1)) _ rfl (l.length : Int) 1 (n : Int) rfl rfl HX.out ?_) | (refine wpList_makeB bytesT rfl (.tmp 12) (.tmp 12) rfl n rfl rfl (by omega) ?_; intro w1 ho hb))
  go_loopw [5, 7, 8, 9, 16] (fun _ _ _ _ i wr => ∃ (k : Nat) (f : List UInt8), k ≤ l.length ∧ i = .int .i64 k ∧ Set_ l n k 0 f ∧ Ow wr w.heap.size 5 (.slice (some ⟨w.heap.size, 0, none⟩) n n) (f.map bv) ∧ Below w.heap.size w wr) (fun _ _ _ _ i _ => l.length - (intOf i).toNat)
  case atStart => exact ⟨0, _, by omega, rfl, Set_.zero l n, ho, hb⟩
  case round =>
    clear ho hb
    obtain ⟨k, f, hk, rfl, hset, ho, hb⟩ := hrel
    by_cases hlt : k < l.length
    · obtain ⟨b, off, rfl, hbb, hcell⟩ := (hx.up hb).cellM (by omega)
      have hck := hcell k hlt
      simp only [sv] at hck
      clear hcell
      have hsz := HS.out _ (List.getElem_mem hlt)
      have HQ : Hid (∀ j q, kw l[k].data.toList j = q → ∀ g, Set_ l n k j g → j < 3 → Set_ l n k (j + 1) (g.set (q % (8 * n) / 8) (g.getD (q % (8 * n) / 8) 0 ||| UInt8.ofNat (2 ^ (q % (8 * n) % 8))))) := Lib.hid fun j q hq g hg hj => hg.step hlt hj hn1 hq
      have HK : Hid (∀ g, Set_ l n k 3 g → Set_ l n (k + 1) 0 g) := Lib.hid fun g hg => hg.next hlt
      generalize l[k] = s at hck hsz HQ
      have HSET := Lib.hid hset
      have HO := Lib.hid ho
      have HB := Lib.hid hb
      clear hset ho hb
      go_wp2_with fail
      refine (words_any s _ hsz).mono ?_
      rintro e w2 ⟨rfl, hb2⟩
      have HO2 := Lib.hid (HO.out.below hb2)
      have HB2 := Lib.hid (bwstep HB.out hb2)
      clear hb2 HO HB hck
      generalize s.data.toList = sl at HQ ⊢
      obtain ⟨wo, hwo⟩ : ∃ wo, wo = wr := ⟨_, rfl⟩
      subst hwo
      obtain ⟨p7, hp7⟩ : ∃ p7, p7 = u7 := ⟨_, rfl⟩
      subst hp7
      obtain ⟨p8, hp8⟩ : ∃ p8, p8 = u8 := ⟨_, rfl⟩
      subst hp8
      obtain ⟨p9, hp9⟩ : ∃ p9, p9 = u9 := ⟨_, rfl⟩
      subst hp9
      go_wp2_with fail
      go_loopw [7, 8, 9, 22] (fun _ _ _ i wr => ∃ (j : Nat) (g : List UInt8), j ≤ 3 ∧ i = .int .i64 j ∧ Set_ l n k j g ∧ Ow wr w.heap.size 5 (.slice (some ⟨w.heap.size, 0, none⟩) n n) (g.map bv) ∧ Below w.heap.size w wr) (fun _ _ _ i _ => 3 - (intOf i).toNat)
      case atStart => exact ⟨0, f, by omega, rfl, HSET.out, HO2.out, HB2.out⟩
      case round =>
        clear HSET HO2 HB2
        obtain ⟨j, g, hj, rfl, hset, ho, hb⟩ := hrel
        by_cases hlt3 : j < 3
        · have HA := fun w => words_idx w sl hlt3
          have hq := kw_lt sl j
          have HG : Hid (Set_ l n k (j + 1) (g.set (kw sl j % (8 * n) / 8) (g.getD (kw sl j % (8 * n) / 8) 0 ||| UInt8.ofNat (2 ^ (kw sl j % (8 * n) % 8))))) := Lib.hid (HQ.out j _ rfl g hset hlt3)
          have hgl := hset.1
          generalize kw sl j = q at HA hq HG
          generalize wordsA sl = W at HA ⊢
          have hpl := place_any (some ⟨w.heap.size, 0, none⟩) n n q wr hn1 (by omega) hq
          have hlt8 : q % (8 * n) < 8 * n := Nat.mod_lt _ (by omega)
          generalize q % (8 * n) = r at hpl hlt8 HG
          have hr8 : r / 8 < n := by omega
          have hr9 : r % 8 < 8 := Nat.mod_lt _ (by decide)
          rw [pow_u8 hr9] at hpl
          generalize UInt8.ofNat (2 ^ (r % 8)) = m at hpl HG
          generalize hrr : r / 8 = t at hpl HG hr8
          clear hrr hlt8 hr9
          obtain ⟨gb, hgb, hgB, hgs, hgc, hgf, hst⟩ := ho.at_ (k := t) (by rw [List.length_map]; omega)
          have hgb' : w.heap.size = gb := by injection hgb with hgb; injection hgb
          subst hgb'
          have hd : g.getD t 0 = g[t]'(by omega) := by simp [List.getD, show t < g.length by omega]
          rw [hd] at HG
          have hgc' : wr.cell? ⟨w.heap.size, t, none⟩ = some (.int .u8 ((g[t]'(by omega)).toNat : Int)) := by rw [hgc, List.getElem_map]; rfl
          have HST := Lib.hid hst
          clear hst hgb hgc hd hset ho
          have HB := Lib.hid hb
          clear hb
          generalize g[t]'(by omega) = b0 at HG hgc'
          have HOR := Lib.hid (or_u8 b0 m)
          have hm9 := m.toNat_lt
          go_wp2_with fail
          refine hpl.mono ?_
          rintro e w' ⟨rfl, rfl⟩
          go_wp2_with fail
          rw [HOR.out]
          have HO : Hid (Ow (wr.setCell ⟨w.heap.size, t, none⟩ (.int .u8 ((b0 ||| m).toNat : Int))) w.heap.size 5 (.slice (some ⟨w.heap.size, 0, none⟩) n n) ((g.set t (b0 ||| m)).map bv)) := Lib.hid (by rw [List.map_set]; exact HST.out (bv (b0 ||| m)))
          go_roundw
          case rel => exact ⟨j + 1, _, by omega, by go_num, HG.out, HO.out, HB.out.setCell (p := ⟨w.heap.size, t, none⟩) (Nat.le_refl _) _⟩
          case measure => simp [intOf]; omega
        · obtain rfl : j = 3 := by omega
          have HSET := Lib.hid (HK.out g hset)
          have HO := Lib.hid ho
          have HB := Lib.hid hb
          clear hset ho hb
          go_wp2_with fail
          go_roundw
          case rel => exact ⟨k + 1, g, by omega, by go_num, HSET.out, HO.out, HB.out⟩
          case measure => simp [intOf]; omega
    · obtain rfl : k = l.length := by omega
      have HF := Lib.hid (HM.out _ hset)
      go_wp2_with fail
      go_ret
      rw [← HF.out]
      exact ⟨⟨_, rfl, ho⟩, hb⟩
/-- all of a key's first j bits are set -/
def All_ (f key : List UInt8) (j : Nat) : Prop := ∀ i ∈ (bitsL key (8 * f.length)).take j, bitAt f i = true
theorem All_.zero (f key : List UInt8) : All_ f key 0 := by intro i hi; simp at hi
theorem All_.step {f key : List UInt8} {j : Nat} (h : All_ f key j) (hj : j < 3) (hb : bitAt f (kw key j % (8 * f.length)) = true) : All_ f key (j + 1) := by
  intro i hi
  rw [bits_take _ _ hj, List.mem_append, List.mem_singleton] at hi
  rcases hi with hi | rfl
  · exact h i hi
  · exact hb
theorem All_.has {f key : List UInt8} (h : All_ f key 3) : hasB f key = true := hasB_iff.2 (.inr fun i hi => h i (by rwa [List.take_of_length_le (show (bitsL key (8 * f.length)).length ≤ 3 from Nat.le_refl _)]))
theorem has_not {f key : List UInt8} {j : Nat} (hf : f ≠ []) (hj : j < 3) (hb : bitAt f (kw key j % (8 * f.length)) = false) : hasB f key = false := by
  rw [← Bool.not_eq_true]
  intro h
  rcases hasB_iff.1 h with h | h
  · exact hf h
  · have hm : kw key j % (8 * f.length) ∈ bitsL key (8 * f.length) := by
      have e := bitsL_at key (8 * f.length) (k := j) hj
      rw [← e]
      exact List.getElem_mem _
    rw [h _ hm] at hb
    cases hb

set_option maxHeartbeats 2000000 in
set_option maxRecDepth 100000 in
theorem has_any (x : Value) (f : List UInt8) (s : ByteArray) (B : Nat) (w : World) (hB : B ≤ w.heap.size) (hx : Rd w B x (f.map bv)) (hl : f.length ≤ 140737488351232) (hs : s.size ≤ 140737488351232) :
    Calls Try.prog 14 #[x, .string s] w fun e w' => e = .returned (.bool (hasB f s.data.toList)) ∧ Below w.heap.size w w' := by
  obtain ⟨A, c, rfl, hc, hm⟩ := hx.shapeM
  by_cases h0 : f = []
  · subst h0
    have HR : Hid (hasB [] s.data.toList = true) := Lib.hid (hasB_iff.2 (.inl rfl))
    go_enter Try.func14, Try.ntmps14
    go_wp2_with fail
    go_ret
    rw [HR.out]
    exact ⟨rfl, Below.refl _ _⟩
  have hp : 0 < f.length := List.length_pos_iff.2 h0
  have hz : ((f.length : Int) == 0) = false := by rw [beq_eq_false_iff_ne]; omega
  generalize hsl : s.data.toList = sl
  have HL := Lib.hid hsl
  clear hsl
  have HN : Hid (∀ j, j < 3 → bitAt f (kw sl j % (8 * f.length)) = false → hasB f sl = false) := Lib.hid fun j hj hb => has_not h0 hj hb
  clear h0
  go_enter Try.func14, Try.ntmps14
  go_wp2_with fail
  refine (words_any s _ hs).mono ?_
  rintro e w1 ⟨rfl, hb1⟩
  rw [HL.out]
  go_wp2_with fail
  go_loopw [6, 7, 8, 14] (fun _ _ _ i wr => ∃ j : Nat, j ≤ 3 ∧ i = .int .i64 j ∧ All_ f sl j ∧ Below w.heap.size w wr) (fun _ _ _ i _ => 3 - (intOf i).toNat)
  case atStart => exact ⟨0, by omega, rfl, All_.zero _ _, hb1⟩
  case round =>
    clear hb1
    obtain ⟨j, hj, rfl, hall, hb⟩ := hrel
    by_cases hlt3 : j < 3
    · have HA := fun w => words_idx w sl hlt3
      have hq := kw_lt sl j
      have HG : Hid (bitAt f (kw sl j % (8 * f.length)) = true → All_ f sl (j + 1)) := Lib.hid fun h => hall.step hlt3 h
      have HM : Hid (bitAt f (kw sl j % (8 * f.length)) = false → hasB f sl = false) := Lib.hid (HN.out j hlt3)
      clear hall
      generalize kw sl j = q at HA hq HG HM
      generalize wordsA sl = W at HA ⊢
      have hpl := place_any A f.length c q wr hp hl hq
      have hlt8 : q % (8 * f.length) < 8 * f.length := Nat.mod_lt _ (by omega)
      generalize q % (8 * f.length) = r at hpl hlt8 HG HM
      have hr8 : r / 8 < f.length := by omega
      have hr9 : r % 8 < 8 := Nat.mod_lt _ (by decide)
      obtain ⟨b, off, rfl, hbb, hcell⟩ := (hx.below (hb.mono hB)).cellM hp
      have hck := hcell (r / 8) hr8
      simp only [bv] at hck
      clear hcell
      have hbit : bitAt f r = bt (f[r / 8]) (r % 8) := by unfold bitAt; simp [List.getD, hr8]
      rw [hbit] at HG HM
      have HOR := Lib.hid (and_bit f[r / 8] hr9)
      generalize f[r / 8] = b0 at hck hbit HG HM HOR
      clear hbit
      generalize hrr : r / 8 = t at hpl hr8 hck
      clear hrr hlt8
      have h2 : 2 ^ (r % 8) < 256 := Nat.pow_lt_pow_right (a := 2) (n := 8) (by decide) hr9
      generalize 2 ^ (r % 8) = m at hpl HOR h2
      generalize hbt : bt b0 (r % 8) = bb at HG HM HOR
      clear hbt
      have HB := Lib.hid hb
      clear hb
      go_wp2_with fail
      refine hpl.mono ?_
      rintro e w' ⟨rfl, rfl⟩
      cases bb
      · have HX : (bits .and .u8 (b0.toNat : Int) (m : Int) == 0) = true := HOR.out
        clear HOR HG
        go_wp2_with fail
        go_ret
        rw [HM.out trivial]
        exact ⟨rfl, HB.out⟩
      · have HX : (bits .and .u8 (b0.toNat : Int) (m : Int) == 0) = false := HOR.out
        clear HOR HM
        go_wp2_with fail
        go_roundw
        case rel => exact ⟨j + 1, by omega, by go_num, HG.out (by first | trivial | rfl), HB.out⟩
        case measure => simp [intOf]; omega
    · obtain rfl : j = 3 := by omega
      have HF := Lib.hid hall.has
      clear hall
      go_wp2_with fail
      go_ret
      rw [HF.out]
      exact ⟨rfl, hb⟩
end Go.Proofs.Ytglagpaamoigmaa.Blm
