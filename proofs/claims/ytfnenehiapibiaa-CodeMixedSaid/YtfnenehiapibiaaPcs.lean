/- The contract of pieces: slices.Chunk, ranged over. -/
import Derived.Test.YtfnenehiapibiaaChk
import Derived.Test.YtfnenehiapibiaaWir
import Derived.Test.YtfnenehiapibiaaMatRd
namespace Go.Proofs.Ytfnenehiapibiaa
open Go.RowKit Go.Shelf
open Mx (rw rw_len rw_get rw_congr dl cod mm fm sm)
attribute [local go_sem] Oper.semAt_some

set_option maxHeartbeats 1000000 in
theorem chunk_any (A : Option Addr) (n c m : Nat) (w : World) (hm : 0 < m) :
    Calls Try.prog 38 #[.slice A n c, .int .i64 (m : Int)] w fun e w' => e = .returned (.func (.func 48) #[] #[.pointer (some ⟨w.heap.size, 0, none⟩), .pointer (some ⟨w.heap.size + 1, 0, none⟩)]) ∧
      w' = (w.alloc (.cells #[.slice A n c] 39)).alloc (.cells #[.int .i64 (m : Int)] 3) := by
  have h1 : ¬ (m : Int) < 1 := by omega
  go_enter Try.func38, Try.ntmps38
  go_wp2_with fail
  go_ret
  exact ⟨rfl, rfl⟩
theorem grownBy_drewN' (w : World) (q : Nat) : w.grownBy (w.drewN q) none := ⟨rfl, rfl, rfl, Nat.le_refl _, fun _ _ _ => rfl⟩
theorem chunk_stops (n : Nat) (hn : 1 ≤ n) (Bs Bn b k m L cap : Nat) (w : World) (hL : L = k * m) (hm : 0 < m) (hLc : L ≤ cap) (hcm : cap ≤ maxLen) (hLb : L ≤ 1000000000000)
    (hBs : w.cell? ⟨Bs, 0, none⟩ = some (.slice (some ⟨b, 0, none⟩) L cap)) (hBn : w.cell? ⟨Bn, 0, none⟩ = some (.int .i64 (m : Int))) (h1 : Bs < w.heap.size) (h2 : Bn < w.heap.size) :
    SeqStopsK Fence.wide n Try.prog 48 #[.pointer (some ⟨Bs, 0, none⟩), .pointer (some ⟨Bn, 0, none⟩)] (fun x : Nat => #[pv b m x]) (Keeps3 b Bs Bn) (fun ys => ys = List.range k) (fun _ => True) k w := fun l J Jx W hW hJ _ hY h0 =>
  chunk1_in n hn l Bs Bn b k m L cap J Jx (fun s A q h => hJ s A _ none h (grownBy_drewN' A q) (fun r e => by cases e)) hY W hL hm hLc hcm hLb ((hW.cell (p := ⟨Bs, 0, none⟩) h1).trans hBs) ((hW.cell (p := ⟨Bn, 0, none⟩) h2).trans hBn) h0
/-- 'make([][]byte, 0, n)' -/
theorem wpList_makeCap {ops : Array Oper} {rest : List Oper} {o : Oper} {a : Act} {w : World} {Q : Exit → Act → World → Prop} (hgd : o.guard = none) (l c : Operand)
    (ho : o.op = .makeSlice 25 l c) (n : Nat) {kl kc : IntKind} (hl : a.eval l = .int kl 0) (hc : a.eval c = .int kc (n : Int)) (hn : n ≤ 1000)
    (h : ∀ w', Ow w' w.heap.size 39 (.slice (some ⟨w.heap.size, 0, none⟩) 0 n) [] → Below w.heap.size w w' → wpList Try.prog ops Q rest (a.put o.dst (.slice (some ⟨w.heap.size, 0, none⟩) 0 n)) w') :
    wpList Try.prog ops Q (o :: rest) a w := by
  obtain ⟨i, hi, hi0, hi1, hi2⟩ := info_parts rowsT.info
  refine wpList_make_own w hgd l c 25 ho w.heap.size 39 i (.slice none 0 0) 1 rowsT.ht hi hi0 hi1 kl kc _ n hl hc rfl (by rw [hi2]; omega) (by simp [maxLen]; omega) (Nat.le_refl _) ?_
  intro w' hown hgr
  exact h w' hown ((Below.refl _ _).grown hgr (Nat.le_refl _) (by simp))
/-- a piece of what is read, its capacity its length -/
theorem Rd.piece {w : World} {B b L c q lo : Nat} {f : Nat → UInt8} (h : Rd w B (.slice (some ⟨b, 0, none⟩) L c) ((rw L f).map bv)) (hlo : lo + q ≤ L) (hq : 0 < q) :
    Rd w B (.slice (some ⟨b, lo, none⟩) q q) ((rw q (fun j => f (lo + j))).map bv) := by
  have hc := h.len_le
  rw [List.length_map, rw_len] at hc
  obtain ⟨b', off', e, hb, hcell⟩ := h.cellR (by omega)
  injection e with e
  injection e with e1 e2
  subst e1 e2
  refine ⟨_, q, by rw [List.length_map, rw_len], by rw [List.length_map, rw_len]; exact Nat.le_refl _, by omega, fun _ => ⟨b, lo, rfl, hb, fun j u hu => ?_⟩⟩
  have hj : j < q := by
    have := (List.getElem?_eq_some_iff.1 hu).1
    rw [List.length_map, rw_len] at this
    exact this
  have := hcell (lo + j) (by omega)
  rw [Nat.zero_add] at this
  rw [this, ← hu, List.getElem?_map, rw_get hj]
  rfl
/-- how long a slice is -/
def slen : Value → Nat
  | .slice _ n _ => n
  | _ => 0
set_option maxHeartbeats 2000000 in
set_option maxRecDepth 100000 in
theorem pieces_any (k : Nat) (s : ByteArray) (w : World) (hk : 1 ≤ k) (hk7 : k ≤ 7) (hs : s.size ≤ 1000) :
    Calls Try.prog 26 #[.int .i64 (k : Int), .string s] w fun e w' => (∃ x, e = .returned x ∧ RdM w' w'.heap.size x k (fun i => rw (mlen k s) (pcM k s i))) ∧ Below w.heap.size w w' := by
  obtain ⟨M, hM1, hM2, hM3⟩ : ∃ M, s.size + 4 ≤ M ∧ M < s.size + 4 + k ∧ M % k = 0 := ⟨k * mlen k s, mlen_le hk s, mlen_lt hk s, Nat.mul_mod_right _ _⟩
  refine (callsIn_wide (n := 3)).1 ?_
  refine callsIn_of_wp_marks Try.func26 rfl trivial ?_ rfl
  refine wpIn_wide.2 ?_
  simp only [Try.ntmps26, List.size_toArray, List.length_cons, List.length_nil, Nat.reduceAdd, Nat.reduceSub, Array.replicate_succ, Array.replicate_zero, List.push_toArray, List.append_toArray, List.nil_append, List.cons_append]
  go_wp2_with fail
  refine (text_ok s _ (by omega)).mono ?_
  rintro e w1 ⟨v, rfl, ho, hb⟩
  rw [tx_start] at ho
  obtain ⟨A0, cap0, rfl, -, -⟩ := ho.rd.shapeR
  go_wp2_with fail
  go_loopw [5] (fun v wr => ∃ L : Nat, s.size + 4 ≤ L ∧ L ≤ M ∧ slen v = L ∧ Ow wr w.heap.size 5 v ((rw L (tx s)).map bv) ∧ Below w.heap.size w wr) (fun v _ => s.size + 4 + k - slen v)
  case atStart => exact ⟨s.size + 4, Nat.le_refl _, by omega, rfl, ho, hb⟩
  case round =>
    clear ho hb
    obtain ⟨L, h1, h2', hsl, ho, hb⟩ := hrel
    have h2 : L < s.size + 4 + k := by omega
    obtain ⟨A, c, rfl, hc, hcm⟩ := ho.rd.shapeR
    have hk0 : ¬ (k : Int) = 0 := by omega
    by_cases h0 : L % k = 0
    · have t0 : ((L : Int) % (k : Int) != 0) = false := by
        have : (L : Int) % (k : Int) = ((L % k : Nat) : Int) := rfl
        rw [this, h0]; rfl
      have hdiv : L = k * (L / k) := by have := Nat.div_add_mod L k; omega
      have tq : (L : Int) / (k : Int) = ((L / k : Nat) : Int) := rfl
      have hq0 : 0 < L / k := by
        apply Nat.pos_of_ne_zero
        intro e
        rw [e, Nat.mul_zero] at hdiv
        omega
      have hml := mlen_of hk hdiv h1 h2
      have hq1 : L / k ≤ 1012 := Nat.le_trans (Nat.div_le_self _ _) (by omega)
      generalize L / k = q at *
      have tq2 : ¬ (q : Int) < 1 := by omega
      have HM := Lib.hid hml
      have hL1 : L ≤ 1012 := by omega
      have HD := Lib.hid hdiv
      clear hml hdiv h0 h2 h2' hsl hM1 hM2 hM3
      go_wp2_with (refine wpList_makeCap rfl _ (.tmp 18) rfl k rfl rfl (by omega) ?_; intro w2 hl2 hb2)
      refine (chunk_any A L c q _ hq0).mono ?_
      rintro e w3 ⟨rfl, rfl⟩
      go_wp2_with fail
      refine (wpIn_wide (n := 3)).1 ?_
      obtain ⟨gb, rfl, hgb1, hgb2, -⟩ := ho.at_ (k := 0) (by rw [List.length_map, rw_len]; omega)
      have hw2 := hb2.size
      have hlt2 := (hl2.lt wr.heap.size rfl).2
      obtain ⟨W0, hW0⟩ : ∃ W0, (((w2.alloc (.cells #[.slice (some ⟨wr.heap.size, 0, none⟩) 0 k] 25)).alloc (.cells #[.slice (some ⟨gb, 0, none⟩) L c] 39)).alloc (.cells #[.int .i64 (q : Int)] 3)) = W0 := ⟨_, rfl⟩
      have hs0 : W0.heap.size = w2.heap.size + 3 := by rw [← hW0]; simp
      have bL : Boxed W0 w2.heap.size 25 (.slice (some ⟨wr.heap.size, 0, none⟩) 0 k) := by rw [← hW0]; exact ((Boxed.new w2 _ _).alloc _).alloc _
      have bS : Boxed W0 (w2.heap.size + 1) 39 (.slice (some ⟨gb, 0, none⟩) L c) := by
        rw [← hW0]
        have := (Boxed.new (w2.alloc (.cells #[.slice (some ⟨wr.heap.size, 0, none⟩) 0 k] 25)) 39 (.slice (some ⟨gb, 0, none⟩) L c)).alloc (.cells #[.int .i64 (q : Int)] 3)
        rwa [World.size_alloc] at this
      have bN : Boxed W0 (w2.heap.size + 1 + 1) 3 (.int .i64 (q : Int)) := by
        rw [← hW0]
        have := Boxed.new ((w2.alloc (.cells #[.slice (some ⟨wr.heap.size, 0, none⟩) 0 k] 25)).alloc (.cells #[.slice (some ⟨gb, 0, none⟩) L c] 39)) 3 (.int .i64 (q : Int))
        rwa [World.size_alloc, World.size_alloc] at this
      have hb02 : Below w2.heap.size w2 W0 := by rw [← hW0]; exact bwalloc (bwalloc (bwalloc (Below.refl _ _) _) _) _
      have hb0 : Below wr.heap.size wr W0 := bwstep hb2 hb02
      have hl0 := hl2.below hb02
      rw [hW0]
      clear hW0 hl2 hb2 hb02
      obtain ⟨i0, hi0, hz0, hz1, hz2⟩ := info_parts rowsT.info
      refine wpIn_rangeFunc_ownG rfl (by omega) (gf := 48) (lb := #[.pointer (some ⟨w2.heap.size + 1, 0, none⟩), .pointer (some ⟨w2.heap.size + 1 + 1, 0, none⟩)]) rfl trivial (enters_of Try.func48 (by kernel_rfl) rfl)
        (chunk_stops 2 (by omega) (w2.heap.size + 1) (w2.heap.size + 1 + 1) gb k q L c W0 HD.out hq0 hc hcm (by omega) bS.cell bN.cell (by omega) (by omega))
        (fun h k' => Keeps3.trans h k') (fun W l o o' hl hh _ _ => ⟨World.putObj_heap_other (by omega), World.putObj_heap_other (by omega), World.putObj_heap_other (by omega)⟩) (Below.refl _ _) (fun _ => rfl)
        (fun (pre : List Nat) W => (∃ v, Boxed W w2.heap.size 25 v ∧ W.ownsRow wr.heap.size 39 1 v pre.length (pre.map (pv gb q)) ∧ v = .slice (some ⟨wr.heap.size, 0, none⟩) pre.length k) ∧ (Below wr.heap.size wr W ∧ W0.heap.size ≤ W.heap.size))
        (fun _ _ _ => False)
        (OwnFrom.and (Own.from (holdsRow_own wr.heap.size w2.heap.size 25 39 1 (fun pre : List Nat => pre.length) (fun pre : List Nat => pre.map (pv gb q)) (fun (pre : List Nat) v => v = .slice (some ⟨wr.heap.size, 0, none⟩) pre.length k)) _) (OwnFrom.and (ownFrom_below (by omega) (by omega)) (fun s A B row hs hg hr => Nat.le_trans hs hg.size)))
        (fun _ _ _ _ _ hs _ _ => hs)
        ⟨⟨_, bL, hl0, rfl⟩, hb0, Nat.le_refl _⟩
        (fun x => { tmps := #[.int .i64 (k : Int), .string s, undef, undef, .slice none 0 0, .slice (some ⟨gb, 0, none⟩) L c,
          .pointer (some ⟨w2.heap.size, 0, none⟩), pv gb q x, .string s,
          .slice A0 (s.size + 4) cap0, .slice (some ⟨gb, 0, none⟩) L c, .int .i64 (L : Int), .int .i64 (k : Int),
          .int .i64 ((L : Int) % (k : Int)), .bool false, u15, u16, u17, .int .i64 (k : Int),
          .slice (some ⟨wr.heap.size, 0, none⟩) 0 k, .slice (some ⟨gb, 0, none⟩) L c, .slice (some ⟨gb, 0, none⟩) L c,
          .int .i64 (L : Int), .int .i64 (k : Int), .int .i64 (q : Int),
          .func (.func 48) #[] #[.pointer (some ⟨w2.heap.size + 1, 0, none⟩), .pointer (some ⟨w2.heap.size + 1 + 1, 0, none⟩)],
          pv gb q x, undef, undef, undef, undef, undef], defers := [] }) ?assign ?body ?done ?stop
      case assign =>
        intro l x W K hK
        gi_wp2
        exact hK
      case body =>
        rintro l pre x W ⟨⟨v, hv, hrow, rfl⟩, hB, hsW⟩ hlt
        have hcv := hv.cell
        gi_wp2_with (gi_at_builtin; refine wpListIn_append_fits _ rfl _ _ 25 rfl wr.heap.size 39 i0 1 Try.underlying25 hi0 hz1 wr.heap.size pre.length k _ rfl (hrow.alloc _) ⟨W.heap.size, 0, none⟩ 1 1 [pv gb q x] rfl rfl (cell_one_new _ _ _) (by simp [Value.oneCell']) (by omega) ?_; intro w1 hown' hgrow; obtain ⟨hv1, hv2, hr2, hk2, hb2⟩ := hv.appended (by decide) hrow hB.size (by omega) hown' hgrow; have hc1 := hv1.cell; have hf1 := hv1.frozen)
        have keep : ∀ j, wr.heap.size < j → j ≠ w2.heap.size → j < W0.heap.size → (w1.setCell ⟨w2.heap.size, 0, none⟩ (.slice (some ⟨wr.heap.size, 0, none⟩) (pre.length + 1) k)).heap[j]? = W.heap[j]? := fun j h1 h2 h3 => by
          have e1 := (grownBy_setCell' w1 w2.heap.size (.slice (some ⟨wr.heap.size, 0, none⟩) (pre.length + 1) k)).block j (by have := hgrow.size; simp at this; omega) (by simp; omega)
          have e2 := hgrow.block j (by simp; omega) (by simp; omega)
          exact (e1.trans e2).trans (Below.heap_alloc _ _ _ (by omega))
        exact ⟨hk2.from _, ⟨hb2.block gb hgb2, keep _ (by omega) (by omega) (by omega), keep _ (by omega) (by omega) (by omega)⟩, ⟨_, hv2, by rw [List.map_append, List.length_append]; exact hr2, by rw [List.length_append]; rfl⟩, hB.trans hb2, Nat.le_trans hsW (by have e1 := hgrow.size; have e2 := (grownBy_setCell' w1 w2.heap.size (.slice (some ⟨wr.heap.size, 0, none⟩) (pre.length + 1) k)).size; simp at e1; omega)⟩
      case done =>
        rintro D ys W hD rfl ⟨⟨v, hv, hrow, rfl⟩, hB, hsW⟩ hK
        have hcv := hv.cell
        go_wp2_with fail
        rw [List.length_range] at hrow
        have hbD : Below wr.heap.size wr (W.putObj D (.deferred none)) := hB.trans (belowK_b (w := wr) (Nat.le_refl _) W D _ _ (by omega) hK rfl rfl)
        have hrowD := ownsRow_putObj hrow (.deferred none) hK rfl
        have hout : Ow (W.putObj D (.deferred none)) wr.heap.size 39 (.slice (some ⟨wr.heap.size, 0, none⟩) k k) ((List.range k).map (pv gb q)) := by
          unfold Ow
          rw [List.length_map, List.length_range]
          exact hrowD
        have htxt := (ho.rd.below hbD).mono hbD.size
        refine ⟨by simp, .inl ⟨_, _, rfl, run_takeDeferred hK, ?_⟩⟩
        refine ⟨_, results_tmp rfl _ _ _, ?_⟩
        refine ⟨⟨_, rfl, pv gb q, hout.rd, fun i hi => ?_⟩, bwstep hb hbD⟩
        have hlo : i * q + q ≤ L := by
          have := Nat.mul_le_mul_right q (show i + 1 ≤ k by omega)
          rw [Nat.succ_mul] at this
          rw [HD.out]
          exact this
        have := htxt.piece hlo hq0
        rw [show mlen k s = q from HM.out]
        unfold pcM
        rw [show mlen k s = q from HM.out]
        exact this
      case stop =>
        rintro D c pre W _ _ h _
        exact h.elim
    · have t0 : ((L : Int) % (k : Int) != 0) = true := by
        have : (L : Int) % (k : Int) = ((L % k : Nat) : Int) := rfl
        rw [this, bne_iff_ne]
        omega
      have hnext : L + 1 ≤ M := by
        have : L ≠ M := fun e => h0 (by rw [e]; exact hM3)
        omega
      have hrd : Rd (wr.alloc (.cells #[.int .u8 0] 5)) _ (.slice (some ⟨wr.heap.size, 0, none⟩) 1 1) (([0] : List UInt8).map bv) := Rd.newW wr 5 #[.int .u8 0] rfl (by simp [maxLen]) rfl
      have hb2 : Below wr.heap.size wr (wr.alloc (.cells #[.int .u8 0] 5)) := bwalloc (Below.refl _ _) _
      have ho2 := ho.below hb2
      have hbw2 := bwstep hb hb2
      have hsz := hbw2.size
      have hl : (rw L (tx s)).length + ([0] : List UInt8).length ≤ 140737488355328 := by rw [rw_len]; simp; omega
      clear ho hb2
      go_wp2_with (at_builtin; refine wpList_appB bytesT rfl (.tmp 15) (.tmp 16) rfl rfl ho2 rfl hrd hl hsz ?_; intro v' w' ho3 hg h3; have HB := Lib.hid (hbw2.grown hg hsz ho2.ge); rw [tx_step s L h1] at ho3; have HO := Lib.hid ho3; have HS : Hid (slen v' = L + 1) := Lib.hid (by obtain ⟨A', c', rfl, -, -⟩ := ho3.rd.shapeR; rfl); clear ho3 hg h3 hrd ho2 hbw2)
      go_roundw
      case rel => exact ⟨L + 1, by omega, hnext, HS.out, HO.out, HB.out⟩
      case measure => rw [HS.out]; simp [slen]; omega
end Go.Proofs.Ytfnenehiapibiaa
