/- The contracts of the reference functions of layer 6: Put, Same, Few. -/
import Derived.Test.YtngophodcjbolaaFrmP
import Derived.Test.YtngophodcjbolaaSumR
import Derived.Test.YtngophodcjbolaaRefA
import Derived.Test.YtngophodcjbolaaSls
import Derived.Deep.QuietTactic
import Derived.BigQuiet
import Derived.IntWalk
namespace Go.Proofs.Ytngophodcjbolaa
open Go.RowKit Crc Frm

theorem Ow.ofo {w : World} {B e : Nat} {v : Value} {b c : List UInt8} (h : Ow w B e v (b.map bv)) (k : b = c) : Ow w B e v (c.map bv) := k ▸ h
set_option maxHeartbeats 1000000 in
set_option maxRecDepth 100000 in
theorem rfput_ok (v : Value) (r : List UInt8) (w : World) (hr : Rd w w.heap.size v (r.map bv)) (hl : r.length ≤ 65535) :
    Calls Try.prog 13 #[v] w fun e w' => (∃ x, e = .returned x ∧ Ow w' w.heap.size 5 x ((frm r).map bv)) ∧ Below w.heap.size w w' := by
  obtain ⟨A, c, rfl, hc, hm⟩ := hr.shapeM
  unfold maxLen at hm
  have v1 := vw_le (sum (numB r.length))
  have v2 := vw_le (sum r)
  go_enter Try.func13, Try.ntmps13
  go_wp2_with fail
  refine (rnum_ok _ _ (by omega)).mono ?_
  rintro e w1 ⟨q1, rfl, h1, hb1⟩
  have k1 := h1.rd.up (bwalloc (bwrefl w1) (.cells #[] 5))
  go_wp2_with (at_builtin; refine wpList_appB bytesT rfl (.tmp 8) (.tmp 9) rfl rfl (Ow.empty w1 (Nat.le_refl _) _) rfl k1 (by simp [numB_len]) (by simp) ?_; intro x2 w2 o2 g2 _; have hB2 := Ow.emptyG g2; clear g2)
  refine (rsum_any _ _ _ _ (h1.rd.up hB2) (by rw [numB_len]; omega)).mono ?_
  rintro e w' ⟨rfl, rfl⟩
  go_wp2_with fail
  refine (rnum_ok _ _ v1).mono ?_
  rintro e w3 ⟨q3, rfl, h3, hb3⟩
  have o2 := o2.below hb3
  have hb3 := bwstep hB2 hb3
  have k3 := h3.rd
  clear h1 k1 h3 hB2
  go_wp2_with (at_builtin; refine wpList_appB bytesT rfl (.tmp 10) (.tmp 14) rfl rfl o2 rfl k3 (by simp [numB_len]) hb3.size ?_; intro x4 w4 o4 g4 _; have hB4 := hb3.grown g4 hb3.size o2.ge; clear g4)
  have hb4 := bwstep hb1 hB4
  refine (rsum_any _ _ _ _ (hr.up hb4) (by omega)).mono ?_
  rintro e w' ⟨rfl, rfl⟩
  go_wp2_with fail
  refine (rnum_ok _ _ v2).mono ?_
  rintro e w5 ⟨q5, rfl, h5, hb5⟩
  have o4 := o4.below hb5
  have hb5 := bwstep hB4 hb5
  have k5 := h5.rd
  have k6 := hr.up (bwstep hb1 hb5)
  clear o2 k3 h5 hB4 hb3 hb4
  go_wp2_with (first
    | (at_builtin; refine wpList_appB bytesT rfl (.tmp 22) (.tmp 23) rfl rfl o6 rfl k7 (by simp [numB_len]; omega) hB6.size ?_; intro x8 w8 o8 g8 _; have hB8 := hB6.grown g8 hB6.size o6.ge; clear g8)
    | (at_builtin; refine wpList_appB bytesT rfl (.tmp 16) (.tmp 20) rfl rfl o4 rfl k5 (by simp [numB_len]) hb5.size ?_; intro x6 w6 o6 g6 _; have hB6 := hb5.grown g6 hb5.size o4.ge; have k7 := hr.up (bwstep hb1 hB6); clear g6))
  go_ret
  have e1 : ((([] ++ numB r.length) ++ sumB (numB r.length)) ++ sumB r) ++ r = frm r := by unfold frm; simp
  exact ⟨⟨_, rfl, (o8.ofo e1).mono hb1.size⟩, bwstep hb1 hB8⟩
/-- the same records? -/
def sameL (A B : List (List UInt8)) : Bool := decide (A = B)
theorem sameL_ne {A B : List (List UInt8)} (h : A.length ≠ B.length) : sameL A B = false := by
  unfold sameL
  rw [decide_eq_false_iff_not]
  rintro rfl
  exact h rfl
theorem sameL_not {A B : List (List UInt8)} {k : Nat} (h : gl A k ≠ gl B k) : sameL A B = false := by
  unfold sameL
  rw [decide_eq_false_iff_not]
  rintro rfl
  exact h rfl
theorem sameL_true {A B : List (List UInt8)} (hl : A.length = B.length) (h : ∀ j, j < A.length → gl A j = gl B j) : sameL A B = true := by
  unfold sameL
  rw [decide_eq_true_iff]
  refine List.ext_getElem hl fun j h1 h2 => ?_
  have := h j h1
  rwa [gl_at A h1, gl_at B h2] at this
set_option maxHeartbeats 1000000 in
set_option maxRecDepth 100000 in
theorem rfsame_any (x y : Value) (L M : List (List UInt8)) (B D : Nat) (w : World) (hx : RdM w B x L.length (gl L)) (hy : RdM w D y M.length (gl M)) :
    Calls Try.prog 18 #[x, y] w fun e w' => e = .returned (.bool (sameL L M)) ∧ ∃ m, w' = w.drewN m := by
  obtain ⟨A, c, rfl, hc, hm⟩ := hx.shape
  obtain ⟨A', c', rfl, hc', hm'⟩ := hy.shape
  unfold maxLen at hm hm'
  by_cases hn : L.length = M.length
  · have hne : ((L.length : Int) != (M.length : Int)) = false := by rw [hn]; simp
    have HL := Lib.hid hn
    clear hn
    go_enter Try.func18, Try.ntmps18
    go_wp2_with fail
    go_loopw [5] (fun i wr => ∃ k : Nat, k ≤ L.length ∧ i = .int .i64 k ∧ Hid (∀ j, j < k → gl L j = gl M j) ∧ ∃ m, wr = w.drewN m) (fun i _ => L.length - (intOf i).toNat)
    case atStart => exact ⟨0, by omega, rfl, Lib.hid fun j hj => by omega, 0, rfl⟩
    case round =>
      obtain ⟨k, hk, rfl, HA, m, rfl⟩ := hrel
      by_cases hlt : k < L.length
      · have hlt2 : k < M.length := by rw [← HL.out]; exact hlt
        obtain ⟨b, off, rfl, hb⟩ := hx.open_ (by omega)
        obtain ⟨b', off', rfl, hb'⟩ := hy.open_ (by omega)
        obtain ⟨A1, c1, hcell1, h1c, h1m, hr1⟩ := hx.row hlt
        obtain ⟨A2, c2, hcell2, h2c, h2m, hr2⟩ := hy.row hlt2
        obtain ⟨p, hp⟩ : ∃ p, p = gl L k := ⟨_, rfl⟩
        obtain ⟨q, hq⟩ : ∃ q, q = gl M k := ⟨_, rfl⟩
        rw [← hp] at hcell1 hr1 h1c
        rw [← hq] at hcell2 hr2 h2c
        have HP := Lib.hid hp
        have HQ := Lib.hid hq
        have he := fun z : Nat => rsame_any _ _ p q _ _ (w.drewN z) (hr1.below (bwN' w z)) (hr2.below (bwN' w z))
        clear hr1 hr2 hp hq
        by_cases e : p = q
        · have hs : sameB p q = true := by simp [sameB, e]
          rw [hs] at he
          have HE := Lib.hid e
          clear e hs
          go_wp2_with fail
          go_quiet (first | (go_at_call 11; exact (he _).mono fun _ _ ⟨h1, h2⟩ => ⟨h1, _, h2.symm⟩))
          go_wp2_with fail
          go_roundw
          case rel => exact ⟨k + 1, by omega, by go_num, Lib.hid fun j hj => by
            by_cases e : j = k
            · subst e; rw [← HP.out, ← HQ.out, HE.out]
            · exact HA.out j (by omega), _, by first | rfl | exact drewN_two _ _ _⟩
          case measure => simp [intOf]; omega
        · have hs : sameB p q = false := by simp [sameB, e]
          rw [hs] at he
          have HF := Lib.hid (sameL_not (A := L) (B := M) (k := k) (by rw [← HP.out, ← HQ.out]; exact e))
          clear e hs
          go_wp2_with fail
          go_quiet (first | (go_at_call 11; exact (he _).mono fun _ _ ⟨h1, h2⟩ => ⟨h1, _, h2.symm⟩))
          go_wp2_with fail
          go_ret
          exact ⟨ret1 (vb HF.out.symm), _, by first | rfl | exact drewN_two _ _ _⟩
      · obtain rfl : k = L.length := by omega
        have HF := Lib.hid (sameL_true HL.out HA.out)
        go_wp2_with fail
        go_ret
        exact ⟨ret1 (vb HF.out.symm), _, by first | rfl | exact drewN_two _ _ _⟩
  · have HF := Lib.hid (sameL_ne hn)
    have hne : ((L.length : Int) != (M.length : Int)) = true := bne_iff_ne.2 (fun e => hn (Int.ofNat.inj e))
    clear hn hx hy
    go_enter Try.func18, Try.ntmps18
    go_wp2_with fail
    go_ret
    exact ⟨ret1 (vb HF.out.symm), 0, rfl⟩
set_option maxRecDepth 100000 in
set_option maxHeartbeats 1000000 in
theorem rffew_any (x : Value) (L : List (List UInt8)) (B : Nat) (w : World) (hx : RdM w B x L.length (gl L)) (hz : ∀ r ∈ L, r.length ≤ 140737488351232) :
    Calls Try.prog 10 #[x] w fun e w' => (∃ q : Bool, e = .returned (.bool q) ∧ (q = true → L.length ≤ 100 ∧ tot L ≤ 5000)) ∧ w' = w := by
  obtain ⟨A, c, rfl, hc, hm⟩ := hx.shape
  unfold maxLen at hm
  go_enter Try.func10, Try.ntmps10
  go_wp2_with fail
  go_loopw [3, 4] (fun n i wr => ∃ k s : Nat, k ≤ L.length ∧ k ≤ 200 ∧ i = .int .i64 k ∧ n = .int .i64 (s : Int) ∧ Hid (s = tot (L.take k)) ∧ s ≤ 5000 ∧ wr = w) (fun _ i _ => L.length - (intOf i).toNat)
  case atStart => exact ⟨0, 0, Nat.zero_le _, by omega, rfl, rfl, Lib.hid (by simp [tot]), by omega, rfl⟩
  case round =>
    obtain ⟨k, s, hk, hk2, rfl, rfl, HS, hsum, rfl⟩ := hrel
    by_cases hlt : k < L.length ∧ k < 200
    · obtain ⟨hlt, hlt2⟩ := hlt
      obtain ⟨b, off, rfl, -⟩ := hx.open_ (by omega)
      obtain ⟨A1, c1, hck, h1c, h1m, -⟩ := hx.row hlt
      have HN := Lib.hid (show tot (L.take (k + 1)) = s + (gl L k).length by rw [tot_snoc L k hlt, gl_at L hlt, HS.out])
      have hzk : (gl L k).length ≤ 140737488351232 := by rw [gl_at L hlt]; exact hz _ (List.getElem_mem hlt)
      unfold maxLen at h1m
      generalize gl L k = g at *
      by_cases hbig : s + g.length ≤ 5000
      · go_wp2_with fail
        go_roundw
        case rel => exact ⟨k + 1, s + g.length, by omega, by omega, by go_num, by go_num, Lib.hid HN.out.symm, hbig, by first | rfl | trivial⟩
        case measure => simp [intOf]; omega
      · go_wp2_with fail
        go_ret
        exact ⟨⟨false, rfl, fun h => absurd h (by simp)⟩, rfl⟩
    · go_wp2_with fail
      all_goals
        go_ret
        refine ⟨⟨_, rfl, fun h => ?_⟩, rfl⟩
        have h100 : L.length ≤ 100 := by
          have := of_decide_eq_true h
          omega
        obtain rfl : k = L.length := by omega
        have h1 := HS.out
        rw [List.take_length] at h1
        exact ⟨h100, by omega⟩
end Go.Proofs.Ytngophodcjbolaa
