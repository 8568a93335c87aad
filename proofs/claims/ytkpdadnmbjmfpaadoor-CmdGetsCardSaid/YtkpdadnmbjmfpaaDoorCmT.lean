/- A command's bytes; the contracts of the reference's Put and Right of layer 15. -/
import Derived.Test.YtkpdadnmbjmfpaaDoorCm
import Derived.Test.YtkpdadnmbjmfpaaDoorRef1
import Derived.Test.YtkpdadnmbjmfpaaDoorCrA
import Derived.Deep.Cut
import Derived.Deep.CutRange
import Derived.Deep.DeepCutAuto
namespace Go.Proofs.YtkpdadnmbjmfpaaDoor.Ce
open Go.RowKit

/-- its numbers, its texts -/
def cmN (c : Cm) : List Int := [c.client, c.seq, c.kind, c.at_, if c.has = true then 1 else 0]
def cmT (c : Cm) : List ByteArray := [c.row, c.col, c.to_, c.value, c.expect]
def numsB (N : List Int) : List UInt8 := N.flatMap fun n => numB n.toNat
def cmdB (c : Cm) : List UInt8 := numsB (cmN c) ++ allB (cmT c)
def cmdS (c : Cm) : ByteArray := ⟨(cmdB c).toArray⟩
theorem numsB_len (N : List Int) : (numsB N).length = 4 * N.length := by
  unfold numsB
  induction N with
  | nil => rfl
  | cons n N ih => rw [List.flatMap_cons, List.length_append, ih, numB_len, List.length_cons]; omega
theorem numsB_snoc (N : List Int) (k : Nat) (h : k < N.length) : numsB (N.take (k + 1)) = numsB (N.take k) ++ numB N[k].toNat := by
  unfold numsB
  rw [List.take_succ_eq_append_getElem h, List.flatMap_append]
  simp
theorem cmdB_len (c : Cm) : (cmdB c).length = 40 + (c.row.size + c.col.size + c.to_.size + c.value.size + c.expect.size) := by
  unfold cmdB
  rw [List.length_append, numsB_len, allB_len]
  simp only [cmN, cmT, sumS, List.map_cons, List.map_nil, List.sum_cons, List.sum_nil, List.length_cons, List.length_nil]
  omega
theorem cmdS_size (c : Cm) : (cmdS c).size = (cmdB c).length := by simp [cmdS, ByteArray.size]
theorem Cm.Sound.nums {c : Cm} (h : c.Sound) : ∀ n ∈ cmN c, 0 ≤ n ∧ n ≤ 4294967295 := by
  have ha : 0 ≤ c.at_ ∧ c.at_ ≤ 4294967295 := by
    by_cases k : c.kind = 5
    · have f := h.five k
      exact ⟨f.a1, f.a2⟩
    · have f := (h.four k).cell
      exact ⟨f.a1, f.a2⟩
  have h1 := h.c1
  have h2 := h.c2
  have h3 := h.s1
  have h4 := h.s2
  have h5 := h.k1
  have h6 := h.k2
  intro n hn
  simp only [cmN, List.mem_cons, List.not_mem_nil, or_false] at hn
  rcases hn with rfl | rfl | rfl | rfl | rfl
  · omega
  · omega
  · omega
  · omega
  · split <;> omega
theorem Cm.Sound.texts {c : Cm} (h : c.Sound) : ∀ s ∈ cmT c, s.size ≤ 4294967295 := by
  have hz : nul.size = 0 := rfl
  intro s hs
  simp only [cmT, List.mem_cons, List.not_mem_nil, or_false] at hs
  by_cases k : c.kind = 5
  · have f := h.five k
    have h1 := f.row
    have h2 := f.to_
    rcases hs with rfl | rfl | rfl | rfl | rfl
    · omega
    · rw [f.col]; omega
    · omega
    · rw [f.value]; omega
    · rw [f.expect]; omega
  · have f := h.four k
    have h1 := f.cell.r2
    have h2 := f.cell.c2
    have h3 := f.cell.v
    have h4 := f.expect
    simp only [Cm.cell] at h1 h2 h3
    rcases hs with rfl | rfl | rfl | rfl | rfl
    · omega
    · omega
    · rw [f.to_]; omega
    · omega
    · omega
def ivC (n : Int) : Value := .int .i64 n
set_option maxHeartbeats 4000000 in
set_option maxRecDepth 100000 in
theorem xput_ok (c : Cm) (w : World) (hs : c.Sound) : Calls Tryd.prog 13 #[c.v] w fun e w' => e = .returned (.string (cmdS c)) ∧ Below w.heap.size w w' := by
  have HN := Lib.hid hs.nums
  have HT := Lib.hid hs.texts
  have hlen := cmdB_len c
  have hCD : Hid (numsB (cmN c) ++ allB (cmT c) = cmdB c) := Lib.hid rfl
  obtain ⟨hx, hhx⟩ : ∃ x : Int, x = if c.has = true then 1 else 0 := ⟨_, rfl⟩
  have HX := Lib.hid hhx
  have HN5 : Hid (cmN c = [c.client, c.seq, c.kind, c.at_, hx]) := Lib.hid (by rw [hhx]; rfl)
  clear hhx
  go_enter Tryd.func13, Tryd.ntmps13
  go_wp2_with (refine St.box cmD rfl (.tmp 0) c rfl rfl ?_)
  constructor
  intro w1 hI hb hz
  obtain ⟨c0, c1, c2, c3, c4, c5, c6, c7, c8, c9⟩ := CmAt.of hI
  clear hz
  have HC3 : Hid (∀ z, Below w1.heap.size w1 z → CmAt w.heap.size c z) := Lib.hid fun z hz => CmAt.of (hI.up hz)
  clear hI
  go_upto_if 10 with fail
  go_cut [3] (fun v wx => v = .int .i64 hx ∧ wx = w1)
  case first =>
    cases hh : c.has
    · have H1 : Hid ((0 : Int) = hx) := Lib.hid (by rw [HX.out, hh]; rfl)
      rw [hh] at c9
      clear hh
      go_wp2_with fail
      go_meet
      case rel => exact ⟨vi H1.out, rfl⟩
    · have H1 : Hid ((1 : Int) = hx) := Lib.hid (by rw [HX.out, hh]; rfl)
      rw [hh] at c9
      clear hh
      go_wp2_with fail
      go_meet
      case rel => exact ⟨vi H1.out, rfl⟩
  case rest =>
    obtain ⟨rfl, hwx⟩ := hcut
    subst wc
    obtain ⟨-, -, -, d3, d4, d5, -, d7, d8, -⟩ := HC3.out (w1.alloc (.cells #[.int .i64 c.client, .int .i64 c.seq, .int .i64 c.kind, .int .i64 c.at_, .int .i64 hx] 3)) (bwalloc (bwrefl _) _)
    go_wp2_with fail
    clear d3 d4 d5 d7 d8
    have hNr := (Rd.newW (xs := [c.client, c.seq, c.kind, c.at_, hx].map ivC) w1 3 #[.int .i64 c.client, .int .i64 c.seq, .int .i64 c.kind, .int .i64 c.at_, .int .i64 hx] rfl (by simp [maxLen]) rfl).up (bwalloc (bwrefl _) (.cells #[.string c.row, .string c.col, .string c.to_, .string c.value, .string c.expect] 9))
    have hTr := Rd.newW (xs := (cmT c).map sv) (w1.alloc (.cells #[.int .i64 c.client, .int .i64 c.seq, .int .i64 c.kind, .int .i64 c.at_, .int .i64 hx] 3)) 9 #[.string c.row, .string c.col, .string c.to_, .string c.value, .string c.expect] rfl (by simp [maxLen]) rfl
    have hb2 := bwalloc (bwalloc hb (.cells #[.int .i64 c.client, .int .i64 c.seq, .int .i64 c.kind, .int .i64 c.at_, .int .i64 hx] 3)) (.cells #[.string c.row, .string c.col, .string c.to_, .string c.value, .string c.expect] 9)
    rw [← HN5.out] at hNr
    have hsz : (w1.alloc (.cells #[.int .i64 c.client, .int .i64 c.seq, .int .i64 c.kind, .int .i64 c.at_, .int .i64 hx] 3)).heap.size = w1.heap.size + 1 := by simp
    rw [hsz] at hTr
    generalize ((w1.alloc (.cells #[.int .i64 c.client, .int .i64 c.seq, .int .i64 c.kind, .int .i64 c.at_, .int .i64 hx] 3)).alloc (.cells #[.string c.row, .string c.col, .string c.to_, .string c.value, .string c.expect] 9)) = w2 at hNr hTr hb2 ⊢
    have hNl : (cmN c).length = 5 := rfl
    have hTl : (cmT c).length = 5 := rfl
    obtain ⟨bN, oN, eN, hbN, hcN⟩ := hNr.cellM (by omega)
    obtain ⟨bT, oT, eT, hbT, hcT⟩ := hTr.cellM (by omega)
    simp only [Option.some.injEq, Addr.mk.injEq, and_true] at eN eT
    obtain ⟨rfl, rfl⟩ := eN
    obtain ⟨rfl, rfl⟩ := eT
    have HCN : Hid (∀ z, Below w2.heap.size w2 z → ∀ k (hk : k < (cmN c).length), z.cell? ⟨w1.heap.size, k, none⟩ = some (.int .i64 (cmN c)[k])) := Lib.hid fun z hz k hk => (hz.cell (by exact hbN)).trans (by have := hcN k hk; rwa [Nat.zero_add] at this)
    have HCT : Hid (∀ z, Below w2.heap.size w2 z → ∀ k (hk : k < (cmT c).length), z.cell? ⟨w1.heap.size + 1, k, none⟩ = some (.string (cmT c)[k])) := Lib.hid fun z hz k hk => (hz.cell (by exact hbT)).trans (by have := hcT k hk; rwa [Nat.zero_add] at this)
    have HB2 := Lib.hid hb2
    have HLB : (allB (cmT c)).length + 20 = (cmdB c).length := by rw [← hCD.out, List.length_append, numsB_len, hNl]; omega
    clear hNr hTr hb2 hsz hcN hcT hbN hbT c0 c1 c2 c3 c4 c5 c6 c7 c8 c9 HN5 hlen hb
    go_loopw [6, 7] (fun o i wr => ∃ k : Nat, k ≤ 5 ∧ i = .int .i64 k ∧ Ow wr w2.heap.size 5 o ((numsB ((cmN c).take k)).map bv) ∧ Below w2.heap.size w2 wr) (fun _ i _ => 5 - (intOf i).toNat)
    case atStart => exact ⟨0, by omega, rfl, Ow.nilB _ _ _, Below.refl _ _⟩
    case round =>
      obtain ⟨k, hk, rfl, ho, hbw⟩ := hrel
      by_cases hlt : k < 5
      · have hcell := HCN.out wr hbw k (by omega)
        have hnn := HN.out _ (List.getElem_mem (show k < (cmN c).length by omega))
        have HS := Lib.hid (numsB_snoc (cmN c) k (by omega))
        generalize (cmN c)[k]'(by omega) = n at hcell hnn HS
        have hol : (numsB ((cmN c).take k)).length ≤ 20 := by rw [numsB_len, List.length_take]; omega
        generalize numsB ((cmN c).take k) = F at ho HS hol
        have HO := Lib.hid ho
        have HBW := Lib.hid hbw
        have h0 := hnn.1
        have h1 := hnn.2
        clear ho hbw hnn
        obtain ⟨wo, hwo⟩ : ∃ wo, wo = wr := ⟨_, rfl⟩
        subst hwo
        go_wp2_with fail
        refine (rnum_int n _ h0 h1).mono ?_
        rintro e w3 ⟨q, rfl, hq, hb3⟩
        have hq3 := hq.rd
        have ho3 := HO.out.below hb3
        have hb4 := bwstep HBW.out hb3
        have hs4 := hb4.size
        have z4 : F.length + (numB n.toNat).length ≤ 140737488355328 := by rw [numB_len]; omega
        clear hq hb3
        go_wp2_with (at_builtin; refine wpList_appB bytesT rfl (.tmp 36) (.tmp 41) rfl rfl ho3 rfl hq3 z4 hs4 ?_; intro v5 w5 ho5 hg5 _; have HO5 := Lib.hid ho5; have HB5 := Lib.hid (hb4.grown hg5 hs4 ho3.ge); clear ho5 hg5)
        go_roundw
        case rel => exact ⟨k + 1, by omega, by go_num, by rw [HS.out]; exact HO5.out, HB5.out⟩
        case measure => simp [intOf]; omega
      · rw [List.take_of_length_le (show (cmN c).length ≤ k by omega)] at ho
        have HO := Lib.hid ho
        have HBW := Lib.hid hbw
        have hk0 : 5 ≤ k := by omega
        clear ho hbw hlt
        obtain ⟨wo, hwo⟩ : ∃ wo, wo = wr := ⟨_, rfl⟩
        subst hwo
        obtain ⟨p6, hp6⟩ : ∃ p6, p6 = u6 := ⟨_, rfl⟩
        subst hp6
        obtain ⟨km, hkm⟩ : ∃ km, km = k := ⟨_, rfl⟩
        subst hkm
        go_wp2_with fail
        go_loopw [6, 8] (fun o i wr => ∃ k : Nat, k ≤ 5 ∧ i = .int .i64 k ∧ Ow wr w2.heap.size 5 o ((numsB (cmN c) ++ allB ((cmT c).take k)).map bv) ∧ Below w2.heap.size w2 wr) (fun _ i _ => 5 - (intOf i).toNat)
        case atStart => exact ⟨0, by omega, rfl, by simpa [allB] using HO.out, HBW.out⟩
        case round =>
          clear HO HBW
          obtain ⟨k, hk, rfl, ho, hbw⟩ := hrel
          by_cases hlt5 : k < 5
          · have hcell := HCT.out wr hbw k (by omega)
            have hnn := HT.out _ (List.getElem_mem (show k < (cmT c).length by omega))
            have HS := Lib.hid (allB_snoc (cmT c) k (by omega))
            have hle := allB_take_le (cmT c) (k + 1)
            rw [HS.out, List.length_append] at hle
            generalize (cmT c)[k]'(by omega) = t at hcell hnn HS hle
            have hol : (numsB (cmN c) ++ allB ((cmT c).take k)).length + (textB t).length ≤ 140737488355328 := by
              have h5 := textB_len t
              have : (allB (cmT c)).length ≤ 40 + 5 * 4294967295 := by
                rw [allB_len]
                have hsum : sumS (cmT c) ≤ 5 * 4294967295 := by
                  have q0 := HT.out c.row (by simp [cmT])
                  have q1 := HT.out c.col (by simp [cmT])
                  have q2 := HT.out c.to_ (by simp [cmT])
                  have q3 := HT.out c.value (by simp [cmT])
                  have q4 := HT.out c.expect (by simp [cmT])
                  simp only [cmT, sumS, List.map_cons, List.map_nil, List.sum_cons, List.sum_nil]
                  omega
                omega
              rw [List.length_append, numsB_len]
              omega
            generalize allB ((cmT c).take k) = F at ho HS hol
            have HO := Lib.hid ho
            have HBW := Lib.hid hbw
            clear ho hbw hle
            obtain ⟨wi, hwi⟩ : ∃ wi, wi = wr := ⟨_, rfl⟩
            subst hwi
            go_wp2_with fail
            refine (rtext_ok t _ hnn).mono ?_
            rintro e w3 ⟨q, rfl, hq, hb3⟩
            have hq3 := hq.rd
            have ho3 := HO.out.below hb3
            have hb4 := bwstep HBW.out hb3
            have hs4 := hb4.size
            clear hq hb3
            go_wp2_with (at_builtin; refine wpList_appB bytesT rfl (.tmp 47) (.tmp 52) rfl rfl ho3 rfl hq3 hol hs4 ?_; intro v5 w5 ho5 hg5 _; have HO5 := Lib.hid ho5; have HB5 := Lib.hid (hb4.grown hg5 hs4 ho3.ge); clear ho5 hg5)
            go_roundw
            case rel => exact ⟨k + 1, by omega, by go_num, by rw [HS.out, ← List.append_assoc]; exact HO5.out, HB5.out⟩
            case measure => simp [intOf]; omega
          · obtain rfl : k = 5 := by omega
            rw [List.take_of_length_le (show (cmT c).length ≤ 5 by omega), hCD.out] at ho
            have HBW := Lib.hid (HB2.out.trans (hbw.mono HB2.out.size))
            have hcv := run_str (P := Tryd.prog) (w := wr) Tryd.underlying41 Tryd.underlying5 Tryd.underlying9 ho.rd
            have HR : Hid ((⟨(cmdB c).toArray⟩ : ByteArray) = cmdS c) := Lib.hid rfl
            generalize (⟨(cmdB c).toArray⟩ : ByteArray) = sx at hcv HR
            clear ho hbw
            go_wp2_with fail
            go_ret
            rw [HR.out]
            exact ⟨rfl, HBW.out⟩
end Go.Proofs.YtkpdadnmbjmfpaaDoor.Ce
