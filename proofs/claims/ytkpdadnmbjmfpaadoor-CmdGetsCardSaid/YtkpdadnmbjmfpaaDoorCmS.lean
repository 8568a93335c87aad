/- A command's bytes, as package cmd spells them. -/
import Derived.Test.YtkpdadnmbjmfpaaDoorCmC
import Derived.Test.YtkpdadnmbjmfpaaDoorCpA
import Derived.BigQuiet
namespace Go.Proofs.YtkpdadnmbjmfpaaDoor.Ce
open Go.RowKit

/-- an element of an array's value -/
theorem run_idxI (A : Array Value) (k : Nat) (n : Int) (hk : k < 5) (h : A[k]? = some (.int .i64 n)) (w : World) : (Instr.index 53 (.agg A) (.int .i64 (k : Int))).run Tryd.prog w = .ok (.int .i64 n) w := by
  have hs : (Tryd.prog.info? 3).map (·.size) = some 1 := by kernel_rfl
  obtain ⟨i, hi, hz⟩ := Option.map_eq_some_iff.1 hs
  simp [Instr.index, run_underlying Tryd.underlying53, asIntOf, part, isAgg, run_underlying Tryd.underlying3, sizeOf, typeInfo, hi, hz, h]
  omega
theorem run_idxS (A : Array Value) (k : Nat) (s : ByteArray) (hk : k < 5) (h : A[k]? = some (.string s)) (w : World) : (Instr.index 54 (.agg A) (.int .i64 (k : Int))).run Tryd.prog w = .ok (.string s) w := by
  have hs : (Tryd.prog.info? 9).map (·.size) = some 1 := by kernel_rfl
  obtain ⟨i, hi, hz⟩ := Option.map_eq_some_iff.1 hs
  simp [Instr.index, run_underlying Tryd.underlying54, asIntOf, part, isAgg, run_underlying Tryd.underlying9, sizeOf, typeInfo, hi, hz, h]
  omega
set_option maxHeartbeats 4000000 in
set_option maxRecDepth 100000 in
theorem spell_ok (c : Cm) (w : World) (hs : c.Sound) : Calls Tryd.prog 20 #[c.v] w fun e w' => e = .returned (.string (cmdS c)) ∧ Below w.heap.size w w' := by
  have HN := Lib.hid hs.nums
  have HT := Lib.hid hs.texts
  have hCD : Hid (numsB (cmN c) ++ allB (cmT c) = cmdB c) := Lib.hid rfl
  obtain ⟨hx, hhx⟩ : ∃ x : Int, x = if c.has = true then 1 else 0 := ⟨_, rfl⟩
  have hfl := fun w => cflag_any c.has w
  rw [← hhx] at hfl
  have HAN : Hid (∀ k (hk : k < (cmN c).length), (#[Value.int .i64 c.client, .int .i64 c.seq, .int .i64 c.kind, .int .i64 c.at_, .int .i64 hx])[k]? = some (.int .i64 (cmN c)[k])) := Lib.hid fun k hk => by
    have e : #[Value.int .i64 c.client, .int .i64 c.seq, .int .i64 c.kind, .int .i64 c.at_, .int .i64 hx] = ((cmN c).map (fun n => Value.int .i64 n)).toArray := by rw [hhx]; rfl
    rw [e]
    simp [hk]
  have HAT : Hid (∀ k (hk : k < (cmT c).length), (#[Value.string c.row, .string c.col, .string c.to_, .string c.value, .string c.expect])[k]? = some (.string (cmT c)[k])) := Lib.hid fun k hk => by
    have e : #[Value.string c.row, .string c.col, .string c.to_, .string c.value, .string c.expect] = ((cmT c).map (fun n => Value.string n)).toArray := rfl
    rw [e]
    simp [hk]
  clear hhx
  go_enter Tryd.func20, Tryd.ntmps20
  go_wp2_with (refine St.box cmD rfl (.tmp 0) c rfl rfl ?_)
  constructor
  intro w1 hI hb hz
  obtain ⟨c0, c1, c2, c3, c4, c5, c6, c7, c8, c9⟩ := CmAt.of hI
  clear hz
  have HC3 : Hid (∀ z, Below w1.heap.size w1 z → CmAt w.heap.size c z) := Lib.hid fun z hz => CmAt.of (hI.up hz)
  have HB := Lib.hid hb
  clear hI hb
  go_wp2_with fail
  go_quiet (first | (go_at_call 29; exact (hfl _).mono fun _ _ ⟨h1, h2⟩ => ⟨h1, _, h2.symm⟩))
  case h.refine_2 =>
    have HB1 : Hid (Below w1.heap.size w1 (w1.drewN nq)) := Lib.hid (bwN nq)
    generalize w1.drewN nq = w2 at *
    clear c0 c1 c2 c3 c4 c5 c6 c7 c8 c9 hfl
    generalize #[Value.int .i64 c.client, .int .i64 c.seq, .int .i64 c.kind, .int .i64 c.at_, .int .i64 hx] = AN at *
    have hNl : (cmN c).length = 5 := rfl
    have hTl : (cmT c).length = 5 := rfl
    go_wp2_with fail
    go_loopw [3, 20] (fun o i wr => ∃ k : Nat, k ≤ 5 ∧ i = .int .i64 k ∧ Ow wr w2.heap.size 5 o ((numsB ((cmN c).take k)).map bv) ∧ Below w2.heap.size w2 wr) (fun _ i _ => 5 - (intOf i).toNat)
    case atStart => exact ⟨0, by omega, rfl, Ow.nilB _ _ _, Below.refl _ _⟩
    case round =>
      obtain ⟨k, hk, rfl, ho, hbw⟩ := hrel
      by_cases hlt : k < 5
      · have hcell := HAN.out k (by omega)
        have hnn := HN.out _ (List.getElem_mem (show k < (cmN c).length by omega))
        have HS := Lib.hid (numsB_snoc (cmN c) k (by omega))
        generalize (cmN c)[k]'(by omega) = n at hcell hnn HS
        have hidx := run_idxI AN k n hlt hcell
        have hol : (numsB ((cmN c).take k)).length ≤ 20 := by rw [numsB_len, List.length_take]; omega
        generalize numsB ((cmN c).take k) = F at ho HS hol
        have HO := Lib.hid ho
        have HBW := Lib.hid hbw
        have h0 := hnn.1
        have h1 := hnn.2
        clear ho hbw hnn hcell
        obtain ⟨wo, hwo⟩ : ∃ wo, wo = wr := ⟨_, rfl⟩
        subst hwo
        go_wp2_with fail
        refine (num_int n _ h0 h1).mono ?_
        rintro e w3 ⟨q, rfl, hq, hb3⟩
        have hq3 := hq.rd
        have ho3 := HO.out.below hb3
        have hb4 := bwstep HBW.out hb3
        have hs4 := hb4.size
        have z4 : F.length + (numB n.toNat).length ≤ 140737488355328 := by rw [numB_len]; omega
        clear hq hb3
        go_wp2_with (at_builtin; refine wpList_appB bytesT rfl (.tmp 23) (.tmp 25) rfl rfl ho3 rfl hq3 z4 hs4 ?_; intro v5 w5 ho5 hg5 _; have HO5 := Lib.hid ho5; have HB5 := Lib.hid (hb4.grown hg5 hs4 ho3.ge); clear ho5 hg5)
        go_roundw
        case rel => exact ⟨k + 1, by omega, by go_num, by rw [HS.out]; exact HO5.out, HB5.out⟩
        case measure => simp [intOf]; omega
      · rw [List.take_of_length_le (show (cmN c).length ≤ k by omega)] at ho
        have HO := Lib.hid ho
        have HBW := Lib.hid hbw
        have hk0 : 5 ≤ k := by omega
        clear ho hlt
        obtain ⟨-, -, -, d3, d4, d5, -, d7, d8, -⟩ := HC3.out wr (bwstep HB1.out hbw)
        clear hbw
        obtain ⟨wo, hwo⟩ : ∃ wo, wo = wr := ⟨_, rfl⟩
        subst hwo
        obtain ⟨p6, hp6⟩ : ∃ p6, p6 = u3 := ⟨_, rfl⟩
        subst hp6
        obtain ⟨km, hkm⟩ : ∃ km, km = k := ⟨_, rfl⟩
        subst hkm
        go_wp2_with fail
        generalize #[Value.string c.row, .string c.col, .string c.to_, .string c.value, .string c.expect] = AT at *
        clear d3 d4 d5 d7 d8
        go_loopw [3, 39] (fun o i wr => ∃ k : Nat, k ≤ 5 ∧ i = .int .i64 k ∧ Ow wr w2.heap.size 5 o ((numsB (cmN c) ++ allB ((cmT c).take k)).map bv) ∧ Below w2.heap.size w2 wr) (fun _ i _ => 5 - (intOf i).toNat)
        case atStart => exact ⟨0, by omega, rfl, by simpa [allB] using HO.out, HBW.out⟩
        case round =>
          clear HO HBW
          obtain ⟨k, hk, rfl, ho, hbw⟩ := hrel
          by_cases hlt5 : k < 5
          · have hcell := HAT.out k (by omega)
            have hnn := HT.out _ (List.getElem_mem (show k < (cmT c).length by omega))
            have HS := Lib.hid (allB_snoc (cmT c) k (by omega))
            have hle := allB_take_le (cmT c) (k + 1)
            rw [HS.out, List.length_append] at hle
            generalize (cmT c)[k]'(by omega) = t at hcell hnn HS hle
            have hidx := run_idxS AT k t hlt5 hcell
            have hol : (numsB (cmN c) ++ allB ((cmT c).take k)).length + (textB t).length ≤ 140737488355328 := by
              have : (allB (cmT c)).length ≤ 40 + 5 * 4294967295 := by
                rw [allB_len]
                have hsum : sumS (cmT c) ≤ 5 * 4294967295 := by
                  have q0 := HT.out c.row (by simp [cmT])
                  have q1 := HT.out c.col (by simp [cmT])
                  have q2 := HT.out c.to_ (by simp [cmT])
                  have q3 := HT.out c.value (by simp [cmT])
                  have q4 := HT.out c.expect (by simp [cmT])
                  simp only [cmT, sumS, List.map_cons, List.map_nil, List.sum_cons, List.sum_nil]
                  omega
                omega
              rw [List.length_append, numsB_len]
              omega
            generalize allB ((cmT c).take k) = F at ho HS hol
            have HO := Lib.hid ho
            have HBW := Lib.hid hbw
            clear ho hbw hle hcell
            obtain ⟨wi, hwi⟩ : ∃ wi, wi = wr := ⟨_, rfl⟩
            subst hwi
            go_wp2_with fail
            refine (text_ok t _ hnn).mono ?_
            rintro e w3 ⟨q, rfl, hq, hb3⟩
            have hq3 := hq.rd
            have ho3 := HO.out.below hb3
            have hb4 := bwstep HBW.out hb3
            have hs4 := hb4.size
            clear hq hb3
            go_wp2_with (at_builtin; refine wpList_appB bytesT rfl (.tmp 42) (.tmp 44) rfl rfl ho3 rfl hq3 hol hs4 ?_; intro v5 w5 ho5 hg5 _; have HO5 := Lib.hid ho5; have HB5 := Lib.hid (hb4.grown hg5 hs4 ho3.ge); clear ho5 hg5)
            go_roundw
            case rel => exact ⟨k + 1, by omega, by go_num, by rw [HS.out, ← List.append_assoc]; exact HO5.out, HB5.out⟩
            case measure => simp [intOf]; omega
          · obtain rfl : k = 5 := by omega
            rw [List.take_of_length_le (show (cmT c).length ≤ 5 by omega), hCD.out] at ho
            have HBW := Lib.hid (bwstep HB.out (HB1.out.trans (hbw.mono HB1.out.size)))
            have hcv := run_str (P := Tryd.prog) (w := wr) Tryd.underlying41 Tryd.underlying5 Tryd.underlying9 ho.rd
            have HR : Hid ((⟨(cmdB c).toArray⟩ : ByteArray) = cmdS c) := Lib.hid rfl
            generalize (⟨(cmdB c).toArray⟩ : ByteArray) = sx at hcv HR
            clear ho hbw
            go_wp2_with fail
            go_ret
            rw [HR.out]
            exact ⟨rfl, HBW.out⟩
end Go.Proofs.YtkpdadnmbjmfpaaDoor.Ce
