/- The contract of package field: Row. -/
import Derived.Test.YtjhnbhgpnmfdgaaFldC
import Derived.Test.YtjhnbhgpnmfdgaaMk
namespace Go.Proofs.Ytjhnbhgpnmfdgaa
open Go.RowKit

/-- each byte's product with c -/
def gmB (c : Nat) (b : UInt8) : UInt8 := UInt8.ofNat (Gf.gm c b.toNat)
def rowL (c : Nat) (l : List UInt8) : List UInt8 := l.map (gmB c)
theorem gmB_nat {c : Nat} (hc : c < 256) (b : UInt8) : (gmB c b).toNat = Gf.gm c b.toNat := by
  have := Gf.gm_lt b.toNat hc
  unfold gmB
  simp
  omega
theorem bv_gmB {c : Nat} (hc : c < 256) (b : UInt8) : bv (gmB c b) = .int .u8 (Gf.gm c b.toNat : Int) := by
  unfold bv
  rw [gmB_nat hc]
theorem rowL_len (c : Nat) (l : List UInt8) : (rowL c l).length = l.length := by simp [rowL]
/-- the row behind k rounds -/
def rowK (c : Nat) (l : List UInt8) (k : Nat) : List UInt8 := rowL c (l.take k) ++ List.replicate (l.length - k) 0
theorem rowK_len (c : Nat) (l : List UInt8) (k : Nat) (h : k ≤ l.length) : (rowK c l k).length = l.length := by
  simp [rowK, rowL_len]; omega
theorem rowK_set (c : Nat) (l : List UInt8) (k : Nat) (h : k < l.length) : (rowK c l k).set k (gmB c l[k]) = rowK c l (k + 1) := by
  have e : (rowL c (l.take k)).length = k := by simp [rowL_len]; omega
  unfold rowK
  rw [List.set_append_right _ _ (by omega), e, Nat.sub_self, show l.length - k = (l.length - (k + 1)) + 1 by omega, List.replicate_succ, List.set_cons_zero, List.take_succ_eq_append_getElem h]
  unfold rowL
  rw [List.map_append, List.append_assoc]
  rfl
theorem rowK_0 (c : Nat) (l : List UInt8) : rowK c l 0 = List.replicate l.length 0 := by simp [rowK, rowL]
theorem rowK_all (c : Nat) (l : List UInt8) : rowK c l l.length = rowL c l := by simp [rowK]
set_option maxHeartbeats 1000000 in
set_option maxRecDepth 100000 in
theorem row_any (b c : Nat) (v : Value) (l : List UInt8) (w : World) (hf : Fd w b) (hc : c < 256) (hr : Rd w w.heap.size v (l.map bv)) (hl : l.length ≤ 140737488355328) :
    Calls Try.prog 25 #[.pointer (some ⟨b, 0, none⟩), .int .u8 (c : Int), v] w fun e w' =>
      (∃ x, e = .returned x ∧ Ow w' w.heap.size 5 x ((rowL c l).map bv)) ∧ Below w.heap.size w w' := by
  obtain ⟨A, cap, rfl, hcp, hm⟩ := hr.shapeM
  go_enter Try.func25, Try.ntmps25
  go_wp2_with (refine wpList_makeB bytesT rfl (.tmp 14) (.tmp 14) rfl l.length rfl rfl hl ?_; intro w1 ho hb)
  rw [← rowK_0 c l] at ho
  go_loopw [9, 10, 18] (fun _ _ i wr => ∃ k : Nat, k ≤ l.length ∧ i = .int .i64 k ∧ Ow wr w.heap.size 5 (.slice (some ⟨w.heap.size, 0, none⟩) l.length l.length) ((rowK c l k).map bv) ∧ Below w.heap.size w wr) (fun _ _ i _ => l.length - (intOf i).toNat)
  case atStart => exact ⟨0, by omega, rfl, ho, hb⟩
  case round =>
    clear ho hb
    obtain ⟨k, hk, rfl, ho, hb⟩ := hrel
    by_cases hlt : k < l.length
    · have hfw := hf.below hb
      obtain ⟨bb, off, rfl, hbb, hcell⟩ := (hr.up hb).cellM (by omega)
      have hck := hcell k hlt
      simp only [bv] at hck
      clear hcell
      have hx := l[k].toNat_lt
      have HS := Lib.hid (rowK_set c l k hlt)
      have HB := Lib.hid (bv_gmB hc l[k])
      have hlen := rowK_len c l k hk
      obtain ⟨g, hg, hgb, hgs, hgc, hgf, hset⟩ := ho.at_ (k := k) (by rw [List.length_map]; omega)
      have hg' : w.heap.size = g := by injection hg with hg; injection hg
      subst hg'
      have hset' := hset (bv (gmB c l[k]))
      rw [← List.map_set, HS.out] at hset'
      have HO := Lib.hid hset'
      have hgc' : ∃ u, wr.cell? ⟨w.heap.size, k, none⟩ = some u := ⟨_, hgc⟩
      clear hset hset' hg hgc hlen hgb
      obtain ⟨u, hgc⟩ := hgc'
      go_wp2_with fail
      refine (mul_any b c l[k].toNat _ hfw hc hx).mono ?_
      rintro e w2 ⟨rfl, n1, rfl⟩
      go_wp2_with fail
      go_roundw
      case rel => exact ⟨k + 1, by omega, by go_num, by rw [HB.out] at HO; exact HO.out, ((below_drewN hb n1).setCell (p := ⟨w.heap.size, k, none⟩) (Nat.le_refl _) _)⟩
      case measure => simp [intOf]; omega
    · obtain rfl : k = l.length := by omega
      rw [rowK_all] at ho
      go_wp2_with fail
      go_ret
      exact ⟨⟨_, rfl, ho⟩, hb⟩
end Go.Proofs.Ytjhnbhgpnmfdgaa
