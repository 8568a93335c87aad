/- Layer 10's awake. -/
import Derived.Test.YtpflcnndloielaaBcu
import Derived.Test.YtpflcnndloielaaBpu
import Derived.Test.YtpflcnndloielaaBce
import Derived.Test.YtpflcnndloielaaMs
namespace Go.Proofs.Ytpflcnndloielaa.Ce
open Go.RowKit Frm

def bk1 : Cl := ⟨⟨#[97]⟩, ⟨#[120]⟩, 0, ⟨#[]⟩, false⟩
def bk2 : Cl := ⟨⟨#[98]⟩, ⟨#[120]⟩, 0, ⟨#[]⟩, false⟩
theorem bk1_ok : bk1.ok := ⟨by decide, by decide, by decide, by decide, by decide, by decide, by decide, by decide⟩
theorem bk2_ok : bk2.ok := ⟨by decide, by decide, by decide, by decide, by decide, by decide, by decide, by decide⟩
theorem bk_lt : klt bk1 bk2 := .inl (by decide)
theorem bk_sorted : Sorted [bk1, bk2] := sorted_iff.2 ⟨fun c hc => by
  rcases List.mem_cons.1 hc with rfl | hc
  · exact bk1_ok
  · rw [List.mem_singleton.1 hc]; exact bk2_ok, List.pairwise_cons.2 ⟨fun x hx => by rw [List.mem_singleton.1 hx]; exact bk_lt, List.pairwise_singleton _ _⟩⟩
theorem bk_len : (flatC [bk1, bk2]).length = 38 := by
  rw [flatC, flatC, flatC, List.length_append, List.length_append, cellB_len, cellB_len]
  rfl
theorem bk_cut : (cutB 1 [bk1, bk2]).length = 2 := by
  unfold cutB
  rw [cutG, if_pos (by rw [cellB_len]; decide), cutG, if_pos (by rw [cellB_len]; decide), cutG, if_pos rfl]
  rfl
set_option maxHeartbeats 4000000 in
set_option maxRecDepth 100000 in
theorem bawake_ok (w : World) : Calls Try.prog 8 #[] w fun e w' => e = .returned (.bool true) ∧ Below w.heap.size w w' := by
  have b0 := bwalloc (bwrefl w) (.cells #[.string bk1.row, .string bk1.col, .int .i64 bk1.at_, .string bk1.val, .bool bk1.gone, .string bk2.row, .string bk2.col, .int .i64 bk2.at_, .string bk2.val, .bool bk2.gone] 46)
  have h0 := RdL.two w [] bk1 bk2 (by simp) 46
  have HR0 := Lib.hid h0
  have HB0 := Lib.hid b0
  have hcu := bcut_ok _ [bk1, bk2] 1 _ HR0.out bk_sorted (by decide) (by decide)
  clear h0 b0
  go_enter Try.func8, Try.ntmps8
  go_wp2_with fail
  refine hcu.mono ?_
  rintro e w1 ⟨⟨x, vs, rfl, hx⟩, hb1⟩
  obtain ⟨Ax, cx, rfl, -, -⟩ := hx.rd.shape
  rw [bk_cut]
  have HR1 := Lib.hid (HR0.out.bel hb1)
  have HB1 := Lib.hid (bwstep HB0.out hb1)
  clear hx hb1 hcu HR0 HB0
  go_wp2_with fail
  refine (bput_ok _ [bk1, bk2] _ HR1.out bk_sorted (by simp) (by rw [recB_len, bk_len]; decide)).mono ?_
  rintro e w2 ⟨⟨y, rfl, hy⟩, hb2⟩
  have hyl : (blkB [bk1, bk2]).length = 54 := by rw [blkB_len, bk_len]
  have HR2 := Lib.hid (HR1.out.bel hb2)
  have HB2 := Lib.hid (bwstep HB1.out hb2)
  have hyr := hy.rd
  obtain ⟨Ay, cy, rfl, -, -⟩ := hyr.shapeM
  rw [hyl] at hyr
  rw [hyl]
  have BL : Hid (∃ l, l = blkB [bk1, bk2]) := Lib.hid ⟨_, rfl⟩
  obtain ⟨l, hl⟩ := BL.out
  rw [← hl] at hyr hyl
  have HL := Lib.hid hl
  have HLL := Lib.hid hyl
  have hyr := hyr.up (bwalloc (bwrefl w2) (.cells #[] 5))
  have o3 : Ow (w2.alloc (.cells #[] 5)) w2.heap.size 5 (.slice (some ⟨w2.heap.size, 0, none⟩) 0 0) (([] : List UInt8).map bv) := Ow.empty w2 (Nat.le_refl _) _
  have z3 : ([] : List UInt8).length + l.length ≤ 140737488355328 := by rw [hyl]; decide
  have s3 : w2.heap.size ≤ (w2.alloc (.cells #[] 5)).heap.size := by simp
  clear hy hb2 hl hyl BL
  go_wp2_with (first
    | (at_builtin; refine wpList_appB bytesT rfl (.tmp 25) (.tmp 26) rfl rfl o5 rfl r5 z5 s5 ?_; intro v6 w6 o6 g6 _; have O6 := Lib.hid o6; have B6 := Lib.hid (b4.grown g6 s5 o5.ge); clear o6 g6 o5 r5)
    | (at_builtin; refine wpList_appB bytesT rfl (.tmp 23) (.tmp 24) rfl rfl o3 rfl hyr z3 s3 ?_; intro v4 w4 o4 g4 _; have b4 := bwalloc (Ow.emptyG g4) (.cells #[.int .u8 9] 5); have o5 := o4.below (bwalloc (bwrefl w4) (.cells #[.int .u8 9] 5)); have s5 := b4.size; have r5 : Rd (w4.alloc (.cells #[.int .u8 9] 5)) _ (.slice (some ⟨w4.heap.size, 0, none⟩) 1 1) (([9] : List UInt8).map bv) := Rd.newW w4 5 #[.int .u8 9] rfl (by simp [maxLen]) rfl; have z5 : ([] ++ l).length + ([9] : List UInt8).length ≤ 140737488355328 := (by rw [List.nil_append, HLL.out]; decide); clear o4 g4))
  have hbk : BlkAt (([] ++ l) ++ [9]) [bk1, bk2] [9] := ⟨by rw [List.nil_append, HL.out], bk_sorted, by simp, by rw [recB_len, bk_len]; decide⟩
  have HBK := Lib.hid hbk
  have hge := bget_any _ _ _ _ O6.out.rd (Nat.le_refl _) (by rw [List.length_append, List.nil_append, HLL.out]; decide)
  clear hbk
  refine hge.mono ?_
  rintro e w7 ⟨he, hb7⟩
  rcases he with ⟨L, m, p, q, hat, rfl, hp, hq⟩ | ⟨hno, rfl⟩
  · obtain ⟨rfl, rfl⟩ := hat.one HBK.out
    have HP := Lib.hid (hp.rd (S := []) (fun _ h => by cases h))
    obtain ⟨Aq, cq, rfl, -, -⟩ := hq.rd.shapeM
    have hlq : ([9] : List UInt8).length = 1 := rfl
    rw [hlq]
    have HR7 := Lib.hid (HR2.out.bel (bwstep B6.out hb7))
    have HB7 := Lib.hid (bwstep HB2.out (bwstep B6.out hb7))
    clear hat hp hq hb7 hge hlq
    go_wp2_with fail
    refine (rsameL_self _ _ [bk1, bk2] _ HP.out HR7.out (by decide)).mono ?_
    rintro e w8 ⟨rfl, hb8⟩
    have HB8 := Lib.hid (bwstep HB7.out hb8)
    clear hb8
    go_wp2_with fail
    go_ret
    exact ⟨rfl, HB8.out⟩
  · exact absurd ⟨_, _, HBK.out⟩ hno
end Go.Proofs.Ytpflcnndloielaa.Ce
