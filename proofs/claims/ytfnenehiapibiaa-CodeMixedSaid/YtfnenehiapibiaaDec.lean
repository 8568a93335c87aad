/- The contracts of Decode and Rebuild. -/
import Derived.Test.YtfnenehiapibiaaWhole
namespace Go.Proofs.Ytfnenehiapibiaa
open Go.RowKit
open Mx (rw rw_len rw_get rw_congr dl cod mm fm sm)

set_option maxHeartbeats 1000000 in
set_option maxRecDepth 100000 in
theorem decode_of (K F : Int) (v : Value) (w : World) (Q : ByteArray → Value → Int → World → Prop)
    (h : ∀ w0, Below w.heap.size w w0 → Calls Try.prog 30 #[shp K F, v] w0 fun e w' => ∃ s x z, e = .returned (.tuple #[.string s, x, .int .i64 z]) ∧ Q s x z w') :
    Calls Try.prog 19 #[shp K F, v] w fun e w' => ∃ s x z, e = .returned (.tuple #[.string s, .int .i64 z]) ∧ Q s x z w' := by
  have hI := InBox.new w K F
  have hb : Below w.heap.size w (w.alloc (.cells #[.int .i64 K, .int .i64 F] 23)) := bwalloc (Below.refl _ _) _
  generalize hw0 : w.alloc (.cells #[.int .i64 K, .int .i64 F] 23) = w0 at *
  go_enter Try.func19, Try.ntmps19
  go_wp2_with (refine boxH rfl (.tmp 0) K F rfl rfl ?_)
  constructor
  go_wp2_with (refine wpList_loadS rfl (.tmp 2) rfl rfl hI ?_)
  refine (h _ hb).mono ?_
  rintro e w1 ⟨s, x, z, rfl, hQ⟩
  clear hw0 hI
  go_wp2_with fail
  go_ret2
  exact ⟨s, x, z, rfl, hQ⟩
theorem decode_arg1 (K F : Int) (v : Value) (w : World) (h : ¬ isShp K F) :
    Calls Try.prog 19 #[shp K F, v] w fun e w' => e = .returned (.tuple #[.string ⟨#[]⟩, .int .i64 1]) ∧ Below w.heap.size w w' := by
  refine (decode_of K F v w (fun s _ z w' => s = ⟨#[]⟩ ∧ z = 1 ∧ Below w.heap.size w w') fun w0 hb => (whole_arg1 K F v w0 h).mono ?_).mono ?_
  · rintro e w' ⟨rfl, hb2⟩
    exact ⟨_, _, _, rfl, rfl, rfl, bwstep hb hb2⟩
  · rintro e w' ⟨s, x, z, rfl, rfl, rfl, hb⟩
    exact ⟨rfl, hb⟩
theorem decode_arg2 (k f n N : Nat) (v : Value) (g : Nat → List UInt8) (w : World) (h : isShN k f) (hN : k + 2 * f = N) (hn : n ≠ N) (hr : RdM w w.heap.size v n g) :
    Calls Try.prog 19 #[shp k f, v] w fun e w' => e = .returned (.tuple #[.string ⟨#[]⟩, .int .i64 1]) ∧ Below w.heap.size w w' := by
  refine (decode_of k f v w (fun s _ z w' => s = ⟨#[]⟩ ∧ z = 1 ∧ Below w.heap.size w w') fun w0 hb => (whole_arg2 k f n N v g w0 h hN hn (hr.up hb)).mono ?_).mono ?_
  · rintro e w' ⟨rfl, hb2⟩
    exact ⟨_, _, _, rfl, rfl, rfl, bwstep hb hb2⟩
  · rintro e w' ⟨s, x, z, rfl, rfl, rfl, hb⟩
    exact ⟨rfl, hb⟩
theorem decode_short (k f n : Nat) (v : Value) (g : Nat → List UInt8) (w : World) (h : isShN k f) (hn : k + 2 * f = n) (hr : RdM w w.heap.size v n g) (hk : (hand n g).length < k) :
    Calls Try.prog 19 #[shp k f, v] w fun e w' => e = .returned (.tuple #[.string ⟨#[]⟩, .int .i64 3]) ∧ Below w.heap.size w w' := by
  refine (decode_of k f v w (fun s _ z w' => s = ⟨#[]⟩ ∧ z = 3 ∧ Below w.heap.size w w') fun w0 hb => (whole_short k f n v g w0 h hn (hr.up hb) hk).mono ?_).mono ?_
  · rintro e w' ⟨rfl, hb2⟩
    exact ⟨_, _, _, rfl, rfl, rfl, bwstep hb hb2⟩
  · rintro e w' ⟨s, x, z, rfl, rfl, rfl, hb⟩
    exact ⟨rfl, hb⟩
/-- what Decode answers, where enough is at hand -/
def Decodes (k n : Nat) (g : Nat → List UInt8) (e : Ending) : Prop :=
  (e = .returned (.tuple #[.string ⟨#[]⟩, .int .i64 2]) ∧ ∀ s0 : ByteArray, s0.size ≤ 512 → ¬ Fits k n g s0) ∨
  (∃ s : ByteArray, e = .returned (.tuple #[.string s, .int .i64 0]) ∧ s.size ≤ 512 ∧ Fits k n g s ∧ ∀ s0 : ByteArray, s0.size ≤ 512 → Fits k n g s0 → s = s0)
theorem decode_any (k f n : Nat) (v : Value) (g : Nat → List UInt8) (w : World) (h : isShN k f) (hn : k + 2 * f = n) (hr : RdM w w.heap.size v n g) (hk : k ≤ (hand n g).length) (hg : ∀ i, i < n → (g i).length ≤ 1000) :
    Calls Try.prog 19 #[shp k f, v] w fun e w' => Decodes k n g e ∧ Below w.heap.size w w' := by
  refine (decode_of k f v w (fun s _ z w' => ((s = ⟨#[]⟩ ∧ z = 2 ∧ ∀ s0 : ByteArray, s0.size ≤ 512 → ¬ Fits k n g s0) ∨ (z = 0 ∧ s.size ≤ 512 ∧ Fits k n g s ∧ ∀ s0 : ByteArray, s0.size ≤ 512 → Fits k n g s0 → s = s0)) ∧ Below w.heap.size w w')
    fun w0 hb => (whole_any k f n v g w0 h hn (hr.up hb) hk hg).mono ?_).mono ?_
  · rintro e w' ⟨⟨rfl, hno⟩ | ⟨s, x, vs, rfl, hs, -, hf, hu⟩, hb2⟩
    · exact ⟨_, _, _, rfl, .inl ⟨rfl, rfl, hno⟩, bwstep hb hb2⟩
    · exact ⟨_, _, _, rfl, .inr ⟨rfl, hs, hf, hu⟩, bwstep hb hb2⟩
  · rintro e w' ⟨s, x, z, rfl, ⟨rfl, rfl, hno⟩ | ⟨rfl, hs, hf, hu⟩, hb⟩
    · exact ⟨.inl ⟨rfl, hno⟩, hb⟩
    · exact ⟨.inr ⟨s, rfl, hs, hf, hu⟩, hb⟩
/-- what Rebuild answers, where enough is at hand -/
def Rebuilds (k n i : Nat) (g : Nat → List UInt8) (w : World) (e : Ending) (w' : World) : Prop :=
  (e = .returned (.tuple #[.slice none 0 0, .int .i64 2]) ∧ ∀ s0 : ByteArray, s0.size ≤ 512 → ¬ Fits k n g s0) ∨
  (∃ (s : ByteArray) (y : Value), e = .returned (.tuple #[y, .int .i64 0]) ∧ s.size ≤ 512 ∧ Fits k n g s ∧ Ow w' w.heap.size 5 y ((shR k s i).map bv) ∧ ∀ s0 : ByteArray, s0.size ≤ 512 → Fits k n g s0 → s = s0)
set_option maxHeartbeats 2000000 in
set_option maxRecDepth 100000 in
theorem rebuild_any (k f n i : Nat) (v : Value) (g : Nat → List UInt8) (w : World) (h : isShN k f) (hn : k + 2 * f = n) (hi : i < n) (hr : RdM w w.heap.size v n g) (hk : k ≤ (hand n g).length) (hg : ∀ i, i < n → (g i).length ≤ 1000) :
    Calls Try.prog 21 #[shp k f, v, .int .i64 (i : Int)] w fun e w' => Rebuilds k n i g w e w' ∧ Below w.heap.size w w' := by
  have hI := InBox.new w k f
  have hb : Below w.heap.size w (w.alloc (.cells #[.int .i64 k, .int .i64 f] 23)) := bwalloc (Below.refl _ _) _
  have c0 := hI.c0
  have c1 := hI.c1
  have hi0 : ¬ (i : Int) < 0 := by omega
  have hin : ¬ (n : Int) ≤ (i : Int) := by omega
  have hmp := fun s => mlen_pos h.1 s
  generalize hw0 : w.alloc (.cells #[.int .i64 k, .int .i64 f] 23) = w0 at *
  go_enter Try.func21, Try.ntmps21
  go_wp2_with (refine boxH rfl (.tmp 0) k f rfl rfl ?_)
  constructor
  go_wp2_with fail
  refine (shpN_ok k f n _ h hn).mono ?_
  rintro e w1 ⟨rfl, hb1⟩
  have hI1 := hI.below hb1
  have hbb := bwstep hb hb1
  have hr1 := hr.up hbb
  clear hb hb1 hw0 hI hr c0 c1
  go_wp2_with (refine wpList_loadS rfl (.tmp 3) rfl rfl hI1 ?_)
  refine (whole_any k f n v g _ h hn hr1 hk hg).mono ?_
  rintro e w2 ⟨⟨rfl, hno⟩ | ⟨s, x, vs, rfl, hs, hx, hf, hu⟩, hb2⟩
  · have HN := Lib.hid hno
    have hbb2 := bwstep hbb hb2
    clear hno hI1 hr1 hb2 hbb hmp
    go_wp2_with fail
    go_ret2
    exact ⟨.inl ⟨rfl, HN.out⟩, hbb2⟩
  · obtain ⟨A, c, rfl, hc, hcm⟩ := hx.rd.shape
    have hrow := (hx.row i hi).mono hbb.size
    obtain ⟨gb, q, c', rfl, hv, hcell, -⟩ := hx.at_ (k := 0) hi (hmp s)
    rw [hv] at hrow
    have HS := Lib.hid hs
    have HF := Lib.hid hf
    have HU := Lib.hid hu
    have hbb2 := bwstep hbb hb2
    unfold maxLen at hcm
    clear hI1 hr1 hb2 hbb hmp hs hf hu hx
    go_wp2_with fail
    go_ret2
    exact ⟨.inr ⟨s, _, rfl, HS.out, HF.out, hrow, HU.out⟩, hbb2⟩
end Go.Proofs.Ytfnenehiapibiaa
