/- The contracts of whole, Decode and Rebuild. -/
import Derived.Test.YtfnenehiapibiaaTold
namespace Go.Proofs.Ytfnenehiapibiaa
open Go.RowKit
open Mx (rw rw_len rw_get rw_congr dl cod mm fm sm)

/-- the shards of a value as rows -/
abbrev shR (k : Nat) (s : ByteArray) : Nat → List UInt8 := fun i => rw (mlen k s) (shM k s i)
/-- all that is at hand is as a value's shards are -/
def Fits (k n : Nat) (g : Nat → List UInt8) (s : ByteArray) : Prop := ∀ i ∈ hand n g, g i = shR k s i
theorem tells_value {k n : Nat} {g : Nat → List UInt8} {s s0 : ByteArray} {ok : Bool} (hk : 0 < k) (h : Tells k n g s ok) (hs : s0.size ≤ 512) (hf : Fits k n g s0) : ok = true ∧ s = s0 := by
  have e : flatM k (mlen k s0) (pcM k s0) = rw (k * mlen k s0) (tx s0) := flat_pc k (mlen k s0) (tx s0)
  have hle := mlen_le hk s0
  have := h (mlen k s0) (pcM k s0) (mlen_pos hk s0) hf (by rw [e]; exact tx_ok s0 _ hle (by omega))
  rw [e, tx_of s0 _ hle (by omega)] at this
  exact this
/-- what whole answers, where enough is at hand -/
def Wholes (k n : Nat) (g : Nat → List UInt8) (w : World) (e : Ending) (w' : World) : Prop :=
  (e = .returned (.tuple #[.string ⟨#[]⟩, .slice none 0 0, .int .i64 2]) ∧ ∀ s0 : ByteArray, s0.size ≤ 512 → ¬ Fits k n g s0) ∨
  (∃ (s : ByteArray) (x : Value) (vs : Nat → Value), e = .returned (.tuple #[.string s, x, .int .i64 0]) ∧ s.size ≤ 512 ∧ OwM w' w.heap.size x vs n (shR k s) ∧ Fits k n g s ∧ ∀ s0 : ByteArray, s0.size ≤ 512 → Fits k n g s0 → s = s0)
theorem agr_fits {k n : Nat} {g : Nat → List UInt8} {s : ByteArray} : agr (hand n g) (shR k s) g = true ↔ Fits k n g s := by
  unfold agr Fits
  rw [List.all_eq_true]
  exact ⟨fun h i hi => (of_decide_eq_true (h i hi)).symm, fun h i hi => decide_eq_true (h i hi).symm⟩
set_option maxHeartbeats 2000000 in
set_option maxRecDepth 100000 in
theorem whole_arg1 (K F : Int) (v : Value) (w : World) (h : ¬ isShp K F) :
    Calls Try.prog 30 #[shp K F, v] w fun e w' => e = .returned (.tuple #[.string ⟨#[]⟩, .slice none 0 0, .int .i64 1]) ∧ Below w.heap.size w w' := by
  have hp := fun w => shpR_any K F w
  rw [decide_eq_false h] at hp
  have hI := InBox.new w K F
  have hb : Below w.heap.size w (w.alloc (.cells #[.int .i64 K, .int .i64 F] 23)) := bwalloc (Below.refl _ _) _
  generalize hw0 : w.alloc (.cells #[.int .i64 K, .int .i64 F] 23) = w0 at *
  clear h
  go_enter Try.func30, Try.ntmps30
  go_wp2_with (refine boxH rfl (.tmp 0) K F rfl rfl ?_)
  constructor
  go_wp2_with (refine wpList_loadS rfl (.tmp 2) rfl rfl hI ?_)
  refine (hp _).mono ?_
  rintro e w1 ⟨rfl, hb1⟩
  clear hp hw0 hI
  go_wp2_with fail
  go_ret3
  exact ⟨rfl, bwstep hb hb1⟩
set_option maxHeartbeats 2000000 in
set_option maxRecDepth 100000 in
theorem whole_arg2 (k f n N : Nat) (v : Value) (g : Nat → List UInt8) (w : World) (h : isShN k f) (hN : k + 2 * f = N) (hn : n ≠ N) (hr : RdM w w.heap.size v n g) :
    Calls Try.prog 30 #[shp k f, v] w fun e w' => e = .returned (.tuple #[.string ⟨#[]⟩, .slice none 0 0, .int .i64 1]) ∧ Below w.heap.size w w' := by
  have hp := fun w => shpR_any k f w
  rw [decide_eq_true h.int] at hp
  obtain ⟨A, c, rfl, -, -⟩ := hr.shape
  have hne : ((n : Int) != (N : Int)) = true := bne_iff_ne.2 (fun e => hn (Int.ofNat.inj e))
  have hI := InBox.new w k f
  have hb : Below w.heap.size w (w.alloc (.cells #[.int .i64 k, .int .i64 f] 23)) := bwalloc (Below.refl _ _) _
  generalize hw0 : w.alloc (.cells #[.int .i64 k, .int .i64 f] 23) = w0 at *
  go_enter Try.func30, Try.ntmps30
  go_wp2_with (refine boxH rfl (.tmp 0) k f rfl rfl ?_)
  constructor
  go_wp2_with (refine wpList_loadS rfl (.tmp 2) rfl rfl hI ?_)
  refine (hp _).mono ?_
  rintro e w1 ⟨rfl, hb1⟩
  have hI1 := hI.below hb1
  have hbb := bwstep hb hb1
  clear hp hw0 hI hb hb1 hr hn
  have d0 := hI1.c0
  have d1 := hI1.c1
  go_wp2_with fail
  refine (shpN_ok k f N _ h hN).mono ?_
  rintro e w2 ⟨rfl, hb2⟩
  go_wp2_with fail
  go_ret3
  exact ⟨rfl, bwstep hbb hb2⟩
/-- the way to the shards at hand -/
theorem rfn (n : Nat) : ((n : Int) != (n : Int)) = false := by simp
set_option maxHeartbeats 2000000 in
set_option maxRecDepth 100000 in
theorem whole_short (k f n : Nat) (v : Value) (g : Nat → List UInt8) (w : World) (h : isShN k f) (hn : k + 2 * f = n) (hr : RdM w w.heap.size v n g) (hk : (hand n g).length < k) :
    Calls Try.prog 30 #[shp k f, v] w fun e w' => e = .returned (.tuple #[.string ⟨#[]⟩, .slice none 0 0, .int .i64 3]) ∧ Below w.heap.size w w' := by
  have h2 := h.2
  have hp := fun w => shpR_any k f w
  rw [decide_eq_true h.int] at hp
  obtain ⟨A, c, rfl, -, -⟩ := hr.shape
  have hne := rfn n
  have hI := InBox.new w k f
  have hb : Below w.heap.size w (w.alloc (.cells #[.int .i64 k, .int .i64 f] 23)) := bwalloc (Below.refl _ _) _
  generalize hw0 : w.alloc (.cells #[.int .i64 k, .int .i64 f] 23) = w0 at *
  go_enter Try.func30, Try.ntmps30
  go_wp2_with (refine boxH rfl (.tmp 0) k f rfl rfl ?_)
  constructor
  go_wp2_with (refine wpList_loadS rfl (.tmp 2) rfl rfl hI ?_)
  refine (hp _).mono ?_
  rintro e w1 ⟨rfl, hb1⟩
  have hI1 := hI.below hb1
  have hbb := bwstep hb hb1
  clear hp hw0 hI hb hb1
  have d0 := hI1.c0
  have d1 := hI1.c1
  go_wp2_with fail
  refine (shpN_ok k f n _ h hn).mono ?_
  rintro e w2 ⟨rfl, hb2⟩
  have hI2 := hI1.below hb2
  have hbb := bwstep hbb hb2
  clear hI1 hb2 d0 d1
  go_wp2_with fail
  refine (hand_any _ n g _ (hr.up hbb) (by omega)).mono ?_
  rintro e w3 ⟨⟨x, rfl, hx⟩, hb3⟩
  obtain ⟨A', c', rfl, -, -⟩ := hx.rd.shapeM
  have c0 := (hI2.below hb3).c0
  have hbb := bwstep hbb hb3
  have hk' : ((hand n g).length : Int) < (k : Int) := by omega
  clear hI2 hb3 hx hr
  go_wp2_with fail
  go_ret3
  exact ⟨rfl, hbb⟩
set_option maxHeartbeats 4000000 in
set_option maxRecDepth 100000 in
theorem whole_any (k f n : Nat) (v : Value) (g : Nat → List UInt8) (w : World) (h : isShN k f) (hn : k + 2 * f = n) (hr : RdM w w.heap.size v n g) (hk : k ≤ (hand n g).length) (hg : ∀ i, i < n → (g i).length ≤ 1000) :
    Calls Try.prog 30 #[shp k f, v] w fun e w' => Wholes k n g w e w' ∧ Below w.heap.size w w' := by
  have h1 := h.1
  have h2 := h.2
  have hp := fun w => shpR_any k f w
  rw [decide_eq_true h.int] at hp
  obtain ⟨A, c, rfl, -, -⟩ := hr.shape
  have hne := rfn n
  have hI := InBox.new w k f
  have hb : Below w.heap.size w (w.alloc (.cells #[.int .i64 k, .int .i64 f] 23)) := bwalloc (Below.refl _ _) _
  generalize hw0 : w.alloc (.cells #[.int .i64 k, .int .i64 f] 23) = w0 at *
  go_enter Try.func30, Try.ntmps30
  go_wp2_with (refine boxH rfl (.tmp 0) k f rfl rfl ?_)
  constructor
  go_wp2_with (refine wpList_loadS rfl (.tmp 2) rfl rfl hI ?_)
  refine (hp _).mono ?_
  rintro e w1 ⟨rfl, hb1⟩
  have hI1 := hI.below hb1
  have hbb := bwstep hb hb1
  clear hp hw0 hI hb hb1
  have d0 := hI1.c0
  have d1 := hI1.c1
  go_wp2_with fail
  refine (shpN_ok k f n _ h hn).mono ?_
  rintro e w2 ⟨rfl, hb2⟩
  have hI2 := hI1.below hb2
  have hbb := bwstep hbb hb2
  clear hI1 hb2 d0 d1
  go_wp2_with fail
  refine (hand_any _ n g _ (hr.up hbb) (by omega)).mono ?_
  rintro e w3 ⟨⟨x, rfl, hx⟩, hb3⟩
  have hx1 := hx.rd
  obtain ⟨A', c', rfl, -, -⟩ := hx1.shapeM
  have hI3 := hI2.below hb3
  have c0 := hI3.c0
  have hbb := bwstep hbb hb3
  have hr3 := hr.up hbb
  have hk' : ¬ ((hand n g).length : Int) < (k : Int) := by omega
  clear hI2 hb3 hx hr
  go_wp2_with (refine wpList_loadS rfl (.tmp 2) rfl rfl hI3 ?_)
  refine (told_any k f n _ _ g _ h hn hr3 hx1 hk hg).mono ?_
  rintro e w4 ⟨⟨s, ok, rfl, hT⟩, hb4⟩
  have hI4 := hI3.below hb4
  have hbb := bwstep hbb hb4
  have hr4 := hr3.up hb4
  have hx4 := hx1.up hb4
  clear hI3 hb4 hx1 hr3 c0
  cases ok
  · have HN : Hid (∀ s0 : ByteArray, s0.size ≤ 512 → ¬ Fits k n g s0) := Lib.hid fun s0 hs hf => by
      have := (tells_value h1 hT hs hf).1
      cases this
    clear hT
    go_wp2_with fail
    go_ret3
    exact ⟨.inl ⟨rfl, HN.out⟩, hbb⟩
  · by_cases hs : s.size ≤ 512
    · go_wp2_with (refine wpList_loadS rfl (.tmp 2) rfl rfl hI4 ?_)
      refine (encode_ok k f n s _ h hn hs).mono ?_
      rintro e w5 ⟨⟨y, vs, rfl, hy⟩, hb5⟩
      have hy1 := hy.rd
      have hr5 := hr4.up hb5
      have hx5 := hx4.up hb5
      have hbb5 := bwstep hbb hb5
      have hln : ∀ j (hj : j < (hand n g).length), (hand n g)[j] < n ∧ (hand n g)[j] < n := fun j hj => by
        have := (hand_mem.1 (List.getElem_mem hj)).1
        exact ⟨this, this⟩
      have hag := agree_any _ _ _ n n (shR k s) g (hand n g) w5 hy1 hr5 hx5 hln
      have hyo := hy.mono hbb.size
      by_cases ha : agr (hand n g) (shR k s) g = true
      · rw [ha] at hag
        have HF := Lib.hid (agr_fits.1 ha)
        have HU : Hid (∀ s0 : ByteArray, s0.size ≤ 512 → Fits k n g s0 → s = s0) := Lib.hid fun s0 hs0 hf => (tells_value h1 hT hs0 hf).2
        have hs' := Lib.hid hs
        clear hT ha hy hb5 hI4 hr4 hx4 hs hy1 hr5 hx5 hbb
        go_wp2_with fail
        refine hag.mono ?_
        rintro e w6 ⟨rfl, hb6⟩
        have hyo := hyo.below hb6
        go_wp2_with fail
        go_ret3
        exact ⟨.inr ⟨s, _, vs, rfl, hs'.out, hyo, HF.out, HU.out⟩, bwstep hbb5 hb6⟩
      · have ha' : agr (hand n g) (shR k s) g = false := by simpa using ha
        rw [ha'] at hag
        have HN : Hid (∀ s0 : ByteArray, s0.size ≤ 512 → ¬ Fits k n g s0) := Lib.hid fun s0 hs0 hf => by
          have e := (tells_value h1 hT hs0 hf).2
          subst e
          exact ha (agr_fits.2 hf)
        clear hT ha ha' hy hb5 hI4 hr4 hx4 hs hy1 hr5 hx5 hbb
        go_wp2_with fail
        refine hag.mono ?_
        rintro e w6 ⟨rfl, hb6⟩
        go_wp2_with fail
        go_ret3
        exact ⟨.inl ⟨rfl, HN.out⟩, bwstep hbb5 hb6⟩
    · go_wp2_with (refine wpList_loadS rfl (.tmp 2) rfl rfl hI4 ?_)
      refine (encode_big k f s _ h (by omega)).mono ?_
      rintro e w5 ⟨rfl, hb5⟩
      have hbb5 := bwstep hbb hb5
      have HN : Hid (∀ s0 : ByteArray, s0.size ≤ 512 → ¬ Fits k n g s0) := Lib.hid fun s0 hs0 hf => by
        have e := (tells_value h1 hT hs0 hf).2
        subst e
        exact hs hs0
      clear hT hs hb5 hI4 hr4 hx4 hbb
      go_wp2_with fail
      go_ret3
      exact ⟨.inl ⟨rfl, HN.out⟩, hbb5⟩
end Go.Proofs.Ytfnenehiapibiaa
