/- MemKeeps' walk. -/
import Derived.Test.YtffkbepcdidnjaaMa
import Derived.Test.YtffkbepcdidnjaaMs
import Derived.Test.YtffkbepcdidnjaaCfw
import Derived.Test.YtffkbepcdidnjaaCpo
namespace Go.Proofs.Ytffkbepcdidnjaa.Ce
open Go.RowKit

theorem rowsC_none (L : List Cl) : rowsC ⟨#[]⟩ ⟨#[]⟩ L = L := by
  unfold rowsC
  rw [List.filter_eq_self]
  intro c _
  unfold inR
  rw [decide_eq_true (show ¬ c.row.data.toList < (⟨#[]⟩ : ByteArray).data.toList from List.not_lt_nil _), decide_eq_true (show (⟨#[]⟩ : ByteArray).size = 0 from rfl)]
  rfl
/-- x and y are slices of n cells of the call's own, apart -/
def KeepS (w3 w4 : World) (x y : Value) (n : Nat) (wr : World) : Prop :=
  (∃ X Y : List Cl, X.length = n ∧ Y.length = n ∧ OwL wr w3.heap.size x X ∧ OwL wr w4.heap.size y Y) ∧ Below w3.heap.size w3 wr ∧ (∀ k, x.ownBlock = some k → k < w4.heap.size) ∧ w3.heap.size ≤ w4.heap.size
section
variable {w3 w4 wr w' : World} {x y : Value} {n k : Nat}
theorem KeepS.openX (h : KeepS w3 w4 x y n wr) (hk : k < n) : ∃ g cap cur, x = .slice (some ⟨g, 0, none⟩) n cap ∧ wr.heap[g]? = some (.cells cur 29 (0, 0)) ∧ n ≤ cap ∧ cap ≤ maxLen ∧ k * 5 + [Cl.zero].length * 5 ≤ cur.size ∧ ∀ w', Turned g (cpd cur (k * 5) [Cl.zero]) wr w' → KeepS w3 w4 x y n w' := by
  obtain ⟨⟨X, Y, hX, hY, ox, oy⟩, hb, hlt, h34⟩ := h
  obtain ⟨g, cap, cur, rfl, hg, hh, hc, hm, hcs, ht⟩ := ox.open_ (by omega)
  subst hX
  refine ⟨g, cap, cur, rfl, hh, hc, hm, by rw [hcs]; simp; omega, fun w' hT => ⟨⟨X.set k Cl.zero, Y, by simp, hY, OwL.stored hg hk hc hm hcs ht hT, oy.kept hT.grown fun _ e => ?_⟩, hb.trans (hT.b.mono hg), hlt, h34⟩⟩
  have := (oy.lt g e).1
  have := hlt g rfl
  omega
theorem KeepS.openY (h : KeepS w3 w4 x y n wr) (hk : k < n) : ∃ g cap cur, y = .slice (some ⟨g, 0, none⟩) n cap ∧ wr.heap[g]? = some (.cells cur 29 (0, 0)) ∧ n ≤ cap ∧ cap ≤ maxLen ∧ k * 5 + [Cl.zero].length * 5 ≤ cur.size ∧ ∀ w', Turned g (cpd cur (k * 5) [Cl.zero]) wr w' → KeepS w3 w4 x y n w' := by
  obtain ⟨⟨X, Y, hX, hY, ox, oy⟩, hb, hlt, h34⟩ := h
  obtain ⟨g, cap, cur, rfl, hg, hh, hc, hm, hcs, ht⟩ := oy.open_ (by omega)
  subst hY
  refine ⟨g, cap, cur, rfl, hh, hc, hm, by rw [hcs]; simp; omega, fun w' hT => ⟨⟨X, Y.set k Cl.zero, hX, by simp, ox.kept hT.grown fun _ e => ?_, OwL.stored hg hk hc hm hcs ht hT⟩, hb.trans (hT.b.mono (Nat.le_trans h34 hg)), hlt, h34⟩⟩
  have := hlt g e
  omega
end
end Go.Proofs.Ytffkbepcdidnjaa.Ce
namespace Go.Proofs.Ytffkbepcdidnjaa
open Go.RowKit Ce
set_option maxHeartbeats 4000000 in
set_option maxRecDepth 100000 in
theorem memKeeps_walk (v : Value) (L : List Cl) (w : World) (hv : RdL w [] v L) (hz : L.length < 2199023255552) : Calls Try.prog 6 #[v] w fun e w' => e = .returned (.bool true) ∧ Below w.heap.size w w' := by
  have HV := Lib.hid hv
  clear hv
  go_enter Try.func6, Try.ntmps6
  go_wp2_with fail
  refine (filled_any v L _ HV.out hz).mono ?_
  rintro e w1 ⟨⟨b, rfl, hS⟩, hb1⟩
  have HS1 := Lib.hid hS
  have HB1 := Lib.hid hb1
  clear hS hb1
  go_wp2_with fail
  refine (mawake9_ok _).mono ?_
  rintro e w2 ⟨rfl, hb2⟩
  have HS2 := Lib.hid (HS1.out.up hb2)
  have HB2 := Lib.hid (bwstep HB1.out hb2)
  clear hb2 HS1 HB1
  go_wp2_with fail
  refine (efew_any _ L _ (HV.out.bel HB2.out)).mono ?_
  rintro e w3 ⟨⟨q, rfl, hq⟩, hb3⟩
  have HS3 := Lib.hid (HS2.out.up hb3)
  have HB3 := Lib.hid (bwstep HB2.out hb3)
  clear hb3 HS2 HB2
  cases q
  · clear hq
    go_wp2_with fail
    refine (mawake9_ok _).mono ?_
    rintro e w4 ⟨rfl, hb4⟩
    have H4 := Lib.hid (bwstep HB3.out hb4)
    clear hb4
    go_wp2_with fail
    go_ret
    exact ⟨rfl, H4.out⟩
  · obtain ⟨hl80, hok⟩ := hq rfl
    have HOK := Lib.hid hok
    have hfs := fill_sort hok
    have hF := fill_all L
    rw [hfs] at hF
    have HF := Lib.hid hF
    obtain ⟨vm, hm, -⟩ := HS3.out
    rw [hfs] at hm
    obtain ⟨LL, hLL⟩ : ∃ LL, LL = sortC L := ⟨_, rfl⟩
    have HLL := Lib.hid hLL
    rw [← hLL] at hm HF
    have HM := Lib.hid hm
    have hn80 : LL.length ≤ 80 := by have := HF.out.len; omega
    clear hq hok hfs hF hm hLL HS3
    go_wp2_with fail
    refine (mcells_any b vm LL _ HM.out (by omega)).mono ?_
    rintro e w4 ⟨⟨x, rfl, hx⟩, hb4⟩
    have HM4 := Lib.hid (HM.out.up hb4)
    have HX4 := Lib.hid hx
    have H34 := Lib.hid hb4
    clear hx hb4
    go_wp2_with fail
    refine (mrows_any b vm LL ⟨#[]⟩ ⟨#[]⟩ _ HM4.out HF.out.srt HF.out.ok (by omega)).mono ?_
    rintro e w5 ⟨⟨y, rfl, hy⟩, hb5⟩
    rw [rowsC_none] at hy
    obtain ⟨Ax, cx, rfl, hcx, hmx⟩ := (HX4.out.rd (S := []) (fun _ h => by cases h)).shape
    obtain ⟨Ay, cy, rfl, hcy, hmy⟩ := (hy.rd (S := []) (fun _ h => by cases h)).shape
    unfold maxLen at hmx hmy
    have HK5 : Hid (KeepS w3 w4 (.slice Ax LL.length cx) (.slice Ay LL.length cy) LL.length w5) := Lib.hid ⟨⟨LL, LL, rfl, rfl, HX4.out.below hb5, hy⟩, bwstep H34.out hb5, fun k hk => (HX4.out.lt k hk).2, H34.out.size⟩
    have HMU : Hid (∀ z, Below w3.heap.size w3 z → MemV z b vm LL) := Lib.hid fun z hz => HM.out.up hz
    generalize hn : LL.length = n at *
    have HN := Lib.hid hn
    clear hy hb5 HX4 HM4 HM H34 hn
    go_wp2_with fail
    go_loopw [6] (fun i wr => ∃ k : Nat, k ≤ n ∧ i = .int .i64 (k : Int) ∧ Hid (KeepS w3 w4 (.slice Ax n cx) (.slice Ay n cy) n wr)) (fun i _ => n - (intOf i).toNat)
    case atStart => exact ⟨0, by omega, rfl, HK5⟩
    case round =>
      obtain ⟨k, hk, rfl, HK⟩ := hrel
      by_cases hlt : k < n
      · have hh3 : (0 : Int) ≤ (k : Int) := by omega
        have hh4 : (k : Int) < (n : Int) := by omega
        obtain ⟨gx, cx', curx, ex, hgx, -, -, hfx, hTx⟩ := HK.out.openX hlt
        obtain ⟨gy, cy', cury, ey, -⟩ := HK.out.openY hlt
        obtain ⟨rfl, rfl⟩ : Ax = some ⟨gx, 0, none⟩ ∧ cx = cx' := by simpa using ex
        obtain ⟨rfl, rfl⟩ : Ay = some ⟨gy, 0, none⟩ ∧ cy = cy' := by simpa using ey
        have HGX := Lib.hid hgx
        have HTX := Lib.hid hTx
        have HFX := Lib.hid hfx
        clear ex ey hgx hTx hfx
        go_wp2_with (refine wpList_storeAt (c := Cl.zero) (g := gx) (n := k * 5) rfl (.tmp 40) (.tmp 39) rfl (by simp [Act.eval]) rfl HGX.out HFX.out ?_)
        constructor
        intro w6 ht6
        have HK6 := Lib.hid (HTX.out _ ht6)
        clear ht6 HTX HFX HGX
        obtain ⟨gy', cy', cury', ey, hgy, -, -, hfy, hTy⟩ := HK6.out.openY hlt
        obtain ⟨rfl, rfl⟩ : gy = gy' ∧ cy = cy' := by simpa using ey
        have HGY := Lib.hid hgy
        have HTY := Lib.hid hTy
        have HFY := Lib.hid hfy
        clear ey hgy hTy hfy
        go_wp2_with (refine wpList_storeAt (c := Cl.zero) (g := gy) (n := k * 5) rfl (.tmp 44) (.tmp 43) rfl (by simp [Act.eval]) rfl HGY.out HFY.out ?_)
        constructor
        intro w7 ht7
        have HK7 := Lib.hid (HTY.out _ ht7)
        clear ht7 HTY HFY HGY
        go_wp2_with fail
        go_roundw
        case rel => exact ⟨k + 1, by omega, by go_num, HK7⟩
        case measure => simp [intOf]; omega
      · obtain rfl : k = n := by omega
        have hbb := HK.out.2.1
        have HB8 := Lib.hid (bwstep HB3.out hbb)
        have HM8 := Lib.hid (HMU.out _ hbb)
        clear hbb
        go_wp2_with fail
        refine (mcells_any b vm LL _ HM8.out (by rw [HN.out]; omega)).mono ?_
        rintro e w9 ⟨⟨x9, rfl, hx9⟩, hb9⟩
        have HB9 := Lib.hid (bwstep HB8.out hb9)
        have HX9 := Lib.hid hx9
        clear hx9 hb9
        go_wp2_with fail
        refine (rsort_any v L _ (HV.out.bel HB9.out) HOK.out (by omega)).mono ?_
        rintro e w10 ⟨⟨s, rfl, hs⟩, hb10⟩
        rw [← HLL.out] at hs
        have HX10 := Lib.hid ((HX9.out.below hb10).rd (S := []) (fun _ h => by cases h))
        have HS10 := Lib.hid (hs.rd (S := []) (fun _ h => by cases h))
        have HB10 := Lib.hid (bwstep HB9.out hb10)
        clear hs hb10 HX9
        go_wp2_with fail
        refine (rsameL_self _ _ LL _ HX10.out HS10.out (by rw [HN.out]; omega)).mono ?_
        rintro e w11 ⟨rfl, hb11⟩
        have HB11 := Lib.hid (bwstep HB10.out hb11)
        clear hb11
        go_wp2_with fail
        go_ret
        exact ⟨rfl, HB11.out⟩
end Go.Proofs.Ytffkbepcdidnjaa
