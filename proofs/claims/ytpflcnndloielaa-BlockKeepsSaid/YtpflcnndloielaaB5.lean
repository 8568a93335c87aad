/- BlockKeeps' walk. -/
import Derived.Test.YtpflcnndloielaaBaw
import Derived.Test.YtpflcnndloielaaCfw
import Derived.Test.YtpflcnndloielaaCpo
import Derived.Test.YtpflcnndloielaaSto
namespace Go.Proofs.Ytpflcnndloielaa.Ce
open Go.RowKit

/-- a slice of n cells of the call's own, whichever they are -/
def RowZ (w : World) (B : Nat) (u : Value) (n : Nat) : Prop :=
  (n = 0 ∧ u = .slice none 0 0) ∨ ∃ g cap cur, u = .slice (some ⟨g, 0, none⟩) n cap ∧ n ≤ cap ∧ cap ≤ maxLen ∧ B ≤ g ∧ w.heap[g]? = some (.cells cur 46 (0, 0)) ∧ n * 5 ≤ cur.size
theorem RowZ.of {w : World} {B : Nat} {u : Value} {L : List Cl} (h : OwL w B u L) : RowZ w B u L.length := by
  rcases h.2 with ⟨rfl, h0⟩ | ⟨g, cap, cur, rfl, hB, hg, hc, hm, hcs, -⟩
  · exact .inl ⟨h0, rfl⟩
  · exact .inr ⟨g, cap, cur, rfl, hc, hm, hB, hg, by rw [hcs]; omega⟩
theorem RowZ.shape {w : World} {B : Nat} {u : Value} {n : Nat} (h : RowZ w B u n) : ∃ A c, u = .slice A n c ∧ n ≤ c ∧ c ≤ maxLen := by
  rcases h with ⟨rfl, rfl⟩ | ⟨g, cap, cur, rfl, hc, hm, -⟩
  · exact ⟨none, 0, rfl, Nat.le_refl _, by simp [maxLen]⟩
  · exact ⟨_, _, rfl, hc, hm⟩
theorem RowZ.turned {w w' : World} {B n g : Nat} {u : Value} {cur0 cur : Array Value} (h : RowZ w B u n) (hg : w.heap[g]? = some (.cells cur0 46 (0, 0))) (ht : Turned g cur w w') (hsz : cur.size = cur0.size) : RowZ w' B u n := by
  rcases h with h | ⟨g', cap, cur', rfl, hc, hm, hB, hh, hs⟩
  · exact .inl h
  · by_cases e : g' = g
    · subst e
      rw [hg] at hh
      injection hh with hh
      injection hh with hh _ _
      subst hh
      exact .inr ⟨g', cap, cur, rfl, hc, hm, hB, ht.i, by omega⟩
    · exact .inr ⟨g', cap, cur', rfl, hc, hm, hB, (ht.o g' e).trans hh, hs⟩
/-- a slice of such, of the call's own -/
structure KeepB (w4 : World) (x : Value) (vs : List Value) (ns : List Nat) (wr : World) : Prop where
  out : Ow wr w4.heap.size 22 x vs
  len : vs.length = ns.length
  row : ∀ (j : Nat) (u : Value) (n : Nat), vs[j]? = some u → ns[j]? = some n → RowZ wr w4.heap.size u n
  bel : Below w4.heap.size w4 wr
theorem KeepB.of {w4 wr : World} {x : Value} {vs : List Value} {LL : List (List Cl)} (h : OwB wr w4.heap.size x vs LL) (hb : Below w4.heap.size w4 wr) : KeepB w4 x vs (LL.map List.length) wr := by
  refine ⟨h.out, by rw [h.len, List.length_map], fun j u n hu hn => ?_, hb⟩
  rw [List.getElem?_map] at hn
  obtain ⟨M, hM, rfl⟩ := Option.map_eq_some_iff.1 hn
  exact RowZ.of (h.row j u M hu hM)
/-- row j: the slice in its cell; its k-th cell may be written -/
theorem KeepB.at_ {w4 wr : World} {A : Option Addr} {m c : Nat} {vs : List Value} {ns : List Nat} (h : KeepB w4 (.slice A m c) vs ns wr) {j n : Nat} (hj : ns[j]? = some n) :
    ∃ b A1 c1, A = some ⟨b, 0, none⟩ ∧ n ≤ c1 ∧ c1 ≤ maxLen ∧ wr.cell? ⟨b, j, none⟩ = some (.slice A1 n c1) ∧
      ∀ k, k < n → ∃ g cur, A1 = some ⟨g, 0, none⟩ ∧ wr.heap[g]? = some (.cells cur 46 (0, 0)) ∧ k * 5 + [Cl.zero].length * 5 ≤ cur.size ∧ ∀ w', Turned g (cpd cur (k * 5) [Cl.zero]) wr w' → KeepB w4 (.slice A m c) vs ns w' := by
  have hjl := (List.getElem?_eq_some_iff.1 hj).1
  have hjv : j < vs.length := by rw [h.len]; exact hjl
  obtain ⟨b, rfl, hb1, hb2, hcell, -, -⟩ := h.out.at_ hjv
  have hu : vs[j]? = some (vs[j]'hjv) := List.getElem?_eq_getElem _
  have hr := h.row j _ n hu hj
  generalize vs[j]'hjv = u at *
  obtain ⟨A1, c1, rfl, hc1, hm1⟩ := hr.shape
  refine ⟨b, A1, c1, rfl, hc1, hm1, hcell, fun k hk => ?_⟩
  rcases hr with ⟨h0, -⟩ | ⟨g, cap, cur, e, hc, hm, hB, hg, hs⟩
  · omega
  · injection e with e1 e2 e3
    subst e1
    have hfit : k * 5 + [Cl.zero].length * 5 ≤ cur.size := by simp; omega
    refine ⟨g, cur, rfl, hg, hfit, fun w' ht => ⟨h.out.kept ht.grown (fun q hq e => ?_), h.len, fun i u n hu hn => (h.row i u n hu hn).turned hg ht (cpd_size hfit), h.bel.trans (ht.b.mono hB)⟩⟩
    rcases h.out.2 with ⟨e0, -⟩ | ⟨g', cap', cur', e0, -, hg', -⟩
    · cases e0
    · injection e0 with e0
      injection e0 with e0
      injection e0 with e0
      have e2 : b = q := by injection hq
      have e4 : g = q := by injection e
      have e5 : g' = g := by omega
      rw [e5, hg] at hg'
      injection hg' with hg'
      injection hg' with _ ht' _
      exact absurd ht' (by decide)
end Go.Proofs.Ytpflcnndloielaa.Ce
namespace Go.Proofs.Ytpflcnndloielaa
open Go.RowKit Ce

set_option maxHeartbeats 8000000 in
set_option maxRecDepth 100000 in
theorem blockKeeps_walk (v : Value) (L : List Cl) (w : World) (hv : RdL w [] v L) : Calls Try.prog 7 #[v] w fun e w' => e = .returned (.bool true) ∧ Below w.heap.size w w' := by
  have HV := Lib.hid hv
  clear hv
  go_enter Try.func7, Try.ntmps7
  go_wp2_with fail
  refine (bawake_ok _).mono ?_
  rintro e w1 ⟨rfl, hb1⟩
  have HK1 := Lib.hid hb1
  clear hb1
  go_wp2_with fail
  refine (efew_any v L _ (HV.out.bel HK1.out)).mono ?_
  rintro e w2 ⟨⟨q, rfl, hq⟩, hb2⟩
  have HK2 := Lib.hid (bwstep HK1.out hb2)
  clear hb2 HK1
  cases q
  · clear hq
    go_wp2_with fail
    refine (bawake_ok _).mono ?_
    rintro e w9 ⟨rfl, hb9⟩
    have H9 := Lib.hid (bwstep HK2.out hb9)
    clear hb9
    go_wp2_with fail
    go_ret
    exact ⟨rfl, H9.out⟩
  · obtain ⟨hl80, hok⟩ := hq rfl
    clear hq
    have HOK := Lib.hid hok
    clear hok
    go_wp2_with fail
    refine (rsort_any v L _ (HV.out.bel HK2.out) HOK.out (by omega)).mono ?_
    rintro e w3 ⟨⟨v3, rfl, h3⟩, hb3⟩
    obtain ⟨hs1, hs2, hs3⟩ := sortC_ok HOK.out
    have hs0 : Sorted (sortC L) := sorted_iff.2 ⟨hs2, hs1⟩
    have HS0 := Lib.hid hs0
    have hr3 := h3.rd (S := []) (fun _ h => by cases h)
    have HR3 := Lib.hid hr3
    have HK3 := Lib.hid (bwstep HK2.out hb3)
    have hll : (sortC L).length ≤ 80 := by omega
    have hr4 := hr3.bel (bwalloc (bwrefl w3) (.cells #[] 46))
    have ho4 : OwL (w3.alloc (.cells #[] 46)) w3.heap.size (.slice (some ⟨w3.heap.size, 0, none⟩) 0 0) [] := OwL.empty w3 (Nat.le_refl _) _ rfl
    have hlA : ([] : List Cl).length + (sortC L).length ≤ 2199023255552 := by simp; omega
    have hB4 := (bwalloc (bwrefl w3) (.cells #[] 46)).size
    clear hs0 hs1 hs2 hs3 h3 hb3 HK2 HV HOK hr3
    generalize sortC L = S at *
    go_wp2_with (at_builtin; refine wpList_appL rfl (.tmp 19) (.tmp 20) rfl rfl ho4 rfl hr4 hlA hB4 ?_; intro v4 w4 ho5 hg5 h5; rw [List.nil_append] at ho5; have HW := Lib.hid (ho5.rd (S := []) (fun _ h => by cases h)); have HB4 := Lib.hid ((bwalloc (bwrefl w3) (.cells #[] 46)).grown hg5 hB4 (fun k hk => (ho4.lt k hk).1)); clear ho5 hg5 h5 ho4 hr4)
    have HR4 := Lib.hid (HR3.out.bel HB4.out)
    have HK4 := Lib.hid (bwstep HK3.out HB4.out)
    have hcu := bcut_ok v3 S 40 w4 HR4.out HS0.out (by decide) (by omega)
    refine hcu.mono ?_
    rintro e w5 ⟨⟨x, vs, rfl, hx⟩, hb5⟩
    have hle := cutB_len 40 S
    have HX := Lib.hid (KeepB.of hx hb5)
    obtain ⟨Ax, cx, rfl, hxc, hxm⟩ := hx.rd.shape
    unfold maxLen at hxm
    have hnl : ((cutB 40 S).map List.length).length = (cutB 40 S).length := by simp
    generalize (cutB 40 S).map List.length = ns at *
    rw [← hnl] at HX hle hxc
    rw [← hnl]
    clear hx hb5 hcu hnl
    go_wp2_with fail
    go_loopw [7] (fun i wr => ∃ k : Nat, k ≤ ns.length ∧ i = .int .i64 (k : Int) ∧ Hid (KeepB w4 (.slice Ax ns.length cx) vs ns wr)) (fun i _ => ns.length - (intOf i).toNat)
    case atStart => exact ⟨0, by omega, rfl, HX⟩
    case round =>
      obtain ⟨k, hk, rfl, HK⟩ := hrel
      by_cases hlt : k < ns.length
      · have hh3 : (0 : Int) ≤ (k : Int) := by omega
        have hh4 : (k : Int) < (ns.length : Int) := by omega
        have hfk : ns[k]? = some (ns[k]'hlt) := List.getElem?_eq_getElem _
        generalize ns[k]'hlt = n at hfk
        have HFK := Lib.hid hfk
        obtain ⟨b0, A0, c0, rfl, hn0, hm0, -, -⟩ := HK.out.at_ hfk
        unfold maxLen at hm0
        clear hfk
        go_wp2_with fail
        go_loopw [8] (fun i wy => ∃ j : Nat, j ≤ n ∧ i = .int .i64 (j : Int) ∧ Hid (KeepB w4 (.slice (some ⟨b0, 0, none⟩) ns.length cx) vs ns wy)) (fun i _ => n - (intOf i).toNat)
        case atStart => exact ⟨0, by omega, rfl, HK⟩
        case round =>
          obtain ⟨j, hj, rfl, HJ⟩ := hrel
          obtain ⟨b1, A1, c1, e1, hn1, hm1, hc1, hst⟩ := HJ.out.at_ HFK.out
          obtain rfl : b0 = b1 := by simpa using e1
          unfold maxLen at hm1
          by_cases hlj : j < n
          · obtain ⟨g, cur, rfl, hg, hfit, hT⟩ := hst j hlj
            have HG := Lib.hid hg
            have HF := Lib.hid hfit
            have HT := Lib.hid hT
            have hh5 : (0 : Int) ≤ (j : Int) := by omega
            have hh6 : (j : Int) < (n : Int) := by omega
            clear hst hg hfit hT e1
            go_wp2_with (refine wpList_storeAt (c := Cl.zero) (g := g) (n := j * 5) rfl (.tmp 48) (.tmp 47) rfl (by simp [Act.eval]) rfl HG.out HF.out ?_)
            constructor
            intro w6 ht6
            have HJ6 := Lib.hid (HT.out _ ht6)
            clear ht6 HT HG HF hc1
            go_wp2_with fail
            go_roundw
            case rel => exact ⟨j + 1, by omega, by go_num, HJ6⟩
            case measure => simp [intOf]; omega
          · obtain rfl : j = n := by omega
            clear hst e1
            go_wp2_with fail
            go_roundw
            case rel => exact ⟨k + 1, by omega, by go_num, HJ⟩
            case measure => simp [intOf]; omega
      · obtain rfl : k = ns.length := by omega
        have hsm := rsameL_self v3 v4 S wr (HR4.out.bel HK.out.bel) (HW.out.bel HK.out.bel) (by omega)
        go_wp2_with fail
        refine hsm.mono ?_
        rintro e w6 ⟨rfl, hb6⟩
        have HE := Lib.hid (bwstep (bwstep HK4.out HK.out.bel) hb6)
        clear hb6 hsm
        go_wp2_with fail
        go_ret
        exact ⟨rfl, HE.out⟩
end Go.Proofs.Ytpflcnndloielaa
