/- The contract of All of package merge. -/
import Derived.Test.YtknkdehjgkjljaaMgL
import Derived.Test.YtknkdehjgkjljaaMgr
import Derived.Deep.LoopGhost
import Derived.Deep.RegionHeld3
import Derived.BigQuiet
namespace Go.Proofs.Ytknkdehjgkjljaa.Ce
open Go.RowKit Go.Proofs.Ytknkdehjgkjljaa.Hp

theorem Hl.grownL {w0 w w' : World} {bh B : Nat} {es : List Rn} {v : Value} {L : List Cl} (h : Hl w0 bh es w) (hv : OwL w B v L) (hgb : w.grownBy w' v.ownBlock) (hB : w0.heap.size ≤ B) : Hl w0 bh es w' := by
  obtain ⟨a, h1, h2, h3⟩ := h
  obtain ⟨sv, hb, ho⟩ := h1.sl
  have key : ∀ k, v.ownBlock = some k → ∃ cs, w.heap[k]? = some (.cells cs 35 (0, 0)) := fun k hk => by
    rcases hv.2 with ⟨rfl, -⟩ | ⟨g, cap, cur, rfl, -, hh, -⟩
    · cases hk
    · have e1 : g = k := by injection hk
      subst e1
      exact ⟨_, hh⟩
  refine ⟨a, ⟨h1.ge, ⟨sv, (hgb.block bh (Array.getElem?_eq_some_iff.1 hb).1 fun e => ?_).trans hb, ho.kept hgb fun k hk e => ?_⟩, fun k hk => (h1.run k hk).keep (hgb.block _ (h1.run k hk).lt fun e => ?_), h1.bel.grown hgb h1.bel.size (fun k hk => Nat.le_trans hB (hv.lt k hk).1)⟩, h2, h3⟩
  · obtain ⟨cs, hc⟩ := key _ e.symm
    rw [hb] at hc
    injection hc with hc
    injection hc with _ ht _
    exact absurd ht (by decide)
  · obtain ⟨cs, hc⟩ := key _ e
    rcases ho.2 with ⟨rfl, -⟩ | ⟨g', cap, cur, rfl, -, hh, -⟩
    · cases hk
    · have e1 : g' = k := by injection hk
      subst e1
      rw [hh] at hc
      injection hc with hc
      injection hc with _ ht _
      exact absurd ht (by decide)
  · obtain ⟨cs, hc⟩ := key _ e.symm
    obtain ⟨cv, hr, -⟩ := (h1.run k hk).h
    rw [hr] at hc
    injection hc with hc
    injection hc with _ ht _
    exact absurd ht (by decide)
theorem addR_len (es : List Rn) (bk place : Nat) (L : List Cl) : (addR es bk place L).length ≤ es.length + 1 := by
  cases L with
  | nil => simp [addR]
  | cons c r => simp [addR]
/-- an empty heap -/
theorem Hl.new (w : World) : Hl w (w.heap.size + 1) [] ((w.alloc (.cells #[] 43)).alloc (.cells #[.slice (some ⟨w.heap.size, 0, none⟩) 0 0] 41)) := by
  have hb1 := bwalloc (bwrefl w) (.cells #[] 43)
  refine ⟨fun _ => ⟨0, Cl.zero, [], 0⟩, ⟨by omega, ⟨.slice (some ⟨w.heap.size, 0, none⟩) 0 0, ?_, ?_⟩, fun k hk => absurd hk (by simp), bwalloc hb1 _⟩, fun c h1 h2 => absurd h2 (by simp), List.Perm.refl _⟩
  · have := heap_alloc_new (w.alloc (.cells #[] 43)) (.cells #[.slice (some ⟨w.heap.size, 0, none⟩) 0 0] 41)
    simpa using this
  · exact (Ow.new (e := 43) (n := 0) w #[] rfl (by simp [maxLen]) rfl (Nat.le_refl _)).below (bwalloc (bwrefl _) _)
/-- a list more in the heap -/
theorem Runs.add {LL : List (List Cl)} {es : List Rn} {k bk : Nat} {M : List Cl} (h : Runs (LL.take k) es) (hM : LL[k]? = some M) : Runs (LL.take (k + 1)) (addR es bk k M) := by
  obtain ⟨hl, rfl⟩ := List.getElem?_eq_some_iff.1 hM
  rw [List.take_succ_eq_append_getElem hl]
  have hk : (LL.take k).length = k := by simp; omega
  cases hm : LL[k] with
  | nil => exact h.snoc0
  | cons d r =>
    have := h.snoc1 bk d r
    rw [hk] at this
    exact this
/-- the first run is taken -/
theorem Runs.take_ {LL : List (List Cl)} {es : List Rn} {x : Rn} (h : Runs LL (x :: es)) : Runs (LL.set x.place x.rest) (addR es x.blk x.place x.rest) := by
  have h1 := fun hr => h.end_ hr
  have h2 := fun d r hr => h.more (d := d) (r := r) hr x.blk
  generalize x.rest = rs at *
  cases rs with
  | nil => exact h1 rfl
  | cons d r => exact h2 d r rfl
/-- the last cell that was taken, and the one at hand -/
def LastC (bo m : Nat) (o : Cl) (g : Nat) (f : Cl) (w0 w' : World) : Prop := w'.cell? ⟨bo, m * 5, none⟩ = some (.string o.row) ∧ w'.cell? ⟨bo, m * 5 + 1, none⟩ = some (.string o.col) ∧ w'.cell? ⟨bo, m * 5 + 2, none⟩ = some (.int .i64 o.at_) ∧ w'.cell? ⟨bo, m * 5 + 3, none⟩ = some (.string o.val) ∧ w'.cell? ⟨bo, m * 5 + 4, none⟩ = some (.bool o.gone) ∧ w'.cell? ⟨g, 0, none⟩ = some (.string f.row) ∧ w'.cell? ⟨g, 1, none⟩ = some (.string f.col) ∧ w'.cell? ⟨g, 2, none⟩ = some (.int .i64 f.at_) ∧ w'.cell? ⟨g, 3, none⟩ = some (.string f.val) ∧ w'.cell? ⟨g, 4, none⟩ = some (.bool f.gone) ∧ Below w0.heap.size w0 w'
theorem LastC.bel {bo m : Nat} {o : Cl} {g : Nat} {f : Cl} {w0 w' : World} (h : LastC bo m o g f w0 w') : Below w0.heap.size w0 w' := h.2.2.2.2.2.2.2.2.2.2
theorem LastC.of {bo m : Nat} {o : Cl} {g : Nat} {f : Cl} {w0 w' : World} (h : FiveAt bo (m * 5) o w0) (hb : bo < w0.heap.size) (hi : InC g f w0) (hw : Below w0.heap.size w0 w') : LastC bo m o g f w0 w' := by
  obtain ⟨a0, a1, a2, a3, a4⟩ := h.up hb hw
  obtain ⟨c0, c1, c2, c3, c4⟩ := (hi.up hw).five
  exact ⟨a0, a1, a2, a3, a4, c0, c1, c2, c3, c4, hw⟩
/-- an owned slice of cells: its block, its last cell -/
theorem OwL.last {w : World} {B n c : Nat} {A : Option Addr} {O : List Cl} {o : Cl} {m : Nat} (h : OwL w B (.slice A n c) O) (hm : O[m]? = some o) : ∃ g, A = some ⟨g, 0, none⟩ ∧ g < w.heap.size ∧ FiveAt g (m * 5) o w := by
  have hr := h.rd (S := []) (fun _ h => by cases h)
  have hlt := (List.getElem?_eq_some_iff.1 hm).1
  rcases h.2 with ⟨he, hn⟩ | ⟨g, cap, cur, he, -, hh, -⟩
  · omega
  · injection he with e1 e2 e3
    subst e1
    have h5 := hr.at_ hm
    rw [Nat.zero_add] at h5
    exact ⟨g, rfl, h5.2, h5.1⟩
set_option maxHeartbeats 8000000 in
set_option maxRecDepth 100000 in
theorem all_any (v : Value) (LL : List (List Cl)) (w : World) (hv : RdB w v LL) (hs : ∀ M ∈ LL, Srt M) (hf : LL.flatten.length ≤ 1000000) (hn : LL.length ≤ 1000000) :
    Calls Try.prog 14 #[v] w fun e w' => (∃ x, e = .returned x ∧ OwL w' w.heap.size x (allP LL)) ∧ Below w.heap.size w w' := by
  obtain ⟨A, c, rfl, hc, hm⟩ := hv.shape
  unfold maxLen at hm
  have HV := Lib.hid hv
  have HS := Lib.hid hs
  clear hv hs
  have hnew := Hl.new w
  have HNEW := Lib.hid hnew
  clear hnew
  go_enter Try.func14, Try.ntmps14
  go_wp2_with fail
  go_loopw [12] (fun i wr => ∃ (k : Nat) (es : List Rn), k ≤ LL.length ∧ i = .int .i64 (k : Int) ∧ Hid (Runs (LL.take k) es) ∧ Hid (Hl w (w.heap.size + 1) es wr) ∧ es.length ≤ k) (fun i _ => LL.length - (intOf i).toNat)
  case atStart => exact ⟨0, [], by omega, rfl, Lib.hid (by simpa using Runs.nil), HNEW, by simp⟩
  case round =>
    clear HNEW
    obtain ⟨k, es, hk, rfl, HR, HL, hel⟩ := hrel
    by_cases hlt : k < LL.length
    · have hfk : LL[k]? = some (LL[k]'hlt) := List.getElem?_eq_getElem _
      generalize LL[k]'hlt = M at hfk
      have hbw := HL.out.bel
      have HBS := Lib.hid hbw.size
      obtain ⟨b, off, rfl, hb⟩ := HV.out.open_ (by omega)
      obtain ⟨A1, c1, hc0, hcl1, hcm1, hr1⟩ := HV.out.row hfk
      unfold maxLen at hcm1
      have hc1 := (hbw.cell (p := ⟨b, off + k, none⟩) hb).trans hc0
      have HR1 := Lib.hid hr1
      have hh3 : (0 : Int) ≤ (k : Int) := by omega
      have hh4 : (k : Int) < (LL.length : Int) := by omega
      have HRK : Hid (∀ bk, Runs (LL.take (k + 1)) (addR es bk k M)) := Lib.hid fun bk => HR.out.add hfk
      have hadd := add_any w (w.heap.size + 1) es wr.heap.size k M (.slice A1 M.length c1) (wr.alloc (.cells #[.slice A1 M.length c1, .int .i64 (k : Int)] 45)) (HL.out.up (bwalloc (bwrefl wr) _)) (heap_alloc_new _ _) hbw.size hr1 (by omega)
      have HADD := Lib.hid hadd
      obtain ⟨wo, hwo⟩ : ∃ wo, wo = wr := ⟨_, rfl⟩
      subst hwo
      clear hfk hbw hc0 hr1 hadd HR
      go_wp2_with (refine wpList_boxRow rfl _ (.tmp 20) rfl #[.slice A1 M.length c1, .int .i64 (k : Int)] rfl ?_)
      refine HADD.out.mono ?_
      rintro e w2 ⟨⟨u, rfl⟩, hl2, -⟩
      have HL2 := Lib.hid hl2
      clear hl2 HADD hc1
      go_wp2_with fail
      go_roundw
      case rel => exact ⟨k + 1, _, by omega, by go_num, Lib.hid (HRK.out _), HL2, by have := addR_len es wo.heap.size k M; omega⟩
      case measure => simp [intOf]; omega
    · obtain rfl : k = LL.length := by omega
      rw [List.take_length] at HR
      have hbw := HL.out.bel
      have HO0 : Hid (OwL wr w.heap.size (.slice none 0 0) []) := Lib.hid (OwL.nil _ _)
      have HS0 : Hid (Fol [] LL ∧ allP LL = [] ++ (allP LL).filter (behind [])) := Lib.hid ⟨Fol.nil _, by
        rw [List.nil_append]
        exact (List.filter_eq_self.2 fun _ _ => rfl).symm⟩
      clear hbw
      go_wp2_with fail
      obtain ⟨wo, hwo⟩ : ∃ wo, wo = wr := ⟨_, rfl⟩
      subst hwo
      go_loopg [6] LL.flatten.length (fun n l wr => ∃ (O : List Cl) (LL2 : List (List Cl)) (es2 : List Rn), n = LL2.flatten.length ∧ Hid (Runs LL2 es2) ∧ Hid (Hl w (w.heap.size + 1) es2 wr) ∧ Hid (es2.length ≤ LL.length ∧ O.length + LL2.flatten.length ≤ LL.flatten.length) ∧ Hid (∀ M ∈ LL2, Srt M) ∧ Hid (Fol O LL2 ∧ allP LL = O ++ (allP LL2).filter (behind O)) ∧ Hid (OwL wr w.heap.size l O))
      case atStart => exact ⟨[], LL, es, rfl, HR, HL, Lib.hid ⟨hel, by simp⟩, HS, HS0, HO0⟩
      case round =>
        clear HR HL HS0 HO0 hel
        obtain ⟨O, LL2, es2, rfl, HR, HL, HLL, HSR, HF, HO⟩ := hrel
        obtain ⟨Ao, co, rfl, hco, hcmo⟩ := (HO.out.rd (S := []) (fun _ h => by cases h)).shape
        unfold maxLen at hcmo
        have hll := HLL.out
        obtain ⟨a, h1, h2, h3⟩ := HL.out
        obtain ⟨sv, hb, ho⟩ := h1.sl
        have hrl := rlen_any w a es2.length sv wr ho
        have c0 := cell_of_row _ _ 0 _ _ _ hb
        have HRL := Lib.hid hrl
        clear h1 h2 h3 hb ho hrl
        by_cases h0 : 0 < es2.length
        · have hh0 : (0 : Int) < (es2.length : Int) := by omega
          obtain ⟨wi, hwi⟩ : ∃ wi, wi = wr := ⟨_, rfl⟩
          subst hwi
          go_wp2_with fail
          refine HRL.out.mono ?_
          rintro e w1 ⟨rfl, rfl⟩
          clear c0 HRL
          go_wp2_with fail
          refine (next_any w (w.heap.size + 1) es2 wi HL.out HR.out.one h0 (by omega)).mono ?_
          rintro e w3 ⟨x, es', hpm, hle, rfl, hl3, hk3⟩
          have hrx := HR.out.perm hpm.symm
          have HLT : Hid (Least LL2 x.place x.c x.rest) := Lib.hid (hrx.least hle)
          have HRU : Hid (Runs (LL2.set x.place x.rest) (addR es' x.blk x.place x.rest)) := Lib.hid hrx.take_
          have HLE0 : Hid ((addR es' x.blk x.place x.rest).length ≤ LL.length) := Lib.hid (by
            have e1 := addR_len es' x.blk x.place x.rest
            have e2 := hpm.length_eq
            rw [List.length_cons] at e2
            omega)
          have HSR2 : Hid (∀ M ∈ LL2.set x.place x.rest, Srt M) := Lib.hid (set_srt HSR.out HLT.out.at_)
          have HFL : Hid ((LL2.set x.place x.rest).flatten.length + 1 = LL2.flatten.length) := Lib.hid (flat_set HLT.out.at_)
          have HO3 := Lib.hid (HO.out.kt hk3)
          have HL3 := Lib.hid hl3
          clear hpm hle hl3 hk3 hrx
          go_wp2_with (refine allocC rfl rfl ?_)
          constructor
          intro w4 hI4 hb4 hz4
          go_wp2_with (refine storeC (c := x.c) rfl (.tmp 7) (.tmp 30) rfl rfl rfl hI4 ?_)
          constructor
          intro w5 hs5
          have hb5 := hs5.bel hb4 (Nat.le_refl _)
          have HI5 := Lib.hid hs5.i
          have HO5 := Lib.hid (HO3.out.below hb5)
          have HL5 := Lib.hid (HL3.out.up hb5)
          obtain ⟨d0, d1, d2, d3, d4⟩ := hs5.i.five
          clear hI4 hb4 hz4 hs5 hb5 HO3 HL3
          rcases Nat.eq_zero_or_pos O.length with hO0 | hO0
          · have hOn := List.eq_nil_of_length_eq_zero hO0
            subst hOn
            have HNW : Hid (Fol ([] ++ [x.c]) (LL2.set x.place x.rest) ∧ allP LL = ([] ++ [x.c]) ++ (allP (LL2.set x.place x.rest)).filter (behind ([] ++ [x.c]))) := Lib.hid (by
              obtain ⟨q1, q2⟩ := step_new HLT.out HSR.out HF.out.1 HF.out.2 rfl
              exact ⟨q2, q1⟩)
            have HLE : Hid ((addR es' x.blk x.place x.rest).length ≤ LL.length ∧ ([] ++ [x.c] : List Cl).length + (LL2.set x.place x.rest).flatten.length ≤ LL.flatten.length) := Lib.hid ⟨HLE0.out, by
              have e1 := HFL.out
              have e2 := hll.2
              simp only [List.length_nil] at e2
              simp only [List.nil_append, List.length_singleton]
              omega⟩
            have hl2 : ([] : List Cl).length + [x.c].length ≤ 2199023255552 := by simp
            clear hO0
            go_wp2_with fail
            go_quiet (fail)
            have HIz := Lib.hid (HI5.out.up (bwN nq))
            have HOz := Lib.hid (HO5.out.below (bwN nq))
            have HLz := Lib.hid (HL5.out.up (bwN nq))
            generalize w5.drewN nq = wz at *
            clear d0 d1 d2 d3 d4
            have hx := RdL.one wz [] x.c (by simp) 35
            have ho2 := HOz.out.below (bwalloc (bwrefl wz) (.cells #[.string x.c.row, .string x.c.col, .int .i64 x.c.at_, .string x.c.val, .bool x.c.gone] 35))
            have hlz := HLz.out.up (bwalloc (bwrefl wz) (.cells #[.string x.c.row, .string x.c.col, .int .i64 x.c.at_, .string x.c.val, .bool x.c.gone] 35))
            have hs2 := hlz.bel.size
            have HLW := Lib.hid hlz
            obtain ⟨c0, c1, c2, c3, c4⟩ := HIz.out.five
            clear hlz
            go_wp2_with (at_builtin; refine wpList_appL rfl (.tmp 45) (.tmp 47) rfl rfl ho2 rfl hx hl2 hs2 ?_; intro v9 w9 ho9 hg9 _; have HO9 := Lib.hid ho9; have HL9 := Lib.hid (HLW.out.grownL ho2 hg9 (Nat.le_refl _)); clear ho9 hg9)
            go_roundg (LL2.set x.place x.rest).flatten.length
            case measure => have := HFL.out; omega
            case rel => exact ⟨[] ++ [x.c], LL2.set x.place x.rest, addR es' x.blk x.place x.rest, rfl, HRU, HL9, HLE, HSR2, HNW, HO9⟩
          · obtain ⟨m, hm1⟩ : ∃ m, O.length = m + 1 := ⟨O.length - 1, by omega⟩
            have hgo : O[m]? = some (O[m]'(by omega)) := List.getElem?_eq_getElem _
            have hlast : O.getLast? = some (O[m]'(by omega)) := by
              rw [List.getLast?_eq_getElem?, show O.length - 1 = m by omega]
              exact hgo
            generalize O[m]'(by omega) = o at hgo hlast
            obtain ⟨bo, rfl, hbol, h5o⟩ := HO5.out.last hgo
            have HT : Hid (LastC bo m o w3.heap.size x.c w5 w5.drew) := Lib.hid (LastC.of h5o hbol HI5.out (Below.refl _ _).drew)
            have HU : Hid (∀ y z : World, LastC bo m o w3.heap.size x.c w5 y → Below y.heap.size y z → LastC bo m o w3.heap.size x.c w5 z) := Lib.hid fun y z hS hb => LastC.of h5o hbol HI5.out (bwstep hS.bel hb)
            have HBD : Hid ((ccmp o x.c != 0) = behind O x.c) := Lib.hid (by
              unfold behind
              rw [hlast]
              simp only
              unfold notKey
              rw [ccmp_neg o x.c]
              by_cases hq : ccmp x.c o = 0
              · rw [hq]; rfl
              · rw [decide_eq_false hq]
                simp
                omega)
            have HM1 := Lib.hid hm1
            have hlo : O.length ≤ 1000000 := by omega
            rw [hm1] at *
            have hx3 : (0 : Int) ≤ (m : Int) := by omega
            have hx7 : (0 : Int) < (m : Int) + 1 := by omega
            have hx4 : (m : Int) < (m : Int) + 1 := by omega
            have hw2 : IntKind.i64.wrap (m : Int) = (m : Int) := IntWalk.i64_in _ (by omega)
            have hw1 : IntKind.i64.wrap ((m : Int) + 1 - 1) = (m : Int) := by rw [Int.add_sub_cancel]; exact hw2
            have hm0 : ((m : Int) + 1 == 0) = false := by rw [beq_eq_false_iff_ne]; omega
            have hm2 : ¬ (m : Int) + 1 = 0 := by omega
            clear hgo hlast h5o
            go_wp2_with fail
            go_region_held3 (fun w' => w'.cell? ⟨bo, m * 5, none⟩ = some (.string o.row) ∧ w'.cell? ⟨bo, m * 5 + 1, none⟩ = some (.string o.col) ∧ w'.cell? ⟨bo, m * 5 + 2, none⟩ = some (.int .i64 o.at_) ∧ w'.cell? ⟨bo, m * 5 + 3, none⟩ = some (.string o.val) ∧ w'.cell? ⟨bo, m * 5 + 4, none⟩ = some (.bool o.gone) ∧ w'.cell? ⟨w3.heap.size, 0, none⟩ = some (.string x.c.row) ∧ w'.cell? ⟨w3.heap.size, 1, none⟩ = some (.string x.c.col) ∧ w'.cell? ⟨w3.heap.size, 2, none⟩ = some (.int .i64 x.c.at_) ∧ w'.cell? ⟨w3.heap.size, 3, none⟩ = some (.string x.c.val) ∧ w'.cell? ⟨w3.heap.size, 4, none⟩ = some (.bool x.c.gone) ∧ Below w5.heap.size w5 w') (first | exact HT.out | assumption | exact HU.out _ _ (by assumption) (by assumption))
              (first | (go_at_call 27; refine (compare_any o x.c _).mono ?_; rintro e wn ⟨rfl, hbn⟩))
            all_goals
              have hbn5 : Below w5.heap.size w5 wn := bwstep (Below.refl _ _).drew hbn
              have HIz := Lib.hid (HI5.out.up hbn5)
              have HOz := Lib.hid (HO5.out.below hbn5)
              have HLz := Lib.hid (HL5.out.up hbn5)
              rw [HBD.out]
              clear hbn hbn5 d0 d1 d2 d3 d4
              cases hq : behind O x.c
              · have HNW : Hid (Fol O (LL2.set x.place x.rest) ∧ allP LL = O ++ (allP (LL2.set x.place x.rest)).filter (behind O)) := Lib.hid (by
                  obtain ⟨q1, q2⟩ := step_old HLT.out HSR.out HF.out.1 HF.out.2 hq
                  exact ⟨q2, q1⟩)
                have HLE : Hid ((addR es' x.blk x.place x.rest).length ≤ LL.length ∧ O.length + (LL2.set x.place x.rest).flatten.length ≤ LL.flatten.length) := Lib.hid ⟨HLE0.out, by
                  have e1 := HFL.out
                  have e2 := HLL.out.2
                  omega⟩
                clear hq
                go_wp2_with fail
                go_roundg (LL2.set x.place x.rest).flatten.length
                case measure => have := HFL.out; omega
                case rel => exact ⟨O, LL2.set x.place x.rest, addR es' x.blk x.place x.rest, rfl, HRU, HLz, HLE, HSR2, HNW, HOz⟩
              · have HNW : Hid (Fol (O ++ [x.c]) (LL2.set x.place x.rest) ∧ allP LL = (O ++ [x.c]) ++ (allP (LL2.set x.place x.rest)).filter (behind (O ++ [x.c]))) := Lib.hid (by
                  obtain ⟨q1, q2⟩ := step_new HLT.out HSR.out HF.out.1 HF.out.2 hq
                  exact ⟨q2, q1⟩)
                have HLE : Hid ((addR es' x.blk x.place x.rest).length ≤ LL.length ∧ (O ++ [x.c]).length + (LL2.set x.place x.rest).flatten.length ≤ LL.flatten.length) := Lib.hid ⟨HLE0.out, by
                  have e1 := HFL.out
                  have e2 := HLL.out.2
                  rw [List.length_append, List.length_singleton]
                  omega⟩
                have hl2 : O.length + [x.c].length ≤ 2199023255552 := by have := HM1.out; rw [List.length_singleton]; omega
                clear hq
                obtain ⟨wz, hwz⟩ : ∃ wz, wz = wn := ⟨_, rfl⟩
                subst hwz
                have hx := RdL.one wz [] x.c (by simp) 35
                have ho2 := HOz.out.below (bwalloc (bwrefl wz) (.cells #[.string x.c.row, .string x.c.col, .int .i64 x.c.at_, .string x.c.val, .bool x.c.gone] 35))
                have hlz := HLz.out.up (bwalloc (bwrefl wz) (.cells #[.string x.c.row, .string x.c.col, .int .i64 x.c.at_, .string x.c.val, .bool x.c.gone] 35))
                have hs2 := hlz.bel.size
                have HLW := Lib.hid hlz
                obtain ⟨c0, c1, c2, c3, c4⟩ := HIz.out.five
                clear hlz
                go_wp2_with (at_builtin; refine wpList_appL rfl (.tmp 45) (.tmp 47) rfl rfl ho2 rfl hx hl2 hs2 ?_; intro v9 w9 ho9 hg9 _; have HO9 := Lib.hid ho9; have HL9 := Lib.hid (HLW.out.grownL ho2 hg9 (Nat.le_refl _)); clear ho9 hg9)
                go_roundg (LL2.set x.place x.rest).flatten.length
                case measure => have := HFL.out; omega
                case rel => exact ⟨O ++ [x.c], LL2.set x.place x.rest, addR es' x.blk x.place x.rest, rfl, HRU, HL9, HLE, HSR2, HNW, HO9⟩
        · obtain rfl : es2 = [] := List.eq_nil_of_length_eq_zero (by omega)
          have HE : Hid (O = allP LL) := Lib.hid (by
            have := HF.out.2
            rw [all_done HR.out.done] at this
            simpa using this.symm)
          have HB := Lib.hid HL.out.bel
          go_wp2_with fail
          refine HRL.out.mono ?_
          rintro e w1 ⟨rfl, rfl⟩
          go_wp2_with fail
          go_ret
          exact ⟨⟨_, rfl, HE.out ▸ HO.out⟩, HB.out⟩
end Go.Proofs.Ytknkdehjgkjljaa.Ce
