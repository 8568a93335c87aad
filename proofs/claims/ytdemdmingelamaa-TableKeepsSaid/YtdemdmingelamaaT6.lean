/- TableKeeps' walk. -/
import Derived.Test.YtdemdmingelamaaTaw
import Derived.Test.YtdemdmingelamaaCbA
import Derived.Test.YtdemdmingelamaaCpo
import Derived.Test.YtdemdmingelamaaCso
import Derived.Test.YtdemdmingelamaaTbb
import Derived.Test.YtdemdmingelamaaTsc
import Derived.Test.YtdemdmingelamaaTurnB
import Derived.Test.YtdemdmingelamaaSto
namespace Go.Proofs.Ytdemdmingelamaa
open Go.RowKit Ce Frm

theorem Ce.Rd.keptAt {w w' : World} {B g off n c : Nat} {xs : List Value} (h : Rd w B (.slice (some ⟨g, off, none⟩) n c) xs) (hb : w'.heap[g]? = w.heap[g]?) : Rd w' B (.slice (some ⟨g, off, none⟩) n c) xs := by
  obtain ⟨A, c', e, h1, h2, h3⟩ := h
  refine ⟨A, c', e, h1, h2, fun hp => ?_⟩
  obtain ⟨b, o, ea, hbB, hc⟩ := h3 hp
  refine ⟨b, o, ea, hbB, fun j u hu => (World.cell?_of_block (w := w) (a := ⟨b, o + j, none⟩) ?_).trans (hc j u hu)⟩
  injection e with e1 _ _
  rw [ea] at e1
  injection e1 with e1
  injection e1 with e1 _
  subst e1
  exact hb
theorem Ce.TblV.kept {w w' : World} {n0 b n r : Nat} {S : List Cl} (h : TblV w n0 b S n) (hg : w.grownBy w' (some r)) (hr : r < n0) : TblV w' n0 b S n := by
  obtain ⟨⟨vc, fb, fn, fc, h1, h2, h3, h4, h5⟩, hge⟩ := h
  refine ⟨⟨vc, fb, fn, fc, (hg.block b (Array.getElem?_eq_some_iff.1 h1).1 (by simp; omega)).trans h1, h2.keptR hg fun k hk e => ?_, h3, ?_, Nat.lt_of_lt_of_le h5 hg.size⟩, hge⟩
  · have := (h2.lt k hk).1
    injection e with e
    omega
  · exact (Rd.keptAt h4 (hg.block fb h5 (by simp; omega))).mono hg.size
/-- the table's bytes, overwritten from the first one on -/
def Ce.K1 (w3 w4 : World) (x : Value) (N b n : Nat) (S : List Cl) (wr : World) : Prop := (∃ m : List UInt8, m.length = N ∧ Ow wr w3.heap.size 5 x (m.map bv)) ∧ TblV wr w4.heap.size b S n ∧ Below w3.heap.size w3 wr
theorem Ce.K1.turn {w3 w4 wr : World} {A : Option Addr} {N b n c k : Nat} {S : List Cl} (h : K1 w3 w4 (.slice A N c) N b n S wr) (hA : ∀ g, A = some ⟨g, 0, none⟩ → g < w4.heap.size) (hk : k < N) :
    ∃ g y, A = some ⟨g, 0, none⟩ ∧ wr.cell? ⟨g, k, none⟩ = some (.int .u8 ((y : UInt8).toNat : Int)) ∧ wr.frozen? ⟨g, k, none⟩ = false ∧ K1 w3 w4 (.slice A N c) N b n S (wr.setCell ⟨g, k, none⟩ (.int .u8 (bits .xor .u8 (y.toNat : Int) 255))) := by
  obtain ⟨⟨m, hm, ho⟩, ht, hb⟩ := h
  obtain ⟨g, y, rfl, h1, h2, h3, h4, h5⟩ := ow_turn2 255 ho (k := k) (by omega)
  unfold bv at h3 h5
  rw [← xor_u8] at h5
  exact ⟨g, y, rfl, h3, h4, ⟨_, by rw [List.length_set, hm], h5⟩, ht.kept (grownBy_setCell wr g k _) (hA g rfl), hb.setCell (p := ⟨g, k, none⟩) h1 _⟩
set_option maxHeartbeats 8000000 in
set_option maxRecDepth 100000 in
theorem tableKeeps_walk (v : Value) (L : List Cl) (w : World) (hv : RdL w [] v L) : Calls Try.prog 8 #[v] w fun e w' => e = .returned (.bool true) ∧ Below w.heap.size w w' := by
  have HV := Lib.hid hv
  clear hv
  go_enter Try.func8, Try.ntmps8
  go_wp2_with fail
  refine (tawake_ok _).mono ?_
  rintro e w1 ⟨rfl, hb1⟩
  have HK1 := Lib.hid hb1
  clear hb1
  go_wp2_with fail
  refine (efew_any v L _ (HV.out.bel HK1.out)).mono ?_
  rintro e w2 ⟨⟨q, rfl, hq⟩, hb2⟩
  have HK2 := Lib.hid (bwstep HK1.out hb2)
  clear hb2 HK1
  cases q
  · clear hq
    go_wp2_with fail
    refine (tawake_ok _).mono ?_
    rintro e w9 ⟨rfl, hb9⟩
    have H9 := Lib.hid (bwstep HK2.out hb9)
    clear hb9
    go_wp2_with fail
    go_ret
    exact ⟨rfl, H9.out⟩
  · obtain ⟨hl80, hok⟩ := hq rfl
    have HOK := Lib.hid hok
    clear hq hok
    have hso := sorted_sortC HOK.out
    have HSO := Lib.hid hso.1
    have hsl := hso.2
    obtain ⟨S, hS⟩ : ∃ S, sortC L = S := ⟨_, rfl⟩
    rw [hS] at HSO hsl
    have HSL : Hid (S.length ≤ 80) := Lib.hid (by omega)
    have HSS := Lib.hid hS
    clear hso hsl hS
    go_wp2_with fail
    refine (rsort_any v L _ (HV.out.bel HK2.out) HOK.out (by omega)).mono ?_
    rintro e w3 ⟨⟨s3, rfl, hs3⟩, hb3⟩
    rw [HSS.out] at hs3
    have HR3 := Lib.hid (hs3.rd (S := []) (fun _ h => by cases h))
    have HK3 := Lib.hid (bwstep HK2.out hb3)
    clear hs3 hb3 HK2
    obtain ⟨hf1, hf2⟩ := tab_few2 (size := 50) HSO.out HSL.out (by omega)
    obtain ⟨htab, -, -⟩ := tab_fit (size := 50) HSO.out hf1 (by omega)
    have hbu := tbuild_ok s3 S 50 w3 HR3.out HSO.out (by omega) (by have := HSL.out; omega) htab.fit htab.foot
    have HTAB := Lib.hid htab
    generalize tabB S (cutB 50 S) = T at *
    generalize cutB 50 S = LL at *
    clear htab hf1
    go_wp2_with fail
    refine hbu.mono ?_
    rintro e w4 ⟨⟨x, rfl, hx⟩, hb4⟩
    obtain ⟨N, hN⟩ : ∃ N, T.length = N := ⟨_, rfl⟩
    rw [hN] at hf2
    obtain ⟨A, c, rfl, hc, hm⟩ := hx.rd.shapeM
    unfold maxLen at hm
    rw [hN] at hc hx
    rw [hN]
    have HAB : Hid (∀ g, A = some ⟨g, 0, none⟩ → g < w4.heap.size) := Lib.hid fun g e => by
      subst e
      exact (hx.lt g rfl).2
    have HX := Lib.hid hx
    have HB4 := Lib.hid hb4
    have HN := Lib.hid hN
    clear hx hb4 hbu hN
    go_wp2_with fail
    refine (open_any _ T _ _ HX.out.rd (Nat.le_refl _) (by rw [HN.out]; exact hf2)).mono ?_
    rintro e w5 ⟨(⟨S', LL', b, hTA, rfl, htb⟩ | ⟨hno, rfl⟩), hb5⟩
    · obtain ⟨rfl, rfl⟩ := hTA.one HTAB.out
      have HK5 : Hid (K1 w3 w4 (.slice A N c) N b LL'.length S' w5) := Lib.hid ⟨⟨T, HN.out, HX.out.below hb5⟩, htb, bwstep HB4.out hb5⟩
      generalize LL'.length = n at *
      clear hTA htb hb5 HX HTAB HB4
      go_wp2_with fail
      go_loopw [7] (fun i wr => ∃ k : Nat, k ≤ N ∧ i = .int .i64 (k : Int) ∧ Hid (K1 w3 w4 (.slice A N c) N b n S' wr)) (fun i _ => N - (intOf i).toNat)
      case atStart => exact ⟨0, by omega, rfl, HK5⟩
      case round =>
        clear HK5
        obtain ⟨k, hk, rfl, HK⟩ := hrel
        by_cases hlt : k < N
        · have hh3 : (0 : Int) ≤ (k : Int) := by omega
          have hh4 : (k : Int) < (N : Int) := by omega
          obtain ⟨g, y, rfl, hc1, hf1, hK2⟩ := HK.out.turn HAB.out hlt
          have HK2 := Lib.hid hK2
          clear hK2
          go_wp2_with fail
          go_roundw
          case rel => exact ⟨k + 1, by omega, by go_num, HK2⟩
          case measure => simp [intOf]; omega
        · obtain rfl : k = N := by omega
          have HT6 := Lib.hid HK.out.2.1
          have HB6 := Lib.hid (bwstep HK3.out HK.out.2.2)
          have HR6 := Lib.hid (HR3.out.bel HK.out.2.2)
          clear HK
          obtain ⟨w6, hw6⟩ : ∃ w6, w6 = wr := ⟨_, rfl⟩
          subst hw6
          go_wp2_with fail
          refine (tcells_any _ b n S' _ HT6.out (by have := HSL.out; omega)).mono ?_
          rintro e w7 ⟨⟨z, rfl, hz⟩, hb7⟩
          obtain ⟨Az, cz, rfl, hcz, hmz⟩ := (hz.rd (S := []) (fun _ h => by cases h)).shape
          unfold maxLen at hmz
          have hsm : S'.length ≤ 80 := HSL.out
          obtain ⟨M, hM⟩ : ∃ M, S'.length = M := ⟨_, rfl⟩
          rw [hM] at hz hcz hsm
          rw [hM]
          have HX7 : Hid (∃ X : List Cl, X.length = M ∧ OwL w7 w6.heap.size (.slice Az M cz) X) := Lib.hid ⟨S', hM, hz⟩
          have HB7 := Lib.hid hb7
          clear hz hb7 hM
          go_wp2_with fail
          go_loopw [9] (fun i wr => ∃ k : Nat, k ≤ M ∧ i = .int .i64 (k : Int) ∧ Hid (∃ X : List Cl, X.length = M ∧ OwL wr w6.heap.size (.slice Az M cz) X) ∧ Hid (Below w6.heap.size w6 wr)) (fun i _ => M - (intOf i).toNat)
          case atStart => exact ⟨0, by omega, rfl, HX7, HB7⟩
          case round =>
            clear HX7 HB7
            obtain ⟨j, hj, rfl, HXX, HBB⟩ := hrel
            by_cases hlj : j < M
            · have hh3 : (0 : Int) ≤ (j : Int) := by omega
              have hh4 : (j : Int) < (M : Int) := by omega
              obtain ⟨X, hXl, ox⟩ := HXX.out
              obtain ⟨g, cap, cur, eg, hg, hh, hc1, hm1, hcs, ht⟩ := ox.open_ (by omega)
              rw [hXl] at eg
              injection eg with e1 _ e3
              subst e1 e3
              have HGX := Lib.hid hh
              have HFX := Lib.hid (show j * 5 + [Cl.zero].length * 5 ≤ cur.size by rw [hcs]; simp; omega)
              have HTX : Hid (∀ w', Turned g (cpd cur (j * 5) [Cl.zero]) wr w' → (∃ X : List Cl, X.length = M ∧ OwL w' w6.heap.size (.slice (some ⟨g, 0, none⟩) M cz) X) ∧ Below w6.heap.size w6 w') := Lib.hid fun w' hT => by
                have hs := OwL.stored hg (by omega) hc1 hm1 hcs ht hT
                rw [hXl] at hs
                exact ⟨⟨X.set j Cl.zero, by rw [List.length_set]; exact hXl, hs⟩, HBB.out.trans (hT.b.mono hg)⟩
              clear ox hg hh hc1 hm1 hcs ht
              go_wp2_with (refine wpList_storeAt (c := Cl.zero) (g := g) (n := j * 5) rfl (.tmp 58) (.tmp 57) rfl (by simp [Act.eval]) rfl HGX.out HFX.out ?_)
              constructor
              intro w8 ht8
              obtain ⟨hX8, hB8⟩ := HTX.out _ ht8
              have HX8 := Lib.hid hX8
              have HB8 := Lib.hid hB8
              clear ht8 HTX HFX HGX hX8 hB8
              go_wp2_with fail
              go_roundw
              case rel => exact ⟨j + 1, by omega, by go_num, HX8, HB8⟩
              case measure => simp [intOf]; omega
            · obtain rfl : j = M := by omega
              have HT8 := Lib.hid (HT6.out.up HBB.out)
              have HB8 := Lib.hid (bwstep HB6.out HBB.out)
              have HR8 := Lib.hid (HR6.out.bel HBB.out)
              clear HXX HBB
              go_wp2_with fail
              refine (tcells_any _ b n S' _ HT8.out (by have := HSL.out; omega)).mono ?_
              rintro e w9 ⟨⟨u, rfl, hu⟩, hb9⟩
              have HU9 := Lib.hid (hu.rd (S := []) (fun _ h => by cases h))
              have HR9 := Lib.hid (HR8.out.bel hb9)
              have HB9 := Lib.hid (bwstep HB8.out hb9)
              clear hu hb9
              go_wp2_with fail
              refine (rsameL_self _ _ S' _ HU9.out HR9.out (by have := HSL.out; omega)).mono ?_
              rintro e wa ⟨rfl, hba⟩
              have HBA := Lib.hid (bwstep HB9.out hba)
              clear hba
              go_wp2_with fail
              go_ret
              exact ⟨rfl, HBA.out⟩
    · exact absurd ⟨_, _, HTAB.out⟩ hno
end Go.Proofs.Ytdemdmingelamaa
