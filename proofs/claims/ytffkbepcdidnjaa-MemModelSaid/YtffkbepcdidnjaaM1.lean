/- MemModel's walk. -/
import Derived.Test.YtffkbepcdidnjaaMa
import Derived.Test.YtffkbepcdidnjaaMs
import Derived.Test.YtffkbepcdidnjaaCrb
import Derived.Test.YtffkbepcdidnjaaCpo
namespace Go.Proofs.Ytffkbepcdidnjaa
open Go.RowKit Ce

theorem rdl_weak {w : World} {S : List Nat} {v : Value} {L : List Cl} (h : RdL w S v L) : RdL w [] v L := h.up (Kp.refl _ _) fun _ h => by cases h
/-- in the course of MemModel's first loop -/
structure ModS (w : World) (b : Nat) (o vm : Value) (LK LW : List Cl) (wr : World) : Prop where
  m : MemV wr b vm LK
  o : RdL wr (blks b vm) o LW
  ge : ∀ x ∈ blks b vm, w.heap.size ≤ x
  bel : Below w.heap.size w wr
theorem ModS.up {w x y : World} {b : Nat} {o vm : Value} {LK LW : List Cl} (h : ModS w b o vm LK LW x) (hb : Below x.heap.size x y) : ModS w b o vm LK LW y := ⟨h.m.up hb, h.o.bel hb, h.ge, bwstep h.bel hb⟩
theorem ModS.put {w x y : World} {b : Nat} {o vm vm' : Value} {LK LK' LW : List Cl} (h : ModS w b o vm LK LW x) (hm : MemV y b vm' LK') (hk : Kp (blks b vm) x y) (ha : ∀ k ∈ blks b vm', k ∈ blks b vm ∨ x.heap.size ≤ k) : ModS w b o vm' LK' LW y :=
  ⟨hm, h.o.up hk ha, fun k hq => by
    rcases ha k hq with q | q
    · exact h.ge k q
    · exact Nat.le_trans h.bel.size q, Kp.belowB hk h.ge h.bel⟩
theorem ModS.new {w x y : World} {b : Nat} {o o' vm : Value} {LK LW LW' : List Cl} (h : ModS w b o vm LK LW x) (hb : Below x.heap.size x y) (ho : OwL y x.heap.size o' LW') : ModS w b o' vm LK LW' y :=
  ⟨h.m.up hb, ho.rd h.m.blk_lt, h.ge, bwstep h.bel hb⟩
theorem szs_snoc {L : List Cl} {k : Nat} {c : Cl} (h : L[k]? = some c) : szs (L.take (k + 1)) = szs (L.take k) + ((cellB c).length : Int) := by
  obtain ⟨hl, rfl⟩ := List.getElem?_eq_some_iff.1 h
  rw [List.take_succ_eq_append_getElem hl, szs_app]
  simp [szs]
/-- l's cell -/
def LC (b o : Nat) (f : Cl) (w w' : World) : Prop := w'.cell? ⟨b, o, none⟩ = some (.string f.row) ∧ w'.cell? ⟨b, o + 1, none⟩ = some (.string f.col) ∧ w'.cell? ⟨b, o + 2, none⟩ = some (.int .i64 f.at_) ∧ w'.cell? ⟨b, o + 3, none⟩ = some (.string f.val) ∧ w'.cell? ⟨b, o + 4, none⟩ = some (.bool f.gone) ∧ Below w.heap.size w w'
theorem LC.of {b off n c k : Nat} {f : Cl} {L : List Cl} {w w' : World} (h : RdL w [] (.slice (some ⟨b, off, none⟩) n c) L) (hk : L[k]? = some f) (hb : Below w.heap.size w w') : LC b (off + k * 5) f w w' := by
  obtain ⟨⟨a0, a1, a2, a3, a4⟩, -⟩ := (h.bel hb).at_ hk
  exact ⟨a0, a1, a2, a3, a4, hb⟩
set_option maxHeartbeats 8000000 in
set_option maxRecDepth 100000 in
theorem memModel_walk (v : Value) (L : List Cl) (w : World) (hv : RdL w [] v L) : Calls Try.prog 3 #[v] w fun e w' => e = .returned (.bool true) ∧ Below w.heap.size w w' := by
  obtain ⟨A, cp, rfl, hc, hm⟩ := hv.shape
  unfold maxLen at hm
  have HV := Lib.hid hv
  clear hv
  go_enter Try.func3, Try.ntmps3
  go_wp2_with fail
  refine (mawake9_ok _).mono ?_
  rintro e w1 ⟨rfl, hb1⟩
  have HB1 := Lib.hid hb1
  clear hb1
  go_wp2_with fail
  refine (fewM_any _ L _ (HV.out.bel HB1.out)).mono ?_
  rintro e w2 ⟨⟨q, rfl, hq⟩, hb2⟩
  have HB2 := Lib.hid (bwstep HB1.out hb2)
  clear hb2 HB1
  cases q
  · clear hq
    go_wp2_with fail
    refine (mawake9_ok _).mono ?_
    rintro e w9 ⟨rfl, hb9⟩
    have H9 := Lib.hid (bwstep HB2.out hb9)
    clear hb9
    go_wp2_with fail
    go_ret
    exact ⟨rfl, H9.out⟩
  · have hl60 := hq rfl
    clear hq
    go_wp2_with fail
    refine (mnew_any _).mono ?_
    rintro e w3 ⟨⟨b, rfl, hge, hmv⟩, hb3⟩
    have HM3 : Hid (ModS w b (.slice none 0 0) (.slice none 0 0) [] [] w3) := Lib.hid ⟨hmv, RdL.nil _ _, fun k hk => by
      rcases mem_blks.1 hk with rfl | e
      · exact Nat.le_trans HB2.out.size hge
      · simp [Value.ownBlock] at e, bwstep HB2.out hb3⟩
    clear hge hmv hb3 HB2
    go_wp2_with fail
    go_loopw [4, 5] (fun o i wr => ∃ k : Nat, k ≤ L.length ∧ i = .int .i64 (k : Int) ∧ Hid (∃ vm, ModS w b o vm (fill (L.take k)) (fill (L.take k)) wr)) (fun _ i _ => L.length - (intOf i).toNat)
    case atStart => exact ⟨0, by omega, rfl, Lib.hid ⟨_, HM3.out⟩⟩
    case round =>
      obtain ⟨k, hk, rfl, HS⟩ := hrel
      obtain ⟨vm, hS⟩ := HS.out
      by_cases hlt : k < L.length
      · obtain ⟨b', off, rfl, -, -⟩ := HV.out.open_ (by omega)
        have hh3 : (0 : Int) ≤ (k : Int) := by omega
        have hh4 : (k : Int) < (L.length : Int) := by omega
        have hfk : L[k]? = some (L[k]'hlt) := List.getElem?_eq_getElem _
        generalize L[k]'hlt = f at hfk
        have HFK := Lib.hid hfk
        have HSN := Lib.hid (fill_snoc hfk)
        have hF := fill_ind L k
        generalize fill (L.take k) = LK at *
        have HF := Lib.hid hF
        have hlk : LK.length ≤ 60 := by have := hF.len; omega
        have hSd := hS.up (Below.refl _ _).drew
        have HSD := Lib.hid hSd
        have HP := Lib.hid (mput_any b vm LK f wr.drew hSd.m hF.srt hF.ok (by omega))
        have HT : Hid (LC b' (off + k * 5) f w wr.drew) := Lib.hid (LC.of HV.out hfk hSd.bel)
        have HU : Hid (∀ x y : World, LC b' (off + k * 5) f w x → Below x.heap.size x y → LC b' (off + k * 5) f w y) := Lib.hid fun x y hx hb => LC.of HV.out HFK.out (bwstep hx.2.2.2.2.2 hb)
        have hrt := fun w => rright_any f w
        clear hfk hS hSd HS hF
        by_cases hok : f.ok
        · rw [if_pos hok] at HSN HP
          rw [decide_eq_true hok] at hrt HP
          have HOK := Lib.hid hok
          clear hok
          go_wp2_with fail
          go_region_held3 (fun w' => w'.cell? ⟨b', off + k * 5, none⟩ = some (.string f.row) ∧ w'.cell? ⟨b', off + k * 5 + 1, none⟩ = some (.string f.col) ∧ w'.cell? ⟨b', off + k * 5 + 2, none⟩ = some (.int .i64 f.at_) ∧ w'.cell? ⟨b', off + k * 5 + 3, none⟩ = some (.string f.val) ∧ w'.cell? ⟨b', off + k * 5 + 4, none⟩ = some (.bool f.gone) ∧ Below w.heap.size w w') (first | exact HT.out | assumption | exact HU.out _ _ (by assumption) (by assumption))
            (first
              | (go_at_call 10; refine HP.out.mono ?_; rintro e w4 ⟨rfl, vm4, hm4, hk4, ha4⟩; have HS4 := Lib.hid (HSD.out.put hm4 hk4 ha4); have hS4 : w4.cell? ⟨b', off + k * 5, none⟩ = some (.string f.row) ∧ w4.cell? ⟨b', off + k * 5 + 1, none⟩ = some (.string f.col) ∧ w4.cell? ⟨b', off + k * 5 + 2, none⟩ = some (.int .i64 f.at_) ∧ w4.cell? ⟨b', off + k * 5 + 3, none⟩ = some (.string f.val) ∧ w4.cell? ⟨b', off + k * 5 + 4, none⟩ = some (.bool f.gone) ∧ Below w.heap.size w w4 := LC.of HV.out HFK.out HS4.out.bel)
              | (go_at_call 11; refine (hrt _).mono ?_; rintro e w5 ⟨rfl, hb5⟩))
          have HS5 := Lib.hid (HS4.out.up hb5)
          obtain ⟨c0, c1, c2, c3, c4, -⟩ := LC.of HV.out HFK.out HS5.out.bel
          clear hS4 hm4 hk4 ha4 HT HU HP HSD HS4
          go_wp2_with fail
          refine (hrt _).mono ?_
          rintro e w6 ⟨rfl, hb6⟩
          have HS6 := Lib.hid (HS5.out.up hb6)
          clear hb6 hb5 c0 c1 c2 c3 c4 HS5 hrt
          obtain ⟨c0, c1, c2, c3, c4, -⟩ := LC.of HV.out HFK.out HS6.out.bel
          go_wp2_with fail
          refine (rput1_any _ LK f w6 (rdl_weak HS6.out.o) HOK.out HF.out.ok (by omega)).mono ?_
          rintro e w7 ⟨⟨o7, rfl, ho7⟩, hb7⟩
          have HS7 := Lib.hid (HS6.out.new hb7 ho7)
          rw [← HSN.out] at HS7
          clear ho7 hb7 c0 c1 c2 c3 c4 HS6
          go_wp2_with fail
          go_roundw
          case rel => exact ⟨k + 1, by omega, by go_num, Lib.hid ⟨_, HS7.out⟩⟩
          case measure => simp [intOf]; omega
        · rw [if_neg hok] at HSN HP
          rw [decide_eq_false hok] at hrt HP
          clear hok
          go_wp2_with fail
          go_region_held3 (fun w' => w'.cell? ⟨b', off + k * 5, none⟩ = some (.string f.row) ∧ w'.cell? ⟨b', off + k * 5 + 1, none⟩ = some (.string f.col) ∧ w'.cell? ⟨b', off + k * 5 + 2, none⟩ = some (.int .i64 f.at_) ∧ w'.cell? ⟨b', off + k * 5 + 3, none⟩ = some (.string f.val) ∧ w'.cell? ⟨b', off + k * 5 + 4, none⟩ = some (.bool f.gone) ∧ Below w.heap.size w w') (first | exact HT.out | assumption | exact HU.out _ _ (by assumption) (by assumption))
            (first
              | (go_at_call 10; refine HP.out.mono ?_; rintro e w4 ⟨rfl, vm4, hm4, hk4, ha4⟩; have HS4 := Lib.hid (HSD.out.put hm4 hk4 ha4); have hS4 : w4.cell? ⟨b', off + k * 5, none⟩ = some (.string f.row) ∧ w4.cell? ⟨b', off + k * 5 + 1, none⟩ = some (.string f.col) ∧ w4.cell? ⟨b', off + k * 5 + 2, none⟩ = some (.int .i64 f.at_) ∧ w4.cell? ⟨b', off + k * 5 + 3, none⟩ = some (.string f.val) ∧ w4.cell? ⟨b', off + k * 5 + 4, none⟩ = some (.bool f.gone) ∧ Below w.heap.size w w4 := LC.of HV.out HFK.out HS4.out.bel)
              | (go_at_call 11; refine (hrt _).mono ?_; rintro e w5 ⟨rfl, hb5⟩))
          have HS5 := Lib.hid (HS4.out.up hb5)
          obtain ⟨c0, c1, c2, c3, c4, -⟩ := LC.of HV.out HFK.out HS5.out.bel
          clear hS4 hm4 hk4 ha4 HT HU HP HSD HS4
          go_wp2_with fail
          refine (hrt _).mono ?_
          rintro e w6 ⟨rfl, hb6⟩
          have HS6 := Lib.hid (HS5.out.up hb6)
          rw [← HSN.out] at HS6
          clear hb6 hb5 c0 c1 c2 c3 c4 HS5 hrt
          go_wp2_with fail
          go_roundw
          case rel => exact ⟨k + 1, by omega, by go_num, Lib.hid ⟨_, HS6.out⟩⟩
          case measure => simp [intOf]; omega
      · obtain rfl : k = L.length := by omega
        rw [List.take_length] at hS
        have hF := fill_all L
        generalize fill L = LL at *
        have HF := Lib.hid hF
        have hll : LL.length ≤ 60 := by have := hF.len; omega
        obtain ⟨Ao, co, rfl, hco, hmo⟩ := hS.o.shape
        unfold maxLen at hmo
        have HSM := Lib.hid hS
        clear hS hF HS
        go_wp2_with fail
        go_loopw [6, 7] (fun n i wx => ∃ k : Nat, k ≤ LL.length ∧ i = .int .i64 (k : Int) ∧ n = .int .i64 (szs (LL.take k)) ∧ Below wr.heap.size wr wx) (fun _ i _ => LL.length - (intOf i).toNat)
        case atStart => exact ⟨0, by omega, rfl, by simp [szs], Below.refl _ _⟩
        case round =>
          obtain ⟨k, hk, rfl, rfl, hbx⟩ := hrel
          have HSX := Lib.hid (HSM.out.up hbx)
          have HBX := Lib.hid hbx
          clear hbx
          by_cases hlt : k < LL.length
          · obtain ⟨b', off, rfl, -, -⟩ := (rdl_weak HSX.out.o).open_ (by omega)
            have hh3 : (0 : Int) ≤ (k : Int) := by omega
            have hh4 : (k : Int) < (LL.length : Int) := by omega
            have hfk : LL[k]? = some (LL[k]'hlt) := List.getElem?_eq_getElem _
            generalize LL[k]'hlt = f at hfk
            have HSN := Lib.hid (szs_snoc hfk)
            have hfo := HF.out.ok f (List.mem_of_getElem? hfk)
            have hzb := szs_bound (L := LL.take k) fun x hx => HF.out.ok x (List.mem_of_mem_take hx)
            have hzl : (LL.take k).length ≤ 60 := by simp; omega
            obtain ⟨z, hz⟩ : ∃ z, z = szs (LL.take k) := ⟨_, rfl⟩
            rw [← hz] at hzb HSN ⊢
            have hn1 := cellB_pos hfo
            have hrp := fun w => rput_ok f w hfo
            obtain ⟨⟨c0, c1, c2, c3, c4⟩, -⟩ := (rdl_weak HSX.out.o).at_ hfk
            have hw1 : IntKind.i64.wrap (z + ((cellB f).length : Int)) = z + ((cellB f).length : Int) := IntWalk.i64_in _ (by omega)
            clear hfk hfo hz hzl hzb
            go_wp2_with fail
            refine (hrp _).mono ?_
            rintro e wy ⟨⟨x, rfl, hx⟩, hby⟩
            obtain ⟨Ax, cx, rfl, -, -⟩ := hx.rd.shapeM
            have HBY := Lib.hid (bwstep HBX.out hby)
            clear hx hby hrp
            go_wp2_with fail
            go_roundw
            case rel => exact ⟨k + 1, by omega, by go_num, by rw [HSN.out], HBY.out⟩
            case measure => simp [intOf]; omega
          · obtain rfl : k = LL.length := by omega
            rw [List.take_length]
            go_wp2_with fail
            refine (mcells_any b vm LL _ HSX.out.m (by omega)).mono ?_
            rintro e w4 ⟨⟨x, rfl, hx⟩, hb4⟩
            have HS4 := Lib.hid (HSX.out.up hb4)
            have HX4 := Lib.hid (hx.rd (S := []) (fun _ h => by cases h))
            clear hx hb4 HSX
            go_wp2_with fail
            refine (rsameL_self _ _ LL _ HX4.out (rdl_weak HS4.out.o) (by omega)).mono ?_
            rintro e w5 ⟨rfl, hb5⟩
            have HS5 := Lib.hid (HS4.out.up hb5)
            clear hb5 HX4 HS4
            go_wp2_with fail
            refine (mlen_any b vm LL _ HS5.out.m).mono ?_
            rintro e w6 ⟨rfl, rfl⟩
            go_wp2_with fail
            refine (msize_any b vm LL _ HS5.out.m).mono ?_
            rintro e w7 ⟨rfl, rfl⟩
            go_wp2_with fail
            go_ret
            exact ⟨rfl, HS5.out.bel⟩
end Go.Proofs.Ytffkbepcdidnjaa
