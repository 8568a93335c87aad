/- Layer 16, StateSame. -/
import Derived.Test.YtcpkhhbbjimdaaaGreatDoorSaZ
import Derived.Deep.Cut
import Derived.Deep.RegionHeld3
import Derived.BigQuiet
set_option maxHeartbeats 8000000
set_option maxRecDepth 100000
namespace Go.Proofs.YtcpkhhbbjimdaaaGreatDoor.Ce
open Go.RowKit
structure TwoS (w0 w : World) (X Ma Mb : List Nat) (a b : Nat) (ma : Sm) (na : Nat) (mb : Sm) (nb : Nat) : Prop where
 sa : StAt w (X ++ (Ma ++ Mb)) Ma a ma na
 sb : StAt w (X ++ (Ma ++ Mb)) Mb b mb nb
 ge : ∀ k ∈ Ma ++ Mb, w0.heap.size ≤ k
 x : ∀ g ∈ X, g ∉ Ma ++ Mb
 dj : ∀ k ∈ Ma, k ∉ Mb
section
variable {w0 w w' : World} {X Ma Mb : List Nat} {a b na nb g : Nat} {ma mb : Sm}
theorem StAt.perm {S S' M : List Nat} {n : Nat} {m : Sm} (h : StAt w S M b m n) (hS : ∀ k ∈ S', k ∈ S) (hM : ∀ k ∈ M, k ∈ S') : StAt w S' M b m n :=
 h.keep (Kp.refl [] w) (by simp) (fun k hk => .inl (hS k hk)) hM fun k hk => h.slt k (hS k hk)
theorem TwoS.swap (h : TwoS w0 w X Ma Mb a b ma na mb nb) : TwoS w0 w X Mb Ma b a mb nb ma na := by
 have hp : ∀ k ∈ X ++ (Mb ++ Ma), k ∈ X ++ (Ma ++ Mb) := fun k hk => by
  simp only [List.mem_append] at hk ⊢
  rcases hk with q | q | q <;> simp [q]
 exact ⟨h.sb.perm hp fun k hk => by simp [hk], h.sa.perm hp fun k hk => by simp [hk], fun k hk => h.ge k (by simp only [List.mem_append] at hk ⊢; rcases hk with q | q <;> simp [q]), fun g hg hm => h.x g hg (by simp only [List.mem_append] at hm ⊢; rcases hm with q | q <;> simp [q]), fun k hk hm => h.dj k hm hk⟩
theorem TwoS.up (h : TwoS w0 w X Ma Mb a b ma na mb nb) (hb : Below w.heap.size w w') : TwoS w0 w' X Ma Mb a b ma na mb nb := ⟨h.sa.up hb, h.sb.up hb, h.ge, h.x, h.dj⟩
theorem TwoS.turn (h : TwoS w0 w X Ma Mb a b ma na mb nb) (hk : Kp X w w') : TwoS w0 w' X Ma Mb a b ma na mb nb :=
 ⟨h.sa.keep hk (fun k hk => .inl ⟨by simp [hk], fun hm => h.x k hk (by simp [hm])⟩) (fun k hk => .inl hk) (fun k hk => by simp [hk]) (fun k hm => Nat.lt_of_lt_of_le (h.sa.slt k hm) hk.size),
  h.sb.keep hk (fun k hk => .inl ⟨by simp [hk], fun hm => h.x k hk (by simp [hm])⟩) (fun k hk => .inl hk) (fun k hk => by simp [hk]) (fun k hm => Nat.lt_of_lt_of_le (h.sa.slt k hm) hk.size), h.ge, h.x, h.dj⟩
theorem TwoS.add (h : TwoS w0 w X Ma Mb a b ma na mb nb) (hb : Below w.heap.size w w') (hg : w.heap.size ≤ g) (hg2 : g < w'.heap.size) : TwoS w0 w' (g :: X) Ma Mb a b ma na mb nb := by
 have h1 : ∀ k ∈ g :: X ++ (Ma ++ Mb), k ∈ X ++ (Ma ++ Mb) ∨ w.heap.size ≤ k := fun k hk => by
  rw [List.cons_append] at hk
  rcases List.mem_cons.1 hk with rfl | q
  ·exact .inr hg
  ·exact .inl q
 have h2 : ∀ k ∈ g :: X ++ (Ma ++ Mb), k < w'.heap.size := fun k hk => by
  rw [List.cons_append] at hk
  rcases List.mem_cons.1 hk with rfl | q
  ·exact hg2
  ·exact Nat.lt_of_lt_of_le (h.sa.slt k q) hb.size
 refine ⟨h.sa.keep (Kp.of_below hb []) (by simp) h1 (fun k hk => by simp [hk]) h2, h.sb.keep (Kp.of_below hb []) (by simp) h1 (fun k hk => by simp [hk]) h2, h.ge, fun k hk hm => ?_, h.dj⟩
 rcases List.mem_cons.1 hk with rfl | q
 ·have := h.sa.slt k (by simp only [List.mem_append] at hm ⊢; exact .inr hm)
  omega
 ·exact h.x k q hm
theorem TwoS.less {X' : List Nat} (h : TwoS w0 w X Ma Mb a b ma na mb nb) (hX : ∀ k ∈ X', k ∈ X) : TwoS w0 w X' Ma Mb a b ma na mb nb := by
 have hp : ∀ k ∈ X' ++ (Ma ++ Mb), k ∈ X ++ (Ma ++ Mb) := fun k hk => by
  rcases List.mem_append.1 hk with q | q
  ·exact List.mem_append.2 (.inl (hX k q))
  ·exact List.mem_append.2 (.inr q)
 exact ⟨h.sa.perm hp fun k hk => by simp [hk], h.sb.perm hp fun k hk => by simp [hk], h.ge, fun g hg => h.x g (hX g hg), h.dj⟩
theorem TwoS.apply (h : TwoS w0 w X Ma Mb a b ma na mb nb) (hb : Below w0.heap.size w0 w) (hk : Kd w0) (hn : na ≤ 104) (c : Cm) :
  Calls Tryz.prog 14 #[.pointer (some ⟨a, 0, none⟩), c.v] w fun e w' => ∃ (M' : List Nat) (r : Rv), e = .returned r.v ∧ RpOw w' w.heap.size r (ma.apply c).2 ∧ TwoS w0 w' X M' Mb a b (ma.apply c).1 (na + 1) mb nb ∧ AppK w0 w w' X Ma M' := by
 refine (apply_any c h.sa (hk.up hb) hn).mono ?_
 rintro e w' ⟨M', r, he, hr, hs, hK, hM, -⟩
 have hgeA : ∀ k ∈ Ma, w0.heap.size ≤ k := fun k hk => h.ge k (by simp [hk])
 refine ⟨M', r, he, hr, ⟨hs.perm (fun k hk => ?_) (fun k hk => by simp [hk]), h.sb.keep hK (fun k hk => .inl ⟨by simp [hk], h.dj k hk⟩) (fun k hk => ?_) (fun k hk => by simp [hk]) (fun k hk => ?_), fun k hk => ?_, fun g hg hm => ?_, fun k hk hm => ?_⟩, ⟨hb.trans (hK.below hgeA hb.size), hK, hM, fun g hg => ⟨fun hm => h.x g hg (by simp [hm]), h.sa.slt g (by simp [hg])⟩⟩⟩
 ·simp only [List.mem_append] at hk ⊢
  rcases hk with q | q | q <;> simp [q]
 ·simp only [List.mem_append] at hk ⊢
  rcases hk with q | q | q
  ·exact .inl (.inl q)
  ·exact (hM k q).imp (fun q => .inr (.inl q)) id
  ·exact .inl (.inr (.inr q))
 ·have hz := hK.size
  simp only [List.mem_append] at hk
  rcases hk with q | q | q
  ·exact Nat.lt_of_lt_of_le (h.sa.slt k (by simp [q])) hz
  ·exact (hs.sub k q).2
  ·exact Nat.lt_of_lt_of_le (h.sa.slt k (by simp [q])) hz
 ·rcases List.mem_append.1 hk with q | q
  ·rcases hM k q with q | q
   ·exact hgeA k q
   ·exact Nat.le_trans hb.size q
  ·exact h.ge k (by simp [q])
 ·rcases List.mem_append.1 hm with q | q
  ·rcases hM g q with q | q
   ·exact h.x g hg (by simp [q])
   ·have := h.sa.slt g (by simp [hg])
    omega
  ·exact h.x g hg (by simp [q])
 ·rcases hM k hk with q | q
  ·exact h.dj k q hm
  ·have := h.sa.slt k (by simp [hm])
   omega
theorem new_two (h : OneS w0 w [] Ma a ma na) (hb : Below w0.heap.size w0 w) : Calls Tryz.prog 10 #[] w fun e w' => ∃ b, e = .returned (.pointer (some ⟨b, 0, none⟩)) ∧ TwoS w0 w' [] Ma [b] a b ma na Sm.zero 0 ∧ Below w.heap.size w w' := by
 refine (snew_any w).mono ?_
 rintro e w' ⟨⟨b, he, hle, hlt, hs⟩, hbb⟩
 have hMlt : ∀ k ∈ Ma, k < w.heap.size := fun k hk => (h.st.sub k hk).2
 refine ⟨b, he, ⟨h.st.keep (Kp.of_below hbb []) (by simp) (fun k hk => ?_) (fun k hk => by simp [hk]) (fun k hk => ?_), hs Ma fun k hk => Nat.lt_of_lt_of_le (hMlt k hk) hbb.size, fun k hk => ?_, by simp, fun k hk hm => ?_⟩, hbb⟩
 ·simp only [List.nil_append, List.mem_append, List.mem_singleton] at hk ⊢
  rcases hk with q | rfl
  ·exact .inl q
  ·exact .inr hle
 ·simp only [List.nil_append, List.mem_append, List.mem_singleton] at hk
  rcases hk with q | rfl
  ·exact Nat.lt_of_lt_of_le (hMlt k q) hbb.size
  ·exact hlt
 ·simp only [List.mem_append, List.mem_singleton] at hk
  rcases hk with q | rfl
  ·exact h.ge k q
  ·exact Nat.le_trans hb.size hle
 ·have := hMlt k hk
  rw [List.mem_singleton.1 hm] at this
  omega
theorem Sm.apply_read {m : Sm} {c : Cm} (h : 4 ≤ c.kind) : (m.apply c).1.cells = m.cells := by
 by_cases hr : c.Right
 ·rw [Sm.apply_yes hr]
  exact Sm.app_read h
 ·rw [Sm.apply_no hr]
end
theorem stateSame_walk (v : Value) (L : List Cm) (w : World) (hv : St.RdS cmD w [] v L) (hk : Kd w) :
  Calls Tryz.prog 5 #[v] w fun e w' => e = .returned (.bool true) ∧ Below w.heap.size w w' := by
 obtain ⟨A, cp, rfl, hcp, hcm⟩ := hv.shape
 unfold maxLen at hcm
 have HV := Lib.hid hv
 have HK := Lib.hid hk
 have HW0 := Lib.hid (Below.refl w.heap.size w)
 clear hv hk
 go_enter Tryz.func5, Tryz.ntmps5
 go_wp2_with fail
 refine (awake16_ok _ (HK.out.up HW0.out)).mono ?_
 rintro e w1 ⟨rfl, hb1⟩
 have HW1 := Lib.hid hb1
 clear hb1
 go_wp2_with fail
 refine (few16_any _ L _ (HV.out.bel HW1.out)).mono ?_
 rintro e w2 ⟨⟨q, rfl, hq⟩, rfl⟩
 cases q
 ·clear hq
  go_wp2_with fail
  refine (awake16_ok _ (HK.out.up HW1.out)).mono ?_
  rintro e w4 ⟨rfl, hbw4⟩
  have HWx := Lib.hid (bwstep HW1.out hbw4)
  go_wp2_with fail
  go_ret
  exact ⟨rfl, HWx.out⟩
 ·have hl50 := (hq rfl).1
  clear hq
  go_wp2_with fail
  refine (new_one w HW1.out).mono ?_
  rintro e w3 ⟨a, rfl, hs3, -, hbb3⟩
  have HS3 := Lib.hid hs3
  have HW3 := Lib.hid (bwstep HW1.out hbb3)
  clear hs3 hbb3
  go_wp2_with fail
  refine (new_two HS3.out HW3.out).mono ?_
  rintro e w4 ⟨b, rfl, hs4, hbb4⟩
  have HS4 := Lib.hid hs4
  have HW4 := Lib.hid (bwstep HW3.out hbb4)
  clear hs4 hbb4 HS3 HW3
  go_wp2_with fail
  go_loopw [5] (fun i wr => ∃ (k : Nat) (Ma Mb : List Nat) (m : Sm), k ≤ L.length ∧ i = .int .i64 (k : Int) ∧ Hid (TwoS w wr [] Ma Mb a b m k m k) ∧ Hid (Below w.heap.size w wr)) (fun i _ => L.length - (intOf i).toNat)
  case atStart => exact ⟨0, [a], [b], Sm.zero, by omega, rfl, HS4, HW4⟩
  case round =>
   obtain ⟨k, Ma, Mb, m, hk, rfl, HS, HW⟩ := hrel
   clear HS4 HW4
   by_cases hlt : k < L.length
   ·obtain ⟨bl, off, rfl, -, -, -⟩ := HV.out.open_ (by omega)
    have hh3 : (0 : Int) ≤ (k : Int) := by omega
    have hh4 : (k : Int) < (L.length : Int) := by omega
    have hfk : L[k]? = some (L[k]'hlt) := List.getElem?_eq_getElem _
    generalize L[k]'hlt = d at hfk
    have HVD := Lib.hid (fun z (hz : Below w.heap.size w z) => (HV.out.bel hz).all cmOk hfk)
    have HFW := Lib.hid (Sm.apply_few (c := d) HS.out.sa.few)
    have HFC : Hid (m.cells.length ≤ 1000000000) := Lib.hid (Nat.le_trans HS.out.sa.good.le (by omega))
    clear hfk
    go_wp2_with fail
    refine (scells_any HS.out.sa).mono ?_
    rintro e w5 ⟨⟨x6, rfl, hx6⟩, hb5⟩
    have HR5 := Lib.hid (hx6.rd (S := Ma ++ Mb) fun k hk => HS.out.sa.slt k (by simpa using hk))
    have HS5 := Lib.hid (HS.out.up hb5)
    have HW5 := Lib.hid (bwstep HW.out hb5)
    have hall := HVD.out _ HW5.out
    clear hx6 hb5 HS HW
    go_wp2_with (refine St.loadAt cmOk rfl (.tmp 36) rfl ⟨bl, off + k * 10, none⟩ rfl hall ?_)
    refine (HS5.out.apply HW5.out HK.out (by omega) d).mono ?_
    rintro e w6 ⟨Ma6, r6, rfl, hr6, hs6, hk6⟩
    have HS6 := Lib.hid hs6
    have HI6 := Lib.hid (hr6.is (S := Mb) fun k hk => HS5.out.sa.slt k (by simp [hk]))
    have HR6 : Hid (RdL w6 (Ma6 ++ Mb) x6 m.cells) := Lib.hid (HR5.out.up (Kp.more hk6.kp fun k hk => by simp [hk]) fun k hk => by
     rcases List.mem_append.1 hk with q | q
     ·exact (hk6.new k q).imp (fun q => by simp [q]) id
     ·exact .inl (by simp [q]))
    have HW6 := Lib.hid hk6.bel
    clear hr6 hs6 hk6 hall HS5 HR5
    go_wp2_with (refine St.alloc rpOk rfl rfl ?_)
    constructor
    intro w7 hx7 hb7 hz7
    clear hz7
    have HS7 := Lib.hid (HS6.out.add hb7 (Nat.le_refl _) hx7.lt)
    have HB7 := Lib.hid hb7
    have HW7 := Lib.hid (bwstep HW6.out hb7)
    clear hb7
    go_wp2_with (refine St.store rpOk (c := r6) rfl (.tmp 7) (.tmp 38) rfl rfl rfl hx7 ?_)
    constructor
    intro w8 hs8
    have HX8 := Lib.hid hs8.i
    have HS8 := Lib.hid (HS7.out.turn (St.Sp.Set.kp hs8 (by simp)))
    have HB8 := Lib.hid (hs8.bel HB7.out (Nat.le_refl _))
    have HW8 := Lib.hid (hs8.bel HW7.out HW6.out.size)
    have HI8 := Lib.hid (HI6.out.bel HB8.out)
    have HR8 := Lib.hid (HR6.out.bel HB8.out)
    have hall := HVD.out _ HW8.out
    have HGX : Hid (w.heap.size ≤ w6.heap.size) := Lib.hid HW6.out.size
    clear hs8 hx7 HS7 HB7 HW7 HB8 HS6 HI6 HR6 HW6
    generalize w6.heap.size = gx at *
    go_wp2_with (refine St.loadAt cmOk rfl (.tmp 42) rfl ⟨bl, off + k * 10, none⟩ rfl hall ?_)
    refine (HS8.out.swap.apply HW8.out HK.out (by omega) d).mono ?_
    rintro e w9 ⟨Mb9, r9, rfl, hr9, hs9, hk9⟩
    have HS9 := Lib.hid hs9.swap
    have HI9 := Lib.hid (hr9.is (S := []) fun k hk => by cases hk)
    have HJ9 := Lib.hid (HI8.out.up (S' := []) hk9.kp fun k hk => by cases hk)
    have HR9 : Hid (RdL w9 [] x6 m.cells) := Lib.hid (HR8.out.up (Kp.more hk9.kp fun k hk => by simp [hk]) fun k hk => by cases hk)
    have HX9 := Lib.hid (hk9.in_ HX8.out (by simp))
    have HW9 := Lib.hid hk9.bel
    clear hr9 hs9 hk9 hall HS8 HI8 HR8 HW8 HX8
    go_wp2_with (refine St.alloc rpOk rfl rfl ?_)
    constructor
    intro w10 hy10 hb10 hz10
    clear hz10
    have HS10 := Lib.hid (HS9.out.up hb10)
    have HX10 := Lib.hid (HX9.out.up hb10)
    have HB10 := Lib.hid hb10
    have HW10 := Lib.hid (bwstep HW9.out hb10)
    have HLX := Lib.hid HX9.out.lt
    clear hb10
    go_wp2_with (refine St.store rpOk (c := r9) rfl (.tmp 8) (.tmp 44) rfl rfl rfl hy10 ?_)
    constructor
    intro w11 hs11
    have hB11 := hs11.bel HB10.out (Nat.le_refl _)
    have HS11 := Lib.hid ((HS9.out.less (X' := []) (by simp)).up hB11)
    have HW11 := Lib.hid (hs11.bel HW10.out HW9.out.size)
    have HI11 := Lib.hid (HI9.out.bel hB11)
    have HJ11 := Lib.hid (HJ9.out.bel hB11)
    have HR11 := Lib.hid (HR9.out.bel hB11)
    have hx11 := hs11.up HX10.out (Nat.ne_of_lt HLX.out)
    have hy11 := hs11.i
    clear hs11 hy10 hB11 HS10 HB10 HX10 HS9 HI9 HJ9 HR9 HX9
    go_wp2_with (first | refine St.load rpOk rfl (.tmp 7) rfl rfl hx11 ?_ | refine St.load rpOk rfl (.tmp 8) rfl rfl hy11 ?_)
    refine (ssame_any r6 r9 (m.apply d).2 (m.apply d).2 _ HJ11.out HI11.out HFW.out).mono ?_
    rintro e w12 ⟨rfl, hb12⟩
    rw [decide_eq_true rfl]
    have HS12 := Lib.hid (HS11.out.up hb12)
    have HW12 := Lib.hid (bwstep HW11.out hb12)
    have HR12 := Lib.hid (HR11.out.bel hb12)
    have p2 : w12.cell? ⟨bl, off + k * 10 + 2, none⟩ = some (.int .i64 d.kind) := by
     have := HVD.out _ HW12.out 2 _ rfl
     rw [Addr.add_lit] at this
     exact this
    have HRD := Lib.hid (fun h : 4 ≤ d.kind => Sm.apply_read (m := m) h)
    clear hb12 hx11 hy11 HS11 HI11 HJ11 HR11 HW11 HFW
    generalize (m.apply d).1 = m1 at *
    by_cases hkd : 4 ≤ d.kind
    ·have e1 := HRD.out hkd
     go_wp2_with fail
     refine (scells_any HS12.out.sa).mono ?_
     rintro e w13 ⟨⟨x13, rfl, hx13⟩, hb13⟩
     rw [e1] at hx13
     have HX13 := Lib.hid (hx13.rd (S := []) fun _ h => by cases h)
     have HR13 := Lib.hid (HR12.out.bel hb13)
     have HS13 := Lib.hid (HS12.out.up hb13)
     have HW13 := Lib.hid (bwstep HW12.out hb13)
     clear hx13 hb13 p2 e1 HS12 HW12 HR12 hkd
     go_wp2_with fail
     refine (rsameL_any x13 x6 m.cells m.cells _ HX13.out HR13.out HFC.out).mono ?_
     rintro e w14 ⟨rfl, hb14⟩
     rw [decide_eq_true rfl]
     have HS14 := Lib.hid (HS13.out.up hb14)
     have HW14 := Lib.hid (bwstep HW13.out hb14)
     clear hb14
     go_wp2_with fail
     go_roundw
     case rel => exact ⟨k + 1, Ma6, Mb9, m1, by omega, by go_num, HS14, HW14⟩
     case measure => simp [intOf]; omega
    ·go_wp2_with fail
     go_roundw
     case rel => exact ⟨k + 1, Ma6, Mb9, m1, by omega, by go_num, HS12, HW12⟩
     case measure => simp [intOf]; omega
   ·obtain rfl : k = L.length := by omega
    have HFC : Hid (m.cells.length ≤ 1000000000) := Lib.hid (Nat.le_trans HS.out.sa.good.le (by omega))
    clear hlt hk HV
    go_wp2_with fail
    refine (scells_any HS.out.sa).mono ?_
    rintro e w5 ⟨⟨x5, rfl, hx5⟩, hb5⟩
    have HX5 := Lib.hid (hx5.rd (S := []) fun _ h => by cases h)
    have HS5 := Lib.hid (HS.out.up hb5)
    have HW5 := Lib.hid (bwstep HW.out hb5)
    clear hx5 hb5 HS HW
    go_wp2_with fail
    refine (scells_any HS5.out.sb).mono ?_
    rintro e w6 ⟨⟨x6, rfl, hx6⟩, hb6⟩
    have HX6 := Lib.hid (hx6.rd (S := []) fun _ h => by cases h)
    have HY6 := Lib.hid (HX5.out.bel hb6)
    have HW6 := Lib.hid (bwstep HW5.out hb6)
    clear hx6 hb6 HS5 HX5 HW5
    go_wp2_with fail
    refine (rsameL_any x5 x6 m.cells m.cells _ HY6.out HX6.out HFC.out).mono ?_
    rintro e w7 ⟨rfl, hb7⟩
    rw [decide_eq_true rfl]
    have HW7 := Lib.hid (bwstep HW6.out hb7)
    clear hb7
    go_wp2_with fail
    go_ret
    exact ⟨rfl, HW7.out⟩
end Go.Proofs.YtcpkhhbbjimdaaaGreatDoor.Ce
