/- A command read from bytes: the contract of package cmd's read. -/
import Derived.Test.YtkpdadnmbjmfpaaDoorCmU
import Derived.Test.YtkpdadnmbjmfpaaDoorWir
namespace Go.Proofs.YtkpdadnmbjmfpaaDoor.Ce
open Go.RowKit

/-- a slice that reads as xs, in blocks from G on -/
structure RdG (w : World) (G : Nat) (v : Value) (xs : List Value) : Prop where
  rd : Rd w w.heap.size v xs
  ge : ∀ k, v.ownBlock = some k → G ≤ k
theorem RdG.of_ow {w : World} {B e G : Nat} {v : Value} {xs : List Value} (h : Ow w B e v xs) (hG : G ≤ B) : RdG w G v xs := ⟨h.rd, fun k hk => Nat.le_trans hG (h.ge k hk)⟩
theorem RdG.up {w w' : World} {G : Nat} {v : Value} {xs : List Value} (h : RdG w G v xs) (hb : Below w.heap.size w w') : RdG w' G v xs := ⟨h.rd.up hb, h.ge⟩
theorem RdG.set {w w' : World} {G : Nat} {v : Value} {xs : List Value} (h : RdG w G v xs) (ho : ∀ k, G ≤ k → w'.heap[k]? = w.heap[k]?) (hz : w'.heap.size = w.heap.size) : RdG w' G v xs := by
  obtain ⟨⟨A, c, rfl, h1, h2, h3⟩, hg⟩ := h
  refine ⟨⟨A, c, rfl, h1, h2, fun hp => ?_⟩, hg⟩
  obtain ⟨b, off, rfl, hb, hc⟩ := h3 hp
  refine ⟨b, off, rfl, by omega, fun j u hu => ?_⟩
  rw [← hc j u hu]
  have := ho b (hg b rfl)
  simp only [World.cell?, this]
/-- five integers, five texts, as arrays -/
def n5 (g : Nat → Int) : Array Value := #[.int .i64 (g 0), .int .i64 (g 1), .int .i64 (g 2), .int .i64 (g 3), .int .i64 (g 4)]
def t5 (g : Nat → ByteArray) : Array Value := #[.string (g 0), .string (g 1), .string (g 2), .string (g 3), .string (g 4)]
abbrev n5D : St.Sp (Nat → Int) := ⟨53, 0, 5, 40, n5, fun _ => 0⟩
abbrev t5D : St.Sp (Nat → ByteArray) := ⟨54, 0, 5, 80, t5, fun _ => ⟨#[]⟩⟩
theorem n5Ok : n5D.Ok Tryd.prog := ⟨⟨_, Tryd.underlying53, rfl⟩, by kernel_rfl, by decide, fun _ => rfl, fun x => by simp [n5, Value.oneCell']⟩
theorem t5Ok : t5D.Ok Tryd.prog := ⟨⟨_, Tryd.underlying54, rfl⟩, by kernel_rfl, by decide, fun _ => rfl, fun x => by simp [t5, Value.oneCell']⟩
def upd {α : Type} (g : Nat → α) (k : Nat) (x : α) : Nat → α := fun j => if j = k then x else g j
theorem n5_at (g : Nat → Int) {k : Nat} (hk : k < 5) : (n5 g)[k]? = some (.int .i64 (g k)) := by
  have : k = 0 ∨ k = 1 ∨ k = 2 ∨ k = 3 ∨ k = 4 := by omega
  rcases this with rfl | rfl | rfl | rfl | rfl <;> rfl
theorem t5_at (g : Nat → ByteArray) {k : Nat} (hk : k < 5) : (t5 g)[k]? = some (.string (g k)) := by
  have : k = 0 ∨ k = 1 ∨ k = 2 ∨ k = 3 ∨ k = 4 := by omega
  rcases this with rfl | rfl | rfl | rfl | rfl <;> rfl
theorem n5_set (g : Nat → Int) {k : Nat} (hk : k < 5) (n : Int) : (n5 g).setIfInBounds k (.int .i64 n) = n5 (upd g k n) := by
  have : k = 0 ∨ k = 1 ∨ k = 2 ∨ k = 3 ∨ k = 4 := by omega
  rcases this with rfl | rfl | rfl | rfl | rfl <;> simp [n5, upd]
theorem t5_set (g : Nat → ByteArray) {k : Nat} (hk : k < 5) (n : ByteArray) : (t5 g).setIfInBounds k (.string n) = t5 (upd g k n) := by
  have : k = 0 ∨ k = 1 ∨ k = 2 ∨ k = 3 ∨ k = 4 := by omega
  rcases this with rfl | rfl | rfl | rfl | rfl <;> simp [t5, upd]
/-- k numbers were read; L is left -/
def Rd1 (l : List UInt8) (k : Nat) (g : Nat → Int) (L : List UInt8) : Prop := ∀ c, IsCmd l c → (∀ j, j < k → (cmN c)[j]? = some (g j)) ∧ L = numsB ((cmN c).drop k) ++ allB (cmT c)
def Rd2 (l : List UInt8) (k : Nat) (g : Nat → Int) (t : Nat → ByteArray) (L : List UInt8) : Prop := ∀ c, IsCmd l c → (∀ j, j < 5 → (cmN c)[j]? = some (g j)) ∧ (∀ j, j < k → (cmT c)[j]? = some (t j)) ∧ L = allB ((cmT c).drop k)
theorem Rd1.start (l : List UInt8) : Rd1 l 0 (fun _ => 0) l := by
  rintro c ⟨-, -, rfl⟩
  exact ⟨fun j hj => absurd hj (by omega), rfl⟩
theorem numsB_drop (N : List Int) {k : Nat} (h : k < N.length) : numsB (N.drop k) = numB N[k].toNat ++ numsB (N.drop (k + 1)) := by
  rw [List.drop_eq_getElem_cons h]
  rfl
theorem Rd1.ok {l : List UInt8} {k : Nat} {g : Nat → Int} {L : List UInt8} (h : Rd1 l k g L) (hk : k < 5) : Rd1 l (k + 1) (upd g k (numOf L)) (L.drop 4) := by
  intro c hc
  obtain ⟨h1, rfl⟩ := h c hc
  have hl : k < (cmN c).length := hk
  have hb := hc.1.nums _ (List.getElem_mem hl)
  rw [numsB_drop _ hl, List.append_assoc, numOf_numB _ (by omega), List.drop_left' (numB_len _)]
  refine ⟨fun j hj => ?_, rfl⟩
  unfold upd
  by_cases e : j = k
  · subst e
    rw [if_pos rfl, List.getElem?_eq_getElem hl, Int.toNat_of_nonneg hb.1]
  · rw [if_neg e]
    exact h1 j (by omega)
theorem Rd1.no {l : List UInt8} {k : Nat} {g : Nat → Int} {L : List UInt8} (h : Rd1 l k g L) (hk : k < 5) (hn : L.length < 4) (g' : Nat → Int) (L' : List UInt8) : Rd1 l (k + 1) g' L' := by
  intro c hc
  obtain ⟨h1, rfl⟩ := h c hc
  have hl : k < (cmN c).length := hk
  rw [numsB_drop _ hl, List.append_assoc, List.length_append, numB_len] at hn
  omega
theorem Rd1.end_ {l : List UInt8} {k : Nat} {g : Nat → Int} {L : List UInt8} (h : Rd1 l k g L) (hk : 5 ≤ k) : Rd2 l 0 g (fun _ => ⟨#[]⟩) L := by
  intro c hc
  obtain ⟨h1, rfl⟩ := h c hc
  refine ⟨fun j hj => h1 j (by omega), fun j hj => absurd hj (by omega), ?_⟩
  rw [List.drop_of_length_le (show (cmN c).length ≤ k from hk)]
  rfl
theorem Rd2.ok {l : List UInt8} {k : Nat} {g : Nat → Int} {t : Nat → ByteArray} {L : List UInt8} (h : Rd2 l k g t L) (hk : k < 5) : Rd2 l (k + 1) g (upd t k ⟨(textOf L).toArray⟩) (textRest L) := by
  intro c hc
  obtain ⟨h0, h1, rfl⟩ := h c hc
  have hl : k < (cmT c).length := hk
  have hb := hc.1.texts _ (List.getElem_mem hl)
  rw [List.drop_eq_getElem_cons hl, Go.Proofs.YtkpdadnmbjmfpaaDoor.allB_cons, textOf_textB _ hb, textRest_textB _ hb]
  refine ⟨h0, fun j hj => ?_, rfl⟩
  unfold upd
  by_cases e : j = k
  · subst e
    rw [if_pos rfl, List.getElem?_eq_getElem hl]
  · rw [if_neg e]
    exact h1 j (by omega)
theorem Rd2.no {l : List UInt8} {k : Nat} {g : Nat → Int} {t : Nat → ByteArray} {L : List UInt8} (h : Rd2 l k g t L) (hk : k < 5) (hn : ¬ textOk L) (t' : Nat → ByteArray) (L' : List UInt8) : Rd2 l (k + 1) g t' L' := by
  intro c hc
  obtain ⟨h0, h1, rfl⟩ := h c hc
  have hl : k < (cmT c).length := hk
  have hb := hc.1.texts _ (List.getElem_mem hl)
  rw [List.drop_eq_getElem_cons hl, Go.Proofs.YtkpdadnmbjmfpaaDoor.allB_cons] at hn
  exact absurd (textOk_textB _ hb _) hn
def mk5 (g : Nat → Int) (t : Nat → ByteArray) : Cm := ⟨g 0, g 1, g 2, t 0, t 1, t 2, g 3, t 3, t 4, g 4 == 1⟩
theorem Rd2.end_ {l : List UInt8} {k : Nat} {g : Nat → Int} {t : Nat → ByteArray} {L : List UInt8} (h : Rd2 l k g t L) (hk : 5 ≤ k) : ∀ c, IsCmd l c → mk5 g t = c := by
  intro c hc
  obtain ⟨h0, h1, -⟩ := h c hc
  have a0 := h0 0 (by omega)
  have a1 := h0 1 (by omega)
  have a2 := h0 2 (by omega)
  have a3 := h0 3 (by omega)
  have a4 := h0 4 (by omega)
  have b0 := h1 0 (by omega)
  have b1 := h1 1 (by omega)
  have b2 := h1 2 (by omega)
  have b3 := h1 3 (by omega)
  have b4 := h1 4 (by omega)
  simp only [cmN, cmT, List.getElem?_cons_zero, List.getElem?_cons_succ, Option.some.injEq] at a0 a1 a2 a3 a4 b0 b1 b2 b3 b4
  apply Cm.ext' <;> simp only [mk5]
  · exact a0.symm
  · exact a1.symm
  · exact a2.symm
  · exact b0.symm
  · exact b1.symm
  · exact b2.symm
  · exact a3.symm
  · exact b3.symm
  · exact b4.symm
  · rw [← a4]
    cases c.has <;> rfl
set_option maxHeartbeats 4000000 in
set_option maxRecDepth 100000 in
theorem read_any (s : ByteArray) (w : World) (hs : s.size ≤ 1000000) : Calls Tryd.prog 24 #[.string s] w fun e w' => (∃ c : Cm, e = .returned c.v ∧ ∀ c', IsCmd s.data.toList c' → c = c') ∧ Below w.heap.size w w' := by
  obtain ⟨l, hl⟩ : ∃ l, l = s.data.toList := ⟨_, rfl⟩
  have hln : l.length = s.size := by rw [hl]; rfl
  rw [← hl]
  have HLS := Lib.hid hl
  clear hl
  go_enter Tryd.func24, Tryd.ntmps24
  go_wp2_with (refine St.alloc cmOk rfl rfl ?_)
  constructor
  intro w1 hI1 hb1 hz1
  have HI1 := Lib.hid hI1
  have HZ1 := Lib.hid hz1
  clear hI1 hz1
  go_wp2_with (refine St.alloc n5Ok rfl rfl ?_)
  constructor
  intro w2 hN2 hb2 hz2
  have HN2 := Lib.hid hN2
  have HI2 := Lib.hid (HI1.out.up hb2)
  have HZ2 := Lib.hid hz2
  have hw2 := bwstep hb1 hb2
  clear hN2 hz2 hb1 hb2
  go_wp2_with (refine St.alloc t5Ok rfl rfl ?_)
  constructor
  intro w3 hT3 hb3 hz3
  have HT3 := Lib.hid hT3
  have HI3 := Lib.hid (HI2.out.up hb3)
  have HN3 := Lib.hid (HN2.out.up hb3)
  have HZ3 := Lib.hid hz3
  have hw3 := bwstep hw2 hb3
  clear hT3 hz3 hw2 hb3
  obtain ⟨x, w4, hcv, hx, hb4, nx, cx, hxe⟩ := run_bytes (P := Tryd.prog) w3 (src := 9) (dst := 41) (e := 5) s Tryd.underlying9 Tryd.underlying41 Tryd.underlying5 (by simp [maxLen]; omega)
  rw [← HLS.out] at hx
  have hR4 : RdG w4 w3.heap.size x (l.map bv) := ⟨hx, fun k hk => by rw [hxe] at hk; simp [Value.ownBlock] at hk; omega⟩
  have HR1 := Lib.hid (Rd1.start l)
  have HL : Hid (l.length ≤ 1000000) := Lib.hid (by omega)
  have HR4 := Lib.hid hR4
  have HI4 := Lib.hid (HI3.out.up hb4)
  have HN4 := Lib.hid (HN3.out.up hb4)
  have HT4 := Lib.hid (HT3.out.up hb4)
  have HB4 := Lib.hid (bwstep hw3 hb4)
  have HS4 := Lib.hid hb4.size
  have h12 : Hid (w.heap.size < w1.heap.size) := Lib.hid (by have := HZ1.out; omega)
  have h23 : Hid (w1.heap.size < w2.heap.size) := Lib.hid (by have := HZ2.out; omega)
  have h34 : Hid (w2.heap.size < w3.heap.size) := Lib.hid (by have := HZ3.out; omega)
  clear hln hs hx hb4 hxe hw3 hR4 nx cx
  go_wp2_with fail
  go_loopw [5, 10] (fun v i wr => ∃ (k : Nat) (g : Nat → Int) (L : List UInt8), k ≤ 5 ∧ i = .int .i64 (k : Int) ∧ RdG wr w3.heap.size v (L.map bv) ∧ L.length ≤ 1000000 ∧ n5D.In w1.heap.size g wr ∧ t5D.In w2.heap.size (fun _ => ⟨#[]⟩) wr ∧ cmD.In w.heap.size Cm.zero wr ∧ Below w.heap.size w wr ∧ w3.heap.size ≤ wr.heap.size ∧ Rd1 l k g L) (fun _ i _ => 5 - (intOf i).toNat)
  case atStart => exact ⟨0, fun _ => 0, l, by omega, rfl, HR4.out, HL.out, HN4.out, HT4.out, HI4.out, HB4.out, HS4.out, HR1.out⟩
  case round =>
    clear HR1
    obtain ⟨k, g, L, hk, rfl, hr, hL, hN, hT, hI, hB, hS, hq⟩ := hrel
    by_cases hlt : k < 5
    · by_cases h4 : 4 ≤ L.length
      · have HQ := Lib.hid (hq.ok hlt)
        generalize hnn : numOf L = n at HQ
        have hc := fun W hr => cutNum_ok u5 L wr.heap.size W hr h4 (by omega)
        rw [hnn] at hc
        have HR := Lib.hid hr
        have HN := Lib.hid hN
        have HT := Lib.hid hT
        have HI := Lib.hid hI
        have HB := Lib.hid hB
        have HS := Lib.hid hS
        have HL5 : Hid ((L.drop 4).length ≤ 1000000) := Lib.hid (by simp; omega)
        clear hr hN hT hI hB hq hnn h4 hL hS
        obtain ⟨wo, hwo⟩ : ∃ wo, wo = wr := ⟨_, rfl⟩
        subst hwo
        go_wp2_with fail
        refine (hc _ HR.out.rd).mono ?_
        rintro e w5 ⟨r, rfl, ho, hb5⟩
        have HO : Hid (RdG w5 w3.heap.size r ((L.drop 4).map bv)) := Lib.hid (RdG.of_ow ho HS.out)
        have HS5 := Lib.hid (Nat.le_trans HS.out hb5.size)
        have hN5 := HN.out.up hb5
        have HI5 := Lib.hid (HI.out.up hb5)
        have HT5 := Lib.hid (HT.out.up hb5)
        have HB5 := Lib.hid (bwstep HB.out hb5)
        have hcell := hN5.at_ (n5_at g hlt)
        have hfz := hN5.fz k
        have HP := Lib.hid (St.Sp.Set.part hN5 (n5_set g hlt (n : Int)))
        clear ho hb5 hN5 hc
        go_wp2_with fail
        go_roundw
        case rel =>
          have e1 := h12.out
          have e2 := h23.out
          have e3 := h34.out
          exact ⟨k + 1, upd g k (n : Int), (L.drop 4), by omega, by go_num, HO.out.set (fun j hj => HP.out.o j (by omega)) HP.out.z, HL5.out, HP.out.i, HP.out.up HT5.out (by omega), HP.out.up HI5.out (by omega), HP.out.bel HB5.out (by omega), by rw [HP.out.z]; exact HS5.out, HQ.out⟩
        case measure => simp [intOf]; omega
      · have HQ := Lib.hid (hq.no hlt (by omega) (upd g k 0) [])
        have hc := fun W hr => cutNum_no u5 L wr.heap.size W hr (by omega)
        have HR := Lib.hid hr
        have HN := Lib.hid hN
        have HT := Lib.hid hT
        have HI := Lib.hid hI
        have HB := Lib.hid hB
        have HS := Lib.hid hS
        have HL5 : Hid (([] : List UInt8).length ≤ 1000000) := Lib.hid (by simp)
        clear hr hN hT hI hB hq h4 hL hS
        obtain ⟨wo, hwo⟩ : ∃ wo, wo = wr := ⟨_, rfl⟩
        subst hwo
        go_wp2_with fail
        refine (hc _ HR.out.rd).mono ?_
        rintro e w5 ⟨r, rfl, ho, hb5⟩
        have HO : Hid (RdG w5 w3.heap.size r (([] : List UInt8).map bv)) := Lib.hid (RdG.of_ow ho HS.out)
        have HS5 := Lib.hid (Nat.le_trans HS.out hb5.size)
        have hN5 := HN.out.up hb5
        have HI5 := Lib.hid (HI.out.up hb5)
        have HT5 := Lib.hid (HT.out.up hb5)
        have HB5 := Lib.hid (bwstep HB.out hb5)
        have hcell := hN5.at_ (n5_at g hlt)
        have hfz := hN5.fz k
        have HP := Lib.hid (St.Sp.Set.part hN5 (n5_set g hlt (0 : Int)))
        clear ho hb5 hN5 hc
        go_wp2_with fail
        go_roundw
        case rel =>
          have e1 := h12.out
          have e2 := h23.out
          have e3 := h34.out
          exact ⟨k + 1, upd g k (0 : Int), ([] : List UInt8), by omega, by go_num, HO.out.set (fun j hj => HP.out.o j (by omega)) HP.out.z, HL5.out, HP.out.i, HP.out.up HT5.out (by omega), HP.out.up HI5.out (by omega), HP.out.bel HB5.out (by omega), by rw [HP.out.z]; exact HS5.out, HQ.out⟩
        case measure => simp [intOf]; omega
    · have HQ := Lib.hid (hq.end_ (by omega))
      have HR := Lib.hid hr
      have HL1 := Lib.hid hL
      have HN := Lib.hid hN
      have HT := Lib.hid hT
      have HI := Lib.hid hI
      have HB := Lib.hid hB
      have HS := Lib.hid hS
      have hk5 : 5 ≤ k := by omega
      clear hr hN hT hI hB hq hL hS hlt
      obtain ⟨wo, hwo⟩ : ∃ wo, wo = wr := ⟨_, rfl⟩
      subst hwo
      obtain ⟨p6, hp6⟩ : ∃ p6, p6 = u5 := ⟨_, rfl⟩
      subst hp6
      obtain ⟨km, hkm⟩ : ∃ km, km = k := ⟨_, rfl⟩
      subst hkm
      go_wp2_with fail
      go_loopw [5, 22] (fun v i wr => ∃ (k : Nat) (t : Nat → ByteArray) (L : List UInt8), k ≤ 5 ∧ i = .int .i64 (k : Int) ∧ RdG wr w3.heap.size v (L.map bv) ∧ L.length ≤ 1000000 ∧ n5D.In w1.heap.size g wr ∧ t5D.In w2.heap.size t wr ∧ cmD.In w.heap.size Cm.zero wr ∧ Below w.heap.size w wr ∧ w3.heap.size ≤ wr.heap.size ∧ Rd2 l k g t L) (fun _ i _ => 5 - (intOf i).toNat)
      case atStart => exact ⟨0, _, L, by omega, rfl, HR.out, HL1.out, HN.out, HT.out, HI.out, HB.out, HS.out, HQ.out⟩
      case round =>
        clear HQ HR HL1 HN HT HI HB HS
        obtain ⟨k, t, L, hk, rfl, hr, hL, hN, hT, hI, hB, hS, hq⟩ := hrel
        by_cases hlt : k < 5
        · by_cases h4 : textOk L
          · have HQ := Lib.hid (hq.ok hlt)
            have HL5 : Hid ((textRest L).length ≤ 1000000) := Lib.hid (Nat.le_trans (textRest_len L) hL)
            have hc := fun W hr => cutText_ok u5 L wr.heap.size W hr h4 (by omega)
            generalize (⟨(textOf L).toArray⟩ : ByteArray) = n at *
            clear h4 hL
            have HR := Lib.hid hr
            have HN := Lib.hid hN
            have HT := Lib.hid hT
            have HI := Lib.hid hI
            have HB := Lib.hid hB
            have HS := Lib.hid hS
            clear hr hN hT hI hB hq hS
            obtain ⟨wo, hwo⟩ : ∃ wo, wo = wr := ⟨_, rfl⟩
            subst hwo
            go_wp2_with fail
            refine (hc _ HR.out.rd).mono ?_
            rintro e w5 ⟨r, rfl, ho, hb5⟩
            have HO : Hid (RdG w5 w3.heap.size r ((textRest L).map bv)) := Lib.hid (RdG.of_ow ho HS.out)
            have HS5 := Lib.hid (Nat.le_trans HS.out hb5.size)
            have hT5 := HT.out.up hb5
            have HI5 := Lib.hid (HI.out.up hb5)
            have HN5 := Lib.hid (HN.out.up hb5)
            have HB5 := Lib.hid (bwstep HB.out hb5)
            have hcell := hT5.at_ (t5_at t hlt)
            have hfz := hT5.fz k
            have HP := Lib.hid (St.Sp.Set.part hT5 (t5_set t hlt n))
            clear ho hb5 hT5 hc
            go_wp2_with fail
            go_roundw
            case rel =>
              have e1 := h12.out
              have e2 := h23.out
              have e3 := h34.out
              exact ⟨k + 1, upd t k n, (textRest L), by omega, by go_num, HO.out.set (fun j hj => HP.out.o j (by omega)) HP.out.z, HL5.out, HP.out.up HN5.out (by omega), HP.out.i, HP.out.up HI5.out (by omega), HP.out.bel HB5.out (by omega), by rw [HP.out.z]; exact HS5.out, HQ.out⟩
            case measure => simp [intOf]; omega
          · have HQ := Lib.hid (hq.no hlt h4 (upd t k ⟨#[]⟩) [])
            have HL5 : Hid (([] : List UInt8).length ≤ 1000000) := Lib.hid (by simp)
            have hc := fun W hr => cutText_no u5 L wr.heap.size W hr h4
            clear h4 hL
            have HR := Lib.hid hr
            have HN := Lib.hid hN
            have HT := Lib.hid hT
            have HI := Lib.hid hI
            have HB := Lib.hid hB
            have HS := Lib.hid hS
            clear hr hN hT hI hB hq hS
            obtain ⟨wo, hwo⟩ : ∃ wo, wo = wr := ⟨_, rfl⟩
            subst hwo
            go_wp2_with fail
            refine (hc _ HR.out.rd).mono ?_
            rintro e w5 ⟨r, rfl, ho, hb5⟩
            have HO : Hid (RdG w5 w3.heap.size r (([] : List UInt8).map bv)) := Lib.hid (RdG.of_ow ho HS.out)
            have HS5 := Lib.hid (Nat.le_trans HS.out hb5.size)
            have hT5 := HT.out.up hb5
            have HI5 := Lib.hid (HI.out.up hb5)
            have HN5 := Lib.hid (HN.out.up hb5)
            have HB5 := Lib.hid (bwstep HB.out hb5)
            have hcell := hT5.at_ (t5_at t hlt)
            have hfz := hT5.fz k
            have HP := Lib.hid (St.Sp.Set.part hT5 (t5_set t hlt ⟨#[]⟩))
            clear ho hb5 hT5 hc
            go_wp2_with fail
            go_roundw
            case rel =>
              have e1 := h12.out
              have e2 := h23.out
              have e3 := h34.out
              exact ⟨k + 1, upd t k ⟨#[]⟩, ([] : List UInt8), by omega, by go_num, HO.out.set (fun j hj => HP.out.o j (by omega)) HP.out.z, HL5.out, HP.out.up HN5.out (by omega), HP.out.i, HP.out.up HI5.out (by omega), HP.out.bel HB5.out (by omega), by rw [HP.out.z]; exact HS5.out, HQ.out⟩
            case measure => simp [intOf]; omega
        · have HQ := Lib.hid (hq.end_ (by omega))
          obtain ⟨wo2, hwo2⟩ : ∃ wo2, wo2 = wr := ⟨_, rfl⟩
          subst hwo2
          have a0 := hN.at_ (n5_at g (k := 0) (by omega))
          have a1 := hN.at_ (n5_at g (k := 1) (by omega))
          have a2 := hN.at_ (n5_at g (k := 2) (by omega))
          have a3 := hN.at_ (n5_at g (k := 3) (by omega))
          have a4 := hN.at_ (n5_at g (k := 4) (by omega))
          have b0 := hT.at_ (t5_at t (k := 0) (by omega))
          have b1 := hT.at_ (t5_at t (k := 1) (by omega))
          have b2 := hT.at_ (t5_at t (k := 2) (by omega))
          have b3 := hT.at_ (t5_at t (k := 3) (by omega))
          have b4 := hT.at_ (t5_at t (k := 4) (by omega))
          have HB := Lib.hid hB
          have hk5 : 5 ≤ k := by omega
          clear hr hN hT hB hq hL hS hlt
          go_wp2_with (refine St.store cmOk (c := mk5 g t) rfl (.tmp 2) (.tmp 55) rfl rfl rfl hI ?_)
          constructor
          intro w6 hs6
          have HS6 := Lib.hid hs6
          clear hs6 hI a0 a1 a2 a3 a4 b0 b1 b2 b3 b4
          go_wp2_with fail
          refine bodyPost_ret (St.res1 cmOk Tryd.results24 rfl HS6.out.i) rfl ⟨⟨_, rfl, HQ.out⟩, HS6.out.bel HB.out (Nat.le_refl _)⟩
end Go.Proofs.YtkpdadnmbjmfpaaDoor.Ce
