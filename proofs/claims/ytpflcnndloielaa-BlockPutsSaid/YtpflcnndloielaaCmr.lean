/- The contracts of the reference's Text and Compare of layer 8. -/
import Derived.Test.YtpflcnndloielaaCmc
namespace Go.Proofs.Ytpflcnndloielaa.Ce
open Go.RowKit

theorem lt_at {A C : List UInt8} {k : Nat} (h1 : k < A.length) (h2 : k < C.length) (hp : ∀ j, j < k → A[j]? = C[j]?) (h : A[k] < C[k]) : A < C := by
  rw [List.lt_iff_exists]
  refine .inr ⟨k, h1, h2, fun j hj => ?_, h⟩
  have := hp j hj
  rw [List.getElem?_eq_getElem (by omega), List.getElem?_eq_getElem (by omega)] at this
  injection this
theorem lt_pre {A C : List UInt8} (h : A.length < C.length) (hp : ∀ j, j < A.length → A[j]? = C[j]?) : A < C := by
  rw [List.lt_iff_exists]
  refine .inl ⟨?_, h⟩
  apply List.ext_getElem?
  intro j
  rw [List.getElem?_take]
  split
  · exact hp j (by assumption)
  · exact List.getElem?_eq_none (by omega)
theorem eq_pre {A C : List UInt8} (h : A.length = C.length) (hp : ∀ j, j < A.length → A[j]? = C[j]?) : A = C := by
  apply List.ext_getElem?
  intro j
  by_cases hj : j < A.length
  · exact hp j hj
  · rw [List.getElem?_eq_none (by omega), List.getElem?_eq_none (by omega)]
set_option maxHeartbeats 2000000 in
set_option maxRecDepth 100000 in
theorem rtext_any (a b : ByteArray) (w : World) (ha : a.size ≤ 1000000) (_hb : b.size ≤ 1000000) : Calls Try.prog 42 #[.string a, .string b] w fun e w' => e = .returned (.int .i64 (scmp a.data.toList b.data.toList)) ∧ Below w.heap.size w w' := by
  go_enter Try.func42, Try.ntmps42
  go_wp2_with fail
  go_loopw [5] (fun i wr => ∃ k : Nat, k ≤ a.size ∧ k ≤ b.size ∧ i = .int .i64 (k : Int) ∧ (∀ j, j < k → a.data.toList[j]? = b.data.toList[j]?) ∧ Below w.heap.size w wr) (fun i _ => a.size - (intOf i).toNat)
  case atStart => exact ⟨0, Nat.zero_le _, Nat.zero_le _, rfl, fun j hj => by omega, Below.refl _ _⟩
  case round =>
    obtain ⟨k, hk1, hk2, rfl, hp, hbl⟩ := hrel
    have HP := Lib.hid hp
    clear hp
    by_cases h1 : k < a.size
    · by_cases h2 : k < b.size
      · have e1 : a.data.toList[k]'(by simpa using h1) = a[k] := rfl
        have e2 : b.data.toList[k]'(by simpa using h2) = b[k] := rfl
        have HE1 := Lib.hid e1
        have HE2 := Lib.hid e2
        clear e1 e2
        by_cases h3 : a[k].toNat < b[k].toNat
        · go_wp2_with fail
          go_quiet (fail)
          go_wp2_with fail
          go_ret
          exact ⟨ret1 (vi (scmp_lt (lt_at (k := k) (by simpa using h1) (by simpa using h2) HP.out (by rw [HE1.out, HE2.out]; exact UInt8.lt_iff_toNat_lt.2 h3))).symm), below_drewN hbl _⟩
        · by_cases h4 : b[k].toNat < a[k].toNat
          · go_wp2_with fail
            go_quiet (fail)
            go_wp2_with fail
            have hbl := below_drewN hbl nq
            generalize wr.drewN nq = wq at *
            go_quiet (fail)
            go_wp2_with fail
            go_ret
            exact ⟨ret1 (vi (scmp_gt (lt_at (k := k) (by simpa using h2) (by simpa using h1) (fun j hj => (HP.out j hj).symm) (by rw [HE1.out, HE2.out]; exact UInt8.lt_iff_toNat_lt.2 h4))).symm), below_drewN hbl _⟩
          · have h5 : a[k] = b[k] := UInt8.toNat_inj.1 (by omega)
            have H5 := Lib.hid h5
            clear h5
            go_wp2_with fail
            go_quiet (fail)
            go_wp2_with fail
            have hbl := below_drewN hbl nq
            generalize wr.drewN nq = wq at *
            go_quiet (fail)
            go_wp2_with fail
            go_roundw
            case rel =>
              refine ⟨k + 1, by omega, by omega, by go_num, fun j hj => ?_, below_drewN hbl _⟩
              by_cases hjk : j = k
              · subst hjk
                rw [List.getElem?_eq_getElem (by simpa using h1), List.getElem?_eq_getElem (by simpa using h2), HE1.out, HE2.out, H5.out]
              · exact HP.out j (by omega)
            case measure => simp [intOf]; omega
      · have h3 : b.size < a.size := by omega
        have hgt : scmp a.data.toList b.data.toList = 1 := scmp_gt (lt_pre (by simpa using h3) fun j hj => (HP.out j (by simp at hj; omega)).symm)
        have HG := Lib.hid hgt
        clear hgt
        go_wp2_with fail
        go_ret
        exact ⟨ret1 (vi HG.out.symm), hbl⟩
    · by_cases h2 : k < b.size
      · have h3 : a.size < b.size := by omega
        have hgt : scmp a.data.toList b.data.toList = -1 := scmp_lt (lt_pre (by simpa using h3) fun j hj => HP.out j (by simp at hj; omega))
        have HG := Lib.hid hgt
        clear hgt
        go_wp2_with fail
        go_ret
        exact ⟨ret1 (vi HG.out.symm), hbl⟩
      · have h3 : ¬ a.size < b.size := by omega
        have h4 : ¬ b.size < a.size := by omega
        have hgt : scmp a.data.toList b.data.toList = 0 := by
          rw [eq_pre (A := a.data.toList) (C := b.data.toList) (by simp; have : a.size = b.size := by omega
                                                                   exact this) fun j hj => HP.out j (by simp at hj; omega)]
          exact scmp_self _
        have HG := Lib.hid hgt
        clear hgt
        go_wp2_with fail
        go_ret
        exact ⟨ret1 (vi HG.out.symm), hbl⟩
theorem ccmp_row {a b : Cl} (h : a.row ≠ b.row) : ccmp a b = scmp a.row.data.toList b.row.data.toList := by
  unfold ccmp or3
  rcases scmp_cases a.row.data.toList b.row.data.toList with ⟨e, k⟩ | ⟨e, k⟩ | ⟨e, k⟩
  · rw [if_pos (by omega)]
  · exact absurd (ba_ext k) h
  · rw [if_pos (by omega)]
theorem ccmp_col {a b : Cl} (h0 : a.row = b.row) (h : a.col ≠ b.col) : ccmp a b = scmp a.col.data.toList b.col.data.toList := by
  unfold ccmp or3
  rw [h0, scmp_self, if_neg (by omega)]
  rcases scmp_cases a.col.data.toList b.col.data.toList with ⟨e, k⟩ | ⟨e, k⟩ | ⟨e, k⟩
  · rw [if_pos (by omega)]
  · exact absurd (ba_ext k) h
  · rw [if_pos (by omega)]
theorem ccmp_at {a b : Cl} (h0 : a.row = b.row) (h1 : a.col = b.col) : ccmp a b = icmp b.at_ a.at_ := by
  unfold ccmp or3
  rw [h0, h1, scmp_self, scmp_self, if_neg (by omega), if_neg (by omega)]
/-- short texts, as Compare wants them -/
def Sh (c : Cl) : Prop := c.row.size ≤ 1000000 ∧ c.col.size ≤ 1000000
set_option maxHeartbeats 2000000 in
set_option maxRecDepth 100000 in
theorem rcompare_any (a b : Cl) (w : World) (ha : Sh a) (hb : Sh b) : Calls Try.prog 26 #[a.v, b.v] w fun e w' => e = .returned (.int .i64 (ccmp a b)) ∧ Below w.heap.size w w' := by
  by_cases h0 : a.row = b.row
  · by_cases h1 : a.col = b.col
    · have e0 := str_eq h0
      have e1 := str_eq h1
      have HR := Lib.hid (ccmp_at h0 h1)
      clear h0 h1
      rcases icmp_cases b.at_ a.at_ with ⟨e, k⟩ | ⟨e, k⟩ | ⟨e, k⟩
      all_goals
        have HE := Lib.hid (HR.out.trans e)
        clear e
        go_enter Try.func26, Try.ntmps26
        go_wp2_with (refine boxC rfl (.tmp 0) a rfl rfl ?_)
        constructor
        intro w1 hI1 hb1 hz1
        go_wp2_with (refine boxC rfl (.tmp 1) b rfl rfl ?_)
        constructor
        intro w2 hI2 hb2 hz2
        have HB := Lib.hid (hb1.trans (hb2.mono (by omega)))
        obtain ⟨a0, a1, a2⟩ : _ ∧ _ ∧ _ := ⟨(hI1.bel hb2 (by omega)).c0, (hI1.bel hb2 (by omega)).c1, (hI1.bel hb2 (by omega)).c2⟩
        obtain ⟨c0, c1, c2⟩ : _ ∧ _ ∧ _ := ⟨hI2.c0, hI2.c1, hI2.c2⟩
        clear hI1 hI2 hb1 hb2 hz1 hz2
        go_wp2_with fail
        go_ret
        exact ⟨ret1 (vi HE.out.symm), HB.out⟩
    · have e0 := str_eq h0
      have e1 := str_ne h1
      have HR := Lib.hid (ccmp_col h0 h1)
      clear h0 h1
      go_enter Try.func26, Try.ntmps26
      go_wp2_with (refine boxC rfl (.tmp 0) a rfl rfl ?_)
      constructor
      intro w1 hI1 hb1 hz1
      go_wp2_with (refine boxC rfl (.tmp 1) b rfl rfl ?_)
      constructor
      intro w2 hI2 hb2 hz2
      have HB := Lib.hid (hb1.trans (hb2.mono (by omega)))
      obtain ⟨a0, a1, a2⟩ : _ ∧ _ ∧ _ := ⟨(hI1.bel hb2 (by omega)).c0, (hI1.bel hb2 (by omega)).c1, (hI1.bel hb2 (by omega)).c2⟩
      obtain ⟨c0, c1, c2⟩ : _ ∧ _ ∧ _ := ⟨hI2.c0, hI2.c1, hI2.c2⟩
      clear hI1 hI2 hb1 hb2 hz1 hz2
      go_wp2_with fail
      refine (rtext_any _ _ _ ha.2 hb.2).mono ?_
      rintro e w3 ⟨rfl, hb3⟩
      have HB3 := Lib.hid (hb3.mono HB.out.size)
      clear hb3
      go_wp2_with fail
      go_ret
      exact ⟨ret1 (vi HR.out.symm), HB.out.trans HB3.out⟩
  · have e0 := str_ne h0
    have HR := Lib.hid (ccmp_row h0)
    clear h0
    go_enter Try.func26, Try.ntmps26
    go_wp2_with (refine boxC rfl (.tmp 0) a rfl rfl ?_)
    constructor
    intro w1 hI1 hb1 hz1
    go_wp2_with (refine boxC rfl (.tmp 1) b rfl rfl ?_)
    constructor
    intro w2 hI2 hb2 hz2
    have HB := Lib.hid (hb1.trans (hb2.mono (by omega)))
    obtain ⟨a0, a1, a2⟩ : _ ∧ _ ∧ _ := ⟨(hI1.bel hb2 (by omega)).c0, (hI1.bel hb2 (by omega)).c1, (hI1.bel hb2 (by omega)).c2⟩
    obtain ⟨c0, c1, c2⟩ : _ ∧ _ ∧ _ := ⟨hI2.c0, hI2.c1, hI2.c2⟩
    clear hI1 hI2 hb1 hb2 hz1 hz2
    go_wp2_with fail
    refine (rtext_any _ _ _ ha.1 hb.1).mono ?_
    rintro e w3 ⟨rfl, hb3⟩
    have HB3 := Lib.hid (hb3.mono HB.out.size)
    clear hb3
    go_wp2_with fail
    go_ret
    exact ⟨ret1 (vi HR.out.symm), HB.out.trans HB3.out⟩
end Go.Proofs.Ytpflcnndloielaa.Ce
