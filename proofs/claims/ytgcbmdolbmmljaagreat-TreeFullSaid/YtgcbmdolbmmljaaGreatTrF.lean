/- The walk of TreeFull, by the contracts of a tree. -/
import Derived.Test.YtgcbmdolbmmljaaGreatTrA
namespace Go.Proofs.YtgcbmdolbmmljaaGreat
open Go.RowKit Ce

variable {At : World → List Nat → List Nat → Nat → Sf → Tr → Prop}
def Ce.fcl (n : Int) (v : ByteArray) : Cl := ⟨⟨#[114]⟩, ⟨#[99]⟩, n, v, false⟩
def Ce.fvv : ByteArray := ⟨#[118]⟩
/-- the cells behind so many puts -/
def Ce.fullL : Nat → List Cl
  | 0 => []
  | n + 1 => fcl (3 * (n : Int)) fvv :: fullL n
theorem Ce.fullL_len : ∀ n, (fullL n).length = n
  | 0 => rfl
  | n + 1 => by rw [fullL, List.length_cons, fullL_len n]
theorem Ce.fcl_lt {n m : Int} {v u : ByteArray} (h : m < n) : klt (fcl n v) (fcl m u) := .inr ⟨rfl, .inr ⟨rfl, h⟩⟩
theorem Ce.fullL_mem {x : Cl} : ∀ {n : Nat}, x ∈ fullL n → ∃ j : Nat, j < n ∧ x = fcl (3 * (j : Int)) fvv
  | 0, h => by cases h
  | n + 1, h => by
    rcases List.mem_cons.1 h with rfl | h
    · exact ⟨n, by omega, rfl⟩
    · obtain ⟨j, hj, e⟩ := fullL_mem h
      exact ⟨j, by omega, e⟩
theorem Ce.mem_fullL : ∀ {n j : Nat}, j < n → fcl (3 * (j : Int)) fvv ∈ fullL n
  | 0, j, h => by omega
  | n + 1, j, h => by
    by_cases e : j = n
    · subst e
      simp [fullL]
    · exact List.mem_cons_of_mem _ (mem_fullL (by omega))
theorem Ce.put1_front {c : Cl} {L : List Cl} (h : ∀ d ∈ L, klt c d) : put1 c L = c :: L := by
  cases L with
  | nil => rfl
  | cons d r =>
    have := ccmp_gt.2 (h d (by simp))
    rw [put1, if_neg (by omega), if_neg (by omega)]
theorem Ce.fullL_put (n : Nat) : put1 (fcl (3 * (n : Int)) fvv) (fullL n) = fullL (n + 1) := by
  rw [put1_front fun d hd => ?_]
  · rfl
  · obtain ⟨j, hj, rfl⟩ := fullL_mem hd
    exact fcl_lt (by omega)
theorem Ce.fullL_srt : ∀ n, Srt (fullL n)
  | 0 => List.Pairwise.nil
  | n + 1 => List.pairwise_cons.2 ⟨fun d hd => by
    obtain ⟨j, hj, rfl⟩ := fullL_mem hd
    exact fcl_lt (by omega), fullL_srt n⟩
theorem Ce.put1_new_len {c : Cl} : ∀ {L : List Cl}, (∀ d ∈ L, ¬ keq d c) → (put1 c L).length = L.length + 1
  | [], _ => rfl
  | d :: r, h => by
    have hd : ccmp d c ≠ 0 := fun e => h d (by simp) (ccmp_eq.1 e)
    rw [put1]
    split
    · rw [List.length_cons, put1_new_len fun e he => h e (by simp [he])]
      rfl
    · first | rfl | (rw [if_neg hd]; rfl)
theorem Ce.put1_old_len {c : Cl} : ∀ {L : List Cl}, Srt L → (∃ d ∈ L, keq d c) → (put1 c L).length = L.length
  | [], _, ⟨d, hd, _⟩ => by cases hd
  | d :: r, hs, ⟨x, hx, hk⟩ => by
    obtain ⟨h1, h2⟩ := List.pairwise_cons.1 hs
    rw [put1]
    split
    · next e =>
      rcases List.mem_cons.1 hx with rfl | hx
      · exact absurd hk (klt_neq (ccmp_lt.1 e))
      · rw [List.length_cons, put1_old_len h2 ⟨x, hx, hk⟩]
        rfl
    · split
      · rfl
      · next e1 e0 =>
        have hcd : klt c d := klt_total (fun q => e1 (ccmp_lt.2 q)) (fun q => e0 (ccmp_eq.2 q))
        rcases List.mem_cons.1 hx with rfl | hx
        · exact absurd (keq_symm hk) (klt_neq hcd)
        · exact absurd (keq_symm hk) (klt_neq (klt_trans hcd (h1 x hx)))
theorem Ce.fcl_ok {n : Int} {v : ByteArray} (h0 : 0 ≤ n) (h1 : n ≤ 10000) (hv : v.size ≤ 1) : (fcl n v).ok := ⟨by show 1 ≤ 1; omega, by show 1 ≤ 64; omega, by show 1 ≤ 1; omega, by show 1 ≤ 64; omega, h0, by show n ≤ _; omega, by show v.size ≤ 256; omega, fun h => by cases h⟩
theorem Ce.fcl_len (n : Int) {v : ByteArray} (hv : v.size ≤ 1) : ((cellB (fcl n v)).length : Int) ≤ 20 := by
  rw [cellB_len]
  show ((17 + 1 + 1 + v.size : Nat) : Int) ≤ 20
  omega
theorem Ce.fullL_szs : ∀ n : Nat, szs (fullL n) ≤ 20 * (n : Int)
  | 0 => by simp [fullL, szs]
  | n + 1 => by
    have h1 := fullL_szs n
    have h2 := fcl_len (3 * (n : Int)) (v := fvv) (by decide)
    rw [fullL, szs]
    omega
theorem Ce.fit1 {n : Nat} (hn : n ≤ 401) : FitsK (fullL n) := ⟨by rw [fullL_len]; omega, by have := fullL_szs n; omega, .inr (by have := fullL_szs n; omega)⟩
theorem Ce.fit2 {n : Nat} (hn : n ≤ 401) {c : Int} {v : ByteArray} (hv : v.size ≤ 1) : FitsK (fcl c v :: fullL n) := ⟨by rw [List.length_cons, fullL_len]; omega, by
  have := fullL_szs n
  have h2 := fcl_len c hv
  rw [szs]
  omega, .inr (by
  have := fullL_szs n
  have h2 := fcl_len c hv
  rw [szs]
  omega)⟩
theorem Ce.fit3 {n : Nat} (hn : n ≤ 401) {c d : Int} {v u : ByteArray} (hv : v.size ≤ 1) (hu : u.size ≤ 1) : FitsK (fcl d u :: fcl c v :: fullL n) := ⟨by rw [List.length_cons, List.length_cons, fullL_len]; omega, by
  have := fullL_szs n
  have h2 := fcl_len c hv
  have h3 := fcl_len d hu
  rw [szs, szs]
  omega, .inr (by
  have := fullL_szs n
  have h2 := fcl_len c hv
  have h3 := fcl_len d hu
  rw [szs, szs]
  omega)⟩
/-- a tree with so many cells, one more -/
theorem Ce.full_step {s : Sf} {t : Tr} {n : Nat} (hg : GoodT s t (fullL n)) (hc : t.cells = fullL n) (hn : n < 400) : FitsK (fcl (3 * (n : Int)) fvv :: fullL n) ∧ t.code (fcl (3 * (n : Int)) fvv) = 0 ∧ GoodT s (t.after s (fcl (3 * (n : Int)) fvv)) (fullL (n + 1)) ∧ (t.after s (fcl (3 * (n : Int)) fvv)).cells = fullL (n + 1) := by
  have hok : (fcl (3 * (n : Int)) fvv).ok := fcl_ok (by omega) (by omega) (by decide)
  have hp : put1 (fcl (3 * (n : Int)) fvv) t.cells = fullL (n + 1) := by rw [hc, fullL_put]
  obtain ⟨h1, h2⟩ := after_put hg.ok hok (by rw [hp, fullL_len]; omega) s
  exact ⟨fit2 (by omega) (by decide), h2, ⟨hg.r, after_ok hg.ok s _, after_in hg.i s _, fit1 (by omega)⟩, h1.trans hp⟩
/-- it is full: one with a new key isn't taken, one with an old one is -/
theorem Ce.full_end {s : Sf} {t : Tr} {k : Nat} (hg : GoodT s t (fullL 400)) (hc : t.cells = fullL 400) (hk : k < 400) (u : ByteArray) (hu : u.size ≤ 1) :
    t.code (fcl (3 * (k : Int) + 1) ⟨#[]⟩) = 4 ∧ t.after s (fcl (3 * (k : Int) + 1) ⟨#[]⟩) = t ∧ t.code (fcl (3 * (k : Int)) u) = 0 ∧ (t.after s (fcl (3 * (k : Int)) u)).cells.length = 400 ∧ GoodT s (t.after s (fcl (3 * (k : Int)) u)) (fcl (3 * (k : Int)) u :: fullL 400) := by
  have hok1 : (fcl (3 * (k : Int) + 1) ⟨#[]⟩).ok := fcl_ok (by omega) (by omega) (by decide)
  have hok2 : (fcl (3 * (k : Int)) u).ok := fcl_ok (by omega) (by omega) hu
  have hl1 : ¬ (put1 (fcl (3 * (k : Int) + 1) ⟨#[]⟩) t.cells).length ≤ 400 := by
    rw [hc, put1_new_len fun d hd hq => ?_, fullL_len]
    · omega
    · obtain ⟨j, hj, rfl⟩ := fullL_mem hd
      have : 3 * (j : Int) = 3 * (k : Int) + 1 := hq.2.2
      omega
  have hl2 : (put1 (fcl (3 * (k : Int)) u) t.cells).length = 400 := by
    rw [hc, put1_old_len (c := fcl (3 * (k : Int)) u) (fullL_srt 400) ⟨fcl (3 * (k : Int)) fvv, mem_fullL hk, rfl, rfl, rfl⟩, fullL_len]
  obtain ⟨h1, h2⟩ := after_full hok1 hl1 s
  obtain ⟨h3, h4⟩ := after_put hg.ok hok2 (by omega) s
  exact ⟨h2, h1, h4, by rw [h3, hl2], hg.r, after_ok hg.ok s _, after_in hg.i s _, fit2 (by omega) hu⟩
set_option maxHeartbeats 8000000 in
set_option maxRecDepth 100000 in
theorem treeFull_gen (I : TreeI At) (a1 a2 : Int) (w : World) (w1 : (Lit.int .u16 a1).wf = true) (w2 : (Lit.int .u8 a2).wf = true) : Calls Tryz.prog 6 #[.int .u16 a1, .int .u8 a2] w fun e w' => e = .returned (.bool true) ∧ Below w.heap.size w w' := by
  obtain ⟨m, rfl, hm⟩ : ∃ m : Nat, a1 = (m : Int) ∧ m < 65536 := by
    have := bounds_u16 w1
    exact ⟨a1.toNat, by omega, by omega⟩
  obtain ⟨r, rfl, hr⟩ : ∃ r : Nat, a2 = (r : Int) ∧ r < 256 := by
    have := bounds_u8 w2
    exact ⟨a2.toNat, by omega, by omega⟩
  clear w1 w2
  go_enter Tryz.func6, Tryz.ntmps6
  go_wp2_with fail
  refine (awake14_ok I _).mono ?_
  rintro e w2 ⟨rfl, hb1⟩
  have HK2 := Lib.hid hb1
  clear hb1
  by_cases hm0 : m = 0
  · subst hm0
    go_wp2_with fail
    refine (awake14_ok I _).mono ?_
    rintro e w9 ⟨rfl, hb9⟩
    have H9 := Lib.hid (bwstep HK2.out hb9)
    clear hb9
    go_wp2_with fail
    go_ret
    exact ⟨rfl, H9.out⟩
  · have g0 : ((m : Int) == 0) = false := by rw [beq_eq_false_iff_ne]; omega
    have g01 : ¬ (m : Int) = 0 := by omega
    by_cases hm1 : 4096 < m
    · have g1 : (4096 : Int) < (m : Int) := by omega
      go_wp2_with fail
      refine (awake14_ok I _).mono ?_
      rintro e w9 ⟨rfl, hb9⟩
      have H9 := Lib.hid (bwstep HK2.out hb9)
      clear hb9
      go_wp2_with fail
      go_ret
      exact ⟨rfl, H9.out⟩
    · have g1 : ¬ (4096 : Int) < (m : Int) := by omega
      have g2 : decide ((4096 : Int) < (m : Int)) = false := decide_eq_false g1
      by_cases hm2 : m = 4096
      · subst hm2
        have hno : ¬ (⟨4096, 4097, 8⟩ : Sf).right := by decide
        go_wp2_with fail
        refine (I.new_no ⟨4096, 4097, 8⟩ _ hno).mono ?_
        rintro e w3 ⟨rfl, hb3⟩
        have HK3 := Lib.hid (bwstep HK2.out hb3)
        clear hb3
        go_wp2_with fail
        go_ret
        exact ⟨rfl, HK3.out⟩
      · have g3 : ((m : Int) == 4096) = false := by rw [beq_eq_false_iff_ne]; omega
        have g31 : ¬ (m : Int) = 4096 := by omega
        have hw1 : IntKind.i64.wrap (1 + (m : Int)) = 1 + (m : Int) := by rw [IntKind.wrap_i64]; omega
        have hsr : (⟨4096, 1 + (m : Int), 8⟩ : Sf).right := ⟨by show (1 : Int) ≤ 4096; omega, by show (4096 : Int) ≤ 4096; omega, by show 1 ≤ 1 + (m : Int); omega, by show 1 + (m : Int) ≤ 4096; omega, by show (1 : Int) ≤ 8; omega, by show (8 : Int) ≤ 8; omega⟩
        go_wp2_with fail
        refine (OneT.new I ⟨4096, 1 + (m : Int), 8⟩ _ hsr).mono ?_
        rintro e w4 ⟨b, rfl, hT⟩
        have HG0 : GoodT ⟨4096, 1 + (m : Int), 8⟩ Tr.empty (Ce.fullL 0) := ⟨hsr, Tr.empty_ok, Tr.empty_in, fit1 (by omega)⟩
        generalize (⟨4096, 1 + (m : Int), 8⟩ : Sf) = s at *
        have HT0 : Hid (∃ t, OneT At w2 w4 b s t ∧ GoodT s t (Ce.fullL 0) ∧ t.cells = Ce.fullL 0) := Lib.hid ⟨_, hT, HG0, rfl⟩
        clear hT HG0 hsr
        go_wp2_with fail
        go_loopw [7] (fun i wr => ∃ k : Nat, i = .int .i64 (k : Int) ∧ k ≤ 400 ∧ Hid (∃ t, OneT At w2 wr b s t ∧ GoodT s t (Ce.fullL k) ∧ t.cells = Ce.fullL k)) (fun i _ => 400 - (intOf i).toNat)
        case atStart => exact ⟨0, rfl, by omega, HT0⟩
        case round =>
          clear HT0
          obtain ⟨k, rfl, hk, HT⟩ := hrel
          by_cases hkn : k < 400
          · have hk1 : (k : Int) < 400 := by omega
            have hw3 : IntKind.i64.wrap (3 * (k : Int)) = 3 * (k : Int) := by rw [IntKind.wrap_i64]; omega
            obtain ⟨t, hone, hgood, hcel⟩ := HT.out
            obtain ⟨p1, p2, p3, p4⟩ := full_step hgood hcel hkn
            have hput := hone.put I (Ce.fcl (3 * (k : Int)) Ce.fvv) hgood (fun _ => p1)
            rw [p2] at hput
            have HPUT := Lib.hid hput
            have HN : Hid (∀ w', OneT At w2 w' b s (t.after s (Ce.fcl (3 * (k : Int)) Ce.fvv)) → ∃ t, OneT At w2 w' b s t ∧ GoodT s t (Ce.fullL (k + 1)) ∧ t.cells = Ce.fullL (k + 1)) := Lib.hid fun w' h => ⟨_, h, p3, p4⟩
            clear hone hgood hcel p1 p2 p3 p4 hput HT
            obtain ⟨wo, hwo⟩ : ∃ wo, wo = wr := ⟨_, rfl⟩
            subst hwo
            go_wp2_with fail
            refine HPUT.out.mono ?_
            rintro e w5 ⟨rfl, h5, -⟩
            have HN5 := Lib.hid (HN.out _ h5)
            clear h5 HN HPUT
            go_wp2_with fail
            go_roundw
            case rel => exact ⟨k + 1, by go_num, by omega, HN5⟩
            case measure => simp [intOf]; omega
          · obtain rfl : k = 400 := by omega
            obtain ⟨t, hone, hgood, hcel⟩ := HT.out
            obtain ⟨k, hk2⟩ : ∃ k : Nat, r % 400 = k := ⟨_, rfl⟩
            have hkl : k < 400 := hk2 ▸ Nat.mod_lt _ (by omega)
            have hkm : (r : Int) % 400 = (k : Int) := by rw [← hk2, Int.natCast_emod]; rfl
            have hkt : Int.tmod (r : Int) 400 = (k : Int) := by rw [Int.tmod_eq_emod_of_nonneg (by omega)]; exact hkm
            have hw3 : IntKind.i64.wrap (3 * (k : Int)) = 3 * (k : Int) := by rw [IntKind.wrap_i64]; omega
            have hw4 : IntKind.i64.wrap (3 * (k : Int) + 1) = 3 * (k : Int) + 1 := by rw [IntKind.wrap_i64]; omega
            obtain ⟨q1, q2, q3, q4, q5⟩ := full_end hgood hcel hkl ⟨#[119]⟩ (by decide)
            have hp1 := hone.put I (Ce.fcl (3 * (k : Int) + 1) ⟨#[]⟩) hgood (fun _ => fit2 (by omega) (by decide))
            rw [q1, q2] at hp1
            have HP1 := Lib.hid hp1
            have HP2 : Hid (∀ w', OneT At w2 w' b s t → Calls Tryz.prog 14 #[.pointer (some ⟨b, 0, none⟩), (Ce.fcl (3 * (k : Int)) ⟨#[119]⟩).v] w' fun e w'' => e = .returned (.int .i64 0) ∧ OneT At w2 w'' b s (t.after s (Ce.fcl (3 * (k : Int)) ⟨#[119]⟩)) ∧ Below w2.heap.size w2 w'') := Lib.hid fun w' h => by
              have := h.put I (Ce.fcl (3 * (k : Int)) ⟨#[119]⟩) hgood (fun _ => fit2 (by omega) (by decide))
              rwa [q3] at this
            have HCE : Hid (∀ w', OneT At w2 w' b s (t.after s (Ce.fcl (3 * (k : Int)) ⟨#[119]⟩)) → Calls Tryz.prog 21 #[.pointer (some ⟨b, 0, none⟩)] w' (LenE 400 w')) := Lib.hid fun w' h => (h.cells I q5).mono fun e w'' h2 => LenE.of q4 h2
            clear hk2 hone hgood hcel q1 q2 q3 q4 q5 hp1 HT
            go_wp2_with fail
            refine HP1.out.mono ?_
            rintro e w5 ⟨rfl, h5, -⟩
            have H5 := Lib.hid h5
            clear h5 HP1
            go_wp2_with fail
            refine (HP2.out _ H5.out).mono ?_
            rintro e w6 ⟨rfl, h6, -⟩
            have H6 := Lib.hid h6
            clear h6 HP2 H5
            go_wp2_with fail
            refine (HCE.out _ H6.out).mono ?_
            rintro e w7 ⟨⟨A7, c7, rfl⟩, hb7⟩
            have HB7 := Lib.hid (bwstep HK2.out (bwstep (show Below w2.heap.size w2 w6 by obtain ⟨-, -, -, -, hbo⟩ := H6.out; exact hbo) hb7))
            clear hb7 HCE
            go_wp2_with fail
            go_ret
            exact ⟨rfl, HB7.out⟩
end Go.Proofs.YtgcbmdolbmmljaaGreat
