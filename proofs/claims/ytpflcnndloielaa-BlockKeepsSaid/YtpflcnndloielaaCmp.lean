/- The contracts of Right and Compare of package cell, and of the reference's; of cmp's functions. -/
import Derived.Test.YtpflcnndloielaaCl
import Derived.Deep.RegionHeld3
namespace Go.Proofs.Ytpflcnndloielaa.Ce
open Go.RowKit

theorem bless (a b : ByteArray) : Op.bytesLess a.toList b.toList = decide (a.data.toList < b.data.toList) := by
  rw [bytesLess_eq, ByteArray.toList_eq, ByteArray.toList_eq]
set_option maxHeartbeats 400000 in
theorem nanS_any (s : ByteArray) (w : World) : Calls Try.prog 60 #[.string s] w fun e w' => e = .returned (.bool false) ∧ w = w' := by
  go_enter Try.func60, Try.ntmps60
  go_wp2
  go_ret
  exact ⟨by simp, rfl⟩
set_option maxHeartbeats 400000 in
theorem nanI_any (n : Int) (w : World) : Calls Try.prog 61 #[.int .i64 n] w fun e w' => e = .returned (.bool false) ∧ w = w' := by
  go_enter Try.func61, Try.ntmps61
  go_wp2
  go_ret
  exact ⟨by simp, rfl⟩
set_option maxHeartbeats 1000000 in
theorem cmpS_any (a b : ByteArray) (w : World) : Calls Try.prog 52 #[.string a, .string b] w fun e w' => e = .returned (.int .i64 (scmp a.data.toList b.data.toList)) ∧ w = w' := by
  have hl := bless a b
  rcases scmp_cases a.data.toList b.data.toList with ⟨h, k⟩ | ⟨h, k⟩ | ⟨h, k⟩
  · rw [decide_eq_true k] at hl
    rw [h]
    clear h k
    go_enter Try.func52, Try.ntmps52
    go_wp2_with fail
    refine (nanS_any _ _).mono ?_
    rintro e w1 ⟨rfl, rfl⟩
    go_wp2_with fail
    refine (nanS_any _ _).mono ?_
    rintro e w1 ⟨rfl, rfl⟩
    go_wp2_with fail
    go_ret
    exact ⟨rfl, rfl⟩
  · have e1 := str_eq (ba_ext k)
    rw [k, decide_eq_false (List.lt_irrefl _)] at hl
    rw [h]
    clear h k
    go_enter Try.func52, Try.ntmps52
    go_wp2_with fail
    refine (nanS_any _ _).mono ?_
    rintro e w1 ⟨rfl, rfl⟩
    go_wp2_with fail
    refine (nanS_any _ _).mono ?_
    rintro e w1 ⟨rfl, rfl⟩
    go_wp2_with fail
    go_ret
    exact ⟨rfl, rfl⟩
  · have hne : a ≠ b := fun e => by rw [e] at k; exact List.lt_irrefl _ k
    have e1 := str_ne hne
    rw [decide_eq_false (fun q => List.lt_irrefl _ (List.lt_trans q k))] at hl
    rw [h]
    clear h k hne
    go_enter Try.func52, Try.ntmps52
    go_wp2_with fail
    refine (nanS_any _ _).mono ?_
    rintro e w1 ⟨rfl, rfl⟩
    go_wp2_with fail
    refine (nanS_any _ _).mono ?_
    rintro e w1 ⟨rfl, rfl⟩
    go_wp2_with fail
    go_ret
    exact ⟨rfl, rfl⟩
set_option maxHeartbeats 1000000 in
theorem cmpI_any (a b : Int) (w : World) : Calls Try.prog 53 #[.int .i64 a, .int .i64 b] w fun e w' => e = .returned (.int .i64 (icmp a b)) ∧ w = w' := by
  rcases icmp_cases a b with ⟨h, k⟩ | ⟨h, k⟩ | ⟨h, k⟩
  all_goals
    rw [h]
    clear h
    go_enter Try.func53, Try.ntmps53
    go_wp2_with fail
    refine (nanI_any _ _).mono ?_
    rintro e w1 ⟨rfl, rfl⟩
    go_wp2_with fail
    refine (nanI_any _ _).mono ?_
    rintro e w1 ⟨rfl, rfl⟩
    go_wp2_with fail
    go_ret
    exact ⟨rfl, rfl⟩
set_option maxHeartbeats 2000000 in
theorem or_any (v : Value) (a b c : Int) (B : Nat) (w : World) (hv : Rd w B v [.int .i64 a, .int .i64 b, .int .i64 c]) : Calls Try.prog 51 #[v] w fun e w' => e = .returned (.int .i64 (or3 a b c)) ∧ w = w' := by
  obtain ⟨bk, off, cc, rfl, h3, hm, -, hc⟩ := hv.at_ (by simp)
  simp only [List.length_cons, List.length_nil, Nat.zero_add, Nat.reduceAdd] at h3 ⊢
  have c0 := hc 0 _ rfl
  have c1 := hc 1 _ rfl
  have c2 := hc 2 _ rfl
  rw [Nat.add_zero] at c0
  clear hc hv
  have HR0 : Hid (a ≠ 0 → a = or3 a b c) := Lib.hid fun h => by simp [or3, h]
  have HR1 : Hid (a = 0 → b ≠ 0 → b = or3 a b c) := Lib.hid fun h1 h => by simp [or3, h, h1]
  have HR2 : Hid (a = 0 → b = 0 → c ≠ 0 → c = or3 a b c) := Lib.hid fun h1 h2 _ => by simp [or3, h1, h2]
  have HR3 : Hid (a = 0 → b = 0 → c = 0 → 0 = or3 a b c) := Lib.hid fun h1 h2 h3 => by simp [or3, h1, h2, h3]
  unfold maxLen at hm
  generalize or3 a b c = r at *
  go_enter Try.func51, Try.ntmps51
  go_wp2_with fail
  go_loop [5, 8] (fun _ i => ∃ k : Nat, k ≤ 3 ∧ i = .int .i64 (k : Int) ∧ (1 ≤ k → a = 0) ∧ (2 ≤ k → b = 0) ∧ (3 ≤ k → c = 0)) (fun _ i => 3 - (intOf i).toNat)
  case atStart => exact ⟨0, by omega, rfl, by omega, by omega, by omega⟩
  case round =>
    obtain ⟨k, hk, rfl, k1, k2, k3⟩ := hrel
    have h0 : k = 0 ∨ k = 1 ∨ k = 2 ∨ k = 3 := by omega
    rcases h0 with h0 | h0 | h0 | h0
    · obtain rfl : k = 0 := by omega
      by_cases hz : a = 0
      · go_wp2_with fail
        go_round
        case rel => exact ⟨1, by omega, by go_num, fun _ => hz, by omega, by omega⟩
        case measure => simp [intOf]
      · go_wp2_with fail
        go_ret
        exact ⟨ret1 (vi (HR0.out hz)), rfl⟩
    · obtain rfl : k = 1 := by omega
      by_cases hz : b = 0
      · go_wp2_with fail
        go_round
        case rel => exact ⟨2, by omega, by go_num, fun _ => k1 (by omega), fun _ => hz, by omega⟩
        case measure => simp [intOf]
      · go_wp2_with fail
        go_ret
        exact ⟨ret1 (vi (HR1.out (k1 (by omega)) hz)), rfl⟩
    · obtain rfl : k = 2 := by omega
      by_cases hz : c = 0
      · go_wp2_with fail
        go_round
        case rel => exact ⟨3, by omega, by go_num, fun _ => k1 (by omega), fun _ => k2 (by omega), fun _ => hz⟩
        case measure => simp [intOf]
      · go_wp2_with fail
        go_ret
        exact ⟨ret1 (vi (HR2.out (k1 (by omega)) (k2 (by omega)) hz)), rfl⟩
    · obtain rfl : k = 3 := by omega
      go_wp2_with fail
      go_ret
      exact ⟨ret1 (vi (HR3.out (k1 (by omega)) (k2 (by omega)) (k3 (by omega)))), rfl⟩
set_option maxHeartbeats 400000 in
theorem isName_any (s : ByteArray) (w : World) : Calls Try.prog 50 #[.string s] w fun e w' => e = .returned (.bool (decide (1 ≤ s.size ∧ s.size ≤ 64))) ∧ w = w' := by
  by_cases h1 : 1 ≤ s.size
  · by_cases h2 : s.size ≤ 64
    · have h1' : (1 : Int) ≤ s.size := by omega
      have h2' : (s.size : Int) ≤ 64 := by omega
      rw [decide_eq_true ⟨h1, h2⟩]
      go_enter Try.func50, Try.ntmps50
      go_wp2
      go_ret
      exact ⟨ret1 (vb (by simp)), rfl⟩
    · have h1' : (1 : Int) ≤ s.size := by omega
      rw [decide_eq_false (fun h => h2 h.2)]
      go_enter Try.func50, Try.ntmps50
      go_wp2
      go_ret
      exact ⟨ret1 (vb (by simp; omega)), rfl⟩
  · have h1' : ¬ (1 : Int) ≤ s.size := by omega
    rw [decide_eq_false (fun h => h1 h.1)]
    go_enter Try.func50, Try.ntmps50
    go_wp2
    go_ret
    exact ⟨rfl, rfl⟩
theorem emp {s : ByteArray} (h : s.size = 0) : s = ⟨#[]⟩ := ba_ext (List.eq_nil_of_length_eq_zero h)
theorem empB {s : ByteArray} (h : s.size = 0) : s.toList.isEmpty = true := by rw [emp h]; simp
theorem nempB {s : ByteArray} (h : s.size ≠ 0) : s.toList.isEmpty = false := by
  rw [ByteArray.toList_eq]
  cases hq : s.data.toList with
  | nil => exact absurd (by have := congrArg List.length hq; simpa using this) h
  | cons a l => rfl
theorem nemp {s : ByteArray} (h : s.size ≠ 0) : s ≠ ⟨#[]⟩ := fun e => h (by rw [e]; rfl)
set_option maxHeartbeats 2000000 in
set_option maxRecDepth 100000 in
theorem right_any (c : Cl) (w : World) : Calls Try.prog 37 #[c.v] w fun e w' => e = .returned (.bool (decide c.ok)) ∧ Below w.heap.size w w' := by
  have n1 := fun w => isName_any c.row w
  have n2 := fun w => isName_any c.col w
  by_cases h1 : 1 ≤ c.row.size ∧ c.row.size ≤ 64
  · rw [decide_eq_true h1] at n1
    by_cases h2 : 1 ≤ c.col.size ∧ c.col.size ≤ 64
    · rw [decide_eq_true h2] at n2
      by_cases h3 : c.at_ < 0
      · rw [decide_eq_false (fun h : c.ok => by have := h.a1; omega)]
        clear h1 h2
        go_enter Try.func37, Try.ntmps37
        go_wp2_with (refine boxC rfl (.tmp 0) c rfl rfl ?_)
        constructor
        intro w1 hI hb hz
        obtain ⟨c0, c1, c2, c3, c4⟩ : _ ∧ _ ∧ _ ∧ _ ∧ _ := ⟨hI.c0, hI.c1, hI.c2, hI.c3, hI.c4⟩
        clear hI
        go_wp2_with fail
        refine (n1 _).mono ?_
        rintro e w2 ⟨rfl, rfl⟩
        go_wp2_with fail
        refine (n2 _).mono ?_
        rintro e w2 ⟨rfl, rfl⟩
        go_wp2_with fail
        go_ret
        first | exact ⟨rfl, hb⟩ | exact ⟨ret1 (vb HE.out), hb⟩
      by_cases h4 : 4294967295 < c.at_
      · rw [decide_eq_false (fun h : c.ok => by have := h.a2; omega)]
        clear h1 h2
        go_enter Try.func37, Try.ntmps37
        go_wp2_with (refine boxC rfl (.tmp 0) c rfl rfl ?_)
        constructor
        intro w1 hI hb hz
        obtain ⟨c0, c1, c2, c3, c4⟩ : _ ∧ _ ∧ _ ∧ _ ∧ _ := ⟨hI.c0, hI.c1, hI.c2, hI.c3, hI.c4⟩
        clear hI
        go_wp2_with fail
        refine (n1 _).mono ?_
        rintro e w2 ⟨rfl, rfl⟩
        go_wp2_with fail
        refine (n2 _).mono ?_
        rintro e w2 ⟨rfl, rfl⟩
        go_wp2_with fail
        go_ret
        first | exact ⟨rfl, hb⟩ | exact ⟨ret1 (vb HE.out), hb⟩
      cases hg : c.gone
      · by_cases hv : c.val.size ≤ 256
        · have hv' : (c.val.size : Int) ≤ 256 := by omega
          have HE := Lib.hid (decide_eq_true hv')
          rw [decide_eq_true (⟨h1.1, h1.2, h2.1, h2.2, by omega, by omega, hv, by simp [hg]⟩ : c.ok)]
          clear h1 h2
          go_enter Try.func37, Try.ntmps37
          go_wp2_with (refine boxC rfl (.tmp 0) c rfl rfl ?_)
          constructor
          intro w1 hI hb hz
          obtain ⟨c0, c1, c2, c3, c4⟩ : _ ∧ _ ∧ _ ∧ _ ∧ _ := ⟨hI.c0, hI.c1, hI.c2, hI.c3, hI.c4⟩
          clear hI
          rw [hg] at c4
          go_wp2_with fail
          refine (n1 _).mono ?_
          rintro e w2 ⟨rfl, rfl⟩
          go_wp2_with fail
          refine (n2 _).mono ?_
          rintro e w2 ⟨rfl, rfl⟩
          go_wp2_with fail
          go_ret
          first | exact ⟨rfl, hb⟩ | exact ⟨ret1 (vb HE.out), hb⟩
        · have hv' : ¬ (c.val.size : Int) ≤ 256 := by omega
          have HE := Lib.hid (decide_eq_false hv')
          rw [decide_eq_false (fun h : c.ok => hv h.v)]
          clear h1 h2
          go_enter Try.func37, Try.ntmps37
          go_wp2_with (refine boxC rfl (.tmp 0) c rfl rfl ?_)
          constructor
          intro w1 hI hb hz
          obtain ⟨c0, c1, c2, c3, c4⟩ : _ ∧ _ ∧ _ ∧ _ ∧ _ := ⟨hI.c0, hI.c1, hI.c2, hI.c3, hI.c4⟩
          clear hI
          rw [hg] at c4
          go_wp2_with fail
          refine (n1 _).mono ?_
          rintro e w2 ⟨rfl, rfl⟩
          go_wp2_with fail
          refine (n2 _).mono ?_
          rintro e w2 ⟨rfl, rfl⟩
          go_wp2_with fail
          go_ret
          first | exact ⟨rfl, hb⟩ | exact ⟨ret1 (vb HE.out), hb⟩
      · by_cases hv : c.val.size = 0
        · have HE := Lib.hid (empB hv)
          rw [decide_eq_true (⟨h1.1, h1.2, h2.1, h2.2, by omega, by omega, by omega, fun _ => hv⟩ : c.ok)]
          clear h1 h2 hv
          go_enter Try.func37, Try.ntmps37
          go_wp2_with (refine boxC rfl (.tmp 0) c rfl rfl ?_)
          constructor
          intro w1 hI hb hz
          obtain ⟨c0, c1, c2, c3, c4⟩ : _ ∧ _ ∧ _ ∧ _ ∧ _ := ⟨hI.c0, hI.c1, hI.c2, hI.c3, hI.c4⟩
          clear hI
          rw [hg] at c4
          go_wp2_with fail
          refine (n1 _).mono ?_
          rintro e w2 ⟨rfl, rfl⟩
          go_wp2_with fail
          refine (n2 _).mono ?_
          rintro e w2 ⟨rfl, rfl⟩
          go_wp2_with fail
          go_ret
          first | exact ⟨rfl, hb⟩ | exact ⟨ret1 (vb HE.out), hb⟩
        · have HE := Lib.hid (nempB hv)
          rw [decide_eq_false (fun h : c.ok => hv (h.g hg))]
          clear h1 h2 hv
          go_enter Try.func37, Try.ntmps37
          go_wp2_with (refine boxC rfl (.tmp 0) c rfl rfl ?_)
          constructor
          intro w1 hI hb hz
          obtain ⟨c0, c1, c2, c3, c4⟩ : _ ∧ _ ∧ _ ∧ _ ∧ _ := ⟨hI.c0, hI.c1, hI.c2, hI.c3, hI.c4⟩
          clear hI
          rw [hg] at c4
          go_wp2_with fail
          refine (n1 _).mono ?_
          rintro e w2 ⟨rfl, rfl⟩
          go_wp2_with fail
          refine (n2 _).mono ?_
          rintro e w2 ⟨rfl, rfl⟩
          go_wp2_with fail
          go_ret
          first | exact ⟨rfl, hb⟩ | exact ⟨ret1 (vb HE.out), hb⟩
    · rw [decide_eq_false h2] at n2
      rw [decide_eq_false (fun h : c.ok => h2 ⟨h.c1, h.c2⟩)]
      clear h1 h2
      go_enter Try.func37, Try.ntmps37
      go_wp2_with (refine boxC rfl (.tmp 0) c rfl rfl ?_)
      constructor
      intro w1 hI hb hz
      obtain ⟨c0, c1, c2, c3, c4⟩ : _ ∧ _ ∧ _ ∧ _ ∧ _ := ⟨hI.c0, hI.c1, hI.c2, hI.c3, hI.c4⟩
      clear hI
      go_wp2_with fail
      refine (n1 _).mono ?_
      rintro e w2 ⟨rfl, rfl⟩
      go_wp2_with fail
      refine (n2 _).mono ?_
      rintro e w2 ⟨rfl, rfl⟩
      go_wp2_with fail
      go_ret
      first | exact ⟨rfl, hb⟩ | exact ⟨ret1 (vb HE.out), hb⟩
  · rw [decide_eq_false h1] at n1
    rw [decide_eq_false (fun h : c.ok => h1 ⟨h.r1, h.r2⟩)]
    clear h1
    go_enter Try.func37, Try.ntmps37
    go_wp2_with (refine boxC rfl (.tmp 0) c rfl rfl ?_)
    constructor
    intro w1 hI hb hz
    obtain ⟨c0, c1, c2, c3, c4⟩ : _ ∧ _ ∧ _ ∧ _ ∧ _ := ⟨hI.c0, hI.c1, hI.c2, hI.c3, hI.c4⟩
    clear hI
    go_wp2_with fail
    refine (n1 _).mono ?_
    rintro e w2 ⟨rfl, rfl⟩
    go_wp2_with fail
    go_ret
    first | exact ⟨rfl, hb⟩ | exact ⟨ret1 (vb HE.out), hb⟩
set_option maxHeartbeats 2000000 in
set_option maxRecDepth 100000 in
theorem rright_any (c : Cl) (w : World) : Calls Try.prog 21 #[c.v] w fun e w' => e = .returned (.bool (decide c.ok)) ∧ Below w.heap.size w w' := by
  by_cases h0 : (c.row.size : Int) < 1
  · rw [decide_eq_false (fun h : c.ok => by have := h.r1; omega)]
    go_enter Try.func21, Try.ntmps21
    go_wp2_with (refine boxC rfl (.tmp 0) c rfl rfl ?_)
    constructor
    intro w1 hI hb hz
    obtain ⟨c0, c1, c2, c3, c4⟩ : _ ∧ _ ∧ _ ∧ _ ∧ _ := ⟨hI.c0, hI.c1, hI.c2, hI.c3, hI.c4⟩
    clear hI
    go_wp2_with fail
    go_ret
    first | exact ⟨rfl, hb⟩ | exact ⟨ret1 (vb HE.out), hb⟩
  by_cases h1 : 64 < (c.row.size : Int)
  · rw [decide_eq_false (fun h : c.ok => by have := h.r2; omega)]
    go_enter Try.func21, Try.ntmps21
    go_wp2_with (refine boxC rfl (.tmp 0) c rfl rfl ?_)
    constructor
    intro w1 hI hb hz
    obtain ⟨c0, c1, c2, c3, c4⟩ : _ ∧ _ ∧ _ ∧ _ ∧ _ := ⟨hI.c0, hI.c1, hI.c2, hI.c3, hI.c4⟩
    clear hI
    go_wp2_with fail
    go_ret
    first | exact ⟨rfl, hb⟩ | exact ⟨ret1 (vb HE.out), hb⟩
  by_cases h2 : (c.col.size : Int) < 1
  · rw [decide_eq_false (fun h : c.ok => by have := h.c1; omega)]
    go_enter Try.func21, Try.ntmps21
    go_wp2_with (refine boxC rfl (.tmp 0) c rfl rfl ?_)
    constructor
    intro w1 hI hb hz
    obtain ⟨c0, c1, c2, c3, c4⟩ : _ ∧ _ ∧ _ ∧ _ ∧ _ := ⟨hI.c0, hI.c1, hI.c2, hI.c3, hI.c4⟩
    clear hI
    go_wp2_with fail
    go_ret
    first | exact ⟨rfl, hb⟩ | exact ⟨ret1 (vb HE.out), hb⟩
  by_cases h3 : 64 < (c.col.size : Int)
  · rw [decide_eq_false (fun h : c.ok => by have := h.c2; omega)]
    go_enter Try.func21, Try.ntmps21
    go_wp2_with (refine boxC rfl (.tmp 0) c rfl rfl ?_)
    constructor
    intro w1 hI hb hz
    obtain ⟨c0, c1, c2, c3, c4⟩ : _ ∧ _ ∧ _ ∧ _ ∧ _ := ⟨hI.c0, hI.c1, hI.c2, hI.c3, hI.c4⟩
    clear hI
    go_wp2_with fail
    go_ret
    first | exact ⟨rfl, hb⟩ | exact ⟨ret1 (vb HE.out), hb⟩
  by_cases h4 : c.at_ < 0
  · rw [decide_eq_false (fun h : c.ok => by have := h.a1; omega)]
    go_enter Try.func21, Try.ntmps21
    go_wp2_with (refine boxC rfl (.tmp 0) c rfl rfl ?_)
    constructor
    intro w1 hI hb hz
    obtain ⟨c0, c1, c2, c3, c4⟩ : _ ∧ _ ∧ _ ∧ _ ∧ _ := ⟨hI.c0, hI.c1, hI.c2, hI.c3, hI.c4⟩
    clear hI
    go_wp2_with fail
    go_ret
    first | exact ⟨rfl, hb⟩ | exact ⟨ret1 (vb HE.out), hb⟩
  by_cases h5 : 4294967295 < c.at_
  · rw [decide_eq_false (fun h : c.ok => by have := h.a2; omega)]
    go_enter Try.func21, Try.ntmps21
    go_wp2_with (refine boxC rfl (.tmp 0) c rfl rfl ?_)
    constructor
    intro w1 hI hb hz
    obtain ⟨c0, c1, c2, c3, c4⟩ : _ ∧ _ ∧ _ ∧ _ ∧ _ := ⟨hI.c0, hI.c1, hI.c2, hI.c3, hI.c4⟩
    clear hI
    go_wp2_with fail
    go_ret
    first | exact ⟨rfl, hb⟩ | exact ⟨ret1 (vb HE.out), hb⟩
  by_cases hv : ¬ (c.val.size : Int) ≤ 256
  · rw [decide_eq_false (fun h : c.ok => by have := h.v; omega)]
    go_enter Try.func21, Try.ntmps21
    go_wp2_with (refine boxC rfl (.tmp 0) c rfl rfl ?_)
    constructor
    intro w1 hI hb hz
    obtain ⟨c0, c1, c2, c3, c4⟩ : _ ∧ _ ∧ _ ∧ _ ∧ _ := ⟨hI.c0, hI.c1, hI.c2, hI.c3, hI.c4⟩
    clear hI
    go_wp2_with fail
    go_ret
    first | exact ⟨rfl, hb⟩ | exact ⟨ret1 (vb HE.out), hb⟩
  have hv' : (c.val.size : Int) ≤ 256 := by omega
  have HE := Lib.hid (decide_eq_true hv')
  cases hg : c.gone
  · rw [decide_eq_true (⟨by omega, by omega, by omega, by omega, by omega, by omega, by omega, by simp [hg]⟩ : c.ok)]
    go_enter Try.func21, Try.ntmps21
    go_wp2_with (refine boxC rfl (.tmp 0) c rfl rfl ?_)
    constructor
    intro w1 hI hb hz
    obtain ⟨c0, c1, c2, c3, c4⟩ : _ ∧ _ ∧ _ ∧ _ ∧ _ := ⟨hI.c0, hI.c1, hI.c2, hI.c3, hI.c4⟩
    clear hI
    rw [hg] at c4
    go_wp2_with fail
    go_ret
    first | exact ⟨rfl, hb⟩ | exact ⟨ret1 (vb HE.out), hb⟩
  · by_cases h9 : c.val.size = 0
    · have HE := Lib.hid (empB h9)
      rw [decide_eq_true (⟨by omega, by omega, by omega, by omega, by omega, by omega, by omega, fun _ => h9⟩ : c.ok)]
      clear h9
      go_enter Try.func21, Try.ntmps21
      go_wp2_with (refine boxC rfl (.tmp 0) c rfl rfl ?_)
      constructor
      intro w1 hI hb hz
      obtain ⟨c0, c1, c2, c3, c4⟩ : _ ∧ _ ∧ _ ∧ _ ∧ _ := ⟨hI.c0, hI.c1, hI.c2, hI.c3, hI.c4⟩
      clear hI
      rw [hg] at c4
      go_wp2_with fail
      go_ret
      first | exact ⟨rfl, hb⟩ | exact ⟨ret1 (vb HE.out), hb⟩
    · have HE := Lib.hid (nempB h9)
      rw [decide_eq_false (fun h : c.ok => h9 (h.g hg))]
      clear h9
      go_enter Try.func21, Try.ntmps21
      go_wp2_with (refine boxC rfl (.tmp 0) c rfl rfl ?_)
      constructor
      intro w1 hI hb hz
      obtain ⟨c0, c1, c2, c3, c4⟩ : _ ∧ _ ∧ _ ∧ _ ∧ _ := ⟨hI.c0, hI.c1, hI.c2, hI.c3, hI.c4⟩
      clear hI
      rw [hg] at c4
      go_wp2_with fail
      go_ret
      first | exact ⟨rfl, hb⟩ | exact ⟨ret1 (vb HE.out), hb⟩
/-- short texts -/
def small (c : Cl) : Prop := c.row.size ≤ 300 ∧ c.col.size ≤ 300 ∧ c.val.size ≤ 600
instance (c : Cl) : Decidable (small c) := by unfold small; infer_instance
end Go.Proofs.Ytpflcnndloielaa.Ce
