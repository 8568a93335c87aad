/- MemOrders' walk. -/
import Derived.Test.YtffkbepcdidnjaaMa
import Derived.Test.YtffkbepcdidnjaaMs
import Derived.Test.YtffkbepcdidnjaaCfw
import Derived.Test.YtffkbepcdidnjaaCpo
namespace Go.Proofs.Ytffkbepcdidnjaa.Ce
open Go.RowKit

/-! cells of unlike keys, put in whatever order -/
theorem mem_put1_self (c : Cl) : ∀ L : List Cl, c ∈ put1 c L
  | [] => by simp [put1]
  | d :: r => by
    unfold put1
    split
    · exact List.mem_cons_of_mem _ (mem_put1_self c r)
    · split <;> simp
theorem mem_put1_old {c x : Cl} : ∀ {L : List Cl}, x ∈ L → ¬ keq x c → x ∈ put1 c L
  | d :: r, h, hn => by
    unfold put1
    rcases List.mem_cons.1 h with rfl | h
    · split
      · simp
      · split
        · rename_i h0
          exact absurd (ccmp_eq.1 h0) hn
        · simp
    · split
      · exact List.mem_cons_of_mem _ (mem_put1_old h hn)
      · split
        · exact List.mem_cons_of_mem _ h
        · exact List.mem_cons_of_mem _ (List.mem_cons_of_mem _ h)
def unl (a b : Cl) : Prop := ¬ keq a b
theorem unl_symm {a b : Cl} (h : unl a b) : unl b a := fun k => h (keq_symm k)
theorem mem_fold {x : Cl} : ∀ (M s : List Cl), (∀ c ∈ M, ∀ d ∈ s, unl d c) → M.Pairwise unl → (x ∈ M.foldl (fun s c => put1 c s) s ↔ x ∈ s ∨ x ∈ M)
  | [], s, _, _ => by simp
  | c :: M, s, h, hp => by
    obtain ⟨h1, h2⟩ := List.pairwise_cons.1 hp
    rw [List.foldl_cons, mem_fold M (put1 c s) (fun e he d hd => by
      rcases mem_put1 hd with rfl | hd
      · exact h1 e he
      · exact h e (by simp [he]) d hd) h2]
    constructor
    · rintro (h3 | h3)
      · rcases mem_put1 h3 with rfl | h3
        · exact .inr (by simp)
        · exact .inl h3
      · exact .inr (by simp [h3])
    · rintro (h3 | h3)
      · exact .inl (mem_put1_old h3 (h c (by simp) x h3))
      · rcases List.mem_cons.1 h3 with rfl | h3
        · exact .inl (mem_put1_self _ _)
        · exact .inr h3
theorem srt_ext : ∀ {A C : List Cl}, Srt A → Srt C → (∀ x, x ∈ A ↔ x ∈ C) → A = C
  | [], [], _, _, _ => rfl
  | [], c :: C, _, _, h => by have := (h c).2 (by simp); cases this
  | a :: A, [], _, _, h => by have := (h a).1 (by simp); cases this
  | a :: A, c :: C, hA, hC, h => by
    obtain ⟨a1, a2⟩ := List.pairwise_cons.1 hA
    obtain ⟨c1, c2⟩ := List.pairwise_cons.1 hC
    have e : a = c := by
      rcases List.mem_cons.1 ((h a).1 (by simp)) with e | ha
      · exact e
      · rcases List.mem_cons.1 ((h c).2 (by simp)) with e | hc
        · exact e.symm
        · exact absurd (klt_trans (a1 c hc) (c1 a ha)) (klt_irrefl _)
    subst e
    rw [srt_ext a2 c2 fun x => ?_]
    constructor
    · intro hx
      rcases List.mem_cons.1 ((h x).1 (by simp [hx])) with e | q
      · subst e; exact absurd (a1 x hx) (klt_irrefl _)
      · exact q
    · intro hx
      rcases List.mem_cons.1 ((h x).2 (by simp [hx])) with e | q
      · subst e; exact absurd (c1 x hx) (klt_irrefl _)
      · exact q
theorem fill_turned {s : List Cl} (hs : Srt s) (hok : ∀ c ∈ s, c.ok) (k : Nat) : fill (s.drop k ++ s.take k) = s := by
  have hp : (s.drop k ++ s.take k).Perm s := by
    have := (List.perm_append_comm : (s.drop k ++ s.take k).Perm (s.take k ++ s.drop k))
    rwa [List.take_append_drop] at this
  have hok2 : ∀ c ∈ s.drop k ++ s.take k, c.ok := fun c hc => hok c (hp.mem_iff.1 hc)
  have hun : s.Pairwise unl := List.Pairwise.imp (fun h => klt_neq h) hs
  have hun2 : (s.drop k ++ s.take k).Pairwise unl := (hp.pairwise_iff (fun h => unl_symm h)).2 hun
  rw [fill_sort hok2]
  refine srt_ext (sortC_ok hok2).1 hs fun x => ?_
  unfold sortC
  rw [mem_fold _ [] (fun c _ d hd => by cases hd) hun2, hp.mem_iff]
  simp
theorem fill_same {s : List Cl} (hs : Srt s) (hok : ∀ c ∈ s, c.ok) : fill s = s := by
  have := fill_turned hs hok 0
  simpa using this
theorem put1_pos (c : Cl) (L : List Cl) : 0 < (put1 c L).length := List.length_pos_of_mem (mem_put1_self c L)
theorem sortC_pos {L : List Cl} (h : 0 < L.length) : 0 < (sortC L).length := by
  have e : L.take ((L.length - 1) + 1) = L := List.take_of_length_le (by omega)
  have h1 := sortC_snoc (l := L) (k := L.length - 1) (List.getElem?_eq_getElem (by omega))
  rw [e] at h1
  rw [h1]
  exact put1_pos _ _
end Go.Proofs.Ytffkbepcdidnjaa.Ce
namespace Go.Proofs.Ytffkbepcdidnjaa
open Go.RowKit Ce

theorem u8Nat {s : Int} (h : (Lit.int .u8 s).wf = true) : ∃ t : Nat, s = (t : Int) ∧ t < 256 := by
  have := bounds_u8 h
  exact ⟨s.toNat, by omega, by omega⟩
set_option maxHeartbeats 8000000 in
set_option maxRecDepth 100000 in
theorem memOrders_walk (v : Value) (L : List Cl) (a1 : Int) (w : World) (hv : RdL w [] v L) (w1 : (Lit.int .u8 a1).wf = true) : Calls Try.prog 5 #[v, .int .u8 a1] w fun e w' => e = .returned (.bool true) ∧ Below w.heap.size w w' := by
  obtain ⟨t, rfl, ht⟩ := u8Nat w1
  obtain ⟨A, cp, rfl, hc, hm⟩ := hv.shape
  unfold maxLen at hm
  have HV := Lib.hid hv
  clear hv w1
  go_enter Try.func5, Try.ntmps5
  go_wp2_with fail
  refine (mawake9_ok _).mono ?_
  rintro e w1 ⟨rfl, hb1⟩
  have HB1 := Lib.hid hb1
  clear hb1
  go_wp2_with fail
  refine (efew_any _ L _ (HV.out.bel HB1.out)).mono ?_
  rintro e w2 ⟨⟨q, rfl, hq⟩, hb2⟩
  have HB2 := Lib.hid (bwstep HB1.out hb2)
  clear hb2 HB1
  cases q
  · clear hq
    go_wp2_with fail
    refine (mawake9_ok _).mono ?_
    rintro e w9 ⟨rfl, hb9⟩
    have H9 := Lib.hid (bwstep HB2.out hb9)
    clear hb9
    go_wp2_with fail
    go_ret
    exact ⟨rfl, H9.out⟩
  · obtain ⟨hl80, hok⟩ := hq rfl
    have HOK := Lib.hid hok
    clear hq hok
    by_cases h0 : L.length = 0
    · have hd0 : ((L.length : Int) == 0) = true := beq_iff_eq.2 (by omega)
      go_wp2_with fail
      refine (mawake9_ok _).mono ?_
      rintro e w9 ⟨rfl, hb9⟩
      have H9 := Lib.hid (bwstep HB2.out hb9)
      clear hb9
      go_wp2_with fail
      go_ret
      exact ⟨rfl, H9.out⟩
    · have hd0 : ((L.length : Int) == 0) = false := beq_eq_false_iff_ne.2 (by omega)
      have hd1 : ¬ (L.length : Int) = 0 := by omega
      have HL0 : Hid (0 < L.length) := Lib.hid (by omega)
      clear h0
      go_wp2_with fail
      refine (rsort_any _ L _ (HV.out.bel HB2.out) HOK.out (by omega)).mono ?_
      rintro e w3 ⟨⟨s, rfl, hs⟩, hb3⟩
      obtain ⟨hs1, hs2, hs3⟩ := sortC_ok HOK.out
      have hp := sortC_pos HL0.out
      generalize sortC L = LL at *
      have HB3 := Lib.hid (bwstep HB2.out hb3)
      obtain ⟨g, c, cur, rfl, -, -, hnc, hcm, -, -⟩ := hs.open_ hp
      unfold maxLen at hcm
      have HS3 := Lib.hid (hs.rd (S := []) (fun _ h => by cases h))
      have HSR := Lib.hid hs1
      have HSO := Lib.hid hs2
      have hn80 : LL.length ≤ 80 := by omega
      obtain ⟨k, tk, hk⟩ : ∃ k : Nat, (t : Int) % (LL.length : Int) = (k : Int) ∧ k < LL.length := ⟨t % LL.length, rfl, Nat.mod_lt _ hp⟩
      have hn0 : ¬ (LL.length : Int) = 0 := by omega
      clear hs hs1 hs2 hb3 hd0 hd1 HB2
      go_wp2_with fail
      rw [tk]
      refine (filled_any _ LL _ HS3.out (by omega)).mono ?_
      rintro e w4 ⟨⟨b, rfl, hS⟩, hb4⟩
      rw [fill_same HSR.out HSO.out] at hS
      obtain ⟨vm, hm, -⟩ := hS
      have HM4 := Lib.hid hm
      have HS4 := Lib.hid (HS3.out.bel hb4)
      have HB4 := Lib.hid (bwstep HB3.out hb4)
      clear hm hb4 HS3 HB3 tk hn0
      have hk0 : (0 : Int) ≤ (k : Int) := by omega
      have hk1 : (k : Int) ≤ (LL.length : Int) := by omega
      have hk2 : (LL.length : Int) ≤ (c : Int) := by omega
      have hk3 : (k : Int) ≤ (c : Int) := by omega
      have hk4 : ¬ c = k := by omega
      have hk5 : k ≤ LL.length := by omega
      have hk6 : k ≤ c := by omega
      go_wp2_with fail
      have bE := bwalloc (bwrefl w4) (.cells #[] 29)
      have e1 : OwL (w4.alloc (.cells #[] 29)).drew w4.heap.size (.slice (some ⟨w4.heap.size, 0, none⟩) 0 0) [] := OwL.empty w4 (Nat.le_refl _) _ rfl
      have q1 := (HS4.out.bel bE).from_ (k := k) hk5
      rw [Nat.zero_add] at q1
      have l1 : ([] : List Cl).length + (LL.drop k).length ≤ 1000000000 := by simp; omega
      have l2 : (LL.drop k).length + (LL.take k).length ≤ 1000000000 := by simp; omega
      have s1 := bE.size
      have y1 := bE.drew
      have HR2 : Hid (∀ Z, Below w4.heap.size w4 Z → RdL Z [] (.slice (some ⟨g, 0, none⟩) k c) (LL.take k)) := Lib.hid fun Z hZ => (HS4.out.bel hZ).to_ hk5
      have HLB : Hid ((LL.drop k ++ LL.take k).length < 2199023255552) := Lib.hid (by rw [List.length_append]; omega)
      have hz : w4.heap.size ≤ w4.heap.size := Nat.le_refl _
      clear bE
      go_region_law (first
        | (refine step_appL rfl (.tmp 31) (.tmp 34) rfl (by simp [Act.eval]) e1 (by simp [Act.eval]) q1 l1 s1 ?_; intro v1 w5 p1 g1 h1; rw [List.nil_append] at p1; have z1 := y1.grown g1 y1.size (fun q hq => (e1.lt q hq).1); have r2 := HR2.out _ z1; have t1 := z1.size; clear g1 h1)
        | (refine step_appL rfl (.tmp 35) (.tmp 38) rfl (by simp [Act.eval]) p1 (by simp [Act.eval]) r2 l2 t1 ?_; intro v2 w6 p2 g2 h2; have z2 := z1.grown g2 z1.size (fun q hq => (p1.lt q hq).1); have r3 := p2.rd (S := []) (fun _ h => by cases h); clear g2 h2)
        | (go_simp; go_at_call 19; refine (filled_any v2 (LL.drop k ++ LL.take k) w6 r3 HLB.out).mono ?_; rintro e w7 ⟨⟨b2, rfl, hS2⟩, hb7⟩))
      rw [fill_turned HSR.out HSO.out k] at hS2
      obtain ⟨vm2, hm2, -⟩ := hS2
      have hB47 := bwstep z2 hb7
      have HM7 := Lib.hid (HM4.out.up hB47)
      have HN7 := Lib.hid hm2
      have HS7 := Lib.hid (HS4.out.bel hB47)
      have HB7 := Lib.hid (bwstep HB4.out hB47)
      clear hm2 hB47 hb7 z1 z2 t1 p1 p2 r2 r3 e1 q1 l1 l2 s1 y1 hz HR2 HLB HM4 HS4 HB4 hk0 hk1 hk2 hk3 hk4 hk6
      go_wp2_with fail
      refine (mcells_any b vm LL _ HM7.out (by omega)).mono ?_
      rintro e w8 ⟨⟨x, rfl, hx⟩, hb8⟩
      have HX8 := Lib.hid (hx.rd (S := []) (fun _ h => by cases h))
      have HM8 := Lib.hid (HM7.out.up hb8)
      have HN8 := Lib.hid (HN7.out.up hb8)
      have HS8 := Lib.hid (HS7.out.bel hb8)
      have HB8 := Lib.hid (bwstep HB7.out hb8)
      clear hx hb8 HM7 HN7 HS7 HB7
      go_wp2_with fail
      refine (mcells_any b2 vm2 LL _ HN8.out (by omega)).mono ?_
      rintro e w9 ⟨⟨y, rfl, hy⟩, hb9⟩
      have HX9 := Lib.hid (HX8.out.bel hb9)
      have HY9 := Lib.hid (hy.rd (S := []) (fun _ h => by cases h))
      have HM9 := Lib.hid (HM8.out.up hb9)
      have HN9 := Lib.hid (HN8.out.up hb9)
      have HS9 := Lib.hid (HS8.out.bel hb9)
      have HB9 := Lib.hid (bwstep HB8.out hb9)
      clear hy hb9 HM8 HN8 HS8 HB8 HX8
      go_wp2_with fail
      refine (rsameL_self _ _ LL _ HX9.out HY9.out (by omega)).mono ?_
      rintro e w10 ⟨rfl, hb10⟩
      have HM10 := Lib.hid (HM9.out.up hb10)
      have HN10 := Lib.hid (HN9.out.up hb10)
      have HS10 := Lib.hid (HS9.out.bel hb10)
      have HB10 := Lib.hid (bwstep HB9.out hb10)
      clear hb10 HM9 HN9 HS9 HB9 HX9 HY9
      go_wp2_with fail
      refine (msize_any b vm LL _ HM10.out).mono ?_
      rintro e w11 ⟨rfl, rfl⟩
      go_wp2_with fail
      refine (msize_any b2 vm2 LL _ HN10.out).mono ?_
      rintro e w11 ⟨rfl, rfl⟩
      go_wp2_with fail
      refine (mcells_any b vm LL _ HM10.out (by omega)).mono ?_
      rintro e w11 ⟨⟨y, rfl, hy⟩, hb11⟩
      have HY11 := Lib.hid (hy.rd (S := []) (fun _ h => by cases h))
      have HS11 := Lib.hid (HS10.out.bel hb11)
      have HB11 := Lib.hid (bwstep HB10.out hb11)
      clear hy hb11 HM10 HN10 HS10 HB10
      go_wp2_with fail
      refine (rsameL_self _ _ LL _ HY11.out HS11.out (by omega)).mono ?_
      rintro e w12 ⟨rfl, hb12⟩
      have HB12 := Lib.hid (bwstep HB11.out hb12)
      clear hb12
      go_wp2_with fail
      go_ret
      exact ⟨rfl, HB12.out⟩
end Go.Proofs.Ytffkbepcdidnjaa
