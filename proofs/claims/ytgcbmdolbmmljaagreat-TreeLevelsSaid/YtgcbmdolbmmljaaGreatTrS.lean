/- The walk of TreeShelves, by the contracts of a tree. -/
import Derived.Test.YtgcbmdolbmmljaaGreatTrK
import Derived.Deep.RegionHeld3
namespace Go.Proofs.YtgcbmdolbmmljaaGreat
open Go.RowKit Ce

variable {At : World → List Nat → List Nat → Nat → Sf → Tr → Prop}
/-- two trees beside one another -/
def Ce.TwoT (At : World → List Nat → List Nat → Nat → Sf → Tr → Prop) (w0 w : World) (a : Nat) (s : Sf) (ta : Tr) (b : Nat) (u : Sf) (tb : Tr) : Prop :=
  ∃ S Ma Mb, At w S Ma a s ta ∧ At w S Mb b u tb ∧ (∀ k ∈ Ma, k ∉ Mb) ∧ (∀ k ∈ Ma, w0.heap.size ≤ k) ∧ (∀ k ∈ Mb, w0.heap.size ≤ k) ∧ Below w0.heap.size w0 w
theorem Ce.TwoT.swap {w0 w : World} {a b : Nat} {s u : Sf} {ta tb : Tr} (h : TwoT At w0 w a s ta b u tb) : TwoT At w0 w b u tb a s ta := by
  obtain ⟨S, Ma, Mb, h1, h2, h3, h4, h5, h6⟩ := h
  exact ⟨S, Mb, Ma, h2, h1, fun k hk hq => h3 k hq hk, h5, h4, h6⟩
theorem Ce.TwoT.up (I : TreeI At) {w0 w w' : World} {a b : Nat} {s u : Sf} {ta tb : Tr} (h : TwoT At w0 w a s ta b u tb) (hb : Below w.heap.size w w') : TwoT At w0 w' a s ta b u tb := by
  obtain ⟨S, Ma, Mb, h1, h2, h3, h4, h5, h6⟩ := h
  exact ⟨S, Ma, Mb, I.bel h1 hb, I.bel h2 hb, h3, h4, h5, bwstep h6 hb⟩
theorem Ce.TwoT.bel {w0 w : World} {a b : Nat} {s u : Sf} {ta tb : Tr} (h : TwoT At w0 w a s ta b u tb) : Below w0.heap.size w0 w := by
  obtain ⟨S, Ma, Mb, -, -, -, -, -, h6⟩ := h
  exact h6
theorem Ce.TwoT.new (I : TreeI At) (s u : Sf) (w : World) (a : Nat) (Ma : List Nat) (w0 : World) (hu : u.right) (ha : At w (Ma ++ []) Ma a s Tr.empty) (hM : ∀ k ∈ Ma, w0.heap.size ≤ k) (h0 : Below w0.heap.size w0 w) :
    Calls Tryz.prog 10 #[u.v] w fun e w' => ∃ b, e = .returned (.tuple #[.pointer (some ⟨b, 0, none⟩), .int .i64 0]) ∧ TwoT At w0 w' a s Tr.empty b u Tr.empty := by
  refine (I.new_ok u w Ma hu (fun k hk => (I.sub ha k hk).2)).mono ?_
  rintro e w' ⟨⟨b, Mb, rfl, h1, h2⟩, hb⟩
  refine ⟨b, rfl, Mb ++ Ma, Ma, Mb, I.keep ha (Kp.of_below hb []) (by simp) (fun k hk => ?_) (fun k hk => by simp [hk]) (I.slt h1), h1, fun k hk hq => ?_, hM, fun k hk => Nat.le_trans h0.size (h2 k hk), bwstep h0 hb⟩
  · rcases List.mem_append.1 hk with q | q
    · exact .inr (h2 k q)
    · exact .inl (by simp [q])
  · have := (I.sub ha k hk).2
    have := h2 k hq
    omega
/-- what turns the one keeps the other -/
theorem Ce.TwoT.turn (I : TreeI At) {w0 w w' : World} {a b : Nat} {s u : Sf} {ta tb ta' : Tr} {S Ma Mb Ma' : List Nat} (h1 : At w S Ma a s ta) (h2 : At w S Mb b u tb) (h3 : ∀ k ∈ Ma, k ∉ Mb) (h4 : ∀ k ∈ Ma, w0.heap.size ≤ k) (h5 : ∀ k ∈ Mb, w0.heap.size ≤ k) (h6 : Below w0.heap.size w0 w)
    (k1 : At w' (Ma' ++ S) Ma' a s ta') (k2 : Kp Ma w w') (k3 : ∀ k ∈ Ma', k ∈ Ma ∨ w.heap.size ≤ k) : TwoT At w0 w' a s ta' b u tb := by
  refine ⟨Ma' ++ S, Ma', Mb, k1, I.keep h2 k2 (fun k hk => .inl ⟨(I.sub h1 k hk).1, h3 k hk⟩) (fun k hk => ?_) (fun k hk => by simp [(I.sub h2 k hk).1]) (I.slt k1), fun k hk hq => ?_, fun k hk => (k3 k hk).elim (h4 k) fun q => Nat.le_trans h6.size q, h5, h6.trans (k2.below h4 h6.size)⟩
  · rcases List.mem_append.1 hk with q | q
    · rcases k3 k q with q | q
      · exact .inl (I.sub h1 k q).1
      · exact .inr q
    · exact .inl q
  · rcases k3 k hk with q | q
    · exact h3 k q hq
    · have := (I.sub h2 k hq).2
      omega
theorem Ce.TwoT.put (I : TreeI At) {w0 w : World} {a b : Nat} {s u : Sf} {ta tb : Tr} {K : List Cl} (c : Cl) (h : TwoT At w0 w a s ta b u tb) (hg : GoodT s ta K) (hf : c.ok → FitsK (c :: K)) :
    Calls Tryz.prog 14 #[.pointer (some ⟨a, 0, none⟩), c.v] w fun e w' => e = .returned (.int .i64 (ta.code c)) ∧ TwoT At w0 w' a s (ta.after s c) b u tb := by
  obtain ⟨S, Ma, Mb, h1, h2, h3, h4, h5, h6⟩ := h
  refine (I.put c h1 hg hf).mono ?_
  rintro e w' ⟨M', rfl, k1, k2, k3⟩
  exact ⟨rfl, TwoT.turn I h1 h2 h3 h4 h5 h6 k1 k2 k3⟩
theorem Ce.TwoT.flush (I : TreeI At) {w0 w : World} {a b : Nat} {s u : Sf} {ta tb : Tr} {K : List Cl} (h : TwoT At w0 w a s ta b u tb) (hg : GoodT s ta K) :
    Calls Tryz.prog 15 #[.pointer (some ⟨a, 0, none⟩)] w fun e w' => (∃ x, e = .returned x) ∧ TwoT At w0 w' a s (ta.flush s.fan.toNat) b u tb := by
  obtain ⟨S, Ma, Mb, h1, h2, h3, h4, h5, h6⟩ := h
  refine (I.flush h1 hg).mono ?_
  rintro e w' ⟨M', hx, k1, k2, k3⟩
  exact ⟨hx, TwoT.turn I h1 h2 h3 h4 h5 h6 k1 k2 k3⟩
theorem Ce.TwoT.get (I : TreeI At) {w0 w : World} {a b : Nat} {s u : Sf} {ta tb : Tr} {K : List Cl} (row col : ByteArray) (at_ : Int) (h : TwoT At w0 w a s ta b u tb) (hg : GoodT s ta K) (h1 : row.size ≤ 1000000) (h2 : col.size ≤ 1000000) :
    Calls Tryz.prog 16 #[.pointer (some ⟨a, 0, none⟩), .string row, .string col, .int .i64 at_] w fun e w' => e = .returned (.tuple #[.string (getV ta row col at_), .bool (getB ta row col at_)]) ∧ Below w.heap.size w w' := by
  obtain ⟨S, Ma, Mb, h3, -⟩ := h
  exact I.get row col at_ h3 hg h1 h2
theorem Ce.TwoT.scan (I : TreeI At) {w0 w : World} {a b : Nat} {s u : Sf} {ta tb : Tr} {K : List Cl} (fr to : ByteArray) (at_ : Int) (h : TwoT At w0 w a s ta b u tb) (hg : GoodT s ta K) (h1 : fr.size ≤ 1000000) (h2 : to.size ≤ 1000000) :
    Calls Tryz.prog 19 #[.pointer (some ⟨a, 0, none⟩), .string fr, .string to, .int .i64 at_] w fun e w' => (∃ x, e = .returned x ∧ RdL w' [] x (someP fr to at_ ta.cells)) ∧ Below w.heap.size w w' := by
  obtain ⟨S, Ma, Mb, h3, -⟩ := h
  refine (I.scan fr to at_ h3 hg h1 h2).mono ?_
  rintro e w' ⟨⟨x, rfl, hx⟩, hb⟩
  exact ⟨⟨x, rfl, hx.rd (fun _ h => by cases h)⟩, hb⟩
theorem Ce.TwoT.cells (I : TreeI At) {w0 w : World} {a b : Nat} {s u : Sf} {ta tb : Tr} {K : List Cl} (h : TwoT At w0 w a s ta b u tb) (hg : GoodT s ta K) :
    Calls Tryz.prog 21 #[.pointer (some ⟨a, 0, none⟩)] w fun e w' => (∃ x, e = .returned x ∧ RdL w' [] x ta.cells) ∧ Below w.heap.size w w' := by
  obtain ⟨S, Ma, Mb, h3, -⟩ := h
  refine (I.cells h3 hg).mono ?_
  rintro e w' ⟨⟨x, rfl, hx⟩, hb⟩
  exact ⟨⟨x, rfl, hx.rd (fun _ h => by cases h)⟩, hb⟩
/-- the first k cells are put into a tree -/
structure Ce.PutK (s : Sf) (t : Tr) (L : List Cl) (k : Nat) : Prop where
  g : GoodT s t (L.take k).reverse
  c : t.cells = sortC (L.take k)
  b : szs (L.take k).reverse ≤ 401 * ((L.take k).reverse.length : Int)
theorem Ce.PutK.start (s : Sf) (hs : s.right) (L : List Cl) : PutK s Tr.empty L 0 := ⟨good_start hs, rfl, by simp [szs]⟩
theorem Ce.PutK.flush {s : Sf} {t : Tr} {L : List Cl} {k : Nat} (h : PutK s t L k) : PutK s (t.flush s.fan.toNat) L k := ⟨⟨h.g.r, flush_ok h.g.ok _, inK_flush h.g.i _, h.g.f⟩, by rw [flush_cells h.g.ok]; exact h.c, h.b⟩
theorem Ce.PutK.next {s : Sf} {t : Tr} {L : List Cl} {k : Nat} {c : Cl} (h : PutK s t L k) (hok : ∀ c ∈ L, c.ok) (hl : L.length ≤ 79) (hk : L[k]? = some c) : FitsK (c :: (L.take k).reverse) ∧ t.code c = 0 ∧ PutK s (t.after s c) L (k + 1) := by
  obtain ⟨p1, p2, p3, p4, p5⟩ := put_all hok hl s h.g.r k (Nat.le_of_lt (List.getElem?_eq_some_iff.1 hk).1) t h.g h.c h.b c hk
  exact ⟨p1, p4, p2, p3, p5⟩
def Ce.ShS (g : Nat) (c : Cl) (w0 w' : World) : Prop := w'.cell? ⟨g, 0, none⟩ = some (.string c.row) ∧ w'.cell? ⟨g, 2, none⟩ = some (.int .i64 c.at_) ∧ Below w0.heap.size w0 w'
set_option maxHeartbeats 8000000 in
set_option maxRecDepth 100000 in
theorem treeShelves_gen (I : TreeI At) (s u : Sf) (v : Value) (L : List Cl) (c : Cl) (w : World) (hv : RdL w [] v L) : Calls Tryz.prog 5 #[s.v, u.v, v, c.v] w fun e w' => e = .returned (.bool true) ∧ Below w.heap.size w w' := by
  have HV := Lib.hid hv
  obtain ⟨Av, cv, rfl, hcv, hmv⟩ := hv.shape
  clear hv
  go_enter Tryz.func5, Tryz.ntmps5
  go_wp2_with (refine St.box sfD rfl (.tmp 0) s rfl rfl ?_)
  constructor
  intro wA hIA hbA hzA
  go_wp2_with (refine St.box sfD rfl (.tmp 1) u rfl rfl ?_)
  constructor
  intro wB hIB hbB hzB
  go_wp2_with (refine boxC rfl (.tmp 3) c rfl rfl ?_)
  constructor
  intro wC hIC hbC hzC
  have HIA := Lib.hid ((hIA.up (hbB.mono (by omega))).up (hbC.mono (by omega)))
  have HIB := Lib.hid (hIB.up (hbC.mono (by omega)))
  have HIC := Lib.hid hIC
  have HKC : Hid (Below w.heap.size w wC) := Lib.hid (hbA.trans ((hbB.mono (by omega)).trans (hbC.mono (by omega))))
  clear hIA hbA hzA hIB hbB hzB hIC hbC hzC
  go_wp2_with fail
  refine (awake14_ok I _).mono ?_
  rintro e w1 ⟨rfl, hb1⟩
  have HK1 := Lib.hid (bwstep HKC.out hb1)
  have HA1 := Lib.hid (HIA.out.up hb1)
  have HB1 := Lib.hid (HIB.out.up hb1)
  have HC1 := Lib.hid (HIC.out.up hb1)
  clear hb1 HIA HIB HIC HKC
  go_wp2_with fail
  refine (efew_any _ L _ (HV.out.bel HK1.out)).mono ?_
  rintro e w2 ⟨⟨q, rfl, hq⟩, hb2⟩
  have HK2 := Lib.hid (bwstep HK1.out hb2)
  have HA2 := Lib.hid (HA1.out.up hb2)
  have HB2 := Lib.hid (HB1.out.up hb2)
  have HC2 := Lib.hid (HC1.out.up hb2)
  clear hb2 HA1 HB1 HC1 HK1
  cases q
  · clear hq
    go_wp2_with fail
    refine (awake14_ok I _).mono ?_
    rintro e w9 ⟨rfl, hb9⟩
    have H9 := Lib.hid (bwstep HK2.out hb9)
    clear hb9
    go_wp2_with fail
    go_ret
    exact ⟨rfl, H9.out⟩
  · obtain ⟨hl80, hok⟩ := hq rfl
    have HOK := Lib.hid hok
    clear hq hok
    by_cases h40 : L.length ≤ 40
    · have h41 : ¬ (40 : Int) < (L.length : Int) := by omega
      have h42 : decide ((40 : Int) < (L.length : Int)) = false := decide_eq_false h41
      go_wp2_with (refine St.load sfOk rfl (.tmp 4) rfl rfl HA2.out ?_)
      refine (right14_any s _).mono ?_
      rintro e w3 ⟨rfl, hb3⟩
      have HK3 := Lib.hid (bwstep HK2.out hb3)
      have HA3 := Lib.hid (HA2.out.up hb3)
      have HB3 := Lib.hid (HB2.out.up hb3)
      have HC3 := Lib.hid (HC2.out.up hb3)
      clear hb3 HA2 HB2 HC2 HK2
      by_cases hsr : s.right
      · rw [decide_eq_true hsr]
        go_wp2_with (refine St.load sfOk rfl (.tmp 5) rfl rfl HB3.out ?_)
        refine (right14_any u _).mono ?_
        rintro e w4 ⟨rfl, hb4⟩
        have HK4 := Lib.hid (bwstep HK3.out hb4)
        have HA4 := Lib.hid (HA3.out.up hb4)
        have HB4 := Lib.hid (HB3.out.up hb4)
        have HC4 := Lib.hid (HC3.out.up hb4)
        clear hb4 HA3 HB3 HC3 HK3
        obtain ⟨c0, c1, c2, c3, c4⟩ := HC4.out.five
        by_cases hur : u.right
        · rw [decide_eq_true hur]
          by_cases hcr : c.row.size ≤ 100
          · have hcr1 : ¬ (100 : Int) < (c.row.size : Int) := by omega
            have hcr2 : decide ((100 : Int) < (c.row.size : Int)) = false := decide_eq_false hcr1
            by_cases hcc : c.col.size ≤ 100
            · have hcc1 : ¬ (100 : Int) < (c.col.size : Int) := by omega
              have hcc2 : decide ((100 : Int) < (c.col.size : Int)) = false := decide_eq_false hcc1
              go_wp2_with (refine St.load sfOk rfl (.tmp 4) rfl rfl HA4.out ?_)
              refine (I.new_ok s _ [] hsr (by simp)).mono ?_
              rintro e w5 ⟨⟨a, Ma, rfl, hat, hma⟩, hb5⟩
              have HB5 := Lib.hid (HB4.out.up hb5)
              have HC5 := Lib.hid (HC4.out.up hb5)
              have HCB : Hid (∀ z, Below w4.heap.size w4 z → InC (w.heap.size + 1 + 1) c z) := Lib.hid fun z hz => HC4.out.up hz
              have HT5 := Lib.hid (TwoT.new I s u w5 a Ma w4 hur hat hma hb5)
              clear hat hma hb5 HA4 HB4 HC4 c0 c1 c2 c3 c4
              go_wp2_with (refine St.load sfOk rfl (.tmp 5) rfl rfl HB5.out ?_)
              refine HT5.out.mono ?_
              rintro e w6 ⟨b, rfl, hT⟩
              have HT6 : Hid (∃ ta tb, TwoT At w4 w6 a s ta b u tb ∧ PutK s ta L 0 ∧ PutK u tb L 0) := Lib.hid ⟨_, _, hT, PutK.start s hsr L, PutK.start u hur L⟩
              clear hT HT5 HB5 HC5
              go_wp2_with fail
              go_loopw [13] (fun i wr => ∃ k : Nat, i = .int .i64 (k : Int) ∧ k ≤ L.length ∧ Hid (∃ ta tb, TwoT At w4 wr a s ta b u tb ∧ PutK s ta L k ∧ PutK u tb L k)) (fun i _ => L.length - (intOf i).toNat)
              case atStart => exact ⟨0, rfl, by omega, HT6⟩
              case round =>
                clear HT6
                obtain ⟨k, rfl, hk, HT⟩ := hrel
                by_cases hkn : k < L.length
                · have hk1 : (k : Int) < (L.length : Int) := by omega
                  have hk0 : (0 : Int) ≤ (k : Int) := by omega
                  have hfk : L[k]? = some (L[k]'hkn) := List.getElem?_eq_getElem _
                  generalize L[k]'hkn = f at hfk
                  obtain ⟨ta, tb, htwo, hpa, hpb⟩ := HT.out
                  obtain ⟨p1, p2, p3⟩ := hpa.next HOK.out (by omega) hfk
                  obtain ⟨q1, q2, q3⟩ := hpb.next HOK.out (by omega) hfk
                  obtain ⟨bv, ov, rfl, -, -⟩ := HV.out.open_ (by omega)
                  have H5 : Hid (∀ z, Below w4.heap.size w4 z → FiveAt bv (ov + k * 5) f z) := Lib.hid fun z hz => ((HV.out.bel (bwstep HK4.out hz)).at_ hfk).1
                  have hput := htwo.put I f hpa.g (fun _ => p1)
                  rw [p2] at hput
                  have HPA := Lib.hid hput
                  have HPB : Hid (∀ w', TwoT At w4 w' a s (ta.after s f) b u tb → Calls Tryz.prog 14 #[.pointer (some ⟨b, 0, none⟩), f.v] w' fun e w'' => e = .returned (.int .i64 0) ∧ TwoT At w4 w'' b u (tb.after u f) a s (ta.after s f)) := Lib.hid fun w' h => by
                    have := h.swap.put I f hpb.g (fun _ => q1)
                    rwa [q2] at this
                  have HFB : Hid (∀ w', TwoT At w4 w' b u (tb.after u f) a s (ta.after s f) → Calls Tryz.prog 15 #[.pointer (some ⟨b, 0, none⟩)] w' fun e w'' => (∃ x, e = .returned x) ∧ TwoT At w4 w'' b u ((tb.after u f).flush u.fan.toNat) a s (ta.after s f)) := Lib.hid fun w' h => h.flush I q3.g
                  have HN1 : Hid (∀ w', TwoT At w4 w' b u (tb.after u f) a s (ta.after s f) → ∃ ta tb, TwoT At w4 w' a s ta b u tb ∧ PutK s ta L (k + 1) ∧ PutK u tb L (k + 1)) := Lib.hid fun w' h => ⟨_, _, h.swap, p3, q3⟩
                  have HN2 : Hid (∀ w', TwoT At w4 w' b u ((tb.after u f).flush u.fan.toNat) a s (ta.after s f) → ∃ ta tb, TwoT At w4 w' a s ta b u tb ∧ PutK s ta L (k + 1) ∧ PutK u tb L (k + 1)) := Lib.hid fun w' h => ⟨_, _, h.swap, p3, q3.flush⟩
                  have HB0 := Lib.hid htwo.bel
                  clear hfk htwo hpa hpb p1 p2 p3 q1 q2 q3 hput HT
                  obtain ⟨wo, hwo⟩ : ∃ wo, wo = wr := ⟨_, rfl⟩
                  subst hwo
                  have H5a := Lib.hid (H5.out _ HB0.out)
                  have hm7 : (k : Int) % 7 = ((k % 7 : Nat) : Int) := by rw [Int.natCast_emod]; rfl
                  have hm8 : Int.tmod (k : Int) 7 = ((k % 7 : Nat) : Int) := by rw [Int.tmod_eq_emod_of_nonneg (by omega)]; exact hm7
                  generalize k % 7 = m at *
                  go_wp2_with (first | (refine loadV (c := f) rfl (.tmp 86) rfl ⟨bv, ov + k * 5, none⟩ rfl H5a.out.all ?_))
                  refine HPA.out.mono ?_
                  rintro e w7 ⟨rfl, h7⟩
                  have HB7 := Lib.hid h7.bel
                  have H7 := Lib.hid h7
                  have H5b := Lib.hid (H5.out _ HB7.out)
                  clear h7 HPA H5a
                  go_wp2_with (first | (refine loadV (c := f) rfl (.tmp 92) rfl ⟨bv, ov + k * 5, none⟩ rfl H5b.out.all ?_))
                  refine (HPB.out _ H7.out).mono ?_
                  rintro e w8 ⟨rfl, h8⟩
                  have H8 := Lib.hid h8
                  clear h8 HPB H7 H5b
                  by_cases hm3 : m = 3
                  · have hm9 : ((m : Int) == 3) = true := by rw [hm3]; rfl
                    subst hm3
                    go_wp2_with fail
                    refine (HFB.out _ H8.out).mono ?_
                    rintro e w9 ⟨⟨x9, rfl⟩, h9⟩
                    have HNN := Lib.hid (HN2.out _ h9)
                    clear h9 HN1 HN2 HFB H8
                    go_wp2_with fail
                    go_roundw
                    case rel => exact ⟨k + 1, by go_num, by omega, HNN⟩
                    case measure => simp [intOf]; omega
                  · have hm9 : ((m : Int) == 3) = false := by rw [beq_eq_false_iff_ne]; omega
                    have hm10 : ¬ (m : Int) = 3 := by omega
                    have HNN := Lib.hid (HN1.out _ H8.out)
                    clear HN1 HN2 HFB H8
                    go_wp2_with fail
                    go_roundw
                    case rel => exact ⟨k + 1, by go_num, by omega, HNN⟩
                    case measure => simp [intOf]; omega
                · obtain rfl : k = L.length := by omega
                  obtain ⟨ta, tb, htwo, hpa, hpb⟩ := HT.out
                  have hce : tb.cells = ta.cells := by rw [hpa.c, hpb.c]
                  have hgv : getV tb c.row c.col c.at_ = getV ta c.row c.col c.at_ := by unfold getV; rw [hce]
                  have hgb : getB tb c.row c.col c.at_ = getB ta c.row c.col c.at_ := by unfold getB; rw [hce]
                  have hcl : ta.cells.length ≤ 80 := by
                    rw [hpa.c, List.take_length]
                    exact Nat.le_trans (sortC_ok HOK.out).2.2 hl80
                  have HTW := Lib.hid htwo
                  have HPA := Lib.hid hpa
                  have HPB := Lib.hid hpb
                  have HCE := Lib.hid hce
                  have HIC := Lib.hid (HCB.out _ htwo.bel)
                  obtain ⟨c0, c1, c2, c3, c4⟩ := HIC.out.five
                  clear htwo hpa hpb hce HT
                  obtain ⟨wo, hwo⟩ : ∃ wo, wo = wr := ⟨_, rfl⟩
                  subst hwo
                  go_wp2_with fail
                  refine (HTW.out.get I c.row c.col c.at_ HPA.out.g (by omega) (by omega)).mono ?_
                  rintro e w7 ⟨rfl, hb7⟩
                  have HT7 := Lib.hid (HTW.out.up I hb7)
                  have HI7 := Lib.hid (HIC.out.up hb7)
                  clear hb7 HTW HIC c0 c1 c2 c3 c4
                  obtain ⟨c0, c1, c2, c3, c4⟩ := HI7.out.five
                  go_wp2_with fail
                  refine (HT7.out.swap.get I c.row c.col c.at_ HPB.out.g (by omega) (by omega)).mono ?_
                  rintro e w8 ⟨rfl, hb8⟩
                  rw [hgv, hgb]
                  have HT8 := Lib.hid (HT7.out.up I hb8)
                  have HI8 := Lib.hid (HI7.out.up hb8)
                  clear hb8 HT7 HI7 c0 c1 c2 c3 c4 hgv hgb
                  generalize getV ta c.row c.col c.at_ = gv at *
                  generalize getB ta c.row c.col c.at_ = gb at *
                  have HD : Hid (Below w8.heap.size w8 w8.drew) := Lib.hid (Below.refl _ _).drew
                  have HSS : Hid (∀ z, Below w8.heap.size w8 z → ShS (w.heap.size + 1 + 1) c w8 z) := Lib.hid fun z hz => by
                    obtain ⟨i0, i1, i2, i3, i4⟩ := (HI8.out.up hz).five
                    exact ⟨i0, i2, hz⟩
                  have HTT := Lib.hid (HSS.out _ HD.out)
                  have HCA : Hid (∀ z, Below w8.heap.size w8 z → Calls Tryz.prog 21 #[.pointer (some ⟨a, 0, none⟩)] z fun e z' => (∃ x, e = .returned x ∧ RdL z' [] x ta.cells) ∧ Below z.heap.size z z' ∧ Below w8.heap.size w8 z') := Lib.hid fun z hz => by
                    refine ((HT8.out.up I hz).cells I HPA.out.g).mono ?_
                    rintro e z' ⟨h1, h2⟩
                    exact ⟨h1, h2, bwstep hz h2⟩
                  have HCBB : Hid (∀ z, Below w8.heap.size w8 z → Calls Tryz.prog 21 #[.pointer (some ⟨b, 0, none⟩)] z fun e z' => (∃ x, e = .returned x ∧ RdL z' [] x ta.cells) ∧ Below z.heap.size z z' ∧ Below w8.heap.size w8 z') := Lib.hid fun z hz => by
                    refine ((HT8.out.up I hz).swap.cells I HPB.out.g).mono ?_
                    rintro e z' ⟨h1, h2⟩
                    rw [HCE.out] at h1
                    exact ⟨h1, h2, bwstep hz h2⟩
                  have HSA : Hid (∀ z, Below w8.heap.size w8 z → Calls Tryz.prog 19 #[.pointer (some ⟨a, 0, none⟩), .string c.row, .string ⟨#[]⟩, .int .i64 c.at_] z fun e z' => (∃ x, e = .returned x ∧ RdL z' [] x (someP c.row ⟨#[]⟩ c.at_ ta.cells)) ∧ Below z.heap.size z z' ∧ Below w8.heap.size w8 z') := Lib.hid fun z hz => by
                    refine ((HT8.out.up I hz).scan I c.row ⟨#[]⟩ c.at_ HPA.out.g (by omega) (by decide)).mono ?_
                    rintro e z' ⟨h1, h2⟩
                    exact ⟨h1, h2, bwstep hz h2⟩
                  have HSB : Hid (∀ z, Below w8.heap.size w8 z → Calls Tryz.prog 19 #[.pointer (some ⟨b, 0, none⟩), .string c.row, .string ⟨#[]⟩, .int .i64 c.at_] z fun e z' => (∃ x, e = .returned x ∧ RdL z' [] x (someP c.row ⟨#[]⟩ c.at_ ta.cells)) ∧ Below z.heap.size z z' ∧ Below w8.heap.size w8 z') := Lib.hid fun z hz => by
                    refine ((HT8.out.up I hz).swap.scan I c.row ⟨#[]⟩ c.at_ HPB.out.g (by omega) (by decide)).mono ?_
                    rintro e z' ⟨h1, h2⟩
                    rw [HCE.out] at h1
                    exact ⟨h1, h2, bwstep hz h2⟩
                  have HSM : Hid (∀ (x y : Value) (X : List Cl) z, X.length ≤ 80 → RdL z [] x X → RdL z [] y X → Below w8.heap.size w8 z → Calls Tryz.prog 18 #[x, y] z fun e z' => e = .returned (.bool true) ∧ Below w8.heap.size w8 z') := Lib.hid fun x y X z hl hx hy hz => by
                    refine (rsameL_self x y X z hx hy (by omega)).mono ?_
                    rintro e z' ⟨h1, h2⟩
                    exact ⟨h1, bwstep hz h2⟩
                  have hvl : (someP c.row ⟨#[]⟩ c.at_ ta.cells).length ≤ 80 := Nat.le_trans (List.length_filter_le _ _) (Nat.le_trans (List.length_filter_le _ _) hcl)
                  have HB8 := Lib.hid (bwstep HK4.out HT8.out.bel)
                  generalize someP c.row ⟨#[]⟩ c.at_ ta.cells = Y at *
                  generalize ta.cells = Z at *
                  clear HPA HPB HCE HT8 HI8
                  go_wp2_with fail
                  go_region_held3 (fun w' => w'.cell? ⟨w.heap.size + 1 + 1, 0, none⟩ = some (.string c.row) ∧ w'.cell? ⟨w.heap.size + 1 + 1, 2, none⟩ = some (.int .i64 c.at_) ∧ Below w8.heap.size w8 w') (first | exact HTT.out | assumption | (exact HSS.out _ (by assumption)))
                    (first
                      | (go_at_call 18; refine (HSM.out _ _ Y _ hvl hp4 hp5 hq5).mono ?_; rintro e wp6 ⟨rfl, hq6⟩)
                      | (go_at_call 19; refine (HSB.out _ hq4).mono ?_; rintro e wp5 ⟨⟨x5, rfl, hp5⟩, hr5, hq5⟩; have hp4 := hp4a.bel hr5; clear hr5 hp4a)
                      | (go_at_call 19; refine (HSA.out _ hq3).mono ?_; rintro e wp4 ⟨⟨x4, rfl, hp4a⟩, -, hq4⟩)
                      | (go_at_call 18; refine (HSM.out _ _ Z _ hcl hp1 hp2 hq2).mono ?_; rintro e wp3 ⟨rfl, hq3⟩)
                      | (go_at_call 21; refine (HCBB.out _ hq1).mono ?_; rintro e wp2 ⟨⟨x2, rfl, hp2⟩, hr2, hq2⟩; have hp1 := hp1a.bel hr2; clear hr2 hp1a)
                      | (go_at_call 21; refine (HCA.out _ HD.out).mono ?_; rintro e wp1 ⟨⟨x1, rfl, hp1a⟩, -, hq1⟩))
                  all_goals
                    go_wp2_with fail
                    go_ret
                    exact ⟨rfl, bwstep HB8.out hq6⟩
            · have hcc1 : (100 : Int) < (c.col.size : Int) := by omega
              go_wp2_with fail
              refine (awake14_ok I _).mono ?_
              rintro e w9 ⟨rfl, hb9⟩
              have H9 := Lib.hid (bwstep HK4.out hb9)
              clear hb9
              go_wp2_with fail
              go_ret
              exact ⟨rfl, H9.out⟩
          · have hcr1 : (100 : Int) < (c.row.size : Int) := by omega
            go_wp2_with fail
            refine (awake14_ok I _).mono ?_
            rintro e w9 ⟨rfl, hb9⟩
            have H9 := Lib.hid (bwstep HK4.out hb9)
            clear hb9
            go_wp2_with fail
            go_ret
            exact ⟨rfl, H9.out⟩
        · rw [decide_eq_false hur]
          go_wp2_with fail
          refine (awake14_ok I _).mono ?_
          rintro e w9 ⟨rfl, hb9⟩
          have H9 := Lib.hid (bwstep HK4.out hb9)
          clear hb9
          go_wp2_with fail
          go_ret
          exact ⟨rfl, H9.out⟩
      · rw [decide_eq_false hsr]
        go_wp2_with fail
        refine (awake14_ok I _).mono ?_
        rintro e w9 ⟨rfl, hb9⟩
        have H9 := Lib.hid (bwstep HK3.out hb9)
        clear hb9
        go_wp2_with fail
        go_ret
        exact ⟨rfl, H9.out⟩
    · have h41 : (40 : Int) < (L.length : Int) := by omega
      go_wp2_with fail
      refine (awake14_ok I _).mono ?_
      rintro e w9 ⟨rfl, hb9⟩
      have H9 := Lib.hid (bwstep HK2.out hb9)
      clear hb9
      go_wp2_with fail
      go_ret
      exact ⟨rfl, H9.out⟩
end Go.Proofs.YtgcbmdolbmmljaaGreat
