/- Layer 14's law: shelves and acts, plain and as values; the contracts of its own functions (right, few, some). -/
import Derived.Test.YtgcbmdolbmmljaaGreatMgR
import Derived.Test.YtgcbmdolbmmljaaGreatStA
namespace Go.Proofs.YtgcbmdolbmmljaaGreat.Ce
open Go.RowKit

/-- a shelf -/
structure Sf where
  mem : Int
  block : Int
  fan : Int
def Sf.cs (s : Sf) : Array Value := #[.int .i64 s.mem, .int .i64 s.block, .int .i64 s.fan]
abbrev sfD : St.Sp Sf := ⟨23, 0, 3, 24, Sf.cs, ⟨0, 0, 0⟩⟩
theorem sfOk : sfD.Ok Tryz.prog := ⟨⟨_, Tryz.underlying23, rfl⟩, by kernel_rfl, by decide, fun _ => rfl, fun x => by simp [Sf.cs, Value.oneCell']⟩
def Sf.v (s : Sf) : Value := .agg s.cs
structure Sf.right (s : Sf) : Prop where
  m1 : 1 ≤ s.mem
  m2 : s.mem ≤ 4096
  b1 : 1 ≤ s.block
  b2 : s.block ≤ 4096
  f1 : 1 ≤ s.fan
  f2 : s.fan ≤ 8
theorem Sf.right_iff {s : Sf} : s.right ↔ 1 ≤ s.mem ∧ s.mem ≤ 4096 ∧ 1 ≤ s.block ∧ s.block ≤ 4096 ∧ 1 ≤ s.fan ∧ s.fan ≤ 8 :=
  ⟨fun h => ⟨h.m1, h.m2, h.b1, h.b2, h.f1, h.f2⟩, fun ⟨a, b, c, d, e, f⟩ => ⟨a, b, c, d, e, f⟩⟩
instance (s : Sf) : Decidable s.right := decidable_of_iff _ Sf.right_iff.symm
set_option maxHeartbeats 1000000 in
set_option maxRecDepth 100000 in
theorem right14_any (s : Sf) (w : World) : Calls Tryz.prog 11 #[s.v] w fun e w' => e = .returned (.bool (decide s.right)) ∧ Below w.heap.size w w' := by
  have HQ : Hid (∀ q : Bool, (q = true ↔ s.right) → q = decide s.right) := Lib.hid fun q h => by
    rw [Bool.eq_iff_iff, h, decide_eq_true_iff]
  have HI := Lib.hid (@Sf.right_iff s)
  go_enter Tryz.func11, Tryz.ntmps11
  go_wp2_with (refine St.box sfD rfl (.tmp 0) s rfl rfl ?_)
  constructor
  intro w1 hI1 hb1 hz1
  have c0 : w1.cell? ⟨w.heap.size, 0, none⟩ = some (.int .i64 s.mem) := hI1.at_ (i := 0) rfl
  have c1 : w1.cell? ⟨w.heap.size, 1, none⟩ = some (.int .i64 s.block) := hI1.at_ (i := 1) rfl
  have c2 : w1.cell? ⟨w.heap.size, 2, none⟩ = some (.int .i64 s.fan) := hI1.at_ (i := 2) rfl
  have HB := Lib.hid hb1
  clear hI1 hb1
  by_cases h1 : 1 ≤ s.mem
  · by_cases h2 : s.mem ≤ 4096
    · by_cases h3 : 1 ≤ s.block
      · by_cases h4 : s.block ≤ 4096
        · by_cases h5 : 1 ≤ s.fan
          · by_cases h6 : s.fan ≤ 8
            · have HF := Lib.hid (HQ.out true (by rw [HI.out]; simp [h1, h2, h3, h4, h5, h6]))
              go_wp2_with fail
              go_ret
              rw [← HF.out]
              exact ⟨rfl, HB.out⟩
            · have HF := Lib.hid (HQ.out false (by rw [HI.out]; simp [h6]))
              go_wp2_with fail
              go_ret
              rw [← HF.out]
              exact ⟨rfl, HB.out⟩
          · have HF := Lib.hid (HQ.out false (by rw [HI.out]; simp [h5]))
            go_wp2_with fail
            go_ret
            rw [← HF.out]
            exact ⟨rfl, HB.out⟩
        · have HF := Lib.hid (HQ.out false (by rw [HI.out]; simp [h4]))
          go_wp2_with fail
          go_ret
          rw [← HF.out]
          exact ⟨rfl, HB.out⟩
      · have HF := Lib.hid (HQ.out false (by rw [HI.out]; simp [h3]))
        go_wp2_with fail
        go_ret
        rw [← HF.out]
        exact ⟨rfl, HB.out⟩
    · have HF := Lib.hid (HQ.out false (by rw [HI.out]; simp [h2]))
      go_wp2_with fail
      go_ret
      rw [← HF.out]
      exact ⟨rfl, HB.out⟩
  · have HF := Lib.hid (HQ.out false (by rw [HI.out]; simp [h1]))
    go_wp2_with fail
    go_ret
    rw [← HF.out]
    exact ⟨rfl, HB.out⟩

/-! acts -/
structure Ac where
  do_ : Int
  c : Cl
def Ac.cs (a : Ac) : Array Value := #[.int .i64 a.do_, .string a.c.row, .string a.c.col, .int .i64 a.c.at_, .string a.c.val, .bool a.c.gone]
abbrev acD : St.Sp Ac := ⟨36, 24, 6, 72, Ac.cs, ⟨0, Cl.zero⟩⟩
theorem acOk : acD.Ok Tryz.prog := ⟨⟨_, Tryz.underlying36, rfl⟩, by kernel_rfl, by decide, fun _ => rfl, fun x => by simp [Ac.cs, Value.oneCell']⟩
/-- few acts, with short texts -/
def Few14 (L : List Ac) : Prop := L.length ≤ 50 ∧ ∀ a ∈ L, a.c.row.size ≤ 100 ∧ a.c.col.size ≤ 100 ∧ a.c.val.size ≤ 300
def Few14End (L : List Ac) (w : World) (e : Ending) (w' : World) : Prop := (∃ q : Bool, e = .returned (.bool q) ∧ (q = true → Few14 L)) ∧ w = w'
set_option maxHeartbeats 4000000 in
set_option maxRecDepth 100000 in
theorem few14_any (v : Value) (L : List Ac) (w : World) (hv : St.RdS acD w [] v L) : Calls Tryz.prog 9 #[v] w (Few14End L w) := by
  obtain ⟨A, c, rfl, hc, hm⟩ := hv.shape
  unfold maxLen at hm
  have HV := Lib.hid hv
  clear hv
  go_enter Tryz.func9, Tryz.ntmps9
  go_wp2_with fail
  go_loop [3] (fun i => ∃ k : Nat, k ≤ L.length ∧ k ≤ 100 ∧ i = .int .i64 (k : Int) ∧ Hid (∀ a ∈ L.take k, a.c.row.size ≤ 100 ∧ a.c.col.size ≤ 100 ∧ a.c.val.size ≤ 300)) (fun i => L.length - (intOf i).toNat)
  case atStart => exact ⟨0, Nat.zero_le _, by omega, rfl, Lib.hid (by simp)⟩
  case round =>
    obtain ⟨k, hk, hk1, rfl, HS⟩ := hrel
    by_cases hlt : k < L.length ∧ k < 100
    · obtain ⟨hlt, hlt1⟩ := hlt
      have hfk : L[k]? = some (L[k]'hlt) := List.getElem?_eq_getElem _
      have HTK : Hid (∀ a ∈ L.take (k + 1), a ∈ L.take k ∨ a = L[k]'hlt) := Lib.hid fun a ha => by
        rw [List.take_succ_eq_append_getElem hlt, List.mem_append, List.mem_singleton] at ha
        exact ha
      generalize L[k]'hlt = f at hfk HTK
      obtain ⟨b, off, rfl, -, -, -⟩ := HV.out.open_ (by omega)
      have hat := (HV.out.at_ acOk hfk).1
      have c1 : w.cell? ⟨b, off + k * 6 + 1, none⟩ = some (.string f.c.row) := hat 1 _ rfl
      have c2 : w.cell? ⟨b, off + k * 6 + 2, none⟩ = some (.string f.c.col) := hat 2 _ rfl
      have c4 : w.cell? ⟨b, off + k * 6 + 4, none⟩ = some (.string f.c.val) := hat 4 _ rfl
      have hh3 : (0 : Int) ≤ (k : Int) := by omega
      have hh4 : (k : Int) < (L.length : Int) := by omega
      have hh5 : (k : Int) < 100 := by omega
      clear hfk hat
      by_cases h1 : f.c.row.size ≤ 100
      · have g1 : ¬ (100 : Int) < (f.c.row.size : Int) := by omega
        by_cases h2 : f.c.col.size ≤ 100
        · have g2 : ¬ (100 : Int) < (f.c.col.size : Int) := by omega
          by_cases h3 : f.c.val.size ≤ 300
          · have g3 : ¬ (300 : Int) < (f.c.val.size : Int) := by omega
            have HN : Hid (∀ a ∈ L.take (k + 1), a.c.row.size ≤ 100 ∧ a.c.col.size ≤ 100 ∧ a.c.val.size ≤ 300) := Lib.hid fun a ha => (HTK.out a ha).elim (HS.out a) fun e => e ▸ ⟨h1, h2, h3⟩
            go_wp2_with fail
            go_round
            case rel => exact ⟨k + 1, by omega, by omega, by go_num, HN⟩
            case measure => simp [intOf]; omega
          · have g3 : (300 : Int) < (f.c.val.size : Int) := by omega
            go_wp2_with fail
            go_ret
            exact ⟨⟨false, rfl, fun h => by cases h⟩, rfl⟩
        · have g2 : (100 : Int) < (f.c.col.size : Int) := by omega
          go_wp2_with fail
          go_ret
          exact ⟨⟨false, rfl, fun h => by cases h⟩, rfl⟩
      · have g1 : (100 : Int) < (f.c.row.size : Int) := by omega
        go_wp2_with fail
        go_ret
        exact ⟨⟨false, rfl, fun h => by cases h⟩, rfl⟩
    · go_wp2_with fail
      all_goals
        go_ret
        refine ⟨⟨_, rfl, fun h => ?_⟩, rfl⟩
        have h50 : L.length ≤ 50 := by
          have := of_decide_eq_true h
          omega
        have : k = L.length := by omega
        subst this
        have hs := HS.out
        rw [List.take_length] at hs
        exact ⟨h50, hs⟩
/-- the visible cells of some rows -/
def inS (fr to : ByteArray) (c : Cl) : Bool := decide (¬ c.row.data.toList < fr.data.toList) && (decide (to.size = 0) || decide (c.row.data.toList < to.data.toList))
def someP (fr to : ByteArray) (t : Int) (L : List Cl) : List Cl := (visP t L).filter (inS fr to)
theorem scmp_nlt {a b : List UInt8} : 0 ≤ scmp a b ↔ ¬ a < b := by
  rcases scmp_cases a b with ⟨h, k⟩ | ⟨h, k⟩ | ⟨h, k⟩
  · rw [h]; exact ⟨fun h => by omega, fun h => absurd k h⟩
  · rw [h]; exact ⟨fun _ => by rw [k]; exact List.lt_irrefl _, fun _ => by omega⟩
  · rw [h]; exact ⟨fun _ q => List.lt_irrefl _ (List.lt_trans k q), fun _ => by omega⟩
theorem scmp_ltI {a b : List UInt8} : scmp a b < 0 ↔ a < b := by
  rcases scmp_cases a b with ⟨h, k⟩ | ⟨h, k⟩ | ⟨h, k⟩
  · rw [h]; exact ⟨fun _ => k, fun _ => by omega⟩
  · rw [h]; exact ⟨fun h => by omega, fun q => by rw [k] at q; exact absurd q (List.lt_irrefl _)⟩
  · rw [h]; exact ⟨fun h => by omega, fun q => absurd (List.lt_trans k q) (List.lt_irrefl _)⟩
theorem empty_iff {to : ByteArray} : to = ⟨#[]⟩ ↔ to.size = 0 := by
  constructor
  · rintro rfl; rfl
  · intro h
    cases to with
    | mk d =>
      have : d.size = 0 := h
      have : d = #[] := Array.eq_empty_of_size_eq_zero this
      rw [this]
set_option maxHeartbeats 4000000 in
set_option maxRecDepth 100000 in
theorem some14_any (v : Value) (L : List Cl) (fr to : ByteArray) (t : Int) (w : World) (hv : RdL w [] v L) (hs : Srt L) (hok : ∀ c ∈ L, c.ok) (hL : L.length ≤ 1000000) (hfr : fr.size ≤ 1000000) (hto : to.size ≤ 1000000) :
    Calls Tryz.prog 20 #[v, .string fr, .string to, .int .i64 t] w fun e w' => (∃ x, e = .returned x ∧ OwL w' w.heap.size x (someP fr to t L)) ∧ Below w.heap.size w w' := by
  have HV := Lib.hid hv
  have hvl : (visP t L).length ≤ L.length := List.length_filter_le _ _
  have HVO : Hid (∀ c ∈ visP t L, c.ok) := Lib.hid fun c hc => hok c (List.mem_filter.1 hc).1
  have hr := rvis_any v L t w hv hs (by omega) hok
  unfold someP
  generalize visP t L = V at *
  clear hv hs hok
  go_enter Tryz.func20, Tryz.ntmps20
  go_wp2_with fail
  refine hr.mono ?_
  rintro e w1 ⟨⟨x1, rfl, hx1⟩, hb1⟩
  have hrd := hx1.rd (S := []) (fun _ h => by cases h)
  obtain ⟨A, c, rfl, hc, hm⟩ := hrd.shape
  unfold maxLen at hm
  have HX := Lib.hid hrd
  have HB1 := Lib.hid hb1
  clear hx1 hb1 hrd hr
  go_wp2_with fail
  go_loopw [10, 11] (fun o i wr => ∃ k : Nat, k ≤ V.length ∧ i = .int .i64 (k : Int) ∧ Hid (OwL wr w1.heap.size o ((V.take k).filter (inS fr to))) ∧ Below w1.heap.size w1 wr) (fun _ i _ => V.length - (intOf i).toNat)
  case atStart => exact ⟨0, by omega, rfl, Lib.hid (by simpa using OwL.nil _ _), Below.refl _ _⟩
  case round =>
    obtain ⟨k, hk, rfl, HO, hbw⟩ := hrel
    have HBW := Lib.hid hbw
    by_cases hlt : k < V.length
    · obtain ⟨b, off, rfl, -, -⟩ := HX.out.open_ (by omega)
      have hh3 : (0 : Int) ≤ (k : Int) := by omega
      have hh4 : (k : Int) < (V.length : Int) := by omega
      have hfk : V[k]? = some (V[k]'hlt) := List.getElem?_eq_getElem _
      generalize V[k]'hlt = f at hfk
      have HF5 : Hid (∀ z, Below w1.heap.size w1 z → FiveAt b (off + k * 5) f z) := Lib.hid fun z hz => ((HX.out.bel hz).at_ hfk).1
      have HS := Lib.hid (filter_snoc hfk (inS fr to))
      have hfo := HVO.out f (List.mem_of_getElem? hfk)
      have hfz : f.row.size ≤ 1000000 := by have := hfo.r2; omega
      have HT1 : Hid (∀ w', Calls Tryz.prog 43 #[.string f.row, .string fr] w' fun e w2 => e = .returned (.int .i64 (scmp f.row.data.toList fr.data.toList)) ∧ Below w'.heap.size w' w2) := Lib.hid fun w' => rtext_any f.row fr w' hfz hfr
      have HT2 : Hid (∀ w', Calls Tryz.prog 43 #[.string f.row, .string to] w' fun e w2 => e = .returned (.int .i64 (scmp f.row.data.toList to.data.toList)) ∧ Below w'.heap.size w' w2) := Lib.hid fun w' => rtext_any f.row to w' hfz hto
      have HP1 := Lib.hid (@scmp_nlt f.row.data.toList fr.data.toList)
      have HP2 := Lib.hid (@scmp_ltI f.row.data.toList to.data.toList)
      have hlen : ((V.take k).filter (inS fr to)).length ≤ 1000000000 := Nat.le_trans (List.length_filter_le _ _) (by simp; omega)
      generalize (V.take k).filter (inS fr to) = F at HO HS hlen
      have HIN : Hid (inS fr to f = (decide (¬ f.row.data.toList < fr.data.toList) && (decide (to.size = 0) || decide (f.row.data.toList < to.data.toList)))) := Lib.hid rfl
      obtain ⟨c0, c1, c2, c3, c4⟩ := HF5.out _ hbw
      clear hfk hbw hfo hfz
      generalize scmp f.row.data.toList fr.data.toList = s1 at HT1 HP1
      generalize scmp f.row.data.toList to.data.toList = s2 at HT2 HP2
      generalize inS fr to f = q at HS HIN
      obtain ⟨wo, hwo⟩ : ∃ wo, wo = wr := ⟨_, rfl⟩
      subst hwo
      go_wp2_with fail
      refine (HT1.out _).mono ?_
      rintro e w2 ⟨rfl, hb2⟩
      have HB2 := Lib.hid (bwstep HBW.out hb2)
      have HO2 := Lib.hid (HO.out.below hb2)
      clear c0 c1 c2 c3 c4 hb2 HO HBW HT1
      obtain ⟨c0, c1, c2, c3, c4⟩ := HF5.out _ HB2.out
      by_cases hs1 : 0 ≤ s1
      · have hq1 := HP1.out.1 hs1
        by_cases hte : to = ⟨#[]⟩
        · have HQ : Hid (q = true) := Lib.hid (by rw [HIN.out, decide_eq_true hq1, decide_eq_true (empty_iff.1 hte)]; rfl)
          have hse : to.toList.isEmpty = true := by
            have := str_eq hte
            simpa using this
          clear hq1 hte
          have HE : Hid ((V.take (k + 1)).filter (inS fr to) = F ++ [f]) := Lib.hid (by rw [HS.out, HQ.out]; simp)
          have hx := RdL.one w2 [] f (by simp) 34
          have ho2 := HO2.out.below (bwalloc (bwrefl w2) (.cells #[.string f.row, .string f.col, .int .i64 f.at_, .string f.val, .bool f.gone] 34))
          have hb9 := bwalloc HB2.out (.cells #[.string f.row, .string f.col, .int .i64 f.at_, .string f.val, .bool f.gone] 34)
          have hs9 := hb9.size
          have hl9 : F.length + [f].length ≤ 2199023255552 := by simp; omega
          clear HS HIN HQ
          go_wp2_with (at_builtin; refine wpList_appL rfl (.tmp 43) (.tmp 48) rfl rfl ho2 rfl hx hl9 hs9 ?_; intro v9 w9 ho9 hg9 _; have HO9 := Lib.hid ho9; have HB9 := Lib.hid (hb9.grown hg9 hs9 (fun q hq => (ho2.lt q hq).1)); clear ho9 hg9)
          go_roundw
          case rel => exact ⟨k + 1, by omega, by go_num, Lib.hid (by rw [HE.out]; exact HO9.out), HB9.out⟩
          case measure => simp [intOf]; omega
        · have hse : to.toList.isEmpty = false := by
            have := str_ne hte
            simpa using this
          have HQ : Hid (q = decide (s2 < 0)) := Lib.hid (by
            rw [HIN.out, decide_eq_true hq1, decide_eq_false (fun h => hte (empty_iff.2 h)), Bool.true_and, Bool.false_or]
            exact decide_eq_decide.2 HP2.out.symm)
          clear hq1 hte
          go_wp2_with fail
          refine (HT2.out _).mono ?_
          rintro e w3 ⟨rfl, hb3⟩
          have HB3 := Lib.hid (bwstep HB2.out hb3)
          have HO3 := Lib.hid (HO2.out.below hb3)
          clear c0 c1 c2 c3 c4 hb3 HO2 HB2 HT2
          obtain ⟨c0, c1, c2, c3, c4⟩ := HF5.out _ HB3.out
          by_cases hs2 : s2 < 0
          · rw [decide_eq_true hs2] at HQ
            have HE : Hid ((V.take (k + 1)).filter (inS fr to) = F ++ [f]) := Lib.hid (by rw [HS.out, HQ.out]; simp)
            have hx := RdL.one w3 [] f (by simp) 34
            have ho2 := HO3.out.below (bwalloc (bwrefl w3) (.cells #[.string f.row, .string f.col, .int .i64 f.at_, .string f.val, .bool f.gone] 34))
            have hb9 := bwalloc HB3.out (.cells #[.string f.row, .string f.col, .int .i64 f.at_, .string f.val, .bool f.gone] 34)
            have hs9 := hb9.size
            have hl9 : F.length + [f].length ≤ 2199023255552 := by simp; omega
            clear HS HIN HQ
            go_wp2_with (at_builtin; refine wpList_appL rfl (.tmp 43) (.tmp 48) rfl rfl ho2 rfl hx hl9 hs9 ?_; intro v9 w9 ho9 hg9 _; have HO9 := Lib.hid ho9; have HB9 := Lib.hid (hb9.grown hg9 hs9 (fun q hq => (ho2.lt q hq).1)); clear ho9 hg9)
            go_roundw
            case rel => exact ⟨k + 1, by omega, by go_num, Lib.hid (by rw [HE.out]; exact HO9.out), HB9.out⟩
            case measure => simp [intOf]; omega
          · rw [decide_eq_false hs2] at HQ
            have HE : Hid ((V.take (k + 1)).filter (inS fr to) = F) := Lib.hid (by rw [HS.out, HQ.out]; simp)
            clear HS HIN HQ
            go_wp2_with fail
            go_roundw
            case rel => exact ⟨k + 1, by omega, by go_num, Lib.hid (by rw [HE.out]; exact HO3.out), HB3.out⟩
            case measure => simp [intOf]; omega
      · have HQ : Hid (q = false) := Lib.hid (by rw [HIN.out, decide_eq_false (fun h => hs1 (HP1.out.2 h))]; rfl)
        have HE : Hid ((V.take (k + 1)).filter (inS fr to) = F) := Lib.hid (by rw [HS.out, HQ.out]; simp)
        clear HS HIN HQ
        go_wp2_with fail
        go_roundw
        case rel => exact ⟨k + 1, by omega, by go_num, Lib.hid (by rw [HE.out]; exact HO2.out), HB2.out⟩
        case measure => simp [intOf]; omega
    · obtain rfl : k = V.length := by omega
      rw [List.take_length] at HO
      go_wp2_with fail
      go_ret
      exact ⟨⟨_, rfl, HO.out.mono HB1.out.size⟩, bwstep HB1.out HBW.out⟩
end Go.Proofs.YtgcbmdolbmmljaaGreat.Ce
