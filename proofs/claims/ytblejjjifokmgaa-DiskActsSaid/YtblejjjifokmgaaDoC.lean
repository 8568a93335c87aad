/- The contract of the law's own 'do'. -/
import Derived.Test.YtblejjjifokmgaaDo
namespace Go.Proofs.Ytblejjjifokmgaa
open Go.RowKit Go.Maps Dk
set_option linter.unusedVariables false

theorem Res.of {w w0 w' : World} {B : Nat} {d : Value} {db mb cap : Nat} {L : List Fr} {r : List Fl × Int} {e : Ending} (h : DiskAt w B d db mb cap (total (L.map Fr.fl)) L) (hb : Below w.heap.size w w0) (hr : Res w0 w' B d db mb cap L r e) : Res w w' B d db mb cap L r e := by
  obtain ⟨e1, L', st, e2⟩ := hr
  exact ⟨e1, L', (Step.bel h hb).trans st, e2⟩
theorem wrap_u8N (n : Nat) : ((n : Int) + 1) % 256 = ((UInt8.ofNat (n + 1)).toNat : Int) := by
  rw [UInt8.toNat_ofNat']
  omega
set_option maxHeartbeats 1000000 in
set_option maxRecDepth 100000 in
theorem do0 {w : World} {B : Nat} {d : Value} {db mb cap : Nat} {L : List Fr} (h : DiskAt w B d db mb cap (total (L.map Fr.fl)) L) (hI : Inv cap (L.map Fr.fl)) (hL : L.length ≤ 1000000) (hB : B ≤ w.heap.size) (nm ot : ByteArray) (bx kx : Value) (b : List UInt8) (at_ : Int) (ks : List Int) (hx : RdS w (fp db mb L) bx b) (hk : RdV w (fp db mb L) kx (ks.map iv))
    (hb : b.length ≤ 1000000) (hn : nm.size ≤ 1000) (ho : ot.size ≤ 1000) (hkr : ∀ q ∈ ks, inR q) :
    Calls Try.prog 9 #[d, .agg #[.int .i64 0, .string nm, .string ot, bx, .int .i64 at_, kx]] w fun e w' => Res w w' B d db mb cap L (apF cap nm b (L.map Fr.fl)) e := by
  obtain rfl := h.hd
  obtain ⟨Ab, cb, rfl, hcb, hmb⟩ := hx.1.shapeM
  obtain ⟨Ak, ck, rfl, hck, hmk⟩ := hk.1.shapeM
  have hw0 := bwalloc (bwrefl w) (.cells #[.int .i64 0, .string nm, .string ot, .slice Ab b.length cb, .int .i64 at_, .slice Ak ks.length ck] 31)
  have h0 := h.below hw0
  have hx0 := hx.up (Kp.of_below hw0 _) (fun _ hk => .inl hk)
  have hk0 := hk.up (Kp.of_below hw0 _) (fun _ hk => .inl hk)
  have hB0 := Nat.le_trans hB hw0.size
  have hr := Lib.hid (ap_any h0 hI hL hB0 nm hn hx0 (by omega))
  have H := Lib.hid h
  have HW := Lib.hid hw0
  clear h hx hk hw0 h0 hx0 hk0
  go_enter Try.func9, Try.ntmps9
  go_wp2_with fail
  refine hr.out.mono ?_
  rintro e w' ⟨rfl, L', st, e2⟩
  go_wp2_with fail
  go_ret
  exact Res.of H.out HW.out ⟨rfl, L', st, e2⟩
set_option maxHeartbeats 1000000 in
set_option maxRecDepth 100000 in
theorem do1 {w : World} {B : Nat} {d : Value} {db mb cap : Nat} {L : List Fr} (h : DiskAt w B d db mb cap (total (L.map Fr.fl)) L) (hI : Inv cap (L.map Fr.fl)) (hL : L.length ≤ 1000000) (hB : B ≤ w.heap.size) (nm ot : ByteArray) (bx kx : Value) (b : List UInt8) (at_ : Int) (ks : List Int) (hx : RdS w (fp db mb L) bx b) (hk : RdV w (fp db mb L) kx (ks.map iv))
    (hb : b.length ≤ 1000000) (hn : nm.size ≤ 1000) (ho : ot.size ≤ 1000) (hkr : ∀ q ∈ ks, inR q) :
    Calls Try.prog 9 #[d, .agg #[.int .i64 1, .string nm, .string ot, bx, .int .i64 at_, kx]] w fun e w' => Res w w' B d db mb cap L (syF nm (L.map Fr.fl)) e := by
  obtain rfl := h.hd
  obtain ⟨Ab, cb, rfl, hcb, hmb⟩ := hx.1.shapeM
  obtain ⟨Ak, ck, rfl, hck, hmk⟩ := hk.1.shapeM
  have hw0 := bwalloc (bwrefl w) (.cells #[.int .i64 1, .string nm, .string ot, .slice Ab b.length cb, .int .i64 at_, .slice Ak ks.length ck] 31)
  have h0 := h.below hw0
  have hx0 := hx.up (Kp.of_below hw0 _) (fun _ hk => .inl hk)
  have hk0 := hk.up (Kp.of_below hw0 _) (fun _ hk => .inl hk)
  have hB0 := Nat.le_trans hB hw0.size
  have hr := Lib.hid (sy_any h0 nm hn)
  have H := Lib.hid h
  have HW := Lib.hid hw0
  clear h hx hk hw0 h0 hx0 hk0
  go_enter Try.func9, Try.ntmps9
  go_wp2_with fail
  refine hr.out.mono ?_
  rintro e w' ⟨rfl, L', st, e2⟩
  go_wp2_with fail
  go_ret
  exact Res.of H.out HW.out ⟨rfl, L', st, e2⟩
set_option maxHeartbeats 1000000 in
set_option maxRecDepth 100000 in
theorem do2 {w : World} {B : Nat} {d : Value} {db mb cap : Nat} {L : List Fr} (h : DiskAt w B d db mb cap (total (L.map Fr.fl)) L) (hI : Inv cap (L.map Fr.fl)) (hL : L.length ≤ 1000000) (hB : B ≤ w.heap.size) (nm ot : ByteArray) (bx kx : Value) (b : List UInt8) (at_ : Int) (ks : List Int) (hx : RdS w (fp db mb L) bx b) (hk : RdV w (fp db mb L) kx (ks.map iv))
    (hb : b.length ≤ 1000000) (hn : nm.size ≤ 1000) (ho : ot.size ≤ 1000) (hkr : ∀ q ∈ ks, inR q) :
    Calls Try.prog 9 #[d, .agg #[.int .i64 2, .string nm, .string ot, bx, .int .i64 at_, kx]] w fun e w' => Res w w' B d db mb cap L (reF nm ot (L.map Fr.fl)) e := by
  obtain rfl := h.hd
  obtain ⟨Ab, cb, rfl, hcb, hmb⟩ := hx.1.shapeM
  obtain ⟨Ak, ck, rfl, hck, hmk⟩ := hk.1.shapeM
  have hw0 := bwalloc (bwrefl w) (.cells #[.int .i64 2, .string nm, .string ot, .slice Ab b.length cb, .int .i64 at_, .slice Ak ks.length ck] 31)
  have h0 := h.below hw0
  have hx0 := hx.up (Kp.of_below hw0 _) (fun _ hk => .inl hk)
  have hk0 := hk.up (Kp.of_below hw0 _) (fun _ hk => .inl hk)
  have hB0 := Nat.le_trans hB hw0.size
  have hr := Lib.hid (re_any h0 hI hL hB0 nm ot hn ho)
  have H := Lib.hid h
  have HW := Lib.hid hw0
  clear h hx hk hw0 h0 hx0 hk0
  go_enter Try.func9, Try.ntmps9
  go_wp2_with fail
  refine hr.out.mono ?_
  rintro e w' ⟨rfl, L', st, e2⟩
  go_wp2_with fail
  go_ret
  exact Res.of H.out HW.out ⟨rfl, L', st, e2⟩
set_option maxHeartbeats 1000000 in
set_option maxRecDepth 100000 in
theorem do3 {w : World} {B : Nat} {d : Value} {db mb cap : Nat} {L : List Fr} (h : DiskAt w B d db mb cap (total (L.map Fr.fl)) L) (hI : Inv cap (L.map Fr.fl)) (hL : L.length ≤ 1000000) (hB : B ≤ w.heap.size) (nm ot : ByteArray) (bx kx : Value) (b : List UInt8) (at_ : Int) (ks : List Int) (hx : RdS w (fp db mb L) bx b) (hk : RdV w (fp db mb L) kx (ks.map iv))
    (hb : b.length ≤ 1000000) (hn : nm.size ≤ 1000) (ho : ot.size ≤ 1000) (hkr : ∀ q ∈ ks, inR q) :
    Calls Try.prog 9 #[d, .agg #[.int .i64 3, .string nm, .string ot, bx, .int .i64 at_, kx]] w fun e w' => Res w w' B d db mb cap L (deF nm (L.map Fr.fl)) e := by
  obtain rfl := h.hd
  obtain ⟨Ab, cb, rfl, hcb, hmb⟩ := hx.1.shapeM
  obtain ⟨Ak, ck, rfl, hck, hmk⟩ := hk.1.shapeM
  have hw0 := bwalloc (bwrefl w) (.cells #[.int .i64 3, .string nm, .string ot, .slice Ab b.length cb, .int .i64 at_, .slice Ak ks.length ck] 31)
  have h0 := h.below hw0
  have hx0 := hx.up (Kp.of_below hw0 _) (fun _ hk => .inl hk)
  have hk0 := hk.up (Kp.of_below hw0 _) (fun _ hk => .inl hk)
  have hB0 := Nat.le_trans hB hw0.size
  have hr := Lib.hid (de_any h0 hI hB0 nm hn)
  have H := Lib.hid h
  have HW := Lib.hid hw0
  clear h hx hk hw0 h0 hx0 hk0
  go_enter Try.func9, Try.ntmps9
  go_wp2_with fail
  refine hr.out.mono ?_
  rintro e w' ⟨rfl, L', st, e2⟩
  go_wp2_with fail
  go_ret
  exact Res.of H.out HW.out ⟨rfl, L', st, e2⟩
set_option maxHeartbeats 1000000 in
set_option maxRecDepth 100000 in
theorem do4 {w : World} {B : Nat} {d : Value} {db mb cap : Nat} {L : List Fr} (h : DiskAt w B d db mb cap (total (L.map Fr.fl)) L) (hI : Inv cap (L.map Fr.fl)) (hL : L.length ≤ 1000000) (hB : B ≤ w.heap.size) (nm ot : ByteArray) (bx kx : Value) (b : List UInt8) (at_ : Int) (ks : List Int) (hx : RdS w (fp db mb L) bx b) (hk : RdV w (fp db mb L) kx (ks.map iv))
    (hb : b.length ≤ 1000000) (hn : nm.size ≤ 1000) (ho : ot.size ≤ 1000) (hkr : ∀ q ∈ ks, inR q) :
    Calls Try.prog 9 #[d, .agg #[.int .i64 4, .string nm, .string ot, bx, .int .i64 at_, kx]] w fun e w' => Res w w' B d db mb cap L (tuF nm at_ (UInt8.ofNat (b.length + 1)) (L.map Fr.fl)) e := by
  obtain rfl := h.hd
  obtain ⟨Ab, cb, rfl, hcb, hmb⟩ := hx.1.shapeM
  obtain ⟨Ak, ck, rfl, hck, hmk⟩ := hk.1.shapeM
  have hw0 := bwalloc (bwrefl w) (.cells #[.int .i64 4, .string nm, .string ot, .slice Ab b.length cb, .int .i64 at_, .slice Ak ks.length ck] 31)
  have h0 := h.below hw0
  have hx0 := hx.up (Kp.of_below hw0 _) (fun _ hk => .inl hk)
  have hk0 := hk.up (Kp.of_below hw0 _) (fun _ hk => .inl hk)
  have hB0 := Nat.le_trans hB hw0.size
  have hr := Lib.hid (tu_any h0 nm hn at_ (UInt8.ofNat (b.length + 1)))
  have H := Lib.hid h
  have HW := Lib.hid hw0
  obtain ⟨bb, hbb⟩ : ∃ bb, bb = UInt8.ofNat (b.length + 1) := ⟨_, rfl⟩
  have hw8 := wrap_u8N b.length
  rw [← hbb] at hw8 hr ⊢
  have H8 := Lib.hid hw8
  clear hbb hw8
  clear h hx hk hw0 h0 hx0 hk0
  go_enter Try.func9, Try.ntmps9
  go_wp2_with fail
  rw [H8.out]
  refine hr.out.mono ?_
  rintro e w' ⟨rfl, L', st, e2⟩
  go_wp2_with fail
  go_ret
  exact Res.of H.out HW.out ⟨rfl, L', st, e2⟩
set_option maxHeartbeats 1000000 in
set_option maxRecDepth 100000 in
theorem do6 {w : World} {B : Nat} {d : Value} {db mb cap : Nat} {L : List Fr} (h : DiskAt w B d db mb cap (total (L.map Fr.fl)) L) (hI : Inv cap (L.map Fr.fl)) (hL : L.length ≤ 1000000) (hB : B ≤ w.heap.size) (nm ot : ByteArray) (bx kx : Value) (b : List UInt8) (at_ : Int) (ks : List Int) (hx : RdS w (fp db mb L) bx b) (hk : RdV w (fp db mb L) kx (ks.map iv))
    (hb : b.length ≤ 1000000) (hn : nm.size ≤ 1000) (ho : ot.size ≤ 1000) (hkr : ∀ q ∈ ks, inR q) :
    Calls Try.prog 9 #[d, .agg #[.int .i64 6, .string nm, .string ot, bx, .int .i64 at_, kx]] w fun e w' => Res w w' B d db mb cap L (trF nm at_ (L.map Fr.fl)) e := by
  obtain rfl := h.hd
  obtain ⟨Ab, cb, rfl, hcb, hmb⟩ := hx.1.shapeM
  obtain ⟨Ak, ck, rfl, hck, hmk⟩ := hk.1.shapeM
  have hw0 := bwalloc (bwrefl w) (.cells #[.int .i64 6, .string nm, .string ot, .slice Ab b.length cb, .int .i64 at_, .slice Ak ks.length ck] 31)
  have h0 := h.below hw0
  have hx0 := hx.up (Kp.of_below hw0 _) (fun _ hk => .inl hk)
  have hk0 := hk.up (Kp.of_below hw0 _) (fun _ hk => .inl hk)
  have hB0 := Nat.le_trans hB hw0.size
  have hr := Lib.hid (tr_any h0 hI hB0 nm hn at_)
  have H := Lib.hid h
  have HW := Lib.hid hw0
  clear h hx hk hw0 h0 hx0 hk0
  go_enter Try.func9, Try.ntmps9
  go_wp2_with fail
  refine hr.out.mono ?_
  rintro e w' ⟨rfl, L', st, e2⟩
  go_wp2_with fail
  go_ret
  exact Res.of H.out HW.out ⟨rfl, L', st, e2⟩
set_option maxHeartbeats 1000000 in
set_option maxRecDepth 100000 in
theorem doC {w : World} {B : Nat} {d : Value} {db mb cap : Nat} {L : List Fr} (h : DiskAt w B d db mb cap (total (L.map Fr.fl)) L) (hI : Inv cap (L.map Fr.fl)) (hL : L.length ≤ 1000000) (hB : B ≤ w.heap.size) (op : Int) (nm ot : ByteArray) (bx kx : Value) (b : List UInt8) (at_ : Int) (ks : List Int) (hx : RdS w (fp db mb L) bx b) (hk : RdV w (fp db mb L) kx (ks.map iv))
    (hb : b.length ≤ 1000000) (hn : nm.size ≤ 1000) (ho : ot.size ≤ 1000) (hkr : ∀ q ∈ ks, inR q) (h0o : op ≠ 0) (h1o : op ≠ 1) (h2o : op ≠ 2) (h3o : op ≠ 3) (h4o : op ≠ 4) (h6o : op ≠ 6) :
    Calls Try.prog 9 #[d, .agg #[.int .i64 op, .string nm, .string ot, bx, .int .i64 at_, kx]] w fun e w' => Res w w' B d db mb cap L (crash (L.map Fr.fl) ks, 0) e := by
  obtain rfl := h.hd
  obtain ⟨Ab, cb, rfl, hcb, hmb⟩ := hx.1.shapeM
  obtain ⟨Ak, ck, rfl, hck, hmk⟩ := hk.1.shapeM
  have hw0 := bwalloc (bwrefl w) (.cells #[.int .i64 op, .string nm, .string ot, .slice Ab b.length cb, .int .i64 at_, .slice Ak ks.length ck] 31)
  have h0 := h.below hw0
  have hx0 := hx.up (Kp.of_below hw0 _) (fun _ hk => .inl hk)
  have hk0 := hk.up (Kp.of_below hw0 _) (fun _ hk => .inl hk)
  have hB0 := Nat.le_trans hB hw0.size
  have hr := Lib.hid (cr_any h0 hI hL hB0 hk0 hkr)
  have H := Lib.hid h
  have HW := Lib.hid hw0
  have p0 := beq_eq_false_iff_ne.2 h0o
  have p1 := beq_eq_false_iff_ne.2 h1o
  have p2 := beq_eq_false_iff_ne.2 h2o
  have p3 := beq_eq_false_iff_ne.2 h3o
  have p4 := beq_eq_false_iff_ne.2 h4o
  have p6 := beq_eq_false_iff_ne.2 h6o
  clear h0o h1o h2o h3o h4o h6o
  clear h hx hk hw0 h0 hx0 hk0
  go_enter Try.func9, Try.ntmps9
  go_wp2_with fail
  refine hr.out.mono ?_
  rintro e w' ⟨rfl, L', st, e2⟩
  go_wp2_with fail
  go_ret
  exact Res.of H.out HW.out ⟨rfl, L', st, e2⟩
theorem do_any {w : World} {B : Nat} {d : Value} {db mb cap : Nat} {L : List Fr} (h : DiskAt w B d db mb cap (total (L.map Fr.fl)) L) (hI : Inv cap (L.map Fr.fl)) (hL : L.length ≤ 1000000) (hB : B ≤ w.heap.size) (x : AcV) (hx : RdS w (fp db mb L) x.bx x.a.b) (hk : RdV w (fp db mb L) x.kx (x.a.ks.map iv))
    (hb : x.a.b.length ≤ 1000000) (hn : x.a.nm.size ≤ 1000) (ho : x.a.ot.size ≤ 1000) (hkr : ∀ q ∈ x.a.ks, inR q) :
    Calls Try.prog 9 #[d, .agg (cells6 x).toArray] w fun e w' => Res w w' B d db mb cap L (doF cap x.a (L.map Fr.fl)) e := by
  obtain ⟨⟨op, nm, ot, b, at_, ks⟩, bx, kx⟩ := x
  show Calls Try.prog 9 #[d, .agg #[.int .i64 op, .string nm, .string ot, bx, .int .i64 at_, kx]] w fun e w' => Res w w' B d db mb cap L (doF cap ⟨op, nm, ot, b, at_, ks⟩ (L.map Fr.fl)) e
  unfold doF
  by_cases e0 : op = 0
  · subst e0; rw [if_pos rfl]; exact do0 h hI hL hB nm ot bx kx b at_ ks hx hk hb hn ho hkr
  rw [if_neg e0]
  by_cases e1 : op = 1
  · subst e1; rw [if_pos rfl]; exact do1 h hI hL hB nm ot bx kx b at_ ks hx hk hb hn ho hkr
  rw [if_neg e1]
  by_cases e2 : op = 2
  · subst e2; rw [if_pos rfl]; exact do2 h hI hL hB nm ot bx kx b at_ ks hx hk hb hn ho hkr
  rw [if_neg e2]
  by_cases e3 : op = 3
  · subst e3; rw [if_pos rfl]; exact do3 h hI hL hB nm ot bx kx b at_ ks hx hk hb hn ho hkr
  rw [if_neg e3]
  by_cases e4 : op = 4
  · subst e4; rw [if_pos rfl]; exact do4 h hI hL hB nm ot bx kx b at_ ks hx hk hb hn ho hkr
  rw [if_neg e4]
  by_cases e6 : op = 6
  · subst e6; rw [if_pos rfl]; exact do6 h hI hL hB nm ot bx kx b at_ ks hx hk hb hn ho hkr
  rw [if_neg e6]
  exact doC h hI hL hB op nm ot bx kx b at_ ks hx hk hb hn ho hkr e0 e1 e2 e3 e4 e6
end Go.Proofs.Ytblejjjifokmgaa
