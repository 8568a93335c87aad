/- What a message's bytes read as: plain. -/
import Derived.Test.YtpmlfhgdhnofbaaMsP
import Derived.Test.YtpmlfhgdhnofbaaSlI
namespace Go.Proofs.Ytpmlfhgdhnofbaa.Ce
open Go.RowKit
def tx (l : List UInt8) : ByteArray := if textOk l then ⟨(textOf l).toArray⟩ else ⟨#[]⟩
def txr (l : List UInt8) : List UInt8 := if textOk l then textRest l else []
def txs (l : List UInt8) : List ByteArray := if 4 ≤ l.length then (match takeTexts (numOf l) (l.drop 4) with
 | some (a, _) => a
 | none => []) else []
noncomputable def vof (s : List UInt8) : Vt := @ite _ (IsVt s (gotV s)) (Classical.propDecidable _) (gotV s) Vt.zero
theorem Says.vof {s : List UInt8} {n : Int} {c : Vt} {k : Bool} (h : Says s n c k) : c = vof s := by
 unfold Ce.vof
 cases h with
 | prom _ h => rw [if_neg fun h' => pr_not_vt h h']
 | vote _ h =>
  have e := ((gotV_iff s c).1 h).1
  rw [← e, if_pos h]
 | none h1 h2 => rw [if_neg (h2 _)]
theorem vof_put {c : Vt} (h : c.Right) : vof (vtT c).data.toList = c := (Says.vof (Says.put h)).symm
theorem vof_nil : vof [] = Vt.zero := by
 unfold vof
 rw [if_neg]
 intro h
 have h1 := vtB_len (gotV [])
 rw [← h.2] at h1
 simp at h1
 omega
noncomputable def rdH (l : List UInt8) : Mh := ⟨hd l, hd (l.drop 4), hd (l.drop 8), hd (l.drop 12), hd (l.drop 16), vof (tx (l.drop 20)).data.toList⟩
noncomputable def rdM (l : List UInt8) : Ms := ⟨rdH l, (txs (txr (l.drop 20))).map fun t => vof t.data.toList⟩
theorem tx_le (l : List UInt8) : (tx l).size ≤ l.length := by
 unfold tx
 split
 ·show (textOf l).toArray.size ≤ _
  rw [List.size_toArray]
  unfold textOf
  rw [List.length_take, List.length_drop]
  omega
 ·exact Nat.zero_le _
theorem txr_le (l : List UInt8) : (txr l).length ≤ l.length := by
 unfold txr
 split
 ·exact textRest_len l
 ·exact Nat.zero_le _
theorem takeTexts_le : ∀ {k : Nat} {b m : List UInt8} {acc : List ByteArray}, takeTexts k b = some (acc, m) → m.length ≤ b.length ∧ ∀ t ∈ acc, t.size ≤ b.length
 | 0, b, m, acc, h => by
  unfold takeTexts at h
  injection h with h
  injection h with h1 h2
  subst h1 h2
  exact ⟨Nat.le_refl _, fun t ht => by cases ht⟩
 | k + 1, b, m, acc, h => by
  unfold takeTexts at h
  cases hk : takeTexts k b with
  | none => rw [hk] at h; cases h
  | some p =>
   obtain ⟨a, q⟩ := p
   rw [hk] at h
   simp only at h
   obtain ⟨h1, h2⟩ := takeTexts_le hk
   by_cases ht : textOk q
   ·rw [if_pos ht] at h
    injection h with h
    injection h with h3 h4
    subst h3 h4
    refine ⟨Nat.le_trans (textRest_len q) h1, fun t hm => ?_⟩
    rcases List.mem_append.1 hm with hm | hm
    ·exact h2 t hm
    ·rw [List.mem_singleton.1 hm]
     have := tx_le q
     unfold tx at this
     rw [if_pos ht] at this
     exact Nat.le_trans this h1
   ·rw [if_neg ht] at h
    cases h
theorem txs_le (l : List UInt8) : (txs l).length ≤ l.length ∧ ∀ t ∈ txs l, t.size ≤ l.length := by
 unfold txs
 split
 ·split
  ·rename_i a m h
   have h1 := takeTexts_len h
   have h2 := (takeTexts_le h).2
   rw [List.length_drop] at h1 h2
   exact ⟨by omega, fun t ht => by have := h2 t ht; omega⟩
  ·exact ⟨Nat.zero_le _, fun t ht => by cases ht⟩
 ·exact ⟨Nat.zero_le _, fun t ht => by cases ht⟩
theorem hd_num {n : Int} (h : 0 ≤ n ∧ n ≤ 4294967295) (m : List UInt8) : hd (numB n.toNat ++ m) = n := by
 unfold hd
 rw [if_pos (by rw [List.length_append, numB_len]; omega), Frm.numOf_numB _ (by omega)]
 omega
theorem tx_put (s : ByteArray) (h : s.size ≤ 4294967295) (m : List UInt8) : tx (textB s ++ m) = s := by
 unfold tx
 rw [if_pos (textOk_textB s h m), textOf_textB s h m]
theorem txr_put (s : ByteArray) (h : s.size ≤ 4294967295) (m : List UInt8) : txr (textB s ++ m) = m := by
 unfold txr
 rw [if_pos (textOk_textB s h m), textRest_textB s h m]
theorem txs_put (l : List ByteArray) (h0 : l.length ≤ 4294967295) (h : ∀ s ∈ l, s.size ≤ 4294967295) : txs (textsB l) = l := by
 have h1 := takeTexts_textsB l h0 h []
 rw [List.append_nil] at h1
 unfold txs
 rw [if_pos (by rw [textsB_len]; omega), h1]
theorem rdM_put {m : Ms} (h : m.Right) : rdM (msgR m) = m := by
 have hn := h.nums
 have n0 := hn m.h.kind (by simp [msN])
 have n1 := hn m.h.fr (by simp [msN])
 have n2 := hn m.h.to_ (by simp [msN])
 have n3 := hn m.h.ballot (by simp [msN])
 have n4 := hn m.h.slot (by simp [msN])
 have hv := h.voteT_le
 have hV : ∀ c ∈ m.votes, c.Right := fun c hc => (h.votes.1 c hc).1
 have e : ∀ X : List UInt8, numsB (msN m.h) ++ X = numB m.h.kind.toNat ++ (numB m.h.fr.toNat ++ (numB m.h.to_.toNat ++ (numB m.h.ballot.toNat ++ (numB m.h.slot.toNat ++ X)))) := fun X => by simp [numsB, msN, List.append_assoc]
 unfold rdM rdH msgR
 rw [e]
 generalize hX : textB (voteT m.h) ++ textsB (m.votes.map vtT) = X
 rw [numB_drop _ _ 0, numB_drop _ _ 4, numB_drop _ _ 0, numB_drop _ _ 8, numB_drop _ _ 4, numB_drop _ _ 0, numB_drop _ _ 12, numB_drop _ _ 8, numB_drop _ _ 4, numB_drop _ _ 0, numB_drop _ _ 16, numB_drop _ _ 12, numB_drop _ _ 8, numB_drop _ _ 4, numB_drop _ _ 0]
 simp only [List.drop_zero]
 rw [hd_num n0, hd_num n1, hd_num n2, hd_num n3, hd_num n4, ← hX, tx_put _ (by omega), txr_put _ (by omega), txs_put _ (by have := h.votes.len; rw [List.length_map]; omega) (fun s hs => by
  obtain ⟨c, hc, rfl⟩ := List.mem_map.1 hs
  have := (hV c hc).short
  omega), List.map_map]
 have hvv : vof (voteT m.h).data.toList = m.h.vote := by
  unfold voteT
  by_cases hk : m.h.kind = 3
  ·rw [if_pos hk]
   exact vof_put (h.vote hk).1
  ·rw [if_neg hk, h.k3 hk]
   exact vof_nil
 rw [hvv]
 have hmm : m.votes.map ((fun t : ByteArray => vof t.data.toList) ∘ vtT) = m.votes := by
  conv => rhs; rw [← List.map_id m.votes]
  exact List.map_congr_left fun c hc => vof_put (hV c hc)
 rw [hmm]
end Go.Proofs.Ytpmlfhgdhnofbaa.Ce
