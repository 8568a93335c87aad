/- '!=' of two cells. -/
import Derived.Test.YtpflcnndloielaaCl
namespace Go.Proofs.Ytpflcnndloielaa.Ce
open Go.RowKit

set_option maxRecDepth 100000 in
theorem run_equalC (a b : Cl) (w : World) : (Op.equalIn 10000 46 (.agg a.cs) (.agg b.cs)).run Try.prog w = .ok (decide (a = b)) w := by
  have h := run_eqC (.tmp 0) (.tmp 0) a b w
  unfold Cl.v at h
  rw [Sem.run_bind, run_eqGuard_agg w _ _ _ _ _ _ guardC, Result.andThen_ok, run_eql_struct] at h
  cases hq : (Op.equalIn 10000 46 (.agg a.cs) (.agg b.cs)).run Try.prog w with
  | ok v w' =>
    rw [hq, Result.andThen_ok] at h
    injection h with h1 h2
    injection h1 with h1
    rw [h1, h2]
  | halt x w' =>
    rw [hq] at h
    cases h
theorem run_neC (x y : Operand) (a b : Cl) (w : World) : ((do eqGuard .neq 46 x y a.v b.v; binOp .neq 46 a.v b.v) : Sem Value).run Try.prog w = .ok (.bool (!decide (a = b))) w := by
  unfold Cl.v
  rw [Sem.run_bind, run_eqGuard_agg w _ _ _ _ _ _ guardC, Result.andThen_ok, run_neq_struct, run_equalC, Result.andThen_ok]
section
variable {ops : Array Oper} {rest : List Oper} {o : Oper} {a : Act} {w : World} {K0 : Act → World → Prop} {Q : Exit → Act → World → Prop}
theorem wp_neC (x y : Operand) (T' : TypeId) (ho : o.op = .binOp .neq 46 x y T') (c d : Cl) (hx : a.eval x = c.v) (hy : a.eval y = d.v) {b : Bool} (hb : (!decide (c = d)) = b)
    (h : K0 (a.put o.dst (.bool b)) w) : o.wp Try.prog a w K0 Q := by
  subst hb
  have e := run_neC x y c d w
  rw [Sem.run_bind] at e
  unfold Oper.wp execOp
  simp only [ho, hx, hy, Sem.run_bind, Sem.run_pure]
  revert e
  cases (eqGuard .neq 46 x y c.v d.v).run Try.prog w with
  | ok u w1 =>
    simp only [Result.andThen_ok]
    intro e
    rw [e]
    exact h
  | halt u w1 => intro e; cases e
theorem neC (hw : Region.wanted o (yielded ops a.tmps) = true) (x y : Operand) (T' : TypeId) (ho : o.op = .binOp .neq 46 x y T') (c d : Cl) (hx : a.eval x = c.v) (hy : a.eval y = d.v) {b : Bool} (hb : (!decide (c = d)) = b)
    (h : wpList Try.prog ops Q rest (a.put o.dst (.bool b)) w) : wpList Try.prog ops Q (o :: rest) a w := by
  refine wpList_step fun K hK => ?_
  rw [if_pos hw]
  exact wp_neC x y T' ho c d hx hy hb (hK _ _ h)
end
end Go.Proofs.Ytpflcnndloielaa.Ce
