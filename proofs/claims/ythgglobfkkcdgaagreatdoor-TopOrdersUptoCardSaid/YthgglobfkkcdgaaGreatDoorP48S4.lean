import Derived.Test.YthgglobfkkcdgaaGreatDoorP48S3
namespace Go.Proofs.YthgglobfkkcdgaaGreatDoor
open Go.RowKit
set_option maxRecDepth 100000
def badX (s : Sm) (x v : Int) (h : Bool) : Bool := decide (x < 0) || decide (1000 < x) || (decide (s.arity = 0) && decide (x < v)) || (decide (s.arity = 1) && decide (x = 0) && !h)
def badW (l : List Sm) (o : Odr) (i : Nat) : Bool := match l[i]? with
  | none => false
  | some s => badX s (o.wts.getD i 0) o.var (highB o.prec i)
def chkW (l : List Sm) (o : Odr) : Bool := (List.range l.length).all fun i => !badW l o i
def chkO (l : List Sm) (o : Odr) : Int := if checkI l = 0 ∧ rankB o.prec l.length = true ∧ (o.lpo = true ∨ (o.wts.length = l.length ∧ 1 ≤ o.var ∧ o.var ≤ 1000 ∧ o.wts.getD 0 0 = o.var ∧ chkW l o = true)) then 0 else 2
theorem chkW_yes {l : List Sm} {o : Odr} (h : ∀ j, j < l.length → badW l o j = false) : chkW l o = true := by
  unfold chkW
  rw [List.all_eq_true]
  intro j hj
  rw [h j (List.mem_range.1 hj)]; rfl
theorem badW_at {l : List Sm} {o : Odr} {i : Nat} {s : Sm} {x : Int} (hs : l[i]? = some s) (hx : o.wts[i]? = some x) : badW l o i = badX s x o.var (highB o.prec i) := by
  unfold badW; rw [hs]; show badX s (o.wts.getD i 0) o.var _ = _; rw [getD_of hx]
theorem chk_some {l : List Sm} (h : checkI l = 0) : 0 < l.length := by
  rcases Nat.eq_zero_or_pos l.length with h0 | h0
  · have : l = [] := List.eq_nil_of_length_eq_zero h0
    subst this; exact absurd h (by decide)
  · exact h0
end Go.Proofs.YthgglobfkkcdgaaGreatDoor
