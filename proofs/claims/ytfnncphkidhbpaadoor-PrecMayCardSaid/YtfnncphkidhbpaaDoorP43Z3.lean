import Derived.Test.YtfnncphkidhbpaaDoorP43Z2
/- The document's own Check of an order. -/

namespace Go.Proofs.YtfnncphkidhbpaaDoor

open Go.RowKit
set_option maxRecDepth 100000

/-- Is something wrong with the weight of symbol i? -/
def badX (s : Sm) (x v : Int) (h : Bool) : Bool := decide (x < 0) || decide (1000 < x) || (decide (s.arity = 0) && decide (x < v)) || (decide (s.arity = 1) && decide (x = 0) && !h)

def badW (l : List Sm) (o : Odr) (i : Nat) : Bool := match l[i]? with
  | none => false
  | some s => badX s (o.wts.getD i 0) o.var (highB o.prec i)

def chkW (l : List Sm) (o : Odr) : Bool := (List.range l.length).all fun i => !badW l o i

def chkO (l : List Sm) (o : Odr) : Int := if checkI l = 0 ∧ rankB o.prec l.length = true ∧ (o.lpo = true ∨ (o.wts.length = l.length ∧ 1 ≤ o.var ∧ o.var ≤ 1000 ∧ o.wts.getD 0 0 = o.var ∧ chkW l o = true)) then 0 else 2

theorem chkW_no {l : List Sm} {o : Odr} {i : Nat} (hi : i < l.length) (h : badW l o i = true) : chkW l o = false := by
  unfold chkW
  rw [List.all_eq_false]
  exact ⟨i, List.mem_range.2 hi, by rw [h]; decide⟩

theorem chkW_yes {l : List Sm} {o : Odr} (h : ∀ j, j < l.length → badW l o j = false) : chkW l o = true := by
  unfold chkW
  rw [List.all_eq_true]
  intro j hj
  rw [h j (List.mem_range.1 hj)]; rfl

theorem badW_at {l : List Sm} {o : Odr} {i : Nat} {s : Sm} {x : Int} (hs : l[i]? = some s) (hx : o.wts[i]? = some x) : badW l o i = badX s x o.var (highB o.prec i) := by
  unfold badW; rw [hs]; show badX s (o.wts.getD i 0) o.var _ = _; rw [getD_of hx]

theorem chk_some {l : List Sm} (h : checkI l = 0) : 0 < l.length := by
  rcases Nat.eq_zero_or_pos l.length with h0 | h0
  · have : l = [] := List.eq_nil_of_length_eq_zero h0
    subst this; exact absurd h (by decide)
  · exact h0

theorem box_so {w W : World} {o : Odr} {As P Q : Option Addr} {n cs pc qc : Nat} (hW : (w.alloc (.cells #[.slice As n cs] 29)).alloc (.cells #[.bool o.lpo, .slice P o.prec.length pc, .slice Q o.wts.length qc, .int .i64 o.var] 24) = W) :
    Below w.heap.size w W ∧ W.heap.size = w.heap.size + 2 ∧ ∀ w', Below W.heap.size W w' → w'.cell? ⟨w.heap.size, 0, none⟩ = some (.slice As n cs) ∧ w'.cell? ⟨w.heap.size + 1, 0, none⟩ = some (.bool o.lpo) ∧ w'.cell? ⟨w.heap.size + 1, 1, none⟩ = some (.slice P o.prec.length pc) ∧ w'.cell? ⟨w.heap.size + 1, 2, none⟩ = some (.slice Q o.wts.length qc) ∧ w'.cell? ⟨w.heap.size + 1, 3, none⟩ = some (.int .i64 o.var) := by
  obtain ⟨q0, q1⟩ := heap2 w (.cells #[.slice As n cs] 29) (.cells #[.bool o.lpo, .slice P o.prec.length pc, .slice Q o.wts.length qc, .int .i64 o.var] 24)
  rw [hW] at q0 q1
  have hz : W.heap.size = w.heap.size + 2 := by rw [← hW]; simp
  refine ⟨by rw [← hW]; exact ((Below.refl _ _).alloc (Nat.le_refl _) _).alloc (by simp) _, hz, fun w' hb => ?_⟩
  obtain ⟨a0, _⟩ := cells_one ((hb.block _ (by omega)).trans q0)
  obtain ⟨b0, b1, b2, b3⟩ := cells_four ((hb.block _ (by omega)).trans q1)
  exact ⟨a0, b0, b1, b2, b3⟩

end Go.Proofs.YtfnncphkidhbpaaDoor

