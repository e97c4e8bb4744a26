/- Size. -/
import Derived.Test.YtdeegdndfblnkaaR4
namespace Go.Proofs.Ytdeegdndfblnkaa
open Go.RowKit Go.Shelf
attribute [local go_sem] Oper.semAt_some
set_option maxRecDepth 100000

theorem vis_len (t : Tm) : ∀ p, (vis p t).length = t.size := by
  have key : ∀ xs : List Tm, (∀ t ∈ xs, ∀ p, (vis p t).length = t.size) → ∀ (p : List Int) (i : Nat), (visL p i xs).length = sizes xs := by
    intro xs
    induction xs with
    | nil => intro _ p i; simp [visL, sizes]
    | cons x xs ih =>
      intro h p i
      simp only [visL, sizes, List.length_append, h x (by simp), ih (fun t ht => h t (by simp [ht]))]
  refine Tm.ind (P := fun t => ∀ p, (vis p t).length = t.size) (fun f xs ih p => ?_) t
  simp only [vis, Tm.size, List.length_cons, key xs ih]
theorem pre_len {t : Tm} {pre : List Vis} (h : pre.map Vis.key <+: vis [] t) : pre.length ≤ t.size := by
  have := h.length_le
  rw [vis_len, List.length_map] at this
  exact this
/-- What a range's record turns, where a body's cells are asked. -/
theorem put_block {W : World} {l g : Nat} {r : Loop} {o : Obj} {cs : Array Value} {t : TypeId} {z : Nat × Nat} (h : W.heap[g]? = some (.cells cs t z)) (hl : W.heap[l]? = some (.loop r)) : (W.putObj l o).heap[g]? = some (.cells cs t z) :=
  (World.putObj_heap_other (fun e => by subst e; rw [h] at hl; cases hl)).trans h