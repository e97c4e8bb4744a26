/- Depth, Ground. -/
import Derived.Test.YtimgomoafeaoiaaDoorR5
import Derived.Test.YtimgomoafeaoiaaDoorD1
namespace Go.Proofs.YtimgomoafeaoiaaDoor
open Go.RowKit Go.Shelf
attribute [local go_sem] Oper.semAt_some
set_option maxRecDepth 100000

/-- The longest place of these, and one more. -/
def maxP : List (List Int × Tm) → Nat
  | [] => 0
  | x :: l => max (1 + x.1.length) (maxP l)
theorem maxP_app : ∀ (a b : List (List Int × Tm)), maxP (a ++ b) = max (maxP a) (maxP b)
  | [], b => by simp [maxP]
  | x :: a, b => by simp only [List.cons_append, maxP, maxP_app a b]; omega
theorem maxP_vis (t : Tm) : ∀ p, maxP (vis p t) = p.length + t.depth := by
  have key : ∀ xs : List Tm, (∀ t ∈ xs, ∀ p, maxP (vis p t) = p.length + t.depth) → ∀ (p : List Int) (i : Nat), maxP (visL p i xs) = if xs = [] then 0 else p.length + 1 + depths xs := by
    intro xs
    induction xs with
    | nil => intro _ p i; simp [visL, maxP]
    | cons x xs ih =>
      intro h p i
      have h1 := h x (by simp) (p ++ [(i : Int)])
      have h2 := ih (fun t ht => h t (by simp [ht])) p (i + 1)
      simp only [visL, maxP_app, h1, h2, depths, List.length_append, List.length_cons, List.length_nil]
      rw [if_neg (show ¬ (x :: xs = []) by simp)]
      have := depth_pos x
      by_cases e : xs = []
      · rw [if_pos e, e]; simp only [depths]; omega
      · rw [if_neg e]; omega
  refine Tm.ind (P := fun t => ∀ p, maxP (vis p t) = p.length + t.depth) (fun f xs ih p => ?_) t
  simp only [vis, Tm.depth, maxP, key xs ih]
  by_cases e : xs = []
  · rw [if_pos e, e]; simp only [depths]; omega
  · rw [if_neg e]; omega
theorem maxP_mem {l : List (List Int × Tm)} {x : List Int × Tm} (h : x ∈ l) : 1 + x.1.length ≤ maxP l := by
  induction l with
  | nil => simp at h
  | cons y l ih =>
    simp only [List.mem_cons] at h
    simp only [maxP]
    rcases h with rfl | h
    · omega
    · have := ih h; omega
theorem maxP_pre {t : Tm} {pre : List Vis} (h : pre.map Vis.key <+: vis [] t) : maxP (pre.map Vis.key) ≤ maxP (vis [] t) := by
  obtain ⟨r, hr⟩ := h
  rw [← hr, maxP_app]; omega
theorem pre_mem {t : Tm} {pre : List Vis} {x : Vis} (h : (pre ++ [x]).map Vis.key <+: vis [] t) : x.key ∈ vis [] t := h.subset (by simp)