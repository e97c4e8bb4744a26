/- Ground. -/
import Derived.Test.YtimgomoafeaoiaaDoorM2
namespace Go.Proofs.YtimgomoafeaoiaaDoor
open Go.RowKit Go.Shelf
attribute [local go_sem] Oper.semAt_some
set_option maxRecDepth 100000

/-- The variables' numbers that stand in these, in order. -/
def vnums : List (List Int × Tm) → List Int
  | [] => []
  | x :: l => if x.2.fn < 0 then (-1 - x.2.fn) :: vnums l else vnums l
theorem vnums_app : ∀ (a b : List (List Int × Tm)), vnums (a ++ b) = vnums a ++ vnums b
  | [], b => by simp [vnums]
  | x :: a, b => by
    simp only [List.cons_append, vnums, vnums_app a b]
    split <;> simp
theorem vnums_snoc_neg {pre : List Vis} {x : Vis} (h : x.t.fn < 0) : vnums ((pre ++ [x]).map Vis.key) = vnums (pre.map Vis.key) ++ [-1 - x.t.fn] := by
  rw [List.map_append, vnums_app]
  simp only [List.map_cons, List.map_nil, vnums, Vis.key, if_pos h]
theorem vnums_snoc_pos {pre : List Vis} {x : Vis} (h : ¬ x.t.fn < 0) : vnums ((pre ++ [x]).map Vis.key) = vnums (pre.map Vis.key) := by
  rw [List.map_append, vnums_app]
  simp only [List.map_cons, List.map_nil, vnums, Vis.key, if_neg h, List.append_nil]
theorem vnums_pre {t : Tm} {pre : List Vis} (h : pre.map Vis.key <+: vis [] t) : vnums (pre.map Vis.key) <+: vnums (vis [] t) := by
  obtain ⟨r, hr⟩ := h
  rw [← hr, vnums_app]
  exact List.prefix_append _ _
theorem stp_alloc {N P : Nat → Prop} (W : World) (o : Obj) (hN : ∀ g, N g → g < W.heap.size) : Stp N (fun _ => P) W (W.alloc o) :=
  ⟨(Keeps.alloc W o).mono fun g hg => hg.elim (hN g) (fun e => e.1), fun _ e => .inl e⟩