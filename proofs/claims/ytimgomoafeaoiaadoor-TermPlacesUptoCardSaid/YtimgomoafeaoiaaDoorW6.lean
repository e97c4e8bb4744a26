/- slices.Index, Equal, Clone at symbols; Find, Same, New. -/
import Derived.Test.YtimgomoafeaoiaaDoorW4
import Derived.Deep.RegionHeld3
namespace Go.Proofs.YtimgomoafeaoiaaDoor
open Go.RowKit

def findN (l : List Sm) (x : Sm) : Int := if atI l x < 0 then 0 else atI l x
def findB (l : List Sm) (x : Sm) : Bool := decide (0 ≤ atI l x)
theorem ret_ib {k : IntKind} {a a' : Int} {b b' : Bool} (h : a = a') (h' : b = b') : Ending.returned (.tuple #[.int k a, .bool b]) = .returned (.tuple #[.int k a', .bool b']) := by rw [h, h']

theorem syms_one (w : World) (x : Sm) (hx : x.Ok) (t : TypeId) : Syms (w.alloc (.cells #[.string x.name, .int .i64 x.arity, .bool x.pred] t)) (w.heap.size + 1) (some ⟨w.heap.size, 0, none⟩) 1 [x] := by
  refine ⟨rfl, fun y hy => ?_, fun _ => ⟨w.heap.size, 0, rfl, by omega, fun i y hy => ?_⟩⟩
  · rw [List.mem_singleton] at hy; subst hy; exact hx
  · have hi : i = 0 := by
      have := (List.getElem?_eq_some_iff.1 hy).1
      simp at this; exact this
    subst hi
    simp at hy
    subst hy
    refine ⟨?_, ?_, ?_⟩ <;> go_simp

def tru (w : World) : Prop := w.cell? ⟨0, 0, none⟩ = some (.string truthSm.name) ∧ w.cell? ⟨0, 1, none⟩ = some (.int .i64 truthSm.arity) ∧ w.cell? ⟨0, 2, none⟩ = some (.bool truthSm.pred) ∧ 0 < w.heap.size
theorem tru_on {B : Nat} {w w' : World} (h : tru w) (hb : Below B w w') (hB : 0 < B) : tru w' := by
  obtain ⟨h1, h2, h3, h4⟩ := h
  exact ⟨cell_on hb hB h1, cell_on hb hB h2, cell_on hb hB h3, Nat.lt_of_lt_of_le h4 hb.size⟩
theorem tru_below {w w' : World} (h : tru w) (hb : Below w.heap.size w w') : tru w' := tru_on h hb h.2.2.2