/- clone. -/
import Derived.Test.YtdeegdndfblnkaaT4
import Derived.OwnWalk
import Derived.Deep.RegionHeld3
namespace Go.Proofs.Ytdeegdndfblnkaa
open Go.RowKit
set_option maxRecDepth 100000

theorem heap3 (w : World) (o1 o2 o3 : Obj) : (((w.alloc o1).alloc o2).alloc o3).heap[w.heap.size]? = some o1 ∧ (((w.alloc o1).alloc o2).alloc o3).heap[w.heap.size + 1]? = some o2 ∧ (((w.alloc o1).alloc o2).alloc o3).heap[w.heap.size + 1 + 1]? = some o3 := by
  have e1 : (w.alloc o1).heap.size = w.heap.size + 1 := by simp
  have e2 : ((w.alloc o1).alloc o2).heap.size = w.heap.size + 1 + 1 := by simp
  refine ⟨?_, ?_, ?_⟩
  · rw [Below.heap_alloc _ _ _ (by omega), Below.heap_alloc _ _ _ (by omega)]
    exact heap_alloc_new w o1
  · rw [Below.heap_alloc _ _ _ (by omega), ← e1]
    exact heap_alloc_new _ o2
  · rw [← e2]
    exact heap_alloc_new _ o3
theorem cell_set2 {W : World} {b b' o o1 o2 : Nat} {u v x : Value} (h : W.cell? ⟨b, o, none⟩ = some x) (hb : b ≠ b') : ((W.setCell ⟨b', o1, none⟩ u).setCell ⟨b', o2, none⟩ v).cell? ⟨b, o, none⟩ = some x := by
  have e : ((W.setCell ⟨b', o1, none⟩ u).setCell ⟨b', o2, none⟩ v).heap[b]? = W.heap[b]? := (heap_setCell_other _ _ _ _ hb).trans (heap_setCell_other _ _ _ _ hb)
  rw [← h]
  simp only [World.cell?, e]
theorem cells_two {W : World} {b : Nat} {x y : Value} {t : TypeId} (h : W.heap[b]? = some (.cells #[x, y] t)) : W.cell? ⟨b, 0, none⟩ = some x ∧ W.cell? ⟨b, 1, none⟩ = some y ∧ W.frozen? ⟨b, 0, none⟩ = false ∧ W.frozen? ⟨b, 1, none⟩ = false := by
  refine ⟨?_, ?_, ?_, ?_⟩ <;> simp [World.cell?, World.frozen?, h]