/- A row of numbers that is an argument. -/
import Derived.Test.YtimgomoafeaoiaaDoorT6
import Derived.Test.YtimgomoafeaoiaaDoorL2
import Derived.ChangeSlices
namespace Go.Proofs.YtimgomoafeaoiaaDoor
open Go.ChangeShapes Go.WideShapes Go.ChangeAt Go.RowKit
set_option maxRecDepth 100000
variable {H : Type} {enc : TypeId × Value → H} {W : World} {base : Nat} {held : Bool}

theorem open_pos {r : Reach} {b0 : Nat} {v : Value} {d : DataW H} {ps : List MemPlace} (hv : Value.okWide Tryd.prog W r b0 26 v) (h : DataW.Trod enc Tryd.prog W base (fun _ => true) held 26 v d ps) :
    ∃ (p : List Int) (A : Option Addr) (c : Nat), v = .slice A p.length c ∧ p.length ≤ c ∧ c ≤ 9223372036854775807 ∧ Ints W W.heap.size A p := by
  obtain ⟨a, len, cap, rfl⟩ := okWide_slice Tryd.underlying26 hv
  obtain ⟨fuel, hf⟩ := h
  rcases open_ints Tryd.underlying26 Tryd.underlying3 cellsInt hf with ⟨hcs, _⟩ | ⟨ad, n, cp, zs, hcs, _, hn, hmax, hzl, _, hcell, hwf⟩
  · have hcs' : [Value.slice a len cap] = [.slice none 0 0] := hcs
    injection hcs' with hcs' _
    injection hcs' with e1 e2 e3
    subst e1; subst e2; subst e3
    exact ⟨[], none, 0, rfl, Nat.le_refl _, by omega, ⟨by simp, by simp, fun h => by simp at h⟩⟩
  · have hcs' : [Value.slice a len cap] = [.slice (some ad) n cp] := hcs
    injection hcs' with hcs' _
    injection hcs' with e1 e2 e3
    subst e1; subst e2; subst e3
    simp only [if_true] at hzl
    have hl : (zs.take len).length = len := by rw [List.length_take]; omega
    refine ⟨zs.take len, some ad, cap, by rw [hl], by omega, by unfold maxLen at hmax; omega, ⟨by unfold maxLen at hmax; omega, fun x hx => ?_, fun hpos => ?_⟩⟩
    · have := hwf x (List.mem_of_mem_take hx)
      simp [Lit.wf, IntKind.min, IntKind.max, IntKind.signed, IntKind.bits] at this
      exact this
    · have c0 := hcell 0 (by omega)
      obtain ⟨blk, off, spot⟩ := ad
      simp only [Addr.add, if_true] at c0
      obtain rfl : spot = none := cell_spot c0
      refine ⟨blk, off, rfl, World.block_lt_of_cell? W _ c0, fun i x hi => ?_⟩
      have hil := (List.getElem?_eq_some_iff.1 hi).1
      have h1 := hcell i (by omega)
      rw [Addr.add_lit] at h1
      rw [h1]
      rw [List.getElem?_take] at hi
      split at hi
      · rw [List.getD_eq_getElem?_getD, hi]; rfl
      · cases hi
end Go.Proofs.YtimgomoafeaoiaaDoor
