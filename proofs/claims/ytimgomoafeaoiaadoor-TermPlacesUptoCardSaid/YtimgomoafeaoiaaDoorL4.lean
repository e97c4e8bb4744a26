/- What the rows' list of variables gives a walk: $true's cells. -/
import Derived.Test.YtimgomoafeaoiaaDoorCards
import Derived.Test.YtimgomoafeaoiaaDoorW6
import Derived.Test.YtimgomoafeaoiaaDoorL2
import Derived.WalkKit
import Derived.ProofKit
import Derived.OpenShut
import Derived.Deep.DeepHandedRow
import Derived.Lib.LaidTab
import Derived.MakeChecks
namespace Go.Proofs.YtimgomoafeaoiaaDoor
open Go.ChangeShapes Go.WideShapes Go.ChangeAt Go.RowKit

theorem own : ownKnob Tryd.prog.godebug = none := by kernel_rfl
theorem gTruth : Tryd.prog.globalNamed "syllogism/sign.truth" = some 0 := by kernel_rfl
theorem gTruthType : (Tryd.prog.globals[0]?).map (·.type) = some 59 := by kernel_rfl

theorem cell_spot' {W : World} {b o : Nat} {v : Value} (h : W.cell? ⟨b, o, none⟩ = some v) : b < W.heap.size := by
  unfold World.cell? at h
  rcases Nat.lt_or_ge b W.heap.size with h1 | h1
  · exact h1
  · simp [Array.getElem?_eq_none h1] at h

/-- WHAT THE ROW's LIST GIVES: $true's cells. -/
theorem tru_of_laid {W : World} {rest : List (String × DataW Unit)} (h : laidMet Tryd.prog (("syllogism/sign.truth", Rows.laid_syllogism_sign_truth) :: rest) W) : tru W := by
  obtain ⟨ps, ⟨g', t', cs, fuel, p, q, hg', ht', hvar, hd, _, _⟩, _⟩ := h
  obtain rfl := Option.some.inj (gTruth.symm.trans hg')
  obtain rfl := Option.some.inj (gTruthType.symm.trans ht')
  obtain ⟨s, hcs, _, hx⟩ := trod_sym hd
  have hs : s = truthSm := by
    obtain ⟨a, b, c⟩ := s
    simp [Rows.laid_syllogism_sign_truth] at hx
    obtain ⟨h1, rfl, rfl⟩ := hx
    have : a = truthS := ByteArray.ext (Array.toList_inj.1 h1.symm)
    rw [this]
    rfl
  subst hs
  have hc0 := World.var?_cell hg' hvar 0
  have hc1 := World.var?_cell hg' hvar 1
  have hc2 := World.var?_cell hg' hvar 2
  obtain ⟨cl⟩ := cs
  simp only at hcs
  subst hcs
  refine ⟨hc0, hc1, hc2, ?_⟩
  have := cell_spot' hc0
  exact this

end Go.Proofs.YtimgomoafeaoiaaDoor
