/- A signature that may be: what its check tells. -/
import Derived.Test.YtimgomoafeaoiaaDoorW5
namespace Go.Proofs.YtimgomoafeaoiaaDoor
open Go.RowKit

theorem chk_scan {l : List Sm} (h : scanI l = 0) : ∀ j, 1 ≤ j → j < l.length → errAt l j = 0 := by
  unfold scanI at h
  split at h
  · rename_i j hj
    have := List.find?_some hj
    simp [h] at this
  · rename_i hn
    rw [List.find?_eq_none] at hn
    intro j h1 h2
    have := hn j (List.mem_range.2 h2)
    simpa [h1] using this
theorem chk_one {l : List Sm} (h : checkI l = 0) : l.length ≤ 96 ∧ l[0]? = some truthSm ∧ ∀ i x, 1 ≤ i → l[i]? = some x → namedB x.name = true ∧ 0 ≤ x.arity ∧ x.arity ≤ 6 := by
  unfold checkI at h
  split at h
  · cases h
  · rename_i h96
    split at h
    · cases h
    · rename_i h0
      have hs := chk_scan h
      refine ⟨by omega, Classical.not_not.1 h0, fun i x h1 hx => ?_⟩
      have := hs i h1 (List.getElem?_eq_some_iff.1 hx).1
      unfold errAt at this
      rw [hx] at this
      simp only at this
      have h1 : oneI x.name x.arity = 0 := by
        split at this
        · assumption
        · rename_i hz; simpa using hz
      unfold oneI at h1
      split at h1
      · cases h1
      · rename_i hn
        split at h1
        · cases h1
        · rename_i hr
          exact ⟨by simpa using hn, by omega, by omega⟩
theorem chk_names {l : List Sm} (h : checkI l = 0) : ∀ s ∈ l, s.name.size ≤ 40 := by
  obtain ⟨_, h0, h1⟩ := chk_one h
  intro s hs
  obtain ⟨i, hi⟩ := List.mem_iff_getElem?.1 hs
  cases i with
  | zero =>
    rw [h0] at hi
    cases hi
    decide
  | succ i =>
    have := (h1 (i + 1) s (by omega) hi).1
    simp [namedB] at this
    exact this.1.2
end Go.Proofs.YtimgomoafeaoiaaDoor
