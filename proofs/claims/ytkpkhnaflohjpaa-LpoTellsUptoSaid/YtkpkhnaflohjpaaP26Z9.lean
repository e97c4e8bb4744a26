import Derived.Test.YtkpkhnaflohjpaaP26Z1
import Derived.Deep.RegionHeld3
/- The plain check of a signature. -/

namespace Go.Proofs.Ytkpkhnaflohjpaa

open Go.RowKit

/-- What is wrong at place i (from 1 on): 0 if nothing. -/
def errAt (l : List Sm) (i : Nat) : Int :=
  match l[i]? with
  | none => 0
  | some x => if oneI x.name x.arity ≠ 0 then oneI x.name x.arity else if atI l x < i then 113 else 0

def scanI (l : List Sm) : Int := match (List.range l.length).find? (fun j => decide (1 ≤ j) && !decide (errAt l j = 0)) with
  | some j => errAt l j
  | none => 0

def checkI (l : List Sm) : Int := if 96 < l.length then 3 else if l[0]? ≠ some truthSm then 110 else scanI l

theorem scan_hit {l : List Sm} {k : Nat} (hk : 1 ≤ k) (hl : k < l.length) (hv : errAt l k ≠ 0) (h : ∀ j, 1 ≤ j → j < k → errAt l j = 0) : scanI l = errAt l k := by
  have : (List.range l.length).find? (fun j => decide (1 ≤ j) && !decide (errAt l j = 0)) = some k := by
    rw [List.find?_range_eq_some]
    refine ⟨by simp [hk, hv], List.mem_range.2 hl, fun j hj => ?_⟩
    by_cases h1 : 1 ≤ j
    · simp [h j h1 hj]
    · simp [h1]
  simp [scanI, this]

theorem scan_miss {l : List Sm} (h : ∀ j, 1 ≤ j → j < l.length → errAt l j = 0) : scanI l = 0 := by
  have : (List.range l.length).find? (fun j => decide (1 ≤ j) && !decide (errAt l j = 0)) = none := by
    rw [List.find?_eq_none]
    intro j hj
    by_cases h1 : 1 ≤ j
    · simp [h j h1 (List.mem_range.1 hj)]
    · simp [h1]
  simp [scanI, this]

theorem err_one {l : List Sm} {k : Nat} {y : Sm} (hy : l[k]? = some y) (h : oneI y.name y.arity ≠ 0) : errAt l k = oneI y.name y.arity := by simp [errAt, hy, h]

theorem err_same {l : List Sm} {k : Nat} {y : Sm} (hy : l[k]? = some y) (h : oneI y.name y.arity = 0) (ha : atI l y < k) : errAt l k = 113 := by simp [errAt, hy, h, ha]

theorem err_ok {l : List Sm} {k : Nat} {y : Sm} (hy : l[k]? = some y) (h : oneI y.name y.arity = 0) (ha : ¬ atI l y < k) : errAt l k = 0 := by simp [errAt, hy, h, ha]

theorem scan_at {l : List Sm} {k : Nat} {v : Int} (hk : 1 ≤ k) (h : ∀ j, 1 ≤ j → j < k → errAt l j = 0) (he : errAt l k = v) (hv : v ≠ 0) : scanI l = v := by
  refine (scan_hit hk ?_ (by rw [he]; exact hv) h).trans he
  rcases Nat.lt_or_ge k l.length with h1 | h1
  · exact h1
  · exact absurd (by simpa [errAt, List.getElem?_eq_none h1] using he.symm) hv

theorem err_before {l : List Sm} {k : Nat} (h : ∀ j, 1 ≤ j → j < k → errAt l j = 0) (hk : errAt l k = 0) : ∀ j, 1 ≤ j → j < k + 1 → errAt l j = 0 := by
  intro j h1 hlt
  by_cases e : j = k
  · subst e; exact hk
  · exact h j h1 (by omega)

end Go.Proofs.Ytkpkhnaflohjpaa

