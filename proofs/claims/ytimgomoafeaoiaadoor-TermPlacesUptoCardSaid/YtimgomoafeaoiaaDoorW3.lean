/- One symbol by the plain answer; $true; a symbol's place; two signatures. -/
import Derived.Test.YtimgomoafeaoiaaDoorW2
namespace Go.Proofs.YtimgomoafeaoiaaDoor
open Go.RowKit

def truthS : ByteArray := ⟨#[36, 116, 114, 117, 101]⟩
def truthSm : Sm := ⟨truthS, 0, true⟩
theorem truth_ok : truthSm.Ok := ⟨by decide, by decide, by decide⟩

def atI (l : List Sm) (x : Sm) : Int := match l.findIdx? (· == x) with | some i => i | none => -1
theorem atI_hit (l : List Sm) (x : Sm) (k : Nat) (hx : l[k]? = some x) (h : ∀ j, j < k → l[j]? ≠ some x) : atI l x = k := by
  have : l.findIdx? (· == x) = some k := by
    rw [List.findIdx?_eq_some_iff_getElem]
    obtain ⟨hk, hx⟩ := List.getElem?_eq_some_iff.1 hx
    refine ⟨hk, by simp [hx], fun j hj => ?_⟩
    have := h j hj
    rw [List.getElem?_eq_getElem (by omega)] at this
    simpa using this
  simp [atI, this]
theorem atI_miss (l : List Sm) (x : Sm) (h : ∀ j, j < l.length → l[j]? ≠ some x) : atI l x = -1 := by
  have : l.findIdx? (· == x) = none := by
    rw [List.findIdx?_eq_none_iff]
    intro y hy
    obtain ⟨j, hj, rfl⟩ := List.getElem_of_mem hy
    have := h j hj
    rw [List.getElem?_eq_getElem hj] at this
    simpa using this
  simp [atI, this]
theorem not_before {l : List Sm} {x y : Sm} {k : Nat} (h : ∀ j, j < k → l[j]? ≠ some x) (hy : l[k]? = some y) (hx : y ≠ x) : ∀ j, j < k + 1 → l[j]? ≠ some x := by
  intro j hlt
  by_cases e : j = k
  · subst e; rw [hy]; intro h; injection h with h; exact hx h
  · exact h j (by omega)

theorem alike_before {l l' : List Sm} {k : Nat} (h : ∀ j, j < k → l[j]? = l'[j]?) (hk : l[k]? = l'[k]?) : ∀ j, j < k + 1 → l[j]? = l'[j]? := by
  intro j hlt
  by_cases e : j = k
  · subst e; exact hk
  · exact h j (by omega)
theorem alike_not {l l' : List Sm} {k : Nat} {x y : Sm} (hx : l[k]? = some x) (hy : l'[k]? = some y) (h : x ≠ y) : decide (l = l') = false := by
  rw [decide_eq_false_iff_not]
  rintro rfl
  rw [hx] at hy
  injection hy with hy
  exact h hy
theorem alike_all {l l' : List Sm} {n : Nat} (hl : l.length = n) (hl' : l'.length = n) (h : ∀ j, j < n → l[j]? = l'[j]?) : decide (l = l') = true := by
  rw [decide_eq_true_eq]
  refine List.ext_getElem? fun j => ?_
  by_cases hj : j < n
  · exact h j hj
  · rw [List.getElem?_eq_none (by omega), List.getElem?_eq_none (by omega)]