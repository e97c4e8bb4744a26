/- The order of terms as such is an order: plain words. -/
import Derived.Test.YtdeegdndfblnkaaT0
namespace Go.Proofs.Ytdeegdndfblnkaa

/-- Argument by argument, then by how many. -/
def cmpX : List Tm → List Tm → Int
  | [], [] => 0
  | [], _ :: _ => -1
  | _ :: _, [] => 1
  | x :: xs, y :: ys => if cmpT x y ≠ 0 then cmpT x y else cmpX xs ys
theorem cmpX_eq : ∀ xs ys : List Tm, cmpX xs ys = if cmpL xs ys ≠ 0 then cmpL xs ys else numI xs.length ys.length
  | [], [] => by simp [cmpX, cmpL, numI]
  | [], y :: ys => by simp [cmpX, cmpL, numI]
  | x :: xs, [] => by simp [cmpX, cmpL, numI]; omega
  | x :: xs, y :: ys => by
    by_cases h : cmpT x y = 0
    · simp only [cmpX, cmpL, h, ne_eq, not_true_eq_false, if_false]
      rw [cmpX_eq xs ys]
      have : numI (x :: xs).length (y :: ys).length = numI xs.length ys.length := by
        unfold numI
        simp only [List.length_cons]
        by_cases h1 : (xs.length : Int) < ys.length
        · rw [if_pos h1, if_pos (by omega)]
        · rw [if_neg h1, if_neg (by omega)]
          by_cases h2 : (ys.length : Int) < xs.length
          · rw [if_pos h2, if_pos (by omega)]
          · rw [if_neg h2, if_neg (by omega)]
      rw [this]
    · simp only [cmpX, cmpL, ne_eq, h, not_false_eq_true, if_true]
theorem cmpT_x (f g : Int) (xs ys : List Tm) : cmpT (.node f xs) (.node g ys) = if headI f g ≠ 0 then headI f g else cmpX xs ys := by
  rw [cmpX_eq]
  exact cmpT_eq _ _
theorem head_anti (f g : Int) : headI g f = - headI f g := by
  unfold headI
  by_cases h : f = g
  · subst h; simp
  · rw [if_neg h, if_neg (fun e => h e.symm)]
    by_cases h1 : f < 0 ∧ g < 0
    · rw [if_pos h1, if_pos ⟨h1.2, h1.1⟩]
      by_cases h2 : g < f
      · rw [if_pos h2, if_neg (by omega)]; rfl
      · rw [if_neg h2, if_pos (by omega)]
    · rw [if_neg h1, if_neg (fun e => h1 ⟨e.2, e.1⟩)]
      by_cases h2 : f < g
      · rw [if_pos h2, if_neg (by omega)]; rfl
      · rw [if_neg h2, if_pos (by omega)]
theorem head_zero {f g : Int} (h : headI f g = 0) : f = g := by
  unfold headI at h
  split at h
  · assumption
  · split at h
    · split at h <;> omega
    · split at h <;> omega
theorem head_lt {f g : Int} : headI f g < 0 ↔ (f < 0 ∧ g < 0 ∧ g < f) ∨ (¬ (f < 0 ∧ g < 0) ∧ f < g) := by
  unfold headI
  by_cases h : f = g
  · subst h
    simp
  · rw [if_neg h]
    by_cases h1 : f < 0 ∧ g < 0
    · rw [if_pos h1]
      by_cases h2 : g < f
      · rw [if_pos h2]; omega
      · rw [if_neg h2]; omega
    · rw [if_neg h1]
      by_cases h2 : f < g
      · rw [if_pos h2]; omega
      · rw [if_neg h2]; omega
theorem head_trans {f g k : Int} (h1 : headI f g < 0) (h2 : headI g k < 0) : headI f k < 0 := by
  rw [head_lt] at *
  omega
theorem head_range (f g : Int) : -1 ≤ headI f g ∧ headI f g ≤ 1 := by
  unfold headI
  split
  · omega
  · split <;> split <;> omega

theorem cmp_anti (t : Tm) : ∀ u, cmpT u t = - cmpT t u := by
  refine Tm.ind (P := fun t => ∀ u, cmpT u t = - cmpT t u) (fun f xs ih u => ?_) t
  obtain ⟨g, ys⟩ := u
  rw [cmpT_x, cmpT_x, head_anti f g]
  have key : ∀ xs : List Tm, (∀ t ∈ xs, ∀ u, cmpT u t = - cmpT t u) → ∀ ys, cmpX ys xs = - cmpX xs ys := by
    intro xs
    induction xs with
    | nil => intro _ ys; cases ys <;> simp [cmpX]
    | cons x xs ihx =>
      intro h ys
      cases ys with
      | nil => simp [cmpX]
      | cons y ys =>
        simp only [cmpX]
        rw [h x (by simp) y, ihx (fun t ht => h t (by simp [ht])) ys]
        by_cases e : cmpT x y = 0
        · simp [e]
        · rw [if_pos (by omega), if_pos e]
  by_cases e : headI f g = 0
  · rw [if_neg (by simp [e]), if_neg (by simp [e]), key xs ih ys]
  · rw [if_pos (by omega), if_pos e]
theorem cmp_zero (t : Tm) : ∀ u, cmpT t u = 0 → t = u := by
  refine Tm.ind (P := fun t => ∀ u, cmpT t u = 0 → t = u) (fun f xs ih u h => ?_) t
  obtain ⟨g, ys⟩ := u
  rw [cmpT_x] at h
  have key : ∀ xs : List Tm, (∀ t ∈ xs, ∀ u, cmpT t u = 0 → t = u) → ∀ ys, cmpX xs ys = 0 → xs = ys := by
    intro xs
    induction xs with
    | nil => intro _ ys h; cases ys <;> simp [cmpX] at h ⊢
    | cons x xs ihx =>
      intro hh ys h
      cases ys with
      | nil => simp [cmpX] at h
      | cons y ys =>
        simp only [cmpX] at h
        by_cases e : cmpT x y = 0
        · rw [if_neg (by simp [e])] at h
          rw [hh x (by simp) y e, ihx (fun t ht => hh t (by simp [ht])) ys h]
        · rw [if_pos e] at h; exact absurd h e
  by_cases e : headI f g = 0
  · rw [if_neg (by simp [e])] at h
    rw [head_zero e, key xs ih ys h]
  · rw [if_pos e] at h; exact absurd h e
theorem cmp_refl (t : Tm) : cmpT t t = 0 := by have := cmp_anti t t; omega
theorem cmp_zero_iff {t u : Tm} : cmpT t u = 0 ↔ t = u := ⟨cmp_zero t u, fun h => by subst h; exact cmp_refl t⟩
theorem cmp_trans (t : Tm) : ∀ u v, cmpT t u < 0 → cmpT u v < 0 → cmpT t v < 0 := by
  refine Tm.ind (P := fun t => ∀ u v, cmpT t u < 0 → cmpT u v < 0 → cmpT t v < 0) (fun f xs ih u v h1 h2 => ?_) t
  obtain ⟨g, ys⟩ := u
  obtain ⟨k, zs⟩ := v
  rw [cmpT_x] at h1 h2 ⊢
  have key : ∀ xs : List Tm, (∀ t ∈ xs, ∀ u v, cmpT t u < 0 → cmpT u v < 0 → cmpT t v < 0) → ∀ ys zs, cmpX xs ys < 0 → cmpX ys zs < 0 → cmpX xs zs < 0 := by
    intro xs
    induction xs with
    | nil =>
      intro _ ys zs a b
      cases zs with
      | nil => cases ys <;> simp [cmpX] at a b
      | cons => simp [cmpX]
    | cons x xs ihx =>
      intro hh ys zs a b
      cases ys with
      | nil => simp [cmpX] at a
      | cons y ys =>
        cases zs with
        | nil => simp [cmpX] at b
        | cons z zs =>
          simp only [cmpX] at a b ⊢
          by_cases e1 : cmpT x y = 0
          · rw [if_neg (by simp [e1])] at a
            have := cmp_zero x y e1
            subst this
            by_cases e2 : cmpT x z = 0
            · rw [if_neg (by simp [e2])] at b ⊢
              exact ihx (fun t ht => hh t (by simp [ht])) ys zs a b
            · rw [if_pos e2] at b ⊢; exact b
          · rw [if_pos e1] at a
            by_cases e2 : cmpT y z = 0
            · have := cmp_zero y z e2
              subst this
              rw [if_pos e1]; exact a
            · rw [if_pos e2] at b
              have h3 := hh x (by simp) y z a b
              rw [if_pos (by omega)]; exact h3
  by_cases e1 : headI f g = 0
  · rw [if_neg (by simp [e1])] at h1
    have := head_zero e1
    subst this
    by_cases e2 : headI f k = 0
    · rw [if_neg (by simp [e2])] at h2 ⊢
      exact key xs ih ys zs h1 h2
    · rw [if_pos e2] at h2 ⊢; exact h2
  · rw [if_pos e1] at h1
    by_cases e2 : headI g k = 0
    · have := head_zero e2
      subst this
      rw [if_pos e1]; exact h1
    · rw [if_pos e2] at h2
      have h3 := head_trans h1 h2
      rw [if_pos (by omega)]; exact h3
theorem cmp_range (t : Tm) : ∀ u, -1 ≤ cmpT t u ∧ cmpT t u ≤ 1 := by
  refine Tm.ind (P := fun t => ∀ u, -1 ≤ cmpT t u ∧ cmpT t u ≤ 1) (fun f xs ih u => ?_) t
  obtain ⟨g, ys⟩ := u
  rw [cmpT_x]
  have key : ∀ xs : List Tm, (∀ t ∈ xs, ∀ u, -1 ≤ cmpT t u ∧ cmpT t u ≤ 1) → ∀ ys, -1 ≤ cmpX xs ys ∧ cmpX xs ys ≤ 1 := by
    intro xs
    induction xs with
    | nil => intro _ ys; cases ys <;> simp [cmpX]
    | cons x xs ihx =>
      intro hh ys
      cases ys with
      | nil => simp [cmpX]
      | cons y ys =>
        simp only [cmpX]
        split
        · exact hh x (by simp) y
        · exact ihx (fun t ht => hh t (by simp [ht])) ys
  split
  · exact head_range f g
  · exact key xs ih ys
theorem cmp_law {a b c : Tm} (hx : cmpT a b ≤ 0) (hy : cmpT b c ≤ 0) : cmpT a c ≤ 0 ∧ (cmpT a b < 0 → cmpT a c < 0) := by
  by_cases e1 : cmpT a b = 0
  · have := cmp_zero a b e1
    subst this
    exact ⟨hy, fun h => by omega⟩
  · by_cases e2 : cmpT b c = 0
    · have := cmp_zero b c e2
      subst this
      exact ⟨hx, fun h => h⟩
    · have := cmp_trans a b c (by omega) (by omega)
      exact ⟨by omega, fun _ => this⟩
end Go.Proofs.Ytdeegdndfblnkaa
