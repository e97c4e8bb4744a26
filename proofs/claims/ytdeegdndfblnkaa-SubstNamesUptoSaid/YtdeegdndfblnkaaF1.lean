/- fits: which terms may be over a signature. -/
import Derived.Test.YtdeegdndfblnkaaR1
import Derived.Test.YtdeegdndfblnkaaT5
import Derived.Test.YtdeegdndfblnkaaT1
import Derived.Deep.DeepCutAuto
namespace Go.Proofs.Ytdeegdndfblnkaa
open Go.RowKit
set_option maxRecDepth 100000

mutual
/-- May the term be, and how much room is left? -/
def fitT (l : List Sm) : Tm → Int → Int → Bool × Int
  | .node f xs, d, r =>
    if r - 1 < 0 ∨ 30 < d then (false, r - 1)
    else if f < 0 then (decide (-1 - f < 48 ∧ xs.length = 0), r - 1)
    else match l[f.toNat]? with
      | none => (false, r - 1)
      | some s => if s.arity ≠ xs.length ∨ (s.pred = true ∧ 1 < d) then (false, r - 1) else fitL l xs (d + 1) (r - 1)
def fitL (l : List Sm) : List Tm → Int → Int → Bool × Int
  | [], _, r => (true, r)
  | t :: ts, d, r => if (fitT l t d r).1 = true then fitL l ts d (fitT l t d r).2 else (false, (fitT l t d r).2)
end
section
variable {l : List Sm} {f d r : Int} {xs : List Tm} {s : Sm} {t : Tm}
theorem fit_room (h : r - 1 < 0 ∨ 30 < d) : fitT l (.node f xs) d r = (false, r - 1) := by simp only [fitT, if_pos h]
theorem fit_var (h : ¬ (r - 1 < 0 ∨ 30 < d)) (hf : f < 0) : fitT l (.node f xs) d r = (decide (-1 - f < 48 ∧ xs.length = 0), r - 1) := by simp only [fitT, if_neg h, if_pos hf]
theorem fit_out (h : ¬ (r - 1 < 0 ∨ 30 < d)) (hf : ¬ f < 0) (ho : (l.length : Int) ≤ f) : fitT l (.node f xs) d r = (false, r - 1) := by
  simp only [fitT, if_neg h, if_neg hf, List.getElem?_eq_none (show l.length ≤ f.toNat by omega)]
theorem fit_bad (h : ¬ (r - 1 < 0 ∨ 30 < d)) (hf : ¬ f < 0) (hs : l[f.toNat]? = some s) (hb : s.arity ≠ xs.length ∨ (s.pred = true ∧ 1 < d)) : fitT l (.node f xs) d r = (false, r - 1) := by
  simp only [fitT, if_neg h, if_neg hf, hs, if_pos hb]
theorem fit_in (h : ¬ (r - 1 < 0 ∨ 30 < d)) (hf : ¬ f < 0) (hs : l[f.toNat]? = some s) (hb : ¬ (s.arity ≠ xs.length ∨ (s.pred = true ∧ 1 < d))) : fitT l (.node f xs) d r = fitL l xs (d + 1) (r - 1) := by
  simp only [fitT, if_neg h, if_neg hf, hs, if_neg hb]
theorem fitL_yes (h : (fitT l t d r).1 = true) : fitL l (t :: xs) d r = fitL l xs d (fitT l t d r).2 := by simp only [fitL, if_pos h]
theorem fitL_no (h : (fitT l t d r).1 = false) : fitL l (t :: xs) d r = (false, (fitT l t d r).2) := by simp [fitL, h]
end
/-- The room shrinks, and not below -1 where it was 0 at least. -/
theorem fit_le (l : List Sm) (t : Tm) : ∀ d r, 0 ≤ r → (fitT l t d r).2 ≤ r - 1 ∧ -1 ≤ (fitT l t d r).2 ∧ ((fitT l t d r).1 = true → 0 ≤ (fitT l t d r).2) := by
  refine Tm.ind (P := fun t => ∀ d r, 0 ≤ r → (fitT l t d r).2 ≤ r - 1 ∧ -1 ≤ (fitT l t d r).2 ∧ ((fitT l t d r).1 = true → 0 ≤ (fitT l t d r).2)) (fun f xs ih d r hr => ?_) t
  have key : ∀ ys : List Tm, (∀ t ∈ ys, ∀ d r, 0 ≤ r → (fitT l t d r).2 ≤ r - 1 ∧ -1 ≤ (fitT l t d r).2 ∧ ((fitT l t d r).1 = true → 0 ≤ (fitT l t d r).2)) → ∀ d r, 0 ≤ r → (fitL l ys d r).2 ≤ r ∧ -1 ≤ (fitL l ys d r).2 ∧ ((fitL l ys d r).1 = true → 0 ≤ (fitL l ys d r).2) := by
    intro ys
    induction ys with
    | nil => intro _ d r hr; simp only [fitL]; exact ⟨Int.le_refl _, by omega, fun _ => hr⟩
    | cons y ys ihy =>
      intro h d r hr
      have h1 := h y (by simp) d r hr
      cases hb : (fitT l y d r).1 with
      | true =>
        rw [fitL_yes hb]
        have h2 := ihy (fun t ht => h t (by simp [ht])) d _ (h1.2.2 hb)
        exact ⟨by omega, h2.2.1, h2.2.2⟩
      | false => rw [fitL_no hb]; exact ⟨by show _ ≤ r; omega, h1.2.1, fun h => by cases h⟩
  by_cases h1 : r - 1 < 0 ∨ 30 < d
  · rw [fit_room h1]; exact ⟨Int.le_refl _, by show -1 ≤ r - 1; omega, fun h => by cases h⟩
  · by_cases hf : f < 0
    · rw [fit_var h1 hf]; exact ⟨Int.le_refl _, by show -1 ≤ r - 1; omega, fun _ => by show 0 ≤ r - 1; omega⟩
    · cases hs : l[f.toNat]? with
      | none => rw [fit_out h1 hf (by have := List.getElem?_eq_none_iff.1 hs; omega)]; exact ⟨Int.le_refl _, by show -1 ≤ r - 1; omega, fun h => by cases h⟩
      | some s =>
        by_cases hb : s.arity ≠ xs.length ∨ (s.pred = true ∧ 1 < d)
        · rw [fit_bad h1 hf hs hb]; exact ⟨Int.le_refl _, by show -1 ≤ r - 1; omega, fun h => by cases h⟩
        · rw [fit_in h1 hf hs hb]; exact key xs ih (d + 1) (r - 1) (by omega)

theorem heap2 (w : World) (o1 o2 : Obj) : ((w.alloc o1).alloc o2).heap[w.heap.size]? = some o1 ∧ ((w.alloc o1).alloc o2).heap[w.heap.size + 1]? = some o2 := by
  have e1 : (w.alloc o1).heap.size = w.heap.size + 1 := by simp
  refine ⟨?_, ?_⟩
  · rw [Below.heap_alloc _ _ _ (by omega)]
    exact heap_alloc_new w o1
  · rw [← e1]
    exact heap_alloc_new _ o2
theorem cells_one {W : World} {b : Nat} {x : Value} {t : TypeId} (h : W.heap[b]? = some (.cells #[x] t)) : W.cell? ⟨b, 0, none⟩ = some x ∧ W.frozen? ⟨b, 0, none⟩ = false := by
  refine ⟨?_, ?_⟩ <;> simp [World.cell?, World.frozen?, h]