import Derived.Test.YthgglobfkkcdgaaGreatP49S2
import Derived.Test.YthgglobfkkcdgaaGreatP49S1
namespace Go.Proofs.YthgglobfkkcdgaaGreat
open Go.RowKit
set_option maxRecDepth 100000
def badX (s : Sm) (x v : Int) (h : Bool) : Bool := decide (x < 0) || decide (1000 < x) || (decide (s.arity = 0) && decide (x < v)) || (decide (s.arity = 1) && decide (x = 0) && !h)
def badW (l : List Sm) (o : Odr) (i : Nat) : Bool := match l[i]? with
  | none => false
  | some s => badX s (o.wts.getD i 0) o.var (highB o.prec i)
def chkW (l : List Sm) (o : Odr) : Bool := (List.range l.length).all fun i => !badW l o i
def chkO (l : List Sm) (o : Odr) : Int := if checkI l = 0 ∧ rankB o.prec l.length = true ∧ (o.lpo = true ∨ (o.wts.length = l.length ∧ 1 ≤ o.var ∧ o.var ≤ 1000 ∧ o.wts.getD 0 0 = o.var ∧ chkW l o = true)) then 0 else 2
end Go.Proofs.YthgglobfkkcdgaaGreat
namespace Go.Proofs.YthgglobfkkcdgaaGreat
open Go.RowKit
set_option maxRecDepth 100000
end Go.Proofs.YthgglobfkkcdgaaGreat
namespace Go.Proofs.YthgglobfkkcdgaaGreat
open Go.RowKit
set_option maxRecDepth 100000
section
variable {l : List Sm} {f : Int} {xs : List Tm} {top : Bool} {s : Sm}
end
end Go.Proofs.YthgglobfkkcdgaaGreat
namespace Go.Proofs.YthgglobfkkcdgaaGreat
open Go.RowKit
set_option maxRecDepth 100000
set_option maxRecDepth 100000
mutual
def ofT (v : Int) : Tm → Nat
  | .node f xs => (if f = v then 1 else 0) + ofL v xs
def ofL (v : Int) : List Tm → Nat
  | [] => 0
  | t :: ts => ofT v t + ofL v ts
end
theorem ofL_append (v : Int) : ∀ xs ys : List Tm, ofL v (xs ++ ys) = ofL v xs + ofL v ys
  | [], ys => by simp [ofL]
  | x :: xs, ys => by simp only [List.cons_append, ofL, ofL_append v xs ys]; omega
theorem ofL_take {v : Int} {xs : List Tm} {k : Nat} {u : Tm} (h : xs[k]? = some u) : ofL v (xs.take (k + 1)) = ofL v (xs.take k) + ofT v u := by
  rw [List.take_add_one, h, Option.toList_some, ofL_append]; simp [ofL]
theorem ofT_le (v : Int) (t : Tm) : ofT v t ≤ t.size := by
  have key : ∀ xs : List Tm, (∀ t ∈ xs, ofT v t ≤ t.size) → ofL v xs ≤ sizes xs := by
    intro xs
    induction xs with
    | nil => intro _; simp [ofL, sizes]
    | cons x xs ih => intro h; have h1 := h x (by simp); have h2 := ih fun t ht => h t (by simp [ht]); simp only [ofL, sizes]; omega
  refine Tm.ind (P := fun t => ofT v t ≤ t.size) (fun f xs ih => ?_) t
  have h1 := key xs ih
  simp only [ofT, Tm.size]
  split <;> omega
theorem ofL_le (v : Int) : ∀ xs : List Tm, ofL v xs ≤ sizes xs
  | [] => by simp [ofL, sizes]
  | x :: xs => by have h1 := ofT_le v x; have h2 := ofL_le v xs; simp only [ofL, sizes]; omega
end Go.Proofs.YthgglobfkkcdgaaGreat
namespace Go.Proofs.YthgglobfkkcdgaaGreat
def cmpX : List Tm → List Tm → Int
  | [], [] => 0
  | [], _ :: _ => -1
  | _ :: _, [] => 1
  | x :: xs, y :: ys => if cmpT x y ≠ 0 then cmpT x y else cmpX xs ys
theorem cmpX_eq : ∀ xs ys : List Tm, cmpX xs ys = if cmpL xs ys ≠ 0 then cmpL xs ys else numI xs.length ys.length
  | [], [] => by simp [cmpX, cmpL, numI]
  | [], y :: ys => by simp [cmpX, cmpL, numI]
  | x :: xs, [] => by simp [cmpX, cmpL, numI]; omega
  | x :: xs, y :: ys => by
    by_cases h : cmpT x y = 0
    · simp only [cmpX, cmpL, h, ne_eq, not_true_eq_false, if_false]
      rw [cmpX_eq xs ys]
      have : numI (x :: xs).length (y :: ys).length = numI xs.length ys.length := by
        unfold numI
        simp only [List.length_cons]
        by_cases h1 : (xs.length : Int) < ys.length
        · rw [if_pos h1, if_pos (by omega)]
        · rw [if_neg h1, if_neg (by omega)]
          by_cases h2 : (ys.length : Int) < xs.length
          · rw [if_pos h2, if_pos (by omega)]
          · rw [if_neg h2, if_neg (by omega)]
      rw [this]
    · simp only [cmpX, cmpL, ne_eq, h, not_false_eq_true, if_true]
theorem cmpT_x (f g : Int) (xs ys : List Tm) : cmpT (.node f xs) (.node g ys) = if headI f g ≠ 0 then headI f g else cmpX xs ys := by
  rw [cmpX_eq]
  exact cmpT_eq _ _
theorem head_anti (f g : Int) : headI g f = - headI f g := by
  unfold headI
  by_cases h : f = g
  · subst h; simp
  · rw [if_neg h, if_neg (fun e => h e.symm)]
    by_cases h1 : f < 0 ∧ g < 0
    · rw [if_pos h1, if_pos ⟨h1.2, h1.1⟩]
      by_cases h2 : g < f
      · rw [if_pos h2, if_neg (by omega)]; rfl
      · rw [if_neg h2, if_pos (by omega)]
    · rw [if_neg h1, if_neg (fun e => h1 ⟨e.2, e.1⟩)]
      by_cases h2 : f < g
      · rw [if_pos h2, if_neg (by omega)]; rfl
      · rw [if_neg h2, if_pos (by omega)]
theorem head_zero {f g : Int} (h : headI f g = 0) : f = g := by
  unfold headI at h
  split at h
  · assumption
  · split at h
    · split at h <;> omega
    · split at h <;> omega
theorem cmp_anti (t : Tm) : ∀ u, cmpT u t = - cmpT t u := by
  refine Tm.ind (P := fun t => ∀ u, cmpT u t = - cmpT t u) (fun f xs ih u => ?_) t
  obtain ⟨g, ys⟩ := u
  rw [cmpT_x, cmpT_x, head_anti f g]
  have key : ∀ xs : List Tm, (∀ t ∈ xs, ∀ u, cmpT u t = - cmpT t u) → ∀ ys, cmpX ys xs = - cmpX xs ys := by
    intro xs
    induction xs with
    | nil => intro _ ys; cases ys <;> simp [cmpX]
    | cons x xs ihx =>
      intro h ys
      cases ys with
      | nil => simp [cmpX]
      | cons y ys =>
        simp only [cmpX]
        rw [h x (by simp) y, ihx (fun t ht => h t (by simp [ht])) ys]
        by_cases e : cmpT x y = 0
        · simp [e]
        · rw [if_pos (by omega), if_pos e]
  by_cases e : headI f g = 0
  · rw [if_neg (by simp [e]), if_neg (by simp [e]), key xs ih ys]
  · rw [if_pos (by omega), if_pos e]
theorem cmp_zero (t : Tm) : ∀ u, cmpT t u = 0 → t = u := by
  refine Tm.ind (P := fun t => ∀ u, cmpT t u = 0 → t = u) (fun f xs ih u h => ?_) t
  obtain ⟨g, ys⟩ := u
  rw [cmpT_x] at h
  have key : ∀ xs : List Tm, (∀ t ∈ xs, ∀ u, cmpT t u = 0 → t = u) → ∀ ys, cmpX xs ys = 0 → xs = ys := by
    intro xs
    induction xs with
    | nil => intro _ ys h; cases ys <;> simp [cmpX] at h ⊢
    | cons x xs ihx =>
      intro hh ys h
      cases ys with
      | nil => simp [cmpX] at h
      | cons y ys =>
        simp only [cmpX] at h
        by_cases e : cmpT x y = 0
        · rw [if_neg (by simp [e])] at h
          rw [hh x (by simp) y e, ihx (fun t ht => hh t (by simp [ht])) ys h]
        · rw [if_pos e] at h; exact absurd h e
  by_cases e : headI f g = 0
  · rw [if_neg (by simp [e])] at h
    rw [head_zero e, key xs ih ys h]
  · rw [if_pos e] at h; exact absurd h e
theorem cmp_refl (t : Tm) : cmpT t t = 0 := by have := cmp_anti t t; omega
theorem cmp_zero_iff {t u : Tm} : cmpT t u = 0 ↔ t = u := ⟨cmp_zero t u, fun h => by subst h; exact cmp_refl t⟩
end Go.Proofs.YthgglobfkkcdgaaGreat
namespace Go.Proofs.YthgglobfkkcdgaaGreat
open Go.RowKit
set_option maxRecDepth 20000
set_option maxRecDepth 20000
section
variable {ar : List Nat}
end
end Go.Proofs.YthgglobfkkcdgaaGreat
namespace Go.Proofs.YthgglobfkkcdgaaGreat
open Go.RowKit Go.Shelf Go.Maps
set_option maxRecDepth 100000
set_option maxRecDepth 100000
end Go.Proofs.YthgglobfkkcdgaaGreat
namespace Go.Proofs.YthgglobfkkcdgaaGreat
open Go.RowKit Go.Shelf Go.Maps
set_option maxRecDepth 100000
set_option maxRecDepth 100000
theorem heap5 (w : World) (o0 o1 o2 o3 o4 : Obj) : (((((w.alloc o0).alloc o1).alloc o2).alloc o3).alloc o4).heap[w.heap.size]? = some o0 ∧ (((((w.alloc o0).alloc o1).alloc o2).alloc o3).alloc o4).heap[w.heap.size + 1]? = some o1 ∧ (((((w.alloc o0).alloc o1).alloc o2).alloc o3).alloc o4).heap[w.heap.size + 2]? = some o2 ∧
    (((((w.alloc o0).alloc o1).alloc o2).alloc o3).alloc o4).heap[w.heap.size + 3]? = some o3 ∧ (((((w.alloc o0).alloc o1).alloc o2).alloc o3).alloc o4).heap[w.heap.size + 4]? = some o4 := by
  have e0 := heap_alloc_new w o0
  have e1 := heap_alloc_new (w.alloc o0) o1
  have e2 := heap_alloc_new ((w.alloc o0).alloc o1) o2
  have e3 := heap_alloc_new (((w.alloc o0).alloc o1).alloc o2) o3
  have e4 := heap_alloc_new ((((w.alloc o0).alloc o1).alloc o2).alloc o3) o4
  have s : ∀ (v : World) (o : Obj), (v.alloc o).heap.size = v.heap.size + 1 := fun v o => by simp
  rw [s] at e1
  rw [s, s] at e2
  rw [s, s, s] at e3
  rw [s, s, s, s] at e4
  refine ⟨?_, ?_, ?_, ?_, e4⟩
  · rw [Below.heap_alloc _ _ _ (by simp only [s]; omega), Below.heap_alloc _ _ _ (by simp only [s]; omega), Below.heap_alloc _ _ _ (by simp only [s]; omega), Below.heap_alloc _ _ _ (by simp only [s]; omega)]
    exact e0
  · rw [Below.heap_alloc _ _ _ (by simp only [s]; omega), Below.heap_alloc _ _ _ (by simp only [s]; omega), Below.heap_alloc _ _ _ (by simp only [s]; omega)]
    exact e1
  · rw [Below.heap_alloc _ _ _ (by simp only [s]; omega), Below.heap_alloc _ _ _ (by simp only [s]; omega)]
    exact e2
  · rw [Below.heap_alloc _ _ _ (by simp only [s]; omega)]
    exact e3
theorem below5 (w : World) (o0 o1 o2 o3 o4 : Obj) : Below w.heap.size w (((((w.alloc o0).alloc o1).alloc o2).alloc o3).alloc o4) :=
  (((((Below.refl _ _).alloc (Nat.le_refl _) _).alloc (by simp) _).alloc (by simp; omega) _).alloc (by simp; omega) _).alloc (by simp; omega) _
structure TmK (w : World) (t : Tm) (A : Option Addr) (c : Nat) : Prop where
  i64 : I64 t.fn
  args : ArgsK w (· < w.heap.size) A c t.args
theorem TmK.on {w w' : World} {t : Tm} {A : Option Addr} {c : Nat} (h : TmK w t A c) (hb : Below w.heap.size w w') : TmK w' t A c := ⟨h.i64, h.args.on hb⟩
end Go.Proofs.YthgglobfkkcdgaaGreat
namespace Go.Proofs.YthgglobfkkcdgaaGreat
open Go.RowKit Go.Shelf Go.Maps
set_option maxRecDepth 100000
set_option maxRecDepth 100000
theorem box_ot {w W : World} {o : Odr} {P Q A : Option Addr} {pc qc c n : Nat} {f : Int} (hW : (w.alloc (.cells #[.bool o.lpo, .slice P o.prec.length pc, .slice Q o.wts.length qc, .int .i64 o.var] 24)).alloc (.cells #[.int .i64 f, .slice A n c] 36) = W) :
    Below w.heap.size w W ∧ W.heap.size = w.heap.size + 2 ∧ ∀ w', Below W.heap.size W w' → w'.cell? ⟨w.heap.size, 0, none⟩ = some (.bool o.lpo) ∧ w'.cell? ⟨w.heap.size, 1, none⟩ = some (.slice P o.prec.length pc) ∧ w'.cell? ⟨w.heap.size, 2, none⟩ = some (.slice Q o.wts.length qc) ∧ w'.cell? ⟨w.heap.size, 3, none⟩ = some (.int .i64 o.var) ∧
      w'.cell? ⟨w.heap.size + 1, 0, none⟩ = some (.int .i64 f) ∧ w'.cell? ⟨w.heap.size + 1, 1, none⟩ = some (.slice A n c) := by
  obtain ⟨q0, q1⟩ := heap2 w (.cells #[.bool o.lpo, .slice P o.prec.length pc, .slice Q o.wts.length qc, .int .i64 o.var] 24) (.cells #[.int .i64 f, .slice A n c] 36)
  rw [hW] at q0 q1
  have hz : W.heap.size = w.heap.size + 2 := by rw [← hW]; simp
  refine ⟨by rw [← hW]; exact ((Below.refl _ _).alloc (Nat.le_refl _) _).alloc (by simp) _, hz, fun w' hb => ?_⟩
  obtain ⟨a0, a1, a2, a3⟩ := cells_four ((hb.block _ (by omega)).trans q0)
  obtain ⟨b0, b1, _, _⟩ := cells_two ((hb.block _ (by omega)).trans q1)
  exact ⟨a0, a1, a2, a3, b0, b1⟩
end Go.Proofs.YthgglobfkkcdgaaGreat
