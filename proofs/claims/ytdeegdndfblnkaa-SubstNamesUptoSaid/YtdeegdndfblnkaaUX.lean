/- Stores into rows of binds; a row of binds, read. -/
import Derived.Test.YtdeegdndfblnkaaU14
namespace Go.Proofs.Ytdeegdndfblnkaa
open Go.RowKit Go.Shelf
set_option maxRecDepth 100000

/-- Stores into the row, one bind's cells. -/
def setB (w : World) (g i : Nat) (x : Bi) : World := ((w.setCell ⟨g, i * 3, none⟩ (.int .i64 x.v)).setCell ⟨g, i * 3 + 1, none⟩ (.int .i64 x.t.fn)).setCell ⟨g, i * 3 + 2, none⟩ (.slice x.A x.t.args.length x.c)

theorem flat_set (l : List Bi) (i t : Nat) (x : Bi) (hi : i < l.length) : ((l.set i x).flatMap Bi.cells)[t]? = if t / 3 = i then x.cells[t % 3]? else (l.flatMap Bi.cells)[t]? := by
  have h1 := bi_get (l.set i x) (t / 3) (t % 3) (Nat.mod_lt _ (by omega))
  have h2 := bi_get l (t / 3) (t % 3) (Nat.mod_lt _ (by omega))
  rw [show t / 3 * 3 + t % 3 = t by omega] at h1 h2
  rw [h1, h2, List.getElem?_set]
  by_cases e : i = t / 3
  · rw [if_pos e, if_pos (by omega), if_pos e.symm]; rfl
  · rw [if_neg e, if_neg fun h => e h.symm]

theorem RowB.set {w : World} {base g cap n : Nat} {l : List Bi} {N : Nat → Prop} {x : Bi} {i : Nat} (h : RowB w base (.slice (some ⟨g, 0, none⟩) n cap) l N) (hi : i < l.length) (hN : ∀ k, N k → k ≠ g) (hx : BiFx w N x) : RowB (setB w g i x) base (.slice (some ⟨g, 0, none⟩) n cap) (l.set i x) N := by
  have hoth : ∀ k, k ≠ g → (setB w g i x).heap[k]? = w.heap[k]? := fun k e => (heap_setCell_other _ _ _ _ e).trans ((heap_setCell_other _ _ _ _ e).trans (heap_setCell_other _ _ _ _ e))
  refine ⟨⟨by rw [bi_len], ?_⟩, fun y hy => ?_⟩
  · rcases h.row.2 with ⟨e, _⟩ | ⟨g', cap', cur, e, hb, hg, hc, hm, hs, ht⟩
    · cases e
    · injection e with e1 e2 e3
      injection e1 with e1
      injection e1 with e1
      subst e1; subst e2; subst e3
      refine .inr ⟨g, cap, ((cur.setIfInBounds (i * 3) (.int .i64 x.v)).setIfInBounds (i * 3 + 1) (.int .i64 x.t.fn)).setIfInBounds (i * 3 + 2) (.slice x.A x.t.args.length x.c), by rw [List.length_set], hb, ?_, by rw [List.length_set]; exact hc, hm, by simp [hs], ?_⟩
      · exact heap_setCell_same _ _ _ _ _ _ (heap_setCell_same _ _ _ _ _ _ (heap_setCell_same _ _ _ _ _ _ hg))
      · apply List.ext_getElem?
        intro t
        rw [flat_set l i t x hi, List.getElem?_take, List.length_set, Array.getElem?_toList, ← ht, List.getElem?_take]
        have hsz : l.length * 3 ≤ cur.size := by rw [hs]; exact Nat.mul_le_mul_right 3 hc
        by_cases hlt : t < l.length * 3
        · rw [if_pos hlt, if_pos hlt, Array.getElem?_setIfInBounds, Array.getElem?_setIfInBounds, Array.getElem?_setIfInBounds]
          simp only [Array.size_setIfInBounds]
          by_cases e : t / 3 = i
          · rw [if_pos e]
            have h3 : t % 3 < 3 := Nat.mod_lt _ (by omega)
            obtain e0 | e0 | e0 : t % 3 = 0 ∨ t % 3 = 1 ∨ t % 3 = 2 := by omega
            · rw [if_neg (by omega), if_neg (by omega), if_pos (by omega), if_pos (by omega), e0]; rfl
            · rw [if_neg (by omega), if_pos (by omega), if_pos (by omega), e0]; rfl
            · rw [if_pos (by omega), if_pos (by omega), e0]; rfl
          · rw [if_neg e, if_neg (by omega), if_neg (by omega), if_neg (by omega), Array.getElem?_toList]
        · rw [if_neg hlt, if_neg hlt, if_neg (by omega)]
  · rcases List.mem_or_eq_of_mem_set hy with hy | rfl
    · exact (h.fx y hy).keep fun k hk => hoth k (hN k hk)
    · exact hx.keep fun k hk => hoth k (hN k hk)

theorem RowB.get {w : World} {base g cap n : Nat} {l : List Bi} {N : Nat → Prop} (h : RowB w base (.slice (some ⟨g, 0, none⟩) n cap) l N) {i : Nat} {x : Bi} (hx : l[i]? = some x) : w.cell? ⟨g, i * 3, none⟩ = some (.int .i64 x.v) ∧ w.cell? ⟨g, i * 3 + 1, none⟩ = some (.int .i64 x.t.fn) ∧ w.cell? ⟨g, i * 3 + 2, none⟩ = some (.slice x.A x.t.args.length x.c) := by
  have hlt := (List.getElem?_eq_some_iff.1 hx).1
  have q0 := bi_get l i 0 (by omega)
  have q1 := bi_get l i 1 (by omega)
  have q2 := bi_get l i 2 (by omega)
  rw [Nat.add_zero, hx] at q0
  rw [hx] at q1 q2
  rcases h.row.2 with ⟨e, _⟩ | ⟨g', cap', cur, e, hb, hg, hc, hm, hs, ht⟩
  · cases e
  · injection e with e1 e2 e3
    injection e1 with e1
    injection e1 with e1
    subst e1; subst e2; subst e3
    refine ⟨?_, ?_, ?_⟩
    · rw [h.row.cellAt (i * 3) (by omega), q0]; rfl
    · rw [h.row.cellAt (i * 3 + 1) (by omega), q1]; rfl
    · rw [h.row.cellAt (i * 3 + 2) (by omega), q2]; rfl
theorem RowB.frozen {w : World} {base g cap n : Nat} {l : List Bi} {N : Nat → Prop} (h : RowB w base (.slice (some ⟨g, 0, none⟩) n cap) l N) (j : Nat) : w.frozen? ⟨g, j, none⟩ = false := by
  rcases h.row.2 with ⟨e, _⟩ | ⟨g', cap', cur, e, hb, hg, hc, hm, hs, ht⟩
  · cases e
  · injection e with e1 e2 e3
    injection e1 with e1
    injection e1 with e1
    subst e1
    exact frozen_of_row w g j cur _ hg
end Go.Proofs.Ytdeegdndfblnkaa
