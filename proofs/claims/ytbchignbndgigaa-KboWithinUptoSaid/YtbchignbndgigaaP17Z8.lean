import Derived.Test.YtbchignbndgigaaP17Z1
import Derived.Test.YtbchignbndgigaaP17Z2
import Derived.Test.YtbchignbndgigaaP17Z7
/- The order of terms as such is an order: plain words. -/

namespace Go.Proofs.Ytbchignbndgigaa

/-- Argument by argument, then by how many. -/
def cmpX : List Tm → List Tm → Int
  | [], [] => 0
  | [], _ :: _ => -1
  | _ :: _, [] => 1
  | x :: xs, y :: ys => if cmpT x y ≠ 0 then cmpT x y else cmpX xs ys

theorem cmpX_eq : ∀ xs ys : List Tm, cmpX xs ys = if cmpL xs ys ≠ 0 then cmpL xs ys else numI xs.length ys.length
  | [], [] => by simp [cmpX, cmpL, numI]
  | [], y :: ys => by simp [cmpX, cmpL, numI]
  | x :: xs, [] => by simp [cmpX, cmpL, numI]; omega
  | x :: xs, y :: ys => by
    by_cases h : cmpT x y = 0
    · simp only [cmpX, cmpL, h, ne_eq, not_true_eq_false, if_false]
      rw [cmpX_eq xs ys]
      have : numI (x :: xs).length (y :: ys).length = numI xs.length ys.length := by
        unfold numI
        simp only [List.length_cons]
        by_cases h1 : (xs.length : Int) < ys.length
        · rw [if_pos h1, if_pos (by omega)]
        · rw [if_neg h1, if_neg (by omega)]
          by_cases h2 : (ys.length : Int) < xs.length
          · rw [if_pos h2, if_pos (by omega)]
          · rw [if_neg h2, if_neg (by omega)]
      rw [this]
    · simp only [cmpX, cmpL, ne_eq, h, not_false_eq_true, if_true]

theorem cmpT_x (f g : Int) (xs ys : List Tm) : cmpT (.node f xs) (.node g ys) = if headI f g ≠ 0 then headI f g else cmpX xs ys := by
  rw [cmpX_eq]
  exact cmpT_eq _ _

theorem head_anti (f g : Int) : headI g f = - headI f g := by
  unfold headI
  by_cases h : f = g
  · subst h; simp
  · rw [if_neg h, if_neg (fun e => h e.symm)]
    by_cases h1 : f < 0 ∧ g < 0
    · rw [if_pos h1, if_pos ⟨h1.2, h1.1⟩]
      by_cases h2 : g < f
      · rw [if_pos h2, if_neg (by omega)]; rfl
      · rw [if_neg h2, if_pos (by omega)]
    · rw [if_neg h1, if_neg (fun e => h1 ⟨e.2, e.1⟩)]
      by_cases h2 : f < g
      · rw [if_pos h2, if_neg (by omega)]; rfl
      · rw [if_neg h2, if_pos (by omega)]

theorem head_zero {f g : Int} (h : headI f g = 0) : f = g := by
  unfold headI at h
  split at h
  · assumption
  · split at h
    · split at h <;> omega
    · split at h <;> omega

theorem head_lt {f g : Int} : headI f g < 0 ↔ (f < 0 ∧ g < 0 ∧ g < f) ∨ (¬ (f < 0 ∧ g < 0) ∧ f < g) := by
  unfold headI
  by_cases h : f = g
  · subst h
    simp
  · rw [if_neg h]
    by_cases h1 : f < 0 ∧ g < 0
    · rw [if_pos h1]
      by_cases h2 : g < f
      · rw [if_pos h2]; omega
      · rw [if_neg h2]; omega
    · rw [if_neg h1]
      by_cases h2 : f < g
      · rw [if_pos h2]; omega
      · rw [if_neg h2]; omega

theorem head_trans {f g k : Int} (h1 : headI f g < 0) (h2 : headI g k < 0) : headI f k < 0 := by
  rw [head_lt] at *
  omega

theorem head_range (f g : Int) : -1 ≤ headI f g ∧ headI f g ≤ 1 := by
  unfold headI
  split
  · omega
  · split <;> split <;> omega

theorem cmp_anti (t : Tm) : ∀ u, cmpT u t = - cmpT t u := by
  refine Tm.ind (P := fun t => ∀ u, cmpT u t = - cmpT t u) (fun f xs ih u => ?_) t
  obtain ⟨g, ys⟩ := u
  rw [cmpT_x, cmpT_x, head_anti f g]
  have key : ∀ xs : List Tm, (∀ t ∈ xs, ∀ u, cmpT u t = - cmpT t u) → ∀ ys, cmpX ys xs = - cmpX xs ys := by
    intro xs
    induction xs with
    | nil => intro _ ys; cases ys <;> simp [cmpX]
    | cons x xs ihx =>
      intro h ys
      cases ys with
      | nil => simp [cmpX]
      | cons y ys =>
        simp only [cmpX]
        rw [h x (by simp) y, ihx (fun t ht => h t (by simp [ht])) ys]
        by_cases e : cmpT x y = 0
        · simp [e]
        · rw [if_pos (by omega), if_pos e]
  by_cases e : headI f g = 0
  · rw [if_neg (by simp [e]), if_neg (by simp [e]), key xs ih ys]
  · rw [if_pos (by omega), if_pos e]

theorem cmp_zero (t : Tm) : ∀ u, cmpT t u = 0 → t = u := by
  refine Tm.ind (P := fun t => ∀ u, cmpT t u = 0 → t = u) (fun f xs ih u h => ?_) t
  obtain ⟨g, ys⟩ := u
  rw [cmpT_x] at h
  have key : ∀ xs : List Tm, (∀ t ∈ xs, ∀ u, cmpT t u = 0 → t = u) → ∀ ys, cmpX xs ys = 0 → xs = ys := by
    intro xs
    induction xs with
    | nil => intro _ ys h; cases ys <;> simp [cmpX] at h ⊢
    | cons x xs ihx =>
      intro hh ys h
      cases ys with
      | nil => simp [cmpX] at h
      | cons y ys =>
        simp only [cmpX] at h
        by_cases e : cmpT x y = 0
        · rw [if_neg (by simp [e])] at h
          rw [hh x (by simp) y e, ihx (fun t ht => hh t (by simp [ht])) ys h]
        · rw [if_pos e] at h; exact absurd h e
  by_cases e : headI f g = 0
  · rw [if_neg (by simp [e])] at h
    rw [head_zero e, key xs ih ys h]
  · rw [if_pos e] at h; exact absurd h e

theorem cmp_refl (t : Tm) : cmpT t t = 0 := by have := cmp_anti t t; omega

theorem cmp_zero_iff {t u : Tm} : cmpT t u = 0 ↔ t = u := ⟨cmp_zero t u, fun h => by subst h; exact cmp_refl t⟩

theorem cmp_trans (t : Tm) : ∀ u v, cmpT t u < 0 → cmpT u v < 0 → cmpT t v < 0 := by
  refine Tm.ind (P := fun t => ∀ u v, cmpT t u < 0 → cmpT u v < 0 → cmpT t v < 0) (fun f xs ih u v h1 h2 => ?_) t
  obtain ⟨g, ys⟩ := u
  obtain ⟨k, zs⟩ := v
  rw [cmpT_x] at h1 h2 ⊢
  have key : ∀ xs : List Tm, (∀ t ∈ xs, ∀ u v, cmpT t u < 0 → cmpT u v < 0 → cmpT t v < 0) → ∀ ys zs, cmpX xs ys < 0 → cmpX ys zs < 0 → cmpX xs zs < 0 := by
    intro xs
    induction xs with
    | nil =>
      intro _ ys zs a b
      cases zs with
      | nil => cases ys <;> simp [cmpX] at a b
      | cons => simp [cmpX]
    | cons x xs ihx =>
      intro hh ys zs a b
      cases ys with
      | nil => simp [cmpX] at a
      | cons y ys =>
        cases zs with
        | nil => simp [cmpX] at b
        | cons z zs =>
          simp only [cmpX] at a b ⊢
          by_cases e1 : cmpT x y = 0
          · rw [if_neg (by simp [e1])] at a
            have := cmp_zero x y e1
            subst this
            by_cases e2 : cmpT x z = 0
            · rw [if_neg (by simp [e2])] at b ⊢
              exact ihx (fun t ht => hh t (by simp [ht])) ys zs a b
            · rw [if_pos e2] at b ⊢; exact b
          · rw [if_pos e1] at a
            by_cases e2 : cmpT y z = 0
            · have := cmp_zero y z e2
              subst this
              rw [if_pos e1]; exact a
            · rw [if_pos e2] at b
              have h3 := hh x (by simp) y z a b
              rw [if_pos (by omega)]; exact h3
  by_cases e1 : headI f g = 0
  · rw [if_neg (by simp [e1])] at h1
    have := head_zero e1
    subst this
    by_cases e2 : headI f k = 0
    · rw [if_neg (by simp [e2])] at h2 ⊢
      exact key xs ih ys zs h1 h2
    · rw [if_pos e2] at h2 ⊢; exact h2
  · rw [if_pos e1] at h1
    by_cases e2 : headI g k = 0
    · have := head_zero e2
      subst this
      rw [if_pos e1]; exact h1
    · rw [if_pos e2] at h2
      have h3 := head_trans h1 h2
      rw [if_pos (by omega)]; exact h3

theorem cmp_range (t : Tm) : ∀ u, -1 ≤ cmpT t u ∧ cmpT t u ≤ 1 := by
  refine Tm.ind (P := fun t => ∀ u, -1 ≤ cmpT t u ∧ cmpT t u ≤ 1) (fun f xs ih u => ?_) t
  obtain ⟨g, ys⟩ := u
  rw [cmpT_x]
  have key : ∀ xs : List Tm, (∀ t ∈ xs, ∀ u, -1 ≤ cmpT t u ∧ cmpT t u ≤ 1) → ∀ ys, -1 ≤ cmpX xs ys ∧ cmpX xs ys ≤ 1 := by
    intro xs
    induction xs with
    | nil => intro _ ys; cases ys <;> simp [cmpX]
    | cons x xs ihx =>
      intro hh ys
      cases ys with
      | nil => simp [cmpX]
      | cons y ys =>
        simp only [cmpX]
        split
        · exact hh x (by simp) y
        · exact ihx (fun t ht => hh t (by simp [ht])) ys
  split
  · exact head_range f g
  · exact key xs ih ys

theorem cmp_law {a b c : Tm} (hx : cmpT a b ≤ 0) (hy : cmpT b c ≤ 0) : cmpT a c ≤ 0 ∧ (cmpT a b < 0 → cmpT a c < 0) := by
  by_cases e1 : cmpT a b = 0
  · have := cmp_zero a b e1
    subst this
    exact ⟨hy, fun h => by omega⟩
  · by_cases e2 : cmpT b c = 0
    · have := cmp_zero b c e2
      subst this
      exact ⟨hx, fun h => h⟩
    · have := cmp_trans a b c (by omega) (by omega)
      exact ⟨by omega, fun _ => this⟩

end Go.Proofs.Ytbchignbndgigaa

/- Compare, Same. -/

namespace Go.Proofs.Ytbchignbndgigaa

open Go.RowKit
set_option maxRecDepth 100000

end Go.Proofs.Ytbchignbndgigaa

/- Compare, Same. -/

namespace Go.Proofs.Ytbchignbndgigaa

open Go.RowKit
set_option maxRecDepth 100000

theorem cmpT_h {f g : Int} {xs ys : List Tm} (h : ¬ headI f g = 0) : cmpT (.node f xs) (.node g ys) = headI f g := (cmpT_eq _ _).trans (if_pos h)

theorem cmpT_c {f g : Int} {xs ys : List Tm} (h : headI f g = 0) (h1 : ¬ cmpL xs ys = 0) : cmpT (.node f xs) (.node g ys) = cmpL xs ys := (cmpT_eq _ _).trans ((if_neg (fun e => e h)).trans (if_pos h1))

theorem cmpT_n {f g : Int} {xs ys : List Tm} (h : headI f g = 0) (h1 : cmpL xs ys = 0) : cmpT (.node f xs) (.node g ys) = numI xs.length ys.length := (cmpT_eq _ _).trans ((if_neg (fun e => e h)).trans (if_neg (fun e => e h1)))

end Go.Proofs.Ytbchignbndgigaa

/- The document's own answers: Compare, Same. -/

namespace Go.Proofs.Ytbchignbndgigaa

open Go.RowKit
set_option maxRecDepth 100000

def RCmp (t : Tm) : Prop := ∀ (u : Tm) (A A2 : Option Addr) (c c2 : Nat) (w : World), I64 t.fn → I64 u.fn → Args w w.heap.size A t.args → Args w w.heap.size A2 u.args →
  Calls Try.prog 49 #[.agg #[.int .i64 t.fn, .slice A t.args.length c], .agg #[.int .i64 u.fn, .slice A2 u.args.length c2]] w fun e w' => e = .returned (.int .i64 (cmpT t u)) ∧ Below w.heap.size w w'

theorem head_ne {f g : Int} (h : f ≠ g) : headI f g = if f < 0 ∧ g < 0 then (if g < f then -1 else 1) else if f < g then -1 else 1 := by unfold headI; rw [if_neg h]

theorem head_nz {f g : Int} (h : f ≠ g) : ¬ headI f g = 0 := by
  rw [head_ne h]
  split
  · split <;> omega
  · split <;> omega

set_option maxHeartbeats 2000000 in
theorem ref2Cmp_any (t : Tm) : RCmp t := by
  refine Tm.ind (P := RCmp) (fun f xs ih => ?_) t
  intro u A A2 c c2 w hf hg hA hA2
  obtain ⟨g, ys⟩ := u
  simp only [Tm.fn, Tm.args] at hf hg hA hA2 ⊢
  have hl1 := hA.len
  have hl2 := hA2.len
  obtain ⟨p0, p1⟩ := heap2 w (.cells #[.int .i64 f, .slice A xs.length c] 27) (.cells #[.int .i64 g, .slice A2 ys.length c2] 27)
  obtain ⟨W, hW⟩ : ∃ W, ((w.alloc (.cells #[.int .i64 f, .slice A xs.length c] 27)).alloc (.cells #[.int .i64 g, .slice A2 ys.length c2] 27)) = W := ⟨_, rfl⟩
  have hB : Below w.heap.size w W := by rw [← hW]; exact ((Below.refl _ _).alloc (Nat.le_refl _) _).alloc (by simp) _
  rw [hW] at p0 p1
  have hWs : w.heap.size + 1 < W.heap.size := (Array.getElem?_eq_some_iff.1 p1).1
  have HW := Lib.hid hW
  have hA' := Lib.hid (hA.on hB)
  have hA2' := Lib.hid (hA2.on hB)
  have hSS : ∀ w', Below W.heap.size W w' → w'.cell? ⟨w.heap.size, 0, none⟩ = some (.int .i64 f) ∧ w'.cell? ⟨w.heap.size, 1, none⟩ = some (.slice A xs.length c) ∧ w'.cell? ⟨w.heap.size + 1, 0, none⟩ = some (.int .i64 g) ∧ w'.cell? ⟨w.heap.size + 1, 1, none⟩ = some (.slice A2 ys.length c2) := fun w' h =>
    ⟨(cells_two ((h.block _ (by omega)).trans p0)).1, (cells_two ((h.block _ (by omega)).trans p0)).2.1, (cells_two ((h.block _ hWs).trans p1)).1, (cells_two ((h.block _ hWs).trans p1)).2.1⟩
  obtain ⟨x0, x1, x2, x3⟩ := hSS W (Below.refl _ _)
  clear hW hA hA2 p0 p1
  by_cases hfg : f = g
  · subst hfg
    have hh : headI f f = 0 := by unfold headI; rw [if_pos rfl]
    go_enter Try.func49, Try.ntmps49
    go_upto_region 1 with fail
    rw [HW.out]
    go_wp2
    clear x0 x1 x2 x3
    go_loopw [5] (fun i wr => ∃ k : Nat, k ≤ xs.length ∧ k ≤ ys.length ∧ i = .int .i64 (k : Int) ∧ Below W.heap.size W wr ∧ Hid (∀ (j : Nat) (x y : Tm), j < k → xs[j]? = some x → ys[j]? = some y → cmpT x y = 0)) (fun i _ => xs.length - (intOf i).toNat)
    case atStart => exact ⟨0, Nat.zero_le _, Nat.zero_le _, rfl, Below.refl _ _, fun j x y h => by omega⟩
    case round =>
      obtain ⟨k, hk, hk2, rfl, hBr, H⟩ := hrel
      obtain ⟨_, x1, _, x3⟩ := hSS _ hBr
      by_cases hkl : k < xs.length ∧ k < ys.length
      · obtain ⟨hkx, hky⟩ := hkl
        obtain ⟨a, ha⟩ : ∃ a, xs[k]? = some a := ⟨_, List.getElem?_eq_getElem hkx⟩
        obtain ⟨b, hb⟩ : ∃ b, ys[k]? = some b := ⟨_, List.getElem?_eq_getElem hky⟩
        obtain ⟨bb, off, A', c', rfl, h1⟩ := (hA'.out.on hBr).get ha
        obtain ⟨bb2, off2, A2', c2', rfl, h2⟩ := (hA2'.out.on hBr).get hb
        have a0 := h1.c0
        have a1 := h1.c1
        have b0 := h2.c0
        have b1 := h2.c1
        have q1 := h1.hb
        have q2 := h2.hb
        have i1 := h1.hi
        have i2 := h2.hi
        have s1 : Hid (Args wr.drew wr.drew.heap.size A' a.args) := h1.sub.drewN 1
        have s2 : Hid (Args wr.drew wr.drew.heap.size A2' b.args) := h2.sub.drewN 1
        have Hab := Lib.hid (And.intro ha hb)
        have hia := ih a (List.mem_of_getElem? ha)
        clear ha hb h1 h2
        by_cases h0 : cmpT a b = 0
        · go_wp2
          go_region_held3 (fun w' => w'.cell? ⟨w.heap.size, 1, none⟩ = some (.slice (some ⟨bb, off, none⟩) xs.length c) ∧ w'.cell? ⟨w.heap.size + 1, 1, none⟩ = some (.slice (some ⟨bb2, off2, none⟩) ys.length c2) ∧ w'.cell? ⟨bb, off + k * 2, none⟩ = some (.int .i64 a.fn) ∧ w'.cell? ⟨bb, off + k * 2 + 1, none⟩ = some (.slice A' a.args.length c') ∧ w'.cell? ⟨bb2, off2 + k * 2, none⟩ = some (.int .i64 b.fn) ∧ w'.cell? ⟨bb2, off2 + k * 2 + 1, none⟩ = some (.slice A2' b.args.length c2'))
            (first | exact ⟨x1, x3, a0, a1, b0, b1⟩ | exact ⟨(hSS _ hB1).2.1, (hSS _ hB1).2.2.2, cell_on hb1 q1 a0, cell_on hb1 q1 a1, cell_on hb1 q2 b0, cell_on hb1 q2 b1⟩ | fail)
            (first
              | (go_at_call 49; refine (hia b A' A2' c' c2' wr.drew i1 i2 s1.out s2.out).mono ?_; rintro e w1 ⟨rfl, hb1'⟩; have hb1 : Below wr.heap.size wr w1 := ⟨hb1'.os, hb1'.tape, hb1'.output, hb1'.size, hb1'.block⟩; have hB1 := bl_step hBr hb1; rw [h0])
              | fail)
          go_wp2
          go_roundw
          case rel =>
            refine ⟨k + 1, by omega, by omega, by go_num, hB1, fun j x y hj hx hy => ?_⟩
            by_cases e : j = k
            · subst e
              obtain ⟨e1, e2⟩ := Hab.out
              rw [hx] at e1; rw [hy] at e2
              cases e1; cases e2
              exact h0
            · exact H.out j x y (by omega) hx hy
          case measure => simp [intOf]; omega
        · have hcl := cmpL_hit Hab.out.1 Hab.out.2 H.out h0
          have hh2 := Lib.hid (show cmpT (.node f xs) (.node f ys) = cmpT a b by rw [cmpT_c hh (by rw [hcl]; exact h0), hcl])
          clear hcl
          go_wp2
          go_region_held3 (fun w' => w'.cell? ⟨w.heap.size, 1, none⟩ = some (.slice (some ⟨bb, off, none⟩) xs.length c) ∧ w'.cell? ⟨w.heap.size + 1, 1, none⟩ = some (.slice (some ⟨bb2, off2, none⟩) ys.length c2) ∧ w'.cell? ⟨bb, off + k * 2, none⟩ = some (.int .i64 a.fn) ∧ w'.cell? ⟨bb, off + k * 2 + 1, none⟩ = some (.slice A' a.args.length c') ∧ w'.cell? ⟨bb2, off2 + k * 2, none⟩ = some (.int .i64 b.fn) ∧ w'.cell? ⟨bb2, off2 + k * 2 + 1, none⟩ = some (.slice A2' b.args.length c2'))
            (first | exact ⟨x1, x3, a0, a1, b0, b1⟩ | exact ⟨(hSS _ hB1).2.1, (hSS _ hB1).2.2.2, cell_on hb1 q1 a0, cell_on hb1 q1 a1, cell_on hb1 q2 b0, cell_on hb1 q2 b1⟩ | fail)
            (first
              | (go_at_call 49; refine (hia b A' A2' c' c2' wr.drew i1 i2 s1.out s2.out).mono ?_; rintro e w1 ⟨rfl, hb1'⟩; have hb1 : Below wr.heap.size wr w1 := ⟨hb1'.os, hb1'.tape, hb1'.output, hb1'.size, hb1'.block⟩; have hB1 := bl_step hBr hb1)
              | fail)
          go_wp2
          go_ret
          exact ⟨ret_int hh2.out.symm, hB.trans (hB1.mono hB.size)⟩
      · have hcl : cmpL xs ys = 0 := cmpL_miss fun j x y hx hy => H.out j x y (by have h1 := (List.getElem?_eq_some_iff.1 hx).1; have h2 := (List.getElem?_eq_some_iff.1 hy).1; omega) hx hy
        have hh2 := Lib.hid (cmpT_n hh hcl : cmpT (.node f xs) (.node f ys) = numI xs.length ys.length)
        clear hcl
        rcases Nat.lt_trichotomy xs.length ys.length with h | h | h
        · have e : numI xs.length ys.length = -1 := by unfold numI; rw [if_pos (by omega)]
          have e := Lib.hid e
          go_wp2
          go_ret
          exact ⟨ret_int (by rw [hh2.out, e.out]), hB.trans (hBr.mono hB.size)⟩
        · have e : numI xs.length ys.length = 0 := by unfold numI; rw [if_neg (by omega), if_neg (by omega)]
          have e := Lib.hid e
          go_wp2
          go_ret
          exact ⟨ret_int (by rw [hh2.out, e.out]), hB.trans (hBr.mono hB.size)⟩
        · have e : numI xs.length ys.length = 1 := by unfold numI; rw [if_neg (by omega), if_pos (by omega)]
          have e := Lib.hid e
          go_wp2
          go_ret
          exact ⟨ret_int (by rw [hh2.out, e.out]), hB.trans (hBr.mono hB.size)⟩
  · have hh := Lib.hid ((cmpT_h (head_nz hfg) : cmpT (.node f xs) (.node g ys) = headI f g).trans (head_ne hfg))
    by_cases h1 : f < 0 ∧ g < 0
    · obtain ⟨h1, h2⟩ := h1
      by_cases h3 : g < f
      all_goals
        go_enter Try.func49, Try.ntmps49
        go_upto_region 1 with fail
        rw [HW.out]
        go_wp2
        go_ret
        exact ⟨ret_int (by rw [hh.out, if_pos ⟨h1, h2⟩]; first | rw [if_pos (by omega)] | rw [if_neg (by omega)]), hB⟩
    · by_cases h2 : f < 0
      · have h3 : ¬ g < 0 := fun e => h1 ⟨h2, e⟩
        have h4 : f < g := by omega
        go_enter Try.func49, Try.ntmps49
        go_upto_region 1 with fail
        rw [HW.out]
        go_wp2
        go_ret
        exact ⟨ret_int (by rw [hh.out, if_neg h1, if_pos h4]), hB⟩
      · by_cases h4 : f < g
        all_goals
          go_enter Try.func49, Try.ntmps49
          go_upto_region 1 with fail
          rw [HW.out]
          go_wp2
          go_ret
          exact ⟨ret_int (by rw [hh.out, if_neg h1]; first | rw [if_pos (by omega)] | rw [if_neg (by omega)]), hB⟩

theorem ref2Cmp_at (t u : Tm) (A A2 : Option Addr) (c c2 : Nat) (w : World) (hf : I64 t.fn) (hg : I64 u.fn) (hA : Args w w.heap.size A t.args) (hA2 : Args w w.heap.size A2 u.args) :
    Calls Try.prog 49 #[.agg #[.int .i64 t.fn, .slice A t.args.length c], .agg #[.int .i64 u.fn, .slice A2 u.args.length c2]] w fun e w' => e = .returned (.int .i64 (cmpT t u)) ∧ Below w.heap.size w w' :=
  ref2Cmp_any t u A A2 c c2 w hf hg hA hA2

theorem ref2Same_any' (t u : Tm) (A A2 : Option Addr) (c c2 : Nat) (w : World) (hf : I64 t.fn) (hg : I64 u.fn) (hA : Args w w.heap.size A t.args) (hA2 : Args w w.heap.size A2 u.args) :
    Calls Try.prog 22 #[.agg #[.int .i64 t.fn, .slice A t.args.length c], .agg #[.int .i64 u.fn, .slice A2 u.args.length c2]] w fun e w' => e = .returned (.bool (decide (cmpT t u = 0))) ∧ Below w.heap.size w w' := by
  have hWB : Below w.heap.size w ((w.alloc (.cells #[.int .i64 t.fn, .slice A t.args.length c] 27)).alloc (.cells #[.int .i64 u.fn, .slice A2 u.args.length c2] 27)) := ((Below.refl _ _).alloc (Nat.le_refl _) _).alloc (by simp) _
  go_enter Try.func22, Try.ntmps22
  go_wp2_with (first
    | (go_at_call 49; refine (ref2Cmp_at t u A A2 c c2 _ hf hg (hA.on hWB) (hA2.on hWB)).mono ?_; rintro e w1 ⟨rfl, hb1⟩; have hB1 := bl_step hWB hb1)
    | fail)
  go_ret
  exact ⟨rfl, hB1⟩

end Go.Proofs.Ytbchignbndgigaa

/- kbo: the document's own around, above. -/

namespace Go.Proofs.Ytbchignbndgigaa

open Go.RowKit Go.Shelf Go.Maps
set_option maxRecDepth 100000

/-- Does a term consist of f, once or more, around v? -/
def arnT (f v : Int) : Tm → Bool
  | .node g [x] => (g == f) && (x.fn == v || arnT f v x)
  | _ => false

theorem arnT_one {f v g : Int} {x : Tm} : arnT f v (.node g [x]) = ((g == f) && (x.fn == v || arnT f v x)) := by rw [arnT]

theorem arnT_no {f v : Int} {t : Tm} (h : ¬ t.args.length = 1) : arnT f v t = false := by
  obtain ⟨g, xs⟩ := t
  match xs, h with
  | [], _ => rw [arnT]; intro _ _ e; cases e
  | [x], h => exact absurd rfl h
  | x :: y :: ys, _ => rw [arnT]; intro _ _ e; cases e

theorem arnT_top {f v : Int} {t : Tm} (h : ¬ t.fn = f) : arnT f v t = false := by
  by_cases h1 : t.args.length = 1
  · obtain ⟨g, xs⟩ := t
    match xs, h1 with
    | [x], _ =>
      rw [arnT_one, show (g == f) = false by simpa [Tm.fn] using h, Bool.false_and]
  · exact arnT_no h1

theorem arnT_yes {f v : Int} {t x : Tm} (h : t.fn = f) (h1 : t.args.length = 1) (hx : t.args[0]? = some x) : arnT f v t = (x.fn == v || arnT f v x) := by
  obtain ⟨g, xs⟩ := t
  match xs, h1, hx with
  | [y], _, hx =>
    simp only [Tm.args, List.getElem?_cons_zero, Option.some.injEq] at hx
    subst hx
    rw [arnT_one, show (g == f) = true by simpa [Tm.fn] using h, Bool.true_and]

def RArn (f v : Int) (t : Tm) : Prop := ∀ (A : Option Addr) (c : Nat) (w : World), I64 t.fn → Args w w.heap.size A t.args →
  Calls Try.prog 60 #[.agg #[.int .i64 t.fn, .slice A t.args.length c], .int .i64 f, .int .i64 v] w fun e w' => e = .returned (.bool (arnT f v t)) ∧ Below w.heap.size w w'

set_option maxHeartbeats 2000000 in
theorem refAround_any (f v : Int) (t : Tm) : RArn f v t := by
  refine Tm.ind (P := RArn f v) (fun f0 xs0 ih0 => ?_) t
  have ih : ∀ x ∈ (Tm.node f0 xs0).args, RArn f v x := ih0
  generalize Tm.node f0 xs0 = s at ih ⊢
  clear ih0
  intro A c w hf hA
  have hlen := hA.len
  obtain ⟨W, hW⟩ : ∃ W, w.alloc (.cells #[.int .i64 s.fn, .slice A s.args.length c] 27) = W := ⟨_, rfl⟩
  obtain ⟨hB, hlt, hS⟩ := box_term hW
  have HW := Lib.hid hW
  obtain ⟨x0, x1⟩ := hS W (Below.refl _ _)
  clear hW hS
  by_cases h1 : s.fn = f
  · have g1 : (s.fn != f) = false := by simp [h1]
    by_cases h2 : s.args.length = 1
    · obtain ⟨x, hx⟩ : ∃ x, s.args[0]? = some x := ⟨_, List.getElem?_eq_getElem (by omega)⟩
      have hfin := Lib.hid (arnT_yes (v := v) h1 h2 hx)
      obtain ⟨bb, off, A1, c1, rfl, ha⟩ := (hA.on hB).get hx
      have e0 := ha.c0
      have e1 := ha.c1
      rw [Nat.zero_mul, Nat.add_zero] at e0 e1
      have H1 := ih x (List.mem_of_getElem? hx) A1 c1 W ha.hi ha.sub
      have g2 : ((s.args.length : Int) != 1) = false := by simp [h2]
      have hl0 : 0 < s.args.length := by omega
      by_cases h3 : x.fn = v
      · have g3 : (x.fn == v) = true := by rw [beq_iff_eq]; exact h3
        rw [g3, Bool.true_or] at hfin
        clear h1 h2 h3 hx ha H1 hA
        go_enter Try.func60, Try.ntmps60
        go_upto_region 1 with fail
        rw [HW.out]
        go_wp2
        go_ret
        exact ⟨by rw [hfin.out]; rfl, hB⟩
      · have g3 : (x.fn == v) = false := by simp [h3]
        rw [g3, Bool.false_or] at hfin
        have H1 := Lib.hid H1
        clear h1 h2 h3 hx ha hA
        go_enter Try.func60, Try.ntmps60
        go_upto_region 1 with fail
        rw [HW.out]
        go_wp2_with (first
          | (go_at_call 60; (with_reducible refine H1.out.mono ?_); go_must (rintro e w1 ⟨rfl, hb1⟩))
          | fail)
        go_ret
        exact ⟨by rw [hfin.out]; rfl, hB.trans (hb1.mono hB.size)⟩
    · have hfin := Lib.hid (arnT_no (f := f) (v := v) h2)
      have g2 : ((s.args.length : Int) != 1) = true := by simp; omega
      clear h1 h2
      go_enter Try.func60, Try.ntmps60
      go_upto_region 1 with fail
      rw [HW.out]
      go_wp2
      go_ret
      exact ⟨by rw [hfin.out]; rfl, hB⟩
  · have hfin := Lib.hid (arnT_top (v := v) h1)
    have g1 : (s.fn != f) = true := by simp [h1]
    clear h1
    go_enter Try.func60, Try.ntmps60
    go_upto_region 1 with fail
    rw [HW.out]
    go_wp2
    go_ret
    exact ⟨by rw [hfin.out]; rfl, hB⟩

end Go.Proofs.Ytbchignbndgigaa

/- kbo: the document's own above, Cmp. -/

namespace Go.Proofs.Ytbchignbndgigaa

open Go.RowKit Go.Shelf Go.Maps
set_option maxRecDepth 100000

mutual
/-- Is s above t, both known? -/
def abvT (o : Odr) : Tm → Tm → Bool
  | .node f xs, t => covU (.node f xs) t t && (if capI (wsT o (.node f xs)) = capI (wsT o t) then
      (if f < 0 then false else if t.fn < 0 then arnT f t.fn (.node f xs) else if f = t.fn then abvL o xs t.args else decide (o.prec.getD t.fn.toNat 0 < o.prec.getD f.toNat 0)) else decide (capI (wsT o t) < capI (wsT o (.node f xs))))
def abvL (o : Odr) : List Tm → List Tm → Bool
  | [], _ => false
  | _ :: _, [] => true
  | x :: xs, y :: ys => if cmpT x y = 0 then abvL o xs ys else abvT o x y
end

theorem abvT_eq (o : Odr) (s t : Tm) : abvT o s t = (covU s t t && (if capI (wsT o s) = capI (wsT o t) then
      (if s.fn < 0 then false else if t.fn < 0 then arnT s.fn t.fn s else if s.fn = t.fn then abvL o s.args t.args else decide (o.prec.getD t.fn.toNat 0 < o.prec.getD s.fn.toNat 0)) else decide (capI (wsT o t) < capI (wsT o s)))) := by
  obtain ⟨f, xs⟩ := s
  rw [abvT]; rfl

theorem abvL_same {o : Odr} {xs ys : List Tm} {k : Nat} {u v : Tm} (hu : xs[k]? = some u) (hv : ys[k]? = some v) (h : cmpT u v = 0) : abvL o (xs.drop k) (ys.drop k) = abvL o (xs.drop (k + 1)) (ys.drop (k + 1)) := by
  obtain ⟨h1, h2⟩ := List.getElem?_eq_some_iff.1 hu
  obtain ⟨h3, h4⟩ := List.getElem?_eq_some_iff.1 hv
  rw [List.drop_eq_getElem_cons h1, h2, List.drop_eq_getElem_cons h3, h4, abvL, if_pos h]

theorem abvL_other {o : Odr} {xs ys : List Tm} {k : Nat} {u v : Tm} (hu : xs[k]? = some u) (hv : ys[k]? = some v) (h : ¬ cmpT u v = 0) : abvL o (xs.drop k) (ys.drop k) = abvT o u v := by
  obtain ⟨h1, h2⟩ := List.getElem?_eq_some_iff.1 hu
  obtain ⟨h3, h4⟩ := List.getElem?_eq_some_iff.1 hv
  rw [List.drop_eq_getElem_cons h1, h2, List.drop_eq_getElem_cons h3, h4, abvL, if_neg h]

theorem abvL_end {o : Odr} {xs ys : List Tm} {k : Nat} (h1 : k ≤ xs.length) (h2 : k ≤ ys.length) (h : ¬ (k < xs.length ∧ k < ys.length)) : abvL o (xs.drop k) (ys.drop k) = decide (ys.length < xs.length) := by
  by_cases hx : k < xs.length
  · have hy : ys.drop k = [] := List.drop_eq_nil_of_le (by omega)
    rw [hy, List.drop_eq_getElem_cons hx, abvL, decide_eq_true (by omega)]
  · have hx0 : xs.drop k = [] := List.drop_eq_nil_of_le (by omega)
    rw [hx0, abvL, decide_eq_false (by omega)]

/-- The boxes of an order and two terms that are parameters, and what stays of them. -/
theorem box_ott {w W : World} {o : Odr} {s t : Tm} {P Q A A2 : Option Addr} {pc qc c c2 : Nat} (hW : ((w.alloc (.cells #[.bool o.lpo, .slice P o.prec.length pc, .slice Q o.wts.length qc, .int .i64 o.var] 24)).alloc (.cells #[.int .i64 s.fn, .slice A s.args.length c] 27)).alloc (.cells #[.int .i64 t.fn, .slice A2 t.args.length c2] 27) = W) :
    Below w.heap.size w W ∧ W.heap.size = w.heap.size + 3 ∧ ∀ w', Below W.heap.size W w' → w'.cell? ⟨w.heap.size, 0, none⟩ = some (.bool o.lpo) ∧ w'.cell? ⟨w.heap.size, 1, none⟩ = some (.slice P o.prec.length pc) ∧ w'.cell? ⟨w.heap.size, 2, none⟩ = some (.slice Q o.wts.length qc) ∧ w'.cell? ⟨w.heap.size, 3, none⟩ = some (.int .i64 o.var) ∧
      w'.cell? ⟨w.heap.size + 1, 0, none⟩ = some (.int .i64 s.fn) ∧ w'.cell? ⟨w.heap.size + 1, 1, none⟩ = some (.slice A s.args.length c) ∧ w'.cell? ⟨w.heap.size + 2, 0, none⟩ = some (.int .i64 t.fn) ∧ w'.cell? ⟨w.heap.size + 2, 1, none⟩ = some (.slice A2 t.args.length c2) := by
  obtain ⟨q0, q1, q2⟩ := heap3 w (.cells #[.bool o.lpo, .slice P o.prec.length pc, .slice Q o.wts.length qc, .int .i64 o.var] 24) (.cells #[.int .i64 s.fn, .slice A s.args.length c] 27) (.cells #[.int .i64 t.fn, .slice A2 t.args.length c2] 27)
  rw [hW] at q0 q1 q2
  have hz : W.heap.size = w.heap.size + 3 := by rw [← hW]; simp
  refine ⟨by rw [← hW]; exact (((Below.refl _ _).alloc (Nat.le_refl _) _).alloc (by simp) _).alloc (by simp; omega) _, hz, fun w' hb => ?_⟩
  obtain ⟨a0, a1, a2, a3⟩ := cells_four ((hb.block _ (by omega)).trans q0)
  obtain ⟨b0, b1, _, _⟩ := cells_two ((hb.block _ (by omega)).trans q1)
  obtain ⟨d0, d1, _, _⟩ := cells_two ((hb.block _ (by omega)).trans q2)
  exact ⟨a0, a1, a2, a3, b0, b1, d0, d1⟩

def RAbv (o : Odr) (s : Tm) : Prop := ∀ t : Tm, knowT o s = true → knowT o t = true → s.size ≤ 1073741824 → t.size ≤ 1073741824 → I64 s.fn → I64 t.fn → ∀ (P Q A A2 : Option Addr) (pc qc c c2 : Nat) (w : World), OdrM w w.heap.size o P Q → Args w w.heap.size A s.args → Args w w.heap.size A2 t.args →
  Calls Try.prog 39 #[.agg #[.bool o.lpo, .slice P o.prec.length pc, .slice Q o.wts.length qc, .int .i64 o.var], .agg #[.int .i64 s.fn, .slice A s.args.length c], .agg #[.int .i64 t.fn, .slice A2 t.args.length c2]] w fun e w' => e = .returned (.bool (abvT o s t)) ∧ Below w.heap.size w w'

set_option maxHeartbeats 8000000 in
theorem refAbove_any (o : Odr) (s : Tm) : RAbv o s := by
  refine Tm.ind (P := RAbv o) (fun f0 xs0 ih0 => ?_) s
  have ih : ∀ x ∈ (Tm.node f0 xs0).args, RAbv o x := ih0
  generalize Tm.node f0 xs0 = s at ih ⊢
  clear ih0
  intro t hks hkt hzs hzt hfs hft P Q A A2 pc qc c c2 w hM hA hA2
  have hlen := hA.len
  have hlen2 := hA2.len
  obtain ⟨W, hW⟩ : ∃ W, (((w.alloc (.cells #[.bool o.lpo, .slice P o.prec.length pc, .slice Q o.wts.length qc, .int .i64 o.var] 24)).alloc (.cells #[.int .i64 s.fn, .slice A s.args.length c] 27)).alloc (.cells #[.int .i64 t.fn, .slice A2 t.args.length c2] 27)) = W := ⟨_, rfl⟩
  obtain ⟨hB, hz, hS⟩ := box_ott hW
  have HW := Lib.hid hW
  obtain ⟨x0, x1, x2, x3, x4, x5, x6, x7⟩ := hS W (Below.refl _ _)
  have HS := Lib.hid hS
  have HA := Lib.hid hA
  have HA2 := Lib.hid hA2
  have HM := Lib.hid hM
  have Hks := Lib.hid hks
  have Hkt := Lib.hid hkt
  have Habv := Lib.hid (abvT_eq o s t)
  have h1 := refCovers_any s t hzs hzt hfs hft t A A2 A2 c c2 c2 W hft (hA.on hB) (hA2.on hB) (hA2.on hB)
  clear hW hS hA hA2 hM hks hkt
  cases hcv : covU s t t with
  | false =>
    have hfin := Lib.hid (show abvT o s t = false by rw [Habv.out, hcv, Bool.false_and])
    rw [hcv] at h1
    have H1 := Lib.hid h1
    clear h1 hcv
    go_enter Try.func39, Try.ntmps39
    go_upto_region 1 with fail
    rw [HW.out]
    go_wp2_with (first
      | (go_at_call 59; (with_reducible refine H1.out.mono ?_); go_must (rintro e w1 ⟨rfl, hb1⟩))
      | fail)
    go_ret
    exact ⟨by rw [hfin.out]; rfl, hB.trans (hb1.mono hB.size)⟩
  | true =>
    rw [hcv] at h1
    have H1 := Lib.hid h1
    have Habv : Hid (abvT o s t = _) := Lib.hid (by rw [Habv.out, hcv, Bool.true_and])
    clear h1 hcv
    go_enter Try.func39, Try.ntmps39
    go_upto_region 1 with fail
    rw [HW.out]
    go_upto_region 3 with (first
      | (go_at_call 59; (with_reducible refine H1.out.mono ?_); go_must (rintro e w1 ⟨rfl, hb1⟩))
      | fail)
    have hBw1 := hB.trans (hb1.mono hB.size)
    have hM1 := HM.out.on hBw1
    have hA1 := HA.out.on hBw1
    have hA21 := HA2.out.on hBw1
    have HW1 : Hid (∀ y : Later w1.heap.size w1, Calls Try.prog 46 #[.agg #[.bool o.lpo, .slice P o.prec.length pc, .slice Q o.wts.length qc, .int .i64 o.var], .agg #[.int .i64 s.fn, .slice A s.args.length c]] y.w fun e w' => e = .returned (.int .i64 (capI (wsT o s))) ∧ Below y.w.heap.size y.w w') := Lib.hid fun y => refWgt_any o s Hks.out P Q A pc qc c y.w (hM1.on y.h) hfs (hA1.on y.h)
    have HW2 : Hid (∀ y : Later w1.heap.size w1, Calls Try.prog 46 #[.agg #[.bool o.lpo, .slice P o.prec.length pc, .slice Q o.wts.length qc, .int .i64 o.var], .agg #[.int .i64 t.fn, .slice A2 t.args.length c2]] y.w fun e w' => e = .returned (.int .i64 (capI (wsT o t))) ∧ Below y.w.heap.size y.w w') := Lib.hid fun y => refWgt_any o t Hkt.out P Q A2 pc qc c2 y.w (hM1.on y.h) hft (hA21.on y.h)
    have m0 : ∀ y : Later w1.heap.size w1, y.w.cell? ⟨w.heap.size, 0, none⟩ = some (.bool o.lpo) := fun y => (HS.out y.w (hb1.trans (y.h.mono hb1.size))).1
    have m1 : ∀ y : Later w1.heap.size w1, y.w.cell? ⟨w.heap.size, 1, none⟩ = some (.slice P o.prec.length pc) := fun y => (HS.out y.w (hb1.trans (y.h.mono hb1.size))).2.1
    have m2 : ∀ y : Later w1.heap.size w1, y.w.cell? ⟨w.heap.size, 2, none⟩ = some (.slice Q o.wts.length qc) := fun y => (HS.out y.w (hb1.trans (y.h.mono hb1.size))).2.2.1
    have m3 : ∀ y : Later w1.heap.size w1, y.w.cell? ⟨w.heap.size, 3, none⟩ = some (.int .i64 o.var) := fun y => (HS.out y.w (hb1.trans (y.h.mono hb1.size))).2.2.2.1
    have m4 : ∀ y : Later w1.heap.size w1, y.w.cell? ⟨w.heap.size + 1, 0, none⟩ = some (.int .i64 s.fn) := fun y => (HS.out y.w (hb1.trans (y.h.mono hb1.size))).2.2.2.2.1
    have m5 : ∀ y : Later w1.heap.size w1, y.w.cell? ⟨w.heap.size + 1, 1, none⟩ = some (.slice A s.args.length c) := fun y => (HS.out y.w (hb1.trans (y.h.mono hb1.size))).2.2.2.2.2.1
    have m6 : ∀ y : Later w1.heap.size w1, y.w.cell? ⟨w.heap.size + 2, 0, none⟩ = some (.int .i64 t.fn) := fun y => (HS.out y.w (hb1.trans (y.h.mono hb1.size))).2.2.2.2.2.2.1
    have m7 : ∀ y : Later w1.heap.size w1, y.w.cell? ⟨w.heap.size + 2, 1, none⟩ = some (.slice A2 t.args.length c2) := fun y => (HS.out y.w (hb1.trans (y.h.mono hb1.size))).2.2.2.2.2.2.2
    obtain ⟨va, hva⟩ : ∃ v, capI (wsT o s) = v := ⟨_, rfl⟩
    obtain ⟨vb, hvb⟩ : ∃ v, capI (wsT o t) = v := ⟨_, rfl⟩
    rw [hva] at HW1 Habv
    rw [hvb] at HW2 Habv
    clear hM1 hA1 hA21 hva hvb
    refine wp_region_later w1.heap.size w1 (by kernel_rfl) (by kernel_rfl) (bl_drewN (Below.refl _ _) 1) ?_
    repeat (go_big_quiet_step (first | (go_at_call 46; first | (with_reducible refine calls_later _ (Nat.le_refl _) (HW1.out _)) | (with_reducible refine calls_later _ (Nat.le_refl _) (HW2.out _))) | fail))
    refine wpQuiet_nil ?_
    rintro _ ⟨z, rfl⟩
    clear m0 m1 m2 m3 m4 m5 m6 m7 HW1 HW2
    have hBz : Below W.heap.size W z.w := hb1.trans (z.h.mono hb1.size)
    have hBwz := hB.trans (hBz.mono hB.size)
    have hMz := HM.out.on hBwz
    have hAz := HA.out.on hBwz
    have hA2z := HA2.out.on hBwz
    obtain ⟨y0, y1, y2, y3, y4, y5, y6, y7⟩ := HS.out z.w hBz
    have HMz := Lib.hid hMz
    have HAz := Lib.hid hAz
    have HA2z := Lib.hid hA2z
    clear hMz hAz hA2z
    by_cases hab : va = vb
    · have g1 : (va != vb) = false := by simp [hab]
      have Habv : Hid (abvT o s t = _) := Lib.hid (by rw [Habv.out, if_pos hab])
      clear hab
      by_cases hs0 : s.fn < 0
      · have hfin := Lib.hid (show abvT o s t = false by rw [Habv.out, if_pos hs0])
        go_wp2
        go_ret
        exact ⟨by rw [hfin.out]; rfl, hBwz⟩
      · have Habv : Hid (abvT o s t = _) := Lib.hid (by rw [Habv.out, if_neg hs0])
        by_cases ht0 : t.fn < 0
        · have hfin := Lib.hid (show abvT o s t = arnT s.fn t.fn s by rw [Habv.out, if_pos ht0])
          have H2 := Lib.hid (refAround_any s.fn t.fn s A c z.w hfs HAz.out)
          go_wp2_with (first
            | (go_at_call 60; (with_reducible refine H2.out.mono ?_); go_must (rintro e w2 ⟨rfl, hb2⟩))
            | fail)
          go_ret
          exact ⟨by rw [hfin.out]; rfl, hBwz.trans (hb2.mono hBwz.size)⟩
        · have Habv : Hid (abvT o s t = _) := Lib.hid (by rw [Habv.out, if_neg ht0])
          by_cases hst : s.fn = t.fn
          · have g2 : (s.fn != t.fn) = false := by simp [hst]
            have Habv : Hid (abvT o s t = abvL o s.args t.args) := Lib.hid (by rw [Habv.out, if_pos hst])
            clear hst
            go_wp2
            go_loopw [9] (fun i wr => ∃ k : Nat, k ≤ s.args.length ∧ k ≤ t.args.length ∧ i = .int .i64 (k : Int) ∧ Below W.heap.size W wr ∧ Hid (abvT o s t = abvL o (s.args.drop k) (t.args.drop k))) (fun i _ => s.args.length - (intOf i).toNat)
            case atStart => exact ⟨0, Nat.zero_le _, Nat.zero_le _, rfl, hBz, Habv⟩
            case round =>
              obtain ⟨k, hk, hk2, rfl, hBr, Hk⟩ := hrel
              obtain ⟨z0, z1, z2, z3, z4, z5, z6, z7⟩ := HS.out wr hBr
              have hBwr := hB.trans (hBr.mono hB.size)
              clear y0 y1 y2 y3 y4 y5 y6 y7
              by_cases hkl : k < s.args.length ∧ k < t.args.length
              · obtain ⟨hkl, hkl2⟩ := hkl
                obtain ⟨u, hu⟩ : ∃ u, s.args[k]? = some u := ⟨_, List.getElem?_eq_getElem hkl⟩
                obtain ⟨v, hv⟩ : ∃ v, t.args[k]? = some v := ⟨_, List.getElem?_eq_getElem hkl2⟩
                obtain ⟨bb, off, A1, c1, hAA, ha⟩ := (HA.out.on hBwr).get hu
                obtain ⟨bb2, off2, A3, c3, hAA2, ha2⟩ := (HA2.out.on hBwr).get hv
                have hMr := HM.out.on hBwr
                have hsu := size_mem (List.mem_of_getElem? hu)
                have hsv := size_mem (List.mem_of_getElem? hv)
                have hns := size_node s
                have hnt := size_node t
                have hku := knowL_mem (know_node Hks.out).2 (List.mem_of_getElem? hu)
                have hkv := knowL_mem (know_node Hkt.out).2 (List.mem_of_getElem? hv)
                have HI : Hid (∀ w2, Below wr.heap.size wr w2 → ∀ y : Later w2.heap.size w2, Calls Try.prog 39 #[.agg #[.bool o.lpo, .slice P o.prec.length pc, .slice Q o.wts.length qc, .int .i64 o.var], .agg #[.int .i64 u.fn, .slice A1 u.args.length c1], .agg #[.int .i64 v.fn, .slice A3 v.args.length c3]] y.w fun e w' => e = .returned (.bool (abvT o u v)) ∧ Below y.w.heap.size y.w w') := Lib.hid fun w2 hb2 y => ih u (List.mem_of_getElem? hu) v hku hkv (by omega) (by omega) ha.hi ha2.hi P Q A1 A3 pc qc c1 c3 y.w ((hMr.on hb2).on y.h) ((ha.sub.on hb2).on y.h) ((ha2.sub.on hb2).on y.h)
                have HE : Hid (∀ y : Later wr.heap.size wr, Calls Try.prog 22 #[.agg #[.int .i64 u.fn, .slice A1 u.args.length c1], .agg #[.int .i64 v.fn, .slice A3 v.args.length c3]] y.w fun e w' => e = .returned (.bool (decide (cmpT u v = 0))) ∧ Below y.w.heap.size y.w w') := Lib.hid fun y => ref2Same_any' u v A1 A3 c1 c3 y.w ha.hi ha2.hi (ha.sub.on y.h) (ha2.sub.on y.h)
                have HM7 : Hid (∀ w2, Below wr.heap.size wr w2 → (w2.cell? ⟨w.heap.size, 0, none⟩ = some (.bool o.lpo) ∧ w2.cell? ⟨w.heap.size, 1, none⟩ = some (.slice P o.prec.length pc) ∧ w2.cell? ⟨w.heap.size, 2, none⟩ = some (.slice Q o.wts.length qc) ∧ w2.cell? ⟨w.heap.size, 3, none⟩ = some (.int .i64 o.var) ∧ w2.cell? ⟨w.heap.size + 1, 1, none⟩ = some (.slice A s.args.length c) ∧ w2.cell? ⟨w.heap.size + 2, 1, none⟩ = some (.slice A2 t.args.length c2) ∧
                    w2.cell? ⟨bb, off + k * 2, none⟩ = some (.int .i64 u.fn) ∧ w2.cell? ⟨bb, off + k * 2 + 1, none⟩ = some (.slice A1 u.args.length c1) ∧ w2.cell? ⟨bb2, off2 + k * 2, none⟩ = some (.int .i64 v.fn) ∧ w2.cell? ⟨bb2, off2 + k * 2 + 1, none⟩ = some (.slice A3 v.args.length c3))) := Lib.hid fun w2 hb2 => by
                  obtain ⟨n0, n1, n2, n3, n4, n5, n6, n7⟩ := HS.out w2 (hBr.trans (hb2.mono hBr.size))
                  exact ⟨n0, n1, n2, n3, n5, n7, cell_on hb2 ha.hb ha.c0, cell_on hb2 ha.hb ha.c1, cell_on hb2 ha2.hb ha2.c0, cell_on hb2 ha2.hb ha2.c1⟩
                have m4 : ∀ y : Later wr.heap.size wr, y.w.cell? ⟨w.heap.size + 1, 1, none⟩ = some (.slice A s.args.length c) := fun y => (HM7.out y.w y.h).2.2.2.2.1
                have m5 : ∀ y : Later wr.heap.size wr, y.w.cell? ⟨w.heap.size + 2, 1, none⟩ = some (.slice A2 t.args.length c2) := fun y => (HM7.out y.w y.h).2.2.2.2.2.1
                have m6 : ∀ y : Later wr.heap.size wr, y.w.cell? ⟨bb, off + k * 2, none⟩ = some (.int .i64 u.fn) := fun y => (HM7.out y.w y.h).2.2.2.2.2.2.1
                have m7 : ∀ y : Later wr.heap.size wr, y.w.cell? ⟨bb, off + k * 2 + 1, none⟩ = some (.slice A1 u.args.length c1) := fun y => (HM7.out y.w y.h).2.2.2.2.2.2.2.1
                have m8 : ∀ y : Later wr.heap.size wr, y.w.cell? ⟨bb2, off2 + k * 2, none⟩ = some (.int .i64 v.fn) := fun y => (HM7.out y.w y.h).2.2.2.2.2.2.2.2.1
                have m9 : ∀ y : Later wr.heap.size wr, y.w.cell? ⟨bb2, off2 + k * 2 + 1, none⟩ = some (.slice A3 v.args.length c3) := fun y => (HM7.out y.w y.h).2.2.2.2.2.2.2.2.2
                subst hAA; subst hAA2
                by_cases heq : cmpT u v = 0
                · rw [decide_eq_true heq] at HE
                  have Hn : Hid (abvT o s t = abvL o (s.args.drop (k + 1)) (t.args.drop (k + 1))) := Lib.hid (by rw [Hk.out, abvL_same hu hv heq])
                  clear heq hu hv ha ha2 hMr hku hkv hsu hsv hns hnt HI HM7
                  go_upto_region 15 with fail
                  refine wp_region_later wr.heap.size wr (by kernel_rfl) (by kernel_rfl) (bl_drewN (Below.refl _ _) 1) ?_
                  repeat (go_big_quiet_step (first | (go_at_call 22; with_reducible refine calls_later _ (Nat.le_refl _) (HE.out _)) | fail))
                  refine wpQuiet_nil ?_
                  rintro _ ⟨z', rfl⟩
                  clear m4 m5 m6 m7 m8 m9
                  go_wp2
                  go_roundw
                  case rel => exact ⟨k + 1, by omega, by omega, by go_num, hBr.trans (z'.h.mono hBr.size), Hn⟩
                  case measure => simp [intOf]; omega
                · rw [decide_eq_false heq] at HE
                  have Hn : Hid (abvT o s t = abvT o u v) := Lib.hid (by rw [Hk.out, abvL_other hu hv heq])
                  clear heq hu hv ha ha2 hMr hku hkv hsu hsv hns hnt
                  go_upto_region 15 with fail
                  refine wp_region_later wr.heap.size wr (by kernel_rfl) (by kernel_rfl) (bl_drewN (Below.refl _ _) 1) ?_
                  repeat (go_big_quiet_step (first | (go_at_call 22; with_reducible refine calls_later _ (Nat.le_refl _) (HE.out _)) | fail))
                  refine wpQuiet_nil ?_
                  rintro _ ⟨z', rfl⟩
                  clear m4 m5 m6 m7 m8 m9
                  have HI := Lib.hid (HI.out z'.w z'.h)
                  have HM8 : Hid (∀ y : Later z'.w.heap.size z'.w, _) := Lib.hid fun y => HM7.out y.w (z'.h.trans (y.h.mono z'.h.size))
                  have m0 : ∀ y : Later z'.w.heap.size z'.w, y.w.cell? ⟨w.heap.size, 0, none⟩ = some (.bool o.lpo) := fun y => (HM8.out y).1
                  have m1 : ∀ y : Later z'.w.heap.size z'.w, y.w.cell? ⟨w.heap.size, 1, none⟩ = some (.slice P o.prec.length pc) := fun y => (HM8.out y).2.1
                  have m2 : ∀ y : Later z'.w.heap.size z'.w, y.w.cell? ⟨w.heap.size, 2, none⟩ = some (.slice Q o.wts.length qc) := fun y => (HM8.out y).2.2.1
                  have m3 : ∀ y : Later z'.w.heap.size z'.w, y.w.cell? ⟨w.heap.size, 3, none⟩ = some (.int .i64 o.var) := fun y => (HM8.out y).2.2.2.1
                  have m4 : ∀ y : Later z'.w.heap.size z'.w, y.w.cell? ⟨w.heap.size + 1, 1, none⟩ = some (.slice (some ⟨bb, off, none⟩) s.args.length c) := fun y => (HM8.out y).2.2.2.2.1
                  have m5 : ∀ y : Later z'.w.heap.size z'.w, y.w.cell? ⟨w.heap.size + 2, 1, none⟩ = some (.slice (some ⟨bb2, off2, none⟩) t.args.length c2) := fun y => (HM8.out y).2.2.2.2.2.1
                  have m6 : ∀ y : Later z'.w.heap.size z'.w, y.w.cell? ⟨bb, off + k * 2, none⟩ = some (.int .i64 u.fn) := fun y => (HM8.out y).2.2.2.2.2.2.1
                  have m7 : ∀ y : Later z'.w.heap.size z'.w, y.w.cell? ⟨bb, off + k * 2 + 1, none⟩ = some (.slice A1 u.args.length c1) := fun y => (HM8.out y).2.2.2.2.2.2.2.1
                  have m8 : ∀ y : Later z'.w.heap.size z'.w, y.w.cell? ⟨bb2, off2 + k * 2, none⟩ = some (.int .i64 v.fn) := fun y => (HM8.out y).2.2.2.2.2.2.2.2.1
                  have m9 : ∀ y : Later z'.w.heap.size z'.w, y.w.cell? ⟨bb2, off2 + k * 2 + 1, none⟩ = some (.slice A3 v.args.length c3) := fun y => (HM8.out y).2.2.2.2.2.2.2.2.2
                  go_upto_region 16 with fail
                  refine wp_region_later z'.w.heap.size z'.w (by kernel_rfl) (by kernel_rfl) (bl_drewN (Below.refl _ _) 1) ?_
                  repeat (go_big_quiet_step (first | (go_at_call 39; with_reducible refine calls_later _ (Nat.le_refl _) (HI.out _)) | fail))
                  refine wpQuiet_nil ?_
                  rintro _ ⟨z'', rfl⟩
                  clear m0 m1 m2 m3 m4 m5 m6 m7 m8 m9
                  go_wp2
                  go_ret
                  exact ⟨by rw [Hn.out]; rfl, (hBwr.trans (z'.h.mono hBwr.size)).trans (z''.h.mono (Nat.le_trans hBwr.size z'.h.size))⟩
              · have hfin := Lib.hid (show abvT o s t = decide (t.args.length < s.args.length) by rw [Hk.out, abvL_end hk hk2 hkl])
                by_cases hk1 : k < s.args.length
                · have hk3 : ¬ k < t.args.length := fun h => hkl ⟨hk1, h⟩
                  clear hkl
                  go_wp2
                  go_ret
                  exact ⟨by rw [hfin.out]; rfl, hBwr⟩
                · clear hkl
                  go_wp2
                  go_ret
                  exact ⟨by rw [hfin.out]; rfl, hBwr⟩
          · have g2 : (s.fn != t.fn) = true := by simp [hst]
            have Habv : Hid (abvT o s t = _) := Lib.hid (by rw [Habv.out, if_neg hst])
            clear hst
            have p1 := (know_top (know_node Hks.out).1).2.1
            have p2 := (know_top (know_node Hkt.out).1).2.1
            obtain ⟨i, hi⟩ : ∃ i : Nat, s.fn = (i : Int) := ⟨s.fn.toNat, by omega⟩
            obtain ⟨j, hj⟩ : ∃ j : Nat, t.fn = (j : Int) := ⟨t.fn.toNat, by omega⟩
            obtain ⟨a, ha⟩ : ∃ a, o.prec[i]? = some a := ⟨_, List.getElem?_eq_getElem (by omega)⟩
            obtain ⟨b, hb⟩ : ∃ b, o.prec[j]? = some b := ⟨_, List.getElem?_eq_getElem (by omega)⟩
            have hfin := Lib.hid (show abvT o s t = decide (a > b) by
              rw [Habv.out, hi, hj, List.getD_eq_getElem?_getD, List.getD_eq_getElem?_getD, show ((i : Int).toNat) = i from rfl, show ((j : Int).toNat) = j from rfl, ha, hb]; rfl)
            obtain ⟨bp, op, hPP, hbp, hca⟩ := HMz.out.p.get ha
            obtain ⟨bp2, op2, hPP2, _, hcb⟩ := HMz.out.p.get hb
            have m1 : ∀ y : Later z.w.heap.size z.w, y.w.cell? ⟨w.heap.size, 1, none⟩ = some (.slice P o.prec.length pc) := fun y => (HS.out y.w (hBz.trans (y.h.mono hBz.size))).2.1
            have m4 : ∀ y : Later z.w.heap.size z.w, y.w.cell? ⟨w.heap.size + 1, 0, none⟩ = some (.int .i64 (i : Int)) := fun y => by rw [← hi]; exact (HS.out y.w (hBz.trans (y.h.mono hBz.size))).2.2.2.2.1
            have m6 : ∀ y : Later z.w.heap.size z.w, y.w.cell? ⟨w.heap.size + 2, 0, none⟩ = some (.int .i64 (j : Int)) := fun y => by rw [← hj]; exact (HS.out y.w (hBz.trans (y.h.mono hBz.size))).2.2.2.2.2.2.1
            have hil : i < o.prec.length := by omega
            have hjl : j < o.prec.length := by omega
            subst hPP
            injection hPP2 with hPP2
            injection hPP2 with e1 e2 _
            subst e1; subst e2
            have m8 : ∀ y : Later z.w.heap.size z.w, y.w.cell? ⟨bp, op + i, none⟩ = some (.int .i64 a) := fun y => cell_on y.h hbp hca
            have m9 : ∀ y : Later z.w.heap.size z.w, y.w.cell? ⟨bp, op + j, none⟩ = some (.int .i64 b) := fun y => cell_on y.h hbp hcb
            have Hi := Lib.hid hi
            have Hj := Lib.hid hj
            clear hi hj ha hb hca hcb p1 p2
            go_upto_region 11 with fail
            refine wp_region_later z.w.heap.size z.w (by kernel_rfl) (by kernel_rfl) (bl_drewN (Below.refl _ _) 1) ?_
            repeat (go_big_quiet_step (fail))
            refine wpQuiet_nil ?_
            rintro _ ⟨z', rfl⟩
            clear m1 m4 m6 m8 m9
            go_wp2
            go_ret
            exact ⟨by rw [hfin.out]; rfl, hBwz.trans (z'.h.mono hBwz.size)⟩
    · have g1 : (va != vb) = true := by simp [hab]
      have hfin := Lib.hid (show abvT o s t = decide (va > vb) by rw [Habv.out, if_neg hab])
      clear hab
      go_wp2
      go_ret
      exact ⟨by rw [hfin.out]; rfl, hBwz⟩

end Go.Proofs.Ytbchignbndgigaa

/- kbo: the document's own Cmp. -/

namespace Go.Proofs.Ytbchignbndgigaa

open Go.RowKit Go.Shelf Go.Maps
set_option maxRecDepth 100000

/-- What the document's own Cmp answers. -/
def cmpR (o : Odr) (s t : Tm) : Int := if knowT o s && knowT o t then (if cmpT s t = 0 then 2 else if abvT o s t then 3 else if abvT o t s then 1 else 0) else 0

set_option maxHeartbeats 4000000 in
theorem refCmp8_any (o : Odr) (s t : Tm) (P Q A A2 : Option Addr) (pc qc c c2 : Nat) (w : World) (hM : OdrM w w.heap.size o P Q) (hf : I64 s.fn) (hg : I64 t.fn) (hzs : s.size ≤ 1073741824) (hzt : t.size ≤ 1073741824) (hA : Args w w.heap.size A s.args) (hA2 : Args w w.heap.size A2 t.args) :
    Calls Try.prog 15 #[.agg #[.bool o.lpo, .slice P o.prec.length pc, .slice Q o.wts.length qc, .int .i64 o.var], .agg #[.int .i64 s.fn, .slice A s.args.length c], .agg #[.int .i64 t.fn, .slice A2 t.args.length c2]] w fun e w' => e = .returned (.int .i64 (cmpR o s t)) ∧ Below w.heap.size w w' := by
  obtain ⟨W, hW⟩ : ∃ W, (((w.alloc (.cells #[.bool o.lpo, .slice P o.prec.length pc, .slice Q o.wts.length qc, .int .i64 o.var] 24)).alloc (.cells #[.int .i64 s.fn, .slice A s.args.length c] 27)).alloc (.cells #[.int .i64 t.fn, .slice A2 t.args.length c2] 27)) = W := ⟨_, rfl⟩
  obtain ⟨hB, hz, hS⟩ := box_ott hW
  have HW := Lib.hid hW
  obtain ⟨x0, x1, x2, x3, x4, x5, x6, x7⟩ := hS W (Below.refl _ _)
  have HS := Lib.hid hS
  have HBB : ∀ w1, Below W.heap.size W w1 → Below w.heap.size w w1 := fun w1 h => hB.trans (h.mono hB.size)
  have HK1 : Hid (∀ w1, Below W.heap.size W w1 → Calls Try.prog 38 #[.agg #[.bool o.lpo, .slice P o.prec.length pc, .slice Q o.wts.length qc, .int .i64 o.var], .agg #[.int .i64 s.fn, .slice A s.args.length c]] w1 fun e w' => e = .returned (.bool (knowT o s)) ∧ Below w1.heap.size w1 w') := Lib.hid fun w1 hb => refKnows8_any o s P Q A pc qc c w1 hf (hA.on (HBB w1 hb))
  have HK2 : Hid (∀ w1, Below W.heap.size W w1 → Calls Try.prog 38 #[.agg #[.bool o.lpo, .slice P o.prec.length pc, .slice Q o.wts.length qc, .int .i64 o.var], .agg #[.int .i64 t.fn, .slice A2 t.args.length c2]] w1 fun e w' => e = .returned (.bool (knowT o t)) ∧ Below w1.heap.size w1 w') := Lib.hid fun w1 hb => refKnows8_any o t P Q A2 pc qc c2 w1 hg (hA2.on (HBB w1 hb))
  have HE : Hid (∀ w1, Below W.heap.size W w1 → Calls Try.prog 22 #[.agg #[.int .i64 s.fn, .slice A s.args.length c], .agg #[.int .i64 t.fn, .slice A2 t.args.length c2]] w1 fun e w' => e = .returned (.bool (decide (cmpT s t = 0))) ∧ Below w1.heap.size w1 w') := Lib.hid fun w1 hb => ref2Same_any' s t A A2 c c2 w1 hf hg (hA.on (HBB w1 hb)) (hA2.on (HBB w1 hb))
  have HA1 : Hid (knowT o s = true → knowT o t = true → ∀ w1, Below W.heap.size W w1 → Calls Try.prog 39 #[.agg #[.bool o.lpo, .slice P o.prec.length pc, .slice Q o.wts.length qc, .int .i64 o.var], .agg #[.int .i64 s.fn, .slice A s.args.length c], .agg #[.int .i64 t.fn, .slice A2 t.args.length c2]] w1 fun e w' => e = .returned (.bool (abvT o s t)) ∧ Below w1.heap.size w1 w') := Lib.hid fun k1 k2 w1 hb => refAbove_any o s t k1 k2 hzs hzt hf hg P Q A A2 pc qc c c2 w1 (hM.on (HBB w1 hb)) (hA.on (HBB w1 hb)) (hA2.on (HBB w1 hb))
  have HA2' : Hid (knowT o s = true → knowT o t = true → ∀ w1, Below W.heap.size W w1 → Calls Try.prog 39 #[.agg #[.bool o.lpo, .slice P o.prec.length pc, .slice Q o.wts.length qc, .int .i64 o.var], .agg #[.int .i64 t.fn, .slice A2 t.args.length c2], .agg #[.int .i64 s.fn, .slice A s.args.length c]] w1 fun e w' => e = .returned (.bool (abvT o t s)) ∧ Below w1.heap.size w1 w') := Lib.hid fun k1 k2 w1 hb => refAbove_any o t s k2 k1 hzt hzs hg hf P Q A2 A pc qc c2 c w1 (hM.on (HBB w1 hb)) (hA2.on (HBB w1 hb)) (hA.on (HBB w1 hb))
  clear hW hS hA hA2 hM
  go_enter Try.func15, Try.ntmps15
  go_upto_region 1 with fail
  rw [HW.out]
  have H1 := HK1.out W (Below.refl _ _)
  cases hks : knowT o s with
  | false =>
    have hfin := Lib.hid (show cmpR o s t = 0 by unfold cmpR; rw [hks]; rfl)
    rw [hks] at H1
    have H1 := Lib.hid H1
    clear hks
    go_wp2_with (first
      | (go_at_call 38; (with_reducible refine H1.out.mono ?_); go_must (rintro e w1 ⟨rfl, hb1⟩))
      | fail)
    go_ret
    exact ⟨by rw [hfin.out]; rfl, HBB w1 hb1⟩
  | true =>
    rw [hks] at H1
    have H1 := Lib.hid H1
    have Hks := Lib.hid hks
    clear hks
    cases hkt : knowT o t with
    | false =>
      have hfin := Lib.hid (show cmpR o s t = 0 by unfold cmpR; rw [hkt, Bool.and_false]; rfl)
      have H2 : Hid (∀ w1, Below W.heap.size W w1 → _) := Lib.hid fun w1 hb => HK2.out w1 hb
      rw [hkt] at H2
      clear hkt
      go_wp2_with (first
        | (go_at_call 38; (with_reducible refine H1.out.mono ?_); go_must (rintro e w1 ⟨rfl, hb1⟩; obtain ⟨u0, u1, u2, u3, u4, u5, u6, u7⟩ := HS.out w1 hb1; have h2 := Lib.hid (H2.out w1 hb1); clear H1))
        | (go_at_call 38; (with_reducible refine h2.out.mono ?_); go_must (rintro e w2 ⟨rfl, hb2⟩))
        | fail)
      go_ret
      exact ⟨by rw [hfin.out]; rfl, HBB w2 (hb1.trans (hb2.mono hb1.size))⟩
    | true =>
      have H2 : Hid (∀ w1, Below W.heap.size W w1 → _) := Lib.hid fun w1 hb => HK2.out w1 hb
      rw [hkt] at H2
      have hcm := Lib.hid (show cmpR o s t = if cmpT s t = 0 then 2 else if abvT o s t then 3 else if abvT o t s then 1 else 0 by unfold cmpR; rw [Hks.out, hkt]; rfl)
      have HA1 := Lib.hid (HA1.out Hks.out hkt)
      have HA2' := Lib.hid (HA2'.out Hks.out hkt)
      clear hkt HK1 HK2
      go_upto_region 3 with (first
        | (go_at_call 38; (with_reducible refine H1.out.mono ?_); go_must (rintro e w1 ⟨rfl, hb1⟩; obtain ⟨u0, u1, u2, u3, u4, u5, u6, u7⟩ := HS.out w1 hb1; have h2 := Lib.hid (H2.out w1 hb1); clear H1))
        | (go_at_call 38; (with_reducible refine h2.out.mono ?_); go_must (rintro e w2 ⟨rfl, hb2⟩))
        | fail)
      have hbW : Below W.heap.size W w2 := hb1.trans (hb2.mono hb1.size)
      obtain ⟨v0, v1, v2, v3, v4, v5, v6, v7⟩ := HS.out w2 hbW
      have h3 := HE.out w2 hbW
      clear u0 u1 u2 u3 u4 u5 u6 u7 h2 H2 hb1 hb2
      by_cases heq : cmpT s t = 0
      · have hfin := Lib.hid (show cmpR o s t = 2 by rw [hcm.out, if_pos heq])
        rw [decide_eq_true heq] at h3
        have H3 := Lib.hid h3
        clear heq h3
        go_wp2_with (first
          | (go_at_call 22; (with_reducible refine H3.out.mono ?_); go_must (rintro e w3 ⟨rfl, hb3⟩))
          | fail)
        go_ret
        exact ⟨by rw [hfin.out]; rfl, HBB w3 (hbW.trans (hb3.mono hbW.size))⟩
      · have hcm := Lib.hid (show cmpR o s t = if abvT o s t then 3 else if abvT o t s then 1 else 0 by rw [hcm.out, if_neg heq])
        rw [decide_eq_false heq] at h3
        have H3 := Lib.hid h3
        clear heq h3
        go_upto_region 5 with (first
          | (go_at_call 22; (with_reducible refine H3.out.mono ?_); go_must (rintro e w3 ⟨rfl, hb3⟩))
          | fail)
        have hbX : Below W.heap.size W w3 := hbW.trans (hb3.mono hbW.size)
        obtain ⟨u0, u1, u2, u3, u4, u5, u6, u7⟩ := HS.out w3 hbX
        have h4 := HA1.out w3 hbX
        clear v0 v1 v2 v3 v4 v5 v6 v7
        cases ha1 : abvT o s t with
        | true =>
          have hfin := Lib.hid (show cmpR o s t = 3 by rw [hcm.out, ha1, if_pos rfl])
          rw [ha1] at h4
          have H4 := Lib.hid h4
          clear h4 ha1
          go_wp2_with (first
            | (go_at_call 39; (with_reducible refine H4.out.mono ?_); go_must (rintro e w4 ⟨rfl, hb4⟩))
            | fail)
          go_ret
          exact ⟨by rw [hfin.out]; rfl, HBB w4 (hbX.trans (hb4.mono hbX.size))⟩
        | false =>
          have hcm := Lib.hid (show cmpR o s t = if abvT o t s then 1 else 0 by rw [hcm.out, ha1]; rfl)
          rw [ha1] at h4
          have H4 := Lib.hid h4
          clear h4 ha1
          go_upto_region 7 with (first
            | (go_at_call 39; (with_reducible refine H4.out.mono ?_); go_must (rintro e w4 ⟨rfl, hb4⟩))
            | fail)
          have hbY : Below W.heap.size W w4 := hbX.trans (hb4.mono hbX.size)
          obtain ⟨v0, v1, v2, v3, v4, v5, v6, v7⟩ := HS.out w4 hbY
          have h5 := HA2'.out w4 hbY
          clear u0 u1 u2 u3 u4 u5 u6 u7
          cases ha2 : abvT o t s with
          | true =>
            have hfin := Lib.hid (show cmpR o s t = 1 by rw [hcm.out, ha2, if_pos rfl])
            rw [ha2] at h5
            have H5 := Lib.hid h5
            clear h5 ha2 H4
            go_wp2_with (first
              | (go_at_call 39; (with_reducible refine H5.out.mono ?_); go_must (rintro e w5 ⟨rfl, hb5⟩))
              | fail)
            go_ret
            exact ⟨by rw [hfin.out]; rfl, HBB w5 (hbY.trans (hb5.mono hbY.size))⟩
          | false =>
            have hfin := Lib.hid (show cmpR o s t = 0 by rw [hcm.out, ha2]; rfl)
            rw [ha2] at h5
            have H5 := Lib.hid h5
            clear h5 ha2 H4
            go_wp2_with (first
              | (go_at_call 39; (with_reducible refine H5.out.mono ?_); go_must (rintro e w5 ⟨rfl, hb5⟩))
              | fail)
            go_ret
            exact ⟨by rw [hfin.out]; rfl, HBB w5 (hbY.trans (hb5.mono hbY.size))⟩

end Go.Proofs.Ytbchignbndgigaa

/- kbo: in plain words: what the balance makes of two terms. -/

namespace Go.Proofs.Ytbchignbndgigaa

open Go.RowKit Go.Shelf Go.Maps
set_option maxRecDepth 100000

/-- The sum of what V tells above 0 of the first N variables. -/
def pS : Nat → (Int → Int) → Int
  | 0, _ => 0
  | N + 1, V => pS N V + max 0 (V (-1 - (N : Int)))

theorem pS_out : ∀ (N : Nat) (V V' : Int → Int) (f : Int), f < -(N : Int) → (∀ x, x ≠ f → V' x = V x) → pS N V' = pS N V
  | 0, _, _, _, _, _ => rfl
  | N + 1, V, V', f, hf, h => by
    rw [pS, pS, pS_out N V V' f (by omega) h, h (-1 - (N : Int)) (by omega)]

theorem pS_put : ∀ (N : Nat) (V V' : Int → Int) (f : Int), f < 0 → -(N : Int) ≤ f → (∀ x, x ≠ f → V' x = V x) → pS N V' = pS N V - max 0 (V f) + max 0 (V' f)
  | 0, _, _, _, h1, h2, _ => by omega
  | N + 1, V, V', f, h1, h2, h => by
    rw [pS, pS]
    by_cases e : f = -1 - (N : Int)
    · rw [pS_out N V V' f (by omega) h, ← e]; omega
    · rw [pS_put N V V' f h1 (by omega) h, h (-1 - (N : Int)) (fun e' => e e'.symm)]; omega

theorem pS_lo : ∀ (N : Nat) (V : Int → Int), 0 ≤ pS N V
  | 0, _ => Int.le_refl _
  | N + 1, V => by have := pS_lo N V; rw [pS]; omega

theorem pS_zero : ∀ (N : Nat) (V : Int → Int), (∀ v, v < 0 → V v ≤ 0) → pS N V = 0
  | 0, _, _ => rfl
  | N + 1, V, h => by have h1 := pS_zero N V h; have h2 := h (-1 - (N : Int)) (by omega); rw [pS, h1]; omega

theorem pS_pos : ∀ (N : Nat) (V : Int → Int) (v : Int), v < 0 → -(N : Int) ≤ v → 0 < V v → 0 < pS N V
  | 0, _, _, h1, h2, _ => by omega
  | N + 1, V, v, h1, h2, h => by
    rw [pS]
    by_cases e : v = -1 - (N : Int)
    · have := pS_lo N V; rw [← e]; omega
    · have := pS_pos N V v h1 (by omega) h; omega

structure InvB (N : Nat) (b : Bal) : Prop where
  a0 : b.a0 = pS N b.V
  a1 : b.a1 = pS N fun x => - b.V x

/-- What was laid between two balances. -/
structure Laid (N : Nat) (b b' : Bal) (d0 d1 : Int) (d : Int → Int) : Prop where
  w0 : b'.w0 = b.w0 + d0
  w1 : b'.w1 = b.w1 + d1
  V : ∀ v, v < 0 → b'.V v = b.V v + d v
  inv : InvB N b → InvB N b'

theorem Laid.refl (N : Nat) (b : Bal) : Laid N b b 0 0 fun _ => 0 := ⟨by omega, by omega, fun _ _ => by omega, id⟩

theorem Laid.cat {N : Nat} {b b' b'' : Bal} {d0 d1 e0 e1 g0 g1 : Int} {d e g : Int → Int} (h : Laid N b b' d0 d1 d) (k : Laid N b' b'' e0 e1 e) (h0 : g0 = d0 + e0) (h1 : g1 = d1 + e1) (hg : ∀ v, v < 0 → g v = d v + e v) : Laid N b b'' g0 g1 g :=
  ⟨by rw [k.w0, h.w0, h0]; omega, by rw [k.w1, h.w1, h1]; omega, fun v hv => by rw [k.V v hv, h.V v hv, hg v hv]; omega, fun i => k.inv (h.inv i)⟩

theorem Laid.to {N : Nat} {b b' : Bal} {d0 d1 g0 g1 : Int} {d g : Int → Int} (h : Laid N b b' d0 d1 d) (h0 : g0 = d0) (h1 : g1 = d1) (hg : ∀ v, v < 0 → g v = d v) : Laid N b b' g0 g1 g :=
  ⟨by rw [h.w0, h0], by rw [h.w1, h1], fun v hv => by rw [h.V v hv, hg v hv], h.inv⟩

theorem cnt_laid0 {o : Odr} {N : Nat} {b : Bal} {f : Int} (hv : f < 0 → -(N : Int) ≤ f) : Laid N b (cntB o 0 b f) (wtI o f) 0 fun v => if v = f then 1 else 0 := by
  by_cases hf : f < 0
  · by_cases h0 : 0 ≤ b.V f
    · rw [cntB_neg00 hf h0]
      refine ⟨rfl, by show b.w1 = b.w1 + 0; omega, fun v _ => ?_, fun i => ⟨?_, ?_⟩⟩
      · show (if v = f then b.V f + 1 else b.V v) = _; split <;> simp_all
      · show b.a0 + 1 = pS N fun x => if x = f then b.V f + 1 else b.V x
        rw [pS_put N b.V _ f hf (hv hf) (fun x hx => by rw [if_neg hx]), i.a0, if_pos rfl]; omega
      · show b.a1 = pS N fun x => - (if x = f then b.V f + 1 else b.V x)
        rw [pS_put N (fun x => - b.V x) _ f hf (hv hf) (fun x hx => by rw [if_neg hx]), i.a1, if_pos rfl]; omega
    · rw [cntB_neg01 hf h0]
      refine ⟨rfl, by show b.w1 = b.w1 + 0; omega, fun v _ => ?_, fun i => ⟨?_, ?_⟩⟩
      · show (if v = f then b.V f + 1 else b.V v) = _; split <;> simp_all
      · show b.a0 = pS N fun x => if x = f then b.V f + 1 else b.V x
        rw [pS_put N b.V _ f hf (hv hf) (fun x hx => by rw [if_neg hx]), i.a0, if_pos rfl]; omega
      · show b.a1 - 1 = pS N fun x => - (if x = f then b.V f + 1 else b.V x)
        rw [pS_put N (fun x => - b.V x) _ f hf (hv hf) (fun x hx => by rw [if_neg hx]), i.a1, if_pos rfl]; omega
  · rw [cntB_pos0 hf]
    exact ⟨rfl, by show b.w1 = b.w1 + 0; omega, fun v hv' => by show b.V v = _; rw [if_neg (by omega)]; omega, fun i => ⟨i.a0, i.a1⟩⟩

theorem cnt_laid1 {o : Odr} {N : Nat} {b : Bal} {f : Int} (hv : f < 0 → -(N : Int) ≤ f) : Laid N b (cntB o 1 b f) 0 (wtI o f) fun v => if v = f then -1 else 0 := by
  by_cases hf : f < 0
  · by_cases h0 : 0 ≤ -b.V f
    · rw [cntB_neg10 hf h0]
      refine ⟨by show b.w0 = b.w0 + 0; omega, rfl, fun v _ => ?_, fun i => ⟨?_, ?_⟩⟩
      · show (if v = f then b.V f + -1 else b.V v) = _; split <;> simp_all
      · show b.a0 = pS N fun x => if x = f then b.V f + -1 else b.V x
        rw [pS_put N b.V _ f hf (hv hf) (fun x hx => by rw [if_neg hx]), i.a0, if_pos rfl]; omega
      · show b.a1 + 1 = pS N fun x => - (if x = f then b.V f + -1 else b.V x)
        rw [pS_put N (fun x => - b.V x) _ f hf (hv hf) (fun x hx => by rw [if_neg hx]), i.a1, if_pos rfl]; omega
    · rw [cntB_neg11 hf h0]
      refine ⟨by show b.w0 = b.w0 + 0; omega, rfl, fun v _ => ?_, fun i => ⟨?_, ?_⟩⟩
      · show (if v = f then b.V f + -1 else b.V v) = _; split <;> simp_all
      · show b.a0 - 1 = pS N fun x => if x = f then b.V f + -1 else b.V x
        rw [pS_put N b.V _ f hf (hv hf) (fun x hx => by rw [if_neg hx]), i.a0, if_pos rfl]; omega
      · show b.a1 = pS N fun x => - (if x = f then b.V f + -1 else b.V x)
        rw [pS_put N (fun x => - b.V x) _ f hf (hv hf) (fun x hx => by rw [if_neg hx]), i.a1, if_pos rfl]; omega
  · rw [cntB_pos1 hf]
    exact ⟨by show b.w0 = b.w0 + 0; omega, rfl, fun v hv' => by show b.V v = _; rw [if_neg (by omega)]; omega, fun i => ⟨i.a0, i.a1⟩⟩

/-- All of a term's variables are among the first N. -/
def VB (N : Nat) (t : Tm) : Prop := ∀ v, v < 0 → 0 < ofT v t → -(N : Int) ≤ v

def VBL (N : Nat) (ts : List Tm) : Prop := ∀ v, v < 0 → 0 < ofL v ts → -(N : Int) ≤ v

theorem VB.top {N : Nat} {f : Int} {xs : List Tm} (h : VB N (.node f xs)) : f < 0 → -(N : Int) ≤ f := fun hf => h f hf (by rw [ofT, if_pos rfl]; omega)

theorem VB.args {N : Nat} {f : Int} {xs : List Tm} (h : VB N (.node f xs)) : VBL N xs := fun v hv hp => h v hv (by rw [ofT]; omega)

theorem VBL.head {N : Nat} {x : Tm} {xs : List Tm} (h : VBL N (x :: xs)) : VB N x := fun v hv hp => h v hv (by rw [ofL]; omega)

theorem VBL.tail {N : Nat} {x : Tm} {xs : List Tm} (h : VBL N (x :: xs)) : VBL N xs := fun v hv hp => h v hv (by rw [ofL]; omega)

theorem VB_ex (t : Tm) : ∃ N : Nat, VB N t := by
  have key : ∀ xs : List Tm, (∀ t ∈ xs, ∃ N : Nat, VB N t) → ∃ N : Nat, VBL N xs := by
    intro xs
    induction xs with
    | nil => intro _; exact ⟨0, fun v _ h => by rw [ofL] at h; omega⟩
    | cons x xs ih =>
      intro h
      obtain ⟨N1, h1⟩ := h x (by simp)
      obtain ⟨N2, h2⟩ := ih fun t ht => h t (by simp [ht])
      refine ⟨N1 + N2, fun v hv hp => ?_⟩
      rw [ofL] at hp
      by_cases e : 0 < ofT v x
      · have := h1 v hv e; omega
      · have := h2 v hv (by omega); omega
  refine Tm.ind (P := fun t => ∃ N : Nat, VB N t) (fun f xs ih => ?_) t
  obtain ⟨N, h⟩ := key xs ih
  refine ⟨N + f.natAbs, fun v hv hp => ?_⟩
  rw [ofT] at hp
  by_cases e : f = v
  · omega
  · rw [if_neg e] at hp; have := h v hv (by omega); omega

theorem lay_yes (o : Odr) (at_ : Int) (t : Tm) : ∀ b, (evT (lvis o at_) b t).2 = true ∧ layB o at_ b t = layL o at_ (cntB o at_ b t.fn) t.args := by
  have key : ∀ xs : List Tm, (∀ t ∈ xs, ∀ b, (evT (lvis o at_) b t).2 = true ∧ layB o at_ b t = layL o at_ (cntB o at_ b t.fn) t.args) → ∀ b, evL (lvis o at_) b xs = (layL o at_ b xs, true) := by
    intro xs
    induction xs with
    | nil => intro _ b; rw [evL, layL]
    | cons x xs ih =>
      intro h b
      rw [evL, (h x (by simp) b).1, if_pos rfl, ih (fun t ht => h t (by simp [ht])), layL]; rfl
  refine Tm.ind (P := fun t => ∀ b, (evT (lvis o at_) b t).2 = true ∧ layB o at_ b t = layL o at_ (cntB o at_ b t.fn) t.args) (fun f xs ih b => ?_) t
  have e : evT (lvis o at_) b (.node f xs) = evL (lvis o at_) (cntB o at_ b f) xs := by rw [evT]; rfl
  unfold layB
  rw [e, key xs ih]
  exact ⟨rfl, rfl⟩

mutual
theorem lay_laid0 {o : Odr} {N : Nat} : ∀ (t : Tm) (b : Bal), VB N t → Laid N b (layB o 0 b t) (wsT o t) 0 fun v => (ofT v t : Int)
  | .node f xs, b, h => by
    rw [(lay_yes o 0 (.node f xs) b).2]
    refine (cnt_laid0 (o := o) (b := b) h.top).cat (layL_laid0 xs _ h.args) (by rw [wsT]) (by omega) fun v _ => ?_
    rw [ofT]
    by_cases e : f = v
    · rw [if_pos e, if_pos e.symm]; omega
    · rw [if_neg e, if_neg (fun h => e h.symm)]; omega
theorem layL_laid0 {o : Odr} {N : Nat} : ∀ (ts : List Tm) (b : Bal), VBL N ts → Laid N b (layL o 0 b ts) (wsL o ts) 0 fun v => (ofL v ts : Int)
  | [], b, _ => by rw [layL]; exact (Laid.refl N b).to (by rw [wsL]) rfl fun v _ => by rw [ofL]; rfl
  | t :: ts, b, h => by
    rw [layL]
    exact (lay_laid0 t b h.head).cat (layL_laid0 ts _ h.tail) (by rw [wsL]) (by omega) fun v _ => by rw [ofL]; omega
end

mutual
theorem lay_laid1 {o : Odr} {N : Nat} : ∀ (t : Tm) (b : Bal), VB N t → Laid N b (layB o 1 b t) 0 (wsT o t) fun v => -(ofT v t : Int)
  | .node f xs, b, h => by
    rw [(lay_yes o 1 (.node f xs) b).2]
    refine (cnt_laid1 (o := o) (b := b) h.top).cat (layL_laid1 xs _ h.args) (by omega) (by rw [wsT]) fun v _ => ?_
    rw [ofT]
    by_cases e : f = v
    · rw [if_pos e, if_pos e.symm]; omega
    · rw [if_neg e, if_neg (fun h => e h.symm)]; omega
theorem layL_laid1 {o : Odr} {N : Nat} : ∀ (ts : List Tm) (b : Bal), VBL N ts → Laid N b (layL o 1 b ts) 0 (wsL o ts) fun v => -(ofL v ts : Int)
  | [], b, _ => by rw [layL]; exact (Laid.refl N b).to rfl (by rw [wsL]) fun v _ => by rw [ofL]; rfl
  | t :: ts, b, h => by
    rw [layL]
    exact (lay_laid1 t b h.head).cat (layL_laid1 ts _ h.tail) (by omega) (by rw [wsL]) fun v _ => by rw [ofL]; omega
end

mutual
theorem rsn_laid {o : Odr} {N : Nat} : ∀ (s : Tm) (b : Bal) (t : Tm), VB N s → VB N t → Laid N b (rsnB o s b t).1 (wsT o s) (wsT o t) fun v => (ofT v s : Int) - (ofT v t : Int)
  | .node f xs, b, .node g ys, hs, ht => by
    rw [rsnB]
    by_cases e : f = (Tm.node g ys).fn
    · rw [if_pos e]
      have h1 := cnt_laid0 (o := o) (b := b) hs.top
      have h2 := cnt_laid1 (o := o) (b := cntB o 0 b f) ht.top
      have h3 := arg_laid (o := o) xs (cntB o 1 (cntB o 0 b f) g) ys hs.args ht.args
      refine ((h1.cat h2 rfl rfl fun v _ => rfl).cat h3 (by rw [wsT]; omega) (by rw [wsT]; omega) fun v _ => ?_)
      change f = g at e
      subst e
      rw [ofT, ofT]
      by_cases e : f = v
      · rw [if_pos e, if_pos e.symm, if_pos e.symm]; omega
      · rw [if_neg e, if_neg (fun h => e h.symm), if_neg (fun h => e h.symm)]; omega
    · rw [if_neg e]
      exact (lay_laid0 (o := o) (.node f xs) b hs).cat (lay_laid1 (.node g ys) _ ht) (by omega) (by omega) fun v _ => by omega
theorem arg_laid {o : Odr} {N : Nat} : ∀ (xs : List Tm) (b : Bal) (ys : List Tm), VBL N xs → VBL N ys → Laid N b (argB o xs b ys).1 (wsL o xs) (wsL o ys) fun v => (ofL v xs : Int) - (ofL v ys : Int)
  | [], b, ys, _, hy => by
    rw [argB]
    exact (layL_laid1 ys b hy).to (by rw [wsL]) rfl fun v _ => by rw [ofL]; omega
  | x :: xs, b, [], hx, _ => by
    rw [argB]
    exact (layL_laid0 (x :: xs) b hx).to rfl (by rw [wsL]) fun v _ => by rw [ofL.eq_1 v]; omega
  | x :: xs, b, y :: ys, hx, hy => by
    rw [argB]
    have h1 := rsn_laid (o := o) x b y hx.head hy.head
    split
    · exact h1.cat (arg_laid xs _ ys hx.tail hy.tail) (by rw [wsL]) (by rw [wsL]) fun v _ => by rw [ofL, ofL]; omega
    · exact (h1.cat (layL_laid0 xs _ hx.tail) rfl rfl fun v _ => rfl).cat (layL_laid1 ys _ hy.tail) (by rw [wsL]; omega) (by rw [wsL]; omega) fun v _ => by rw [ofL, ofL]; omega
end

end Go.Proofs.Ytbchignbndgigaa

/- kbo: in plain words: the program's Cmp is the document's own. -/

namespace Go.Proofs.Ytbchignbndgigaa

open Go.RowKit Go.Shelf Go.Maps
set_option maxRecDepth 100000

theorem covL_iff {s t : Tm} : ∀ {xs : List Tm}, (∀ u ∈ xs, (covU s t u = true ↔ ∀ v, v < 0 → 0 < ofT v u → ofT v t ≤ ofT v s)) → (covL s t xs = true ↔ ∀ v, v < 0 → 0 < ofL v xs → ofT v t ≤ ofT v s)
  | [], _ => by rw [covL]; exact ⟨fun _ v _ h => by rw [ofL] at h; omega, fun _ => rfl⟩
  | x :: xs, h => by
    rw [covL, Bool.and_eq_true, h x (by simp), covL_iff fun u hu => h u (by simp [hu])]
    constructor
    · rintro ⟨h1, h2⟩ v hv hp
      rw [ofL] at hp
      by_cases e : 0 < ofT v x
      · exact h1 v hv e
      · exact h2 v hv (by omega)
    · intro h1
      exact ⟨fun v hv hp => h1 v hv (by rw [ofL]; omega), fun v hv hp => h1 v hv (by rw [ofL]; omega)⟩

theorem covU_iff {o : Odr} (s t u : Tm) : knowT o u = true → (covU s t u = true ↔ ∀ v, v < 0 → 0 < ofT v u → ofT v t ≤ ofT v s) := by
  refine Tm.ind (P := fun u => knowT o u = true → (covU s t u = true ↔ ∀ v, v < 0 → 0 < ofT v u → ofT v t ≤ ofT v s)) (fun f xs ih hk => ?_) u
  obtain ⟨k1, k2⟩ := know_node hk
  by_cases hf : f < 0
  · have hx : xs = [] := List.eq_nil_of_length_eq_zero ((know_top k1).2.2 hf)
    subst hx
    rw [covU, if_pos hf, decide_eq_true_eq]
    constructor
    · intro h v hv hp
      rw [ofT, ofL] at hp
      by_cases e : f = v
      · subst e; exact h
      · rw [if_neg e] at hp; omega
    · intro h
      exact h f hf (by rw [ofT, if_pos rfl]; omega)
  · rw [covU, if_neg hf, covL_iff fun u hu => ih u hu (knowL_mem k2 hu)]
    constructor
    · intro h v hv hp
      rw [ofT, if_neg (by omega)] at hp
      exact h v hv (by omega)
    · intro h v hv hp
      exact h v hv (by rw [ofT]; omega)

theorem cov_iff {o : Odr} {s t : Tm} (hk : knowT o t = true) : covU s t t = true ↔ ∀ v, v < 0 → ofT v t ≤ ofT v s := by
  rw [covU_iff s t t hk]
  constructor
  · intro h v hv
    by_cases e : 0 < ofT v t
    · exact h v hv e
    · omega
  · exact fun h v hv _ => h v hv

theorem arn_end {top v : Int} (ht : ¬ top < 0) (hv : v < 0) : ∀ t : Tm, t.fn = top → (arnT top v t = decide ((arndEnd top t).fn = v)) := by
  intro t
  refine Tm.ind (P := fun t => t.fn = top → (arnT top v t = decide ((arndEnd top t).fn = v))) (fun f xs ih hf => ?_) t
  change f = top at hf
  by_cases h1 : xs.length = 1
  · match xs, h1, ih with
    | [x], _, ih =>
      rw [arnT_one, arnd_step hf, show (f == top) = true by rw [beq_iff_eq]; exact hf, Bool.true_and]
      by_cases hx : x.fn = top
      · rw [ih x (by simp) hx, show (x.fn == v) = false by rw [beq_eq_false_iff_ne]; omega, Bool.false_or]
      · rw [arnT_top hx, Bool.or_false, arnd_stop (fun e => hx e.1)]
        rw [Bool.eq_iff_iff, beq_iff_eq, decide_eq_true_eq]
  · rw [arnT_no (t := .node f xs) h1, arnd_stop (t := .node f xs) (fun e => h1 e.2)]
    symm
    apply decide_eq_false
    show ¬ f = v
    omega

theorem abvL_asym {o : Odr} : ∀ (xs ys : List Tm), (∀ x ∈ xs, ∀ t, abvT o x t = true → abvT o t x = false) → abvL o xs ys = true → abvL o ys xs = false
  | [], _, _, h => by rw [abvL] at h; cases h
  | x :: xs, [], _, _ => by rw [abvL]
  | x :: xs, y :: ys, ih, h => by
    rw [abvL] at h ⊢
    by_cases e : cmpT x y = 0
    · have e' := cmp_zero_iff.1 e
      subst e'
      rw [if_pos e] at h ⊢
      exact abvL_asym xs ys (fun z hz => ih z (by simp [hz])) h
    · have e' : ¬ cmpT y x = 0 := fun h' => e (cmp_zero_iff.2 (cmp_zero_iff.1 h').symm)
      rw [if_neg e] at h
      rw [if_neg e']
      exact ih x (by simp) y h

theorem abv_asym {o : Odr} (s : Tm) : ∀ t, abvT o s t = true → abvT o t s = false := by
  refine Tm.ind (P := fun s => ∀ t, abvT o s t = true → abvT o t s = false) (fun f xs ih t h => ?_) s
  have ih' : ∀ x ∈ (Tm.node f xs).args, ∀ t, abvT o x t = true → abvT o t x = false := ih
  generalize Tm.node f xs = s at ih' h ⊢
  rw [abvT_eq, Bool.and_eq_true] at h
  rw [abvT_eq, Bool.and_eq_false_iff]
  right
  obtain ⟨_, h⟩ := h
  by_cases hw : capI (wsT o s) = capI (wsT o t)
  · rw [if_pos hw] at h
    rw [if_pos hw.symm]
    by_cases h1 : s.fn < 0
    · rw [if_pos h1] at h; cases h
    · rw [if_neg h1] at h
      by_cases h2 : t.fn < 0
      · rw [if_pos h2]
      · rw [if_neg h2] at h
        rw [if_neg h2, if_neg h1]
        by_cases h3 : s.fn = t.fn
        · rw [if_pos h3] at h
          rw [if_pos h3.symm]
          exact abvL_asym s.args t.args ih' h
        · rw [if_neg h3, decide_eq_true_eq] at h
          rw [if_neg (fun e => h3 e.symm)]
          exact decide_eq_false (by omega)
  · rw [if_neg hw, decide_eq_true_eq] at h
    rw [if_neg (fun e => hw e.symm)]
    exact decide_eq_false (by omega)

/-- How two known terms stand. -/
def cmpK (o : Odr) (s t : Tm) : Int := if cmpT s t = 0 then 2 else if abvT o s t then 3 else if abvT o t s then 1 else 0

theorem cmpK_two {o : Odr} {s t : Tm} : cmpK o s t = 2 ↔ s = t := by
  unfold cmpK
  rw [← cmp_zero_iff]
  by_cases e : cmpT s t = 0
  · rw [if_pos e]; exact ⟨fun _ => e, fun _ => rfl⟩
  · rw [if_neg e]
    constructor
    · intro h
      split at h
      · omega
      · split at h <;> omega
    · exact fun h => absurd h e

/-- What the arguments tell. -/
structure ArgK (o : Odr) (xs ys : List Tm) (q : Int) : Prop where
  same : xs = ys → q = 2
  diff : ¬ xs = ys → q = if abvL o xs ys then 3 else if abvL o ys xs then 1 else 0

theorem numI_rel0 (n : Nat) : relC (numI 0 ((n + 1 : Nat) : Int)) = 1 := by
  have : numI 0 ((n + 1 : Nat) : Int) = -1 := by unfold numI; rw [if_pos (by omega)]
  rw [this]; rfl

theorem numI_rel1 (n : Nat) : relC (numI ((n + 1 : Nat) : Int) 0) = 3 := by
  have : numI ((n + 1 : Nat) : Int) 0 = 1 := by unfold numI; rw [if_neg (by omega), if_pos (by omega)]
  rw [this]; rfl

theorem zero_cnt {o : Odr} {N : Nat} {b : Bal} {f : Int} (hv : f < 0 → -(N : Int) ≤ f) (hi : InvB N b) (hz : ∀ v, v < 0 → b.V v = 0) : InvB N (cntB o 1 (cntB o 0 b f) f) ∧ ∀ v, v < 0 → (cntB o 1 (cntB o 0 b f) f).V v = 0 := by
  have h1 := cnt_laid0 (o := o) (b := b) hv
  have h2 := cnt_laid1 (o := o) (b := cntB o 0 b f) hv
  refine ⟨h2.inv (h1.inv hi), fun v hv' => ?_⟩
  rw [h2.V v hv', h1.V v hv', hz v hv']
  split <;> omega

/-- Weights, variables on one side alone: out of them and of reason's answer. -/
theorem fin_of {o : Odr} {N : Nat} {b : Bal} {s t : Tm} {r : Bal × Int} (hl : Laid N b r.1 (wsT o s) (wsT o t) fun v => (ofT v s : Int) - (ofT v t : Int)) (hi : InvB N b) (hz : ∀ v, v < 0 → b.V v = 0) (hks : knowT o s = true) (hkt : knowT o t = true) (hs : VB N s) (ht : VB N t) :
    (0 < r.1.a1 ↔ covU s t t = false) ∧ (0 < r.1.a0 ↔ covU t s s = false) ∧ finQ b r = if numI (capI (wsT o s)) (capI (wsT o t)) = 0 then r.2 else relC (numI (capI (wsT o s)) (capI (wsT o t))) := by
  have hV : ∀ v, v < 0 → r.1.V v = (ofT v s : Int) - (ofT v t : Int) := fun v hv => by rw [hl.V v hv, hz v hv]; omega
  have hir := hl.inv hi
  refine ⟨?_, ?_, ?_⟩
  · rw [hir.a1]
    cases hc : covU s t t with
    | true =>
      have := (cov_iff hkt).1 hc
      rw [pS_zero N _ fun v hv => by rw [hV v hv]; have := this v hv; omega]
      simp
    | false =>
      have hn : ¬ ∀ v, v < 0 → ofT v t ≤ ofT v s := fun h => by rw [(cov_iff hkt).2 h] at hc; cases hc
      obtain ⟨v, hv⟩ := Classical.not_forall.1 hn
      obtain ⟨hv0, hv1⟩ := Classical.not_imp.1 hv
      exact ⟨fun _ => rfl, fun _ => pS_pos N _ v hv0 (ht v hv0 (by omega)) (by rw [hV v hv0]; omega)⟩
  · rw [hir.a0]
    cases hc : covU t s s with
    | true =>
      have := (cov_iff hks).1 hc
      rw [pS_zero N _ fun v hv => by rw [hV v hv]; have := this v hv; omega]
      simp
    | false =>
      have hn : ¬ ∀ v, v < 0 → ofT v s ≤ ofT v t := fun h => by rw [(cov_iff hks).2 h] at hc; cases hc
      obtain ⟨v, hv⟩ := Classical.not_forall.1 hn
      obtain ⟨hv0, hv1⟩ := Classical.not_imp.1 hv
      exact ⟨fun _ => rfl, fun _ => pS_pos N _ v hv0 (hs v hv0 (by omega)) (by rw [hV v hv0]; omega)⟩
  · unfold finQ
    rw [hl.w0, hl.w1, show b.w0 + wsT o s - b.w0 = wsT o s by omega, show b.w1 + wsT o t - b.w1 = wsT o t by omega]

/-- What is to be known of reason's answer. -/
structure RsnK (o : Odr) (s t : Tm) (q : Int) : Prop where
  same : s = t → q = 2
  diff : ¬ s = t → q = if (if s.fn < 0 then false else if t.fn < 0 then arnT s.fn t.fn s else if s.fn = t.fn then abvL o s.args t.args else decide (o.prec.getD t.fn.toNat 0 < o.prec.getD s.fn.toNat 0)) then 3 else
    if (if t.fn < 0 then false else if s.fn < 0 then arnT t.fn s.fn t else if t.fn = s.fn then abvL o t.args s.args else decide (o.prec.getD s.fn.toNat 0 < o.prec.getD t.fn.toNat 0)) then 1 else 0
  asym : abvL o s.args t.args = true → abvL o t.args s.args = false

theorem fin_eq_of {o : Odr} {N : Nat} {b : Bal} {s t : Tm} {r : Bal × Int} (hl : Laid N b r.1 (wsT o s) (wsT o t) fun v => (ofT v s : Int) - (ofT v t : Int)) (hi : InvB N b) (hz : ∀ v, v < 0 → b.V v = 0) (hks : knowT o s = true) (hkt : knowT o t = true) (hs : VB N s) (ht : VB N t) (hr : RsnK o s t r.2) :
    finB b r = cmpK o s t := by
  obtain ⟨c1, c0, cq⟩ := fin_of hl hi hz hks hkt hs ht
  unfold finB cmpK
  rw [cq]
  by_cases hst : s = t
  · subst hst
    have hn : numI (capI (wsT o s)) (capI (wsT o s)) = 0 := by unfold numI; simp
    rw [if_pos hn, hr.same rfl, if_pos (cmp_zero_iff.2 rfl)]
    unfold finR; simp
  · rw [if_neg (fun h => hst (cmp_zero_iff.1 h)), abvT_eq o s t, abvT_eq o t s]
    by_cases hw : capI (wsT o s) = capI (wsT o t)
    · have hn : numI (capI (wsT o s)) (capI (wsT o t)) = 0 := by unfold numI; rw [if_neg (by omega), if_neg (by omega)]
      rw [if_pos hn, if_pos hw, if_pos hw.symm, hr.diff hst]
      obtain ⟨B1, hB1⟩ : ∃ B : Bool, (if s.fn < 0 then false else if t.fn < 0 then arnT s.fn t.fn s else if s.fn = t.fn then abvL o s.args t.args else decide (o.prec.getD t.fn.toNat 0 < o.prec.getD s.fn.toNat 0)) = B := ⟨_, rfl⟩
      obtain ⟨B2, hB2⟩ : ∃ B : Bool, (if t.fn < 0 then false else if s.fn < 0 then arnT t.fn s.fn t else if t.fn = s.fn then abvL o t.args s.args else decide (o.prec.getD s.fn.toNat 0 < o.prec.getD t.fn.toNat 0)) = B := ⟨_, rfl⟩
      have hB : ¬ (B1 = true ∧ B2 = true) := by
        rintro ⟨e1, e2⟩
        rw [e1] at hB1
        rw [e2] at hB2
        by_cases h1 : s.fn < 0
        · rw [if_pos h1] at hB1; cases hB1
        · by_cases h2 : t.fn < 0
          · rw [if_pos h2] at hB2; cases hB2
          · rw [if_neg h1, if_neg h2] at hB1
            rw [if_neg h2, if_neg h1] at hB2
            by_cases h3 : s.fn = t.fn
            · rw [if_pos h3] at hB1
              rw [if_pos h3.symm, hr.asym hB1] at hB2
              cases hB2
            · rw [if_neg h3, decide_eq_true_eq] at hB1
              rw [if_neg (fun e => h3 e.symm), decide_eq_true_eq] at hB2
              omega
      rw [hB1, hB2]
      clear hB1 hB2 hr cq hl
      unfold finR
      simp only [c1, c0]
      cases B1 <;> cases B2 <;> cases covU s t t <;> cases covU t s s <;> simp_all
    · rw [if_neg hw, if_neg (show ¬ capI (wsT o t) = capI (wsT o s) from fun e => hw e.symm)]
      by_cases hlt : capI (wsT o s) < capI (wsT o t)
      · have hn : numI (capI (wsT o s)) (capI (wsT o t)) = -1 := by unfold numI; rw [if_pos hlt]
        rw [hn, decide_eq_false (show ¬ capI (wsT o t) < capI (wsT o s) by omega), decide_eq_true hlt, if_neg (show ¬ (-1 : Int) = 0 by decide)]
        unfold finR
        simp only [c1, c0, show relC (-1) = 1 from rfl]
        cases covU s t t <;> cases covU t s s <;> simp
      · have hgt : capI (wsT o t) < capI (wsT o s) := by omega
        have hn : numI (capI (wsT o s)) (capI (wsT o t)) = 1 := by unfold numI; rw [if_neg hlt, if_pos hgt]
        rw [hn, decide_eq_false hlt, decide_eq_true hgt, if_neg (show ¬ (1 : Int) = 0 by decide)]
        unfold finR
        simp only [c1, c0, show relC 1 = 3 from rfl]
        cases covU s t t <;> cases covU t s s <;> simp

theorem rsnB_same (o : Odr) (f : Int) (xs ys : List Tm) (b : Bal) : rsnB o (.node f xs) b (.node f ys) = argB o xs (cntB o 1 (cntB o 0 b f) f) ys := by rw [rsnB]; exact if_pos rfl

theorem rsnB_other (o : Odr) {f g : Int} (h : ¬ f = g) (xs ys : List Tm) (b : Bal) : rsnB o (.node f xs) b (.node g ys) = (layB o 1 (layB o 0 b (.node f xs)) (.node g ys), topsR o (.node f xs) (.node g ys)) := by rw [rsnB]; exact if_neg h

mutual
theorem fin_eq {o : Odr} {N : Nat} : ∀ (s : Tm) (b : Bal) (t : Tm), InvB N b → (∀ v, v < 0 → b.V v = 0) → knowT o s = true → knowT o t = true → VB N s → VB N t → finB b (rsnB o s b t) = cmpK o s t
  | .node f xs, b, .node g ys, hi, hz, hks, hkt, hs, ht => by
    refine fin_eq_of (rsn_laid (o := o) _ b _ hs ht) hi hz hks hkt hs ht ?_
    obtain ⟨k1, k2⟩ := know_node hks
    obtain ⟨k3, k4⟩ := know_node hkt
    simp only [Tm.fn, Tm.args] at k1 k2 k3 k4
    refine ⟨fun e => ?_, fun e => ?_, abvL_asym xs ys fun x _ => abv_asym x⟩
    · injection e with e1 e2
      subst e1; subst e2
      rw [rsnB_same]
      obtain ⟨i1, z1⟩ := zero_cnt (o := o) hs.top hi hz
      exact (arg_eq xs _ xs i1 z1 k2 k2 hs.args hs.args).same rfl
    · simp only [Tm.fn, Tm.args]
      by_cases hfg : f = g
      · subst hfg
        have hne : ¬ xs = ys := fun h => e (by rw [h])
        have hf0 : ¬ f < 0 := fun h => hne (by
          rw [List.eq_nil_of_length_eq_zero ((know_top k1).2.2 h), List.eq_nil_of_length_eq_zero ((know_top k3).2.2 h)])
        rw [rsnB_same]
        obtain ⟨i1, z1⟩ := zero_cnt (o := o) hs.top hi hz
        simp only [hf0, ↓reduceIte]
        exact (arg_eq xs _ ys i1 z1 k2 k4 hs.args ht.args).diff hne
      · rw [rsnB_other o hfg]
        show topsR o (.node f xs) (.node g ys) = _
        unfold topsR topsP
        have tf : ∀ (f : Int) (xs : List Tm), (Tm.node f xs).fn = f := fun _ _ => rfl
        simp only [tf]
        by_cases h1 : f < 0
        · by_cases h2 : g < 0
          · simp [h1, h2]
          · have ha := arn_end h2 h1 (.node g ys) rfl
            by_cases h3 : (arndEnd g (.node g ys)).fn = f
            · simp [h1, h2, h3, relT, ha]
            · simp [h1, h2, h3, relT, ha]
        · by_cases h2 : g < 0
          · have ha := arn_end h1 h2 (.node f xs) rfl
            by_cases h3 : (arndEnd f (.node f xs)).fn = g
            · simp [h1, h2, h3, ha]
            · simp [h1, h2, h3, ha]
          · have hgf : ¬ g = f := fun e => hfg e.symm
            by_cases h3 : o.prec.getD g.toNat 0 < o.prec.getD f.toNat 0
            · simp only [h1, h2, hfg, ↓reduceIte, h3, decide_true]
            · by_cases h4 : o.prec.getD f.toNat 0 = o.prec.getD g.toNat 0
              · have h5 : ¬ o.prec.getD f.toNat 0 < o.prec.getD g.toNat 0 := by omega
                simp only [h1, h2, hfg, hgf, ↓reduceIte, h4, decide_false, Bool.false_eq_true, Int.lt_irrefl]
              · have h5 : o.prec.getD f.toNat 0 < o.prec.getD g.toNat 0 := by omega
                simp only [h1, h2, hfg, hgf, ↓reduceIte, h3, h4, h5, decide_false, decide_true, Bool.false_eq_true]
theorem arg_eq {o : Odr} {N : Nat} : ∀ (xs : List Tm) (b : Bal) (ys : List Tm), InvB N b → (∀ v, v < 0 → b.V v = 0) → knowL o xs = true → knowL o ys = true → VBL N xs → VBL N ys → ArgK o xs ys (argB o xs b ys).2
  | [], b, [], _, _, _, _, _, _ => by
    rw [argB]; exact ⟨fun _ => rfl, fun h => absurd rfl h⟩
  | [], b, y :: ys, _, _, _, _, _, _ => by
    rw [argB]
    exact ⟨fun h => (by cases h), fun _ => by rw [abvL, abvL]; exact numI_rel0 ys.length⟩
  | x :: xs, b, [], _, _, _, _, _, _ => by
    rw [argB]
    exact ⟨fun h => (by cases h), fun _ => by rw [abvL]; exact numI_rel1 xs.length⟩
  | x :: xs, b, y :: ys, hi, hz, hkx, hky, hx, hy => by
    rw [knowL, Bool.and_eq_true] at hkx hky
    have h1 := fin_eq (o := o) x b y hi hz hkx.1 hky.1 hx.head hy.head
    have hl := rsn_laid (o := o) x b y hx.head hy.head
    rw [argB, h1]
    by_cases e : x = y
    · subst e
      rw [if_pos (cmpK_two.2 rfl)]
      have h2 := arg_eq (o := o) xs (rsnB o x b x).1 ys (hl.inv hi) (fun v hv => by rw [hl.V v hv, hz v hv]; omega) hkx.2 hky.2 hx.tail hy.tail
      refine ⟨fun h => h2.same (by injection h), fun h => ?_⟩
      rw [h2.diff (fun h' => h (by rw [h'])), abvL, abvL, if_pos (cmp_zero_iff.2 rfl), if_pos (cmp_zero_iff.2 rfl)]
    · rw [if_neg (fun h => e (cmpK_two.1 h))]
      refine ⟨fun h => absurd (by injection h) e, fun _ => ?_⟩
      have e1 : ¬ cmpT x y = 0 := fun h => e (cmp_zero_iff.1 h)
      have e2 : ¬ cmpT y x = 0 := fun h => e (cmp_zero_iff.1 h).symm
      rw [abvL, abvL, if_neg e1, if_neg e2]
      show cmpK o x y = _
      unfold cmpK
      rw [if_neg e1]
end

/-- The program's Cmp is the document's own. -/
theorem cmpO_eq (o : Odr) (s t : Tm) : cmpO o s t = cmpR o s t := by
  unfold cmpO cmpR
  cases hs : knowT o s with
  | false => rfl
  | true =>
    cases ht : knowT o t with
    | false => rfl
    | true =>
      obtain ⟨N1, h1⟩ := VB_ex s
      obtain ⟨N2, h2⟩ := VB_ex t
      have hi : InvB (N1 + N2) bal0 := ⟨(pS_zero (N1 + N2) bal0.V fun v _ => Int.le_refl 0).symm, (pS_zero (N1 + N2) (fun x => - bal0.V x) fun v _ => Int.le_refl 0).symm⟩
      have h := fin_eq (o := o) s bal0 t hi (fun _ _ => rfl) hs ht (fun v hv hp => by have := h1 v hv hp; omega) (fun v hv hp => by have := h2 v hv hp; omega)
      simp only [Bool.and_self, ↓reduceIte]
      rw [h]
      rfl

end Go.Proofs.Ytbchignbndgigaa

/- kbo: what the law asks besides: of, Great. -/

namespace Go.Proofs.Ytbchignbndgigaa

open Go.RowKit Go.Shelf Go.Maps
set_option maxRecDepth 100000

theorem kboOf_any (f : Int) (n c : Nat) (A : Option Addr) (w : World) : Calls Try.prog 37 #[.int .i64 f, .slice A n c] w fun e w' => e = .returned (.agg #[.int .i64 f, .slice A n c]) ∧ Below w.heap.size w w' := by
  have q0 := heap_alloc_new w (.cells #[.int .i64 f, .slice A n c] 27)
  obtain ⟨z0, z1, _, _⟩ := cells_two q0
  go_enter Try.func37, Try.ntmps37
  go_wp2
  refine bodyPost_ret (v := .agg #[.int .i64 f, .slice A n c]) (by simp [results, Try.results37, go_sem, z0, z1]) rfl ⟨rfl, (Below.refl _ _).alloc (Nat.le_refl _) _⟩

theorem sizes_bd {xs : List Tm} {k : Nat} : sizes (xs.take k) ≤ sizes xs := sizes_le xs k

set_option maxHeartbeats 1000000 in
theorem kboGreat_any (l : List Tm) (hsz : ∀ x ∈ l, x.size ≤ 4611686018427387904) (A : Option Addr) (c : Nat) (w : World) (hA : Args w w.heap.size A l) :
    Calls Try.prog 13 #[.slice A l.length c] w fun e w' => e = .returned (.bool (decide (2000 < sizes l))) ∧ Below w.heap.size w w' := by
  have hlen := hA.len
  have HA := Lib.hid hA
  have Hsm := Lib.hid hsz
  clear hA hsz
  go_enter Try.func13, Try.ntmps13
  go_wp2
  go_loopw [3, 4] (fun n i wr => ∃ k : Nat, k ≤ l.length ∧ i = .int .i64 (k : Int) ∧ n = .int .i64 ((sizes (l.take k) : Nat) : Int) ∧ sizes (l.take k) ≤ 2000 ∧ Below w.heap.size w wr) (fun _ i _ => l.length - (intOf i).toNat)
  case atStart => exact ⟨0, Nat.zero_le _, rfl, by simp [sizes], by simp [sizes], Below.refl _ _⟩
  case round =>
    obtain ⟨k, hk, rfl, rfl, hle, hBr⟩ := hrel
    by_cases hlt : k < l.length
    · obtain ⟨x, hx⟩ : ∃ x, l[k]? = some x := ⟨_, List.getElem?_eq_getElem hlt⟩
      obtain ⟨b, off, A', c', rfl, h⟩ := (HA.out.on hBr).get hx
      have e0 := h.c0
      have e1 := h.c1
      have hxs := Hsm.out x (List.mem_of_getElem? hx)
      have HG := Lib.hid (refSize_any x hxs A' c' wr h.hi h.sub)
      have hT := sizes_take hx
      obtain ⟨m, hm⟩ : ∃ m, sizes (l.take k) = m := ⟨_, rfl⟩
      obtain ⟨j, hj⟩ : ∃ j, x.size = j := ⟨_, rfl⟩
      rw [hm, hj] at hT
      rw [hj] at HG hxs
      rw [hm] at hle ⊢
      have hwr2 : IntKind.i64.wrap ((m : Int) + (j : Int)) = (m : Int) + (j : Int) := by rw [IntKind.wrap_i64]; omega
      have hall := sizes_le l (k + 1)
      rw [hT] at hall
      have HT := Lib.hid hT
      clear hT hm hj hx h
      by_cases hg : 2000 < m + j
      · have hfin := Lib.hid (show decide (2000 < sizes l) = true from decide_eq_true (by omega))
        have hg' : (2000 : Int) < (m : Int) + (j : Int) := by omega
        clear hall
        go_wp2_with (first
          | (go_at_call 35; (with_reducible refine HG.out.mono ?_); go_must (rintro e w1 ⟨rfl, hb1⟩))
          | fail)
        go_ret
        exact ⟨ret_bool hfin.out.symm, hBr.trans (hb1.mono hBr.size)⟩
      · have hg' : ¬ (2000 : Int) < (m : Int) + (j : Int) := by omega
        clear hall
        go_wp2_with (first
          | (go_at_call 35; (with_reducible refine HG.out.mono ?_); go_must (rintro e w1 ⟨rfl, hb1⟩))
          | fail)
        go_roundw
        case rel => exact ⟨k + 1, by omega, by go_num, by rw [HT.out]; congr 1 <;> omega, by rw [HT.out]; omega, hBr.trans (hb1.mono hBr.size)⟩
        case measure => simp [intOf]; omega
    · obtain rfl : k = l.length := by omega
      rw [List.take_length] at hle
      have hfin := Lib.hid (show decide (2000 < sizes l) = false from decide_eq_false (by omega))
      go_wp2
      go_ret
      exact ⟨ret_bool hfin.out.symm, hBr⟩

end Go.Proofs.Ytbchignbndgigaa

/- kbo: Least. -/

namespace Go.Proofs.Ytbchignbndgigaa

open Go.RowKit Go.Shelf Go.Maps
set_option maxRecDepth 100000

/-- An order that is filled. -/
structure LstW (W : World) (bx : Nat) (vP vQ : Value) (lP lQ : List Int) (w : World) : Prop where
  box : w.heap[bx]? = some (.cells #[.bool false, vP, vQ, .int .i64 1] 24)
  P : IntsR w W.heap.size vP lP
  Q : IntsR w W.heap.size vQ lQ
  ne : ∀ g, vP.ownBlock = some g → vQ.ownBlock ≠ some g
  kp : KeepsC (· = bx) W w
  lt : bx < W.heap.size

theorem LstW.p {W w w5 : World} {bx : Nat} {vP vQ v5 : Value} {lP lQ : List Int} {x : Int} {o : Obj} (h : LstW W bx vP vQ lP lQ w) (hx : I64 x) (hown : w5.ownsRow W.heap.size 3 1 v5 (lP.length + 1) (lP.map (Value.int .i64) ++ [.int .i64 x])) (hgr : (w.alloc o).grownBy w5 vP.ownBlock) (hat : v5.ownBlock = vP.ownBlock ∨ v5.ownBlock = some (w.alloc o).heap.size) :
    LstW W bx v5 vQ (lP ++ [x]) lQ (w5.setCell ⟨bx, 1, none⟩ v5) ∧ w5.heap[bx]? = some (.cells #[.bool false, vP, vQ, .int .i64 1] 24) := by
  have hb : w5.heap[bx]? = some (.cells #[.bool false, vP, vQ, .int .i64 1] 24) := by
    have hlt : bx < w.heap.size := (Array.getElem?_eq_some_iff.1 h.box).1
    rw [hgr.block bx (by simp; omega) (fun e => by have := (row_lt h.P.row bx e.symm).1; have := h.lt; omega)]
    exact (Below.heap_alloc w o bx hlt).trans h.box
  have ho := ord_app (o := o) h.P (Below.refl _ _) hx hown hgr hat
  have hQ5 : ∀ g, vQ.ownBlock = some g → w5.heap[g]? = w.heap[g]? := fun g e => ho.gr.block g (row_lt h.Q.row g e).2 (fun e' => h.ne g e'.symm e)
  have hset : ∀ g, g ≠ bx → (w5.setCell ⟨bx, 1, none⟩ v5).heap[g]? = w5.heap[g]? := fun g hg => heap_setCell_other _ _ _ _ hg
  refine ⟨⟨?_, ⟨row_keep ho.row.row fun g e => hset g (by have := (row_lt ho.row.row g e).1; have := h.lt; omega), ho.row.i64⟩, ⟨row_keep h.Q.row fun g e => (hset g (by have := (row_lt h.Q.row g e).1; have := h.lt; omega)).trans (hQ5 g e), h.Q.i64⟩, fun g e e' => ?_, ?_, h.lt⟩, hb⟩
  · exact heap_setCell_same w5 _ 1 _ _ _ hb
  · rcases hat with h' | h'
    · rw [h'] at e; exact h.ne g e e'
    · rw [h'] at e; injection e with e; have := (row_lt h.Q.row g e').2; simp at e; omega
  · have hk5 : KeepsC (· = bx) W w5 := ⟨ho.gr.os.trans h.kp.os, ho.gr.tape.trans h.kp.tape, ho.gr.output.trans h.kp.output, Nat.le_trans h.kp.size ho.gr.size, fun g hg => (ho.gr.block g (Nat.lt_of_lt_of_le hg.1 h.kp.size) (fun e => by have := (row_lt h.P.row g e.symm).1; omega)).trans (h.kp.block hg.1 hg.2)⟩
    exact keepsC_set1 hk5 _ _

theorem LstW.q {W w w5 : World} {bx : Nat} {vP vQ v5 : Value} {lP lQ : List Int} {x : Int} {o : Obj} (h : LstW W bx vP vQ lP lQ w) (hx : I64 x) (hown : w5.ownsRow W.heap.size 3 1 v5 (lQ.length + 1) (lQ.map (Value.int .i64) ++ [.int .i64 x])) (hgr : (w.alloc o).grownBy w5 vQ.ownBlock) (hat : v5.ownBlock = vQ.ownBlock ∨ v5.ownBlock = some (w.alloc o).heap.size) :
    LstW W bx vP v5 lP (lQ ++ [x]) (w5.setCell ⟨bx, 2, none⟩ v5) ∧ w5.heap[bx]? = some (.cells #[.bool false, vP, vQ, .int .i64 1] 24) := by
  have hb : w5.heap[bx]? = some (.cells #[.bool false, vP, vQ, .int .i64 1] 24) := by
    have hlt : bx < w.heap.size := (Array.getElem?_eq_some_iff.1 h.box).1
    rw [hgr.block bx (by simp; omega) (fun e => by have := (row_lt h.Q.row bx e.symm).1; have := h.lt; omega)]
    exact (Below.heap_alloc w o bx hlt).trans h.box
  have ho := ord_app (o := o) h.Q (Below.refl _ _) hx hown hgr hat
  have hQ5 : ∀ g, vP.ownBlock = some g → w5.heap[g]? = w.heap[g]? := fun g e => ho.gr.block g (row_lt h.P.row g e).2 (fun e' => h.ne g e e'.symm)
  have hset : ∀ g, g ≠ bx → (w5.setCell ⟨bx, 2, none⟩ v5).heap[g]? = w5.heap[g]? := fun g hg => heap_setCell_other _ _ _ _ hg
  refine ⟨⟨?_, ⟨row_keep h.P.row fun g e => (hset g (by have := (row_lt h.P.row g e).1; have := h.lt; omega)).trans (hQ5 g e), h.P.i64⟩, ⟨row_keep ho.row.row fun g e => hset g (by have := (row_lt ho.row.row g e).1; have := h.lt; omega), ho.row.i64⟩, fun g e e' => ?_, ?_, h.lt⟩, hb⟩
  · exact heap_setCell_same w5 _ 2 _ _ _ hb
  · rcases hat with h' | h'
    · rw [h'] at e'; exact h.ne g e e'
    · rw [h'] at e'; injection e' with e'; have := (row_lt h.P.row g e).2; simp at e'; omega
  · have hk5 : KeepsC (· = bx) W w5 := ⟨ho.gr.os.trans h.kp.os, ho.gr.tape.trans h.kp.tape, ho.gr.output.trans h.kp.output, Nat.le_trans h.kp.size ho.gr.size, fun g hg => (ho.gr.block g (Nat.lt_of_lt_of_le hg.1 h.kp.size) (fun e => by have := (row_lt h.Q.row g e.symm).1; omega)).trans (h.kp.block hg.1 hg.2)⟩
    exact keepsC_set1 hk5 _ _

theorem set_four {W : World} {b : Nat} {x y z u x' y' z' u' : Value} {t : TypeId} (h : W.heap[b]? = some (.cells #[x, y, z, u] t)) :
    ((((W.setCell ⟨b, 0, none⟩ x').setCell ⟨b, 1, none⟩ y').setCell ⟨b, 2, none⟩ z').setCell ⟨b, 3, none⟩ u').heap[b]? = some (.cells #[x', y', z', u'] t) := by
  have h1 : (W.setCell ⟨b, 0, none⟩ x').heap[b]? = some (.cells #[x', y, z, u] t) := heap_setCell_same W _ 0 _ _ _ h
  have h2 : ((W.setCell ⟨b, 0, none⟩ x').setCell ⟨b, 1, none⟩ y').heap[b]? = some (.cells #[x', y', z, u] t) := heap_setCell_same _ _ 1 _ _ _ h1
  have h3 : (((W.setCell ⟨b, 0, none⟩ x').setCell ⟨b, 1, none⟩ y').setCell ⟨b, 2, none⟩ z').heap[b]? = some (.cells #[x', y', z', u] t) := heap_setCell_same _ _ 2 _ _ _ h2
  exact heap_setCell_same _ _ 3 _ _ _ h3

theorem row_low {W : World} {base base' n : Nat} {e : TypeId} {size : Nat} {v : Value} {vs : List Value} (h : W.ownsRow base e size v n vs) (hb : base' ≤ base) : W.ownsRow base' e size v n vs := by
  refine ⟨h.1, ?_⟩
  rcases h.2 with h0 | ⟨g', cap, cur, rfl, hbg, hrest⟩
  · exact .inl h0
  · exact .inr ⟨g', cap, cur, rfl, Nat.le_trans hb hbg, hrest⟩

/-- The numbers 0 .. k - 1. -/
def numsI (k : Nat) : List Int := (List.range k).map fun i : Nat => (i : Int)

theorem numsI_succ (k : Nat) : numsI (k + 1) = numsI k ++ [(k : Int)] := by unfold numsI; rw [List.range_succ, List.map_append]; rfl

theorem numsI_len (k : Nat) : (numsI k).length = k := by unfold numsI; simp

theorem ones_succ (k : Nat) : List.replicate (k + 1) (1 : Int) = List.replicate k 1 ++ [1] := by rw [List.replicate_succ']

set_option maxHeartbeats 4000000 in
theorem kboLeast_any (n : Nat) (hn : n ≤ 1000) (w : World) : Calls Try.prog 36 #[.int .i64 (n : Int)] w fun e w' => ∃ vP vQ, e = .returned (.agg #[.bool false, vP, vQ, .int .i64 1]) ∧ IntsR w' w.heap.size vP (numsI n) ∧ IntsR w' w.heap.size vQ (List.replicate n 1) ∧ (∀ g, vP.ownBlock = some g → vQ.ownBlock ≠ some g) ∧ Below w.heap.size w w' := by
  obtain ⟨q0, q1⟩ := heap2 w (.cells #[.bool false, .slice none 0 0, .slice none 0 0, .int .i64 0] 24) (.cells #[.bool false, .slice none 0 0, .slice none 0 0, .int .i64 1] 24)
  obtain ⟨W, hW⟩ : ∃ W, ((w.alloc (.cells #[.bool false, .slice none 0 0, .slice none 0 0, .int .i64 0] 24)).alloc (.cells #[.bool false, .slice none 0 0, .slice none 0 0, .int .i64 1] 24)) = W := ⟨_, rfl⟩
  have hB : Below w.heap.size w W := by rw [← hW]; exact ((Below.refl _ _).alloc (Nat.le_refl _) _).alloc (by simp) _
  rw [hW] at q0 q1
  have hWz : W.heap.size = w.heap.size + 2 := by rw [← hW]; simp
  obtain ⟨i0, hi, hz0, hz1, hz2⟩ := info_parts info_int
  have hL0 : LstW W (w.heap.size + 1) (.slice none 0 0) (.slice none 0 0) [] [] W := ⟨q1, ⟨⟨by simp, .inl ⟨rfl, rfl⟩⟩, by simp⟩, ⟨⟨by simp, .inl ⟨rfl, rfl⟩⟩, by simp⟩, (fun g e => by cases e), KeepsC.refl _ _, by omega⟩
  have HL0 := Lib.hid hL0
  have HW := Lib.hid hW
  have Hq0 := Lib.hid q0
  clear hW hL0 q0 q1
  go_enter Try.func36, Try.ntmps36
  go_upto_region 2 with fail
  rw [HW.out]
  go_wp2
  go_loopw [4] (fun i wr => ∃ (k : Nat) (vP vQ : Value), k ≤ n ∧ i = .int .i64 (k : Int) ∧ Hid (LstW W (w.heap.size + 1) vP vQ (numsI k) (List.replicate k 1) wr)) (fun i _ => n - (intOf i).toNat)
  case atStart => exact ⟨0, _, _, Nat.zero_le _, rfl, HL0⟩
  case round =>
    obtain ⟨k, vP, vQ, hk, rfl, HL⟩ := hrel
    obtain ⟨c0, c1, c2, c3⟩ := cells_four HL.out.box
    by_cases hkl : k < n
    · obtain ⟨Ap, cp, hvp⟩ := row_slice HL.out.P.row
      obtain ⟨Aq, cq, hvq⟩ := row_slice HL.out.Q.row
      rw [numsI_len] at hvp
      rw [List.length_replicate] at hvq
      subst hvp; subst hvq
      have hrl := row_lt HL.out.P.row
      have hkp := HL.out.kp.size
      have hwr1 : IntKind.i64.wrap ((k : Int) + 1) = (k : Int) + 1 := by rw [IntKind.wrap_i64]; omega
      go_upto_region 6 with (first
        | (at_builtin
           go_must (
           refine wpList_append_own_at _ rfl _ _ 22 rfl W.heap.size 3 i0 (.int .i64 0) 1 8 Try.underlying22 hi hz0 hz1 hz2 rfl (by decide) (.slice Ap k cp) k _ rfl (row_keep (by have := HL.out.P.row; rwa [numsI_len] at this) fun g e => Below.heap_alloc wr _ g (hrl g e).2) ⟨wr.heap.size, 0, none⟩ 1 1 [.int .i64 (k : Int)] rfl rfl (cell_one_new _ _ _) (by simp [Value.oneCell']) (by unfold maxLen; omega) (by omega) (by simp; omega) ?_
           intro v5 w5 hown5 hgr5 _ hat5
           obtain ⟨A5, c5, rfl⟩ := row_slice hown5
           have H5 := Lib.hid (HL.out.p (x := (k : Int)) ⟨by omega, by omega⟩ (by rw [numsI_len]; exact hown5) hgr5 hat5)
           have hfz := frozen_9 H5.out.2 1
           have hc5 := (cells_four H5.out.2).2.1
           clear hown5 hgr5 hat5))
        | fail)
      obtain ⟨X, hX⟩ : ∃ X, w5.setCell ⟨w.heap.size + 1, 1, none⟩ (.slice A5 (k + 1) c5) = X := ⟨_, rfl⟩
      have HX : Hid (LstW W (w.heap.size + 1) (.slice A5 (k + 1) c5) (.slice Aq k cq) (numsI (k + 1)) (List.replicate k 1) X) := Lib.hid (by rw [← hX, numsI_succ]; exact H5.out.1)
      have HXe := Lib.hid hX
      obtain ⟨d0, d1, d2, d3⟩ := cells_four HX.out.box
      have hrl2 := row_lt HX.out.Q.row
      have hkp2 := HX.out.kp.size
      clear hX c0 c1 c2 c3 hfz hrl hkp hc5
      rw [HXe.out]
      go_wp2_with (first
        | (at_builtin
           go_must (
           refine wpList_append_own_at _ rfl _ _ 22 rfl W.heap.size 3 i0 (.int .i64 0) 1 8 Try.underlying22 hi hz0 hz1 hz2 rfl (by decide) (.slice Aq k cq) k _ rfl (row_keep (by have := HX.out.Q.row; rwa [List.length_replicate] at this) fun g e => Below.heap_alloc X _ g (hrl2 g e).2) ⟨X.heap.size, 0, none⟩ 1 1 [.int .i64 1] rfl rfl (cell_one_new _ _ _) (by simp [Value.oneCell']) (by unfold maxLen; omega) (by omega) (by simp; omega) ?_
           intro v6 w6 hown6 hgr6 _ hat6
           obtain ⟨A6, c6, rfl⟩ := row_slice hown6
           have H6 := Lib.hid (HX.out.q (x := 1) ⟨by omega, by omega⟩ (by rw [List.length_replicate]; exact hown6) hgr6 hat6)
           have hfz6 := frozen_9 H6.out.2 2
           have hc6 := (cells_four H6.out.2).2.2.1
           clear hown6 hgr6 hat6))
        | fail)
      go_roundw
      case rel => exact ⟨k + 1, _, _, by omega, by go_num, Lib.hid (by rw [ones_succ]; exact H6.out.1)⟩
      case measure => simp [intOf]; omega
    · obtain rfl : k = n := by omega
      obtain ⟨Ap, cp, hvp⟩ := row_slice HL.out.P.row
      obtain ⟨Aq, cq, hvq⟩ := row_slice HL.out.Q.row
      rw [numsI_len] at hvp
      rw [List.length_replicate] at hvq
      subst hvp; subst hvq
      have hr0 := (HL.out.kp.block (show w.heap.size < W.heap.size by omega) (show ¬ w.heap.size = w.heap.size + 1 by omega)).trans Hq0.out
      have hfr := frozen_9 hr0
      obtain ⟨r0, r1, r2, r3⟩ := cells_four hr0
      have hset := Lib.hid (fun (x y z u : Value) => set_four (x' := x) (y' := y) (z' := z) (u' := u) hr0)
      have hP := HL.out.P
      have hQ := HL.out.Q
      have hne := HL.out.ne
      have hkk := HL.out.kp
      have hs4 := fun (x y z u : Value) => keepsC_set1 (b := w.heap.size) (keepsC_set1 (keepsC_set1 (keepsC_set1 (KeepsC.refl _ wr) 0 x) 1 y) 2 z) 3 u
      have HR : Hid (∀ x y z u : Value, let W' := ((((wr.setCell ⟨w.heap.size, 0, none⟩ x).setCell ⟨w.heap.size, 1, none⟩ y).setCell ⟨w.heap.size, 2, none⟩ z).setCell ⟨w.heap.size, 3, none⟩ u); IntsR W' w.heap.size (.slice Ap k cp) (numsI k) ∧ IntsR W' w.heap.size (.slice Aq k cq) (List.replicate k 1) ∧ Below w.heap.size w W') := Lib.hid fun x y z u => by
        have h4 := hs4 x y z u
        have hw1 := hkk.size
        refine ⟨⟨row_low (row_keep hP.row fun g e => h4.block (row_lt hP.row g e).2 (by have := (row_lt hP.row g e).1; omega)) (by omega), hP.i64⟩, ⟨row_low (row_keep hQ.row fun g e => h4.block (row_lt hQ.row g e).2 (by have := (row_lt hQ.row g e).1; omega)) (by omega), hQ.i64⟩, ?_⟩
        exact (hB.trans (hkk.below (n := w.heap.size) (by omega) fun g hg => by omega)).trans (h4.below (by omega) fun g hg => by omega)
      have Hne := Lib.hid hne
      clear hP hQ hne hkk hs4 hr0
      go_wp2
      have hfin := hset.out (.bool false) (.slice Ap k cp) (.slice Aq k cq) (.int .i64 1)
      have hrr := Lib.hid (HR.out (.bool false) (.slice Ap k cp) (.slice Aq k cq) (.int .i64 1))
      obtain ⟨Y, hY⟩ : ∃ Y, ((((wr.setCell ⟨w.heap.size, 0, none⟩ (.bool false)).setCell ⟨w.heap.size, 1, none⟩ (.slice Ap k cp)).setCell ⟨w.heap.size, 2, none⟩ (.slice Aq k cq)).setCell ⟨w.heap.size, 3, none⟩ (.int .i64 1)) = Y := ⟨_, rfl⟩
      simp only [hY] at hrr
      rw [hY] at hfin ⊢
      obtain ⟨f0, f1, f2, f3⟩ := cells_four hfin
      refine bodyPost_ret (v := .agg #[.bool false, .slice Ap k cp, .slice Aq k cq, .int .i64 1]) (by simp [results, Try.results36, go_sem, f0, f1, f2, f3]) rfl ⟨_, _, rfl, ?_, ?_, Hne.out, ?_⟩
      · exact hrr.out.1
      · exact hrr.out.2.1
      · exact hrr.out.2.2

end Go.Proofs.Ytbchignbndgigaa

/- kbo: what wakes wants: rows of one and two terms; what the order says of the terms that it asks. -/

namespace Go.Proofs.Ytbchignbndgigaa

open Go.RowKit Go.Shelf Go.Maps
set_option maxRecDepth 100000

theorem kboOf_eq (f : Int) (n c : Nat) (A : Option Addr) (w : World) : Calls Try.prog 37 #[.int .i64 f, .slice A n c] w fun e w' => e = .returned (.agg #[.int .i64 f, .slice A n c]) ∧ w' = w.alloc (.cells #[.int .i64 f, .slice A n c] 27) := by
  have q0 := heap_alloc_new w (.cells #[.int .i64 f, .slice A n c] 27)
  obtain ⟨z0, z1, _, _⟩ := cells_two q0
  go_enter Try.func37, Try.ntmps37
  go_wp2
  refine bodyPost_ret (v := .agg #[.int .i64 f, .slice A n c]) (by simp [results, Try.results37, go_sem, z0, z1]) rfl ⟨rfl, rfl⟩

theorem argsK_one {w : World} {N : Nat → Prop} {b : Nat} {t : Tm} {A : Option Addr} {c : Nat} {e : TypeId} (h : w.heap[b]? = some (.cells #[.int .i64 t.fn, .slice A t.args.length c] e)) (hN : N b) (h64 : I64 t.fn) (hA : ArgsK w N A c t.args) : ArgsK w N (some ⟨b, 0, none⟩) 1 [t] := by
  obtain ⟨z0, z1, _, _⟩ := cells_two h
  refine .row b 0 1 [t] (fun _ => A) (fun _ => c) (by simp) hN (by simp) (fun i u e => ?_) (fun i u e => ?_) (fun i u e => ?_) (fun i u e => ?_)
  all_goals
    match i, e with
    | 0, e =>
      simp only [List.getElem?_cons_zero, Option.some.injEq] at e
      subst e
      first
        | exact h64
        | exact z0
        | exact z1
        | exact hA
    | i + 1, e => simp at e

theorem argsK_two {w : World} {N : Nat → Prop} {b : Nat} {t u : Tm} {A A2 : Option Addr} {c c2 : Nat} {e : TypeId} (h : w.heap[b]? = some (.cells #[.int .i64 t.fn, .slice A t.args.length c, .int .i64 u.fn, .slice A2 u.args.length c2] e)) (hN : N b) (h64 : I64 t.fn) (g64 : I64 u.fn) (hA : ArgsK w N A c t.args) (hA2 : ArgsK w N A2 c2 u.args) : ArgsK w N (some ⟨b, 0, none⟩) 2 [t, u] := by
  obtain ⟨z0, z1, z2, z3⟩ := cells_four h
  refine .row b 0 2 [t, u] (fun i => if i = 0 then A else A2) (fun i => if i = 0 then c else c2) (by simp) hN (by simp) (fun i x e => ?_) (fun i x e => ?_) (fun i x e => ?_) (fun i x e => ?_)
  all_goals
    match i, e with
    | 0, e =>
      simp only [List.getElem?_cons_zero, Option.some.injEq] at e
      subst e
      first
        | exact h64
        | exact z0
        | exact z1
        | exact hA
    | 1, e =>
      simp only [List.getElem?_cons_succ, List.getElem?_cons_zero, Option.some.injEq] at e
      subst e
      first
        | exact g64
        | exact z2
        | exact z3
        | exact hA2
    | i + 2, e => simp at e

/-- The order by number, all weights 1; and with the last one weighing 0. -/
def ord5 : Odr := ⟨false, [0, 1, 2, 3, 4], [1, 1, 1, 1, 1], 1⟩

def ord5l : Odr := ⟨false, [0, 1, 2, 3, 4], [1, 1, 1, 1, 0], 1⟩

def tX : Tm := .node (-1) []

def tA : Tm := .node 1 []

def tB : Tm := .node 2 []

theorem wake1 : cmpO ord5 (.node 3 [tX, tA]) (.node 4 [tX]) = 3 := by decide +kernel

theorem wake2 : cmpO ord5 (.node 4 [tA]) (.node 3 [tX, tX]) = 1 := by decide +kernel

theorem wake3 : cmpO ord5 (.node 4 [tX]) (.node 3 [tA, tB]) = 0 := by decide +kernel

theorem wake4 : cmpO ord5 (.node 3 [tA, tB]) (.node 3 [tB, tA]) = 1 := by decide +kernel

theorem wake5 : cmpO ord5l (.node 4 [.node 4 [tX]]) tX = 3 := by decide +kernel

theorem wake6 : cmpO ord5l (.node 4 [tA]) tB = 3 := by decide +kernel

theorem wake7 : wgtO ord5 (.node 3 [tX, tA]) = 3 := by decide +kernel

end Go.Proofs.Ytbchignbndgigaa

/- KboTells, out of wakes. -/

namespace Go.Proofs.Ytbchignbndgigaa

open Go.RowKit Go.Shelf Go.Maps
set_option maxRecDepth 100000

set_option maxHeartbeats 4000000 in
theorem kboTells_of (hwk : ∀ w : World, Calls Try.prog 14 #[] w fun e w' => e = .returned (.bool true) ∧ Below w.heap.size w w') (o : Odr) (s t : Tm) (P Q A A2 : Option Addr) (pc qc c c2 : Nat) (w : World) (hM : OdrM w w.heap.size o P Q) (hf : I64 s.fn) (hg : I64 t.fn) (hzs : s.size ≤ 1048576) (hzt : t.size ≤ 1048576) (hA : ArgsK w (· < w.heap.size) A c s.args) (hA2 : ArgsK w (· < w.heap.size) A2 c2 t.args) :
    Calls Try.prog 3 #[.agg #[.bool o.lpo, .slice P o.prec.length pc, .slice Q o.wts.length qc, .int .i64 o.var], .agg #[.int .i64 s.fn, .slice A s.args.length c], .agg #[.int .i64 t.fn, .slice A2 t.args.length c2]] w fun e w' => e = .returned (.bool true) ∧ Below w.heap.size w w' := by
  obtain ⟨W, hW⟩ : ∃ W, (((w.alloc (.cells #[.bool o.lpo, .slice P o.prec.length pc, .slice Q o.wts.length qc, .int .i64 o.var] 24)).alloc (.cells #[.int .i64 s.fn, .slice A s.args.length c] 27)).alloc (.cells #[.int .i64 t.fn, .slice A2 t.args.length c2] 27)) = W := ⟨_, rfl⟩
  obtain ⟨hB, hz, hS⟩ := box_ott hW
  have HW := Lib.hid hW
  obtain ⟨x0, x1, x2, x3, x4, x5, x6, x7⟩ := hS W (Below.refl _ _)
  have HS := Lib.hid hS
  have HBB : ∀ w1, Below W.heap.size W w1 → Below w.heap.size w w1 := fun w1 h => hB.trans (h.mono hB.size)
  have HAk : Hid (∀ w1, Below W.heap.size W w1 → ArgsK w1 (· < w1.heap.size) A c s.args) := Lib.hid fun w1 hb => (hA.keep fun g e => (HBB w1 hb).block g e).wide fun g e => Nat.lt_of_lt_of_le e (HBB w1 hb).size
  have HAk2 : Hid (∀ w1, Below W.heap.size W w1 → ArgsK w1 (· < w1.heap.size) A2 c2 t.args) := Lib.hid fun w1 hb => (hA2.keep fun g e => (HBB w1 hb).block g e).wide fun g e => Nat.lt_of_lt_of_le e (HBB w1 hb).size
  have HMk : Hid (∀ w1, Below W.heap.size W w1 → OdrM w1 w1.heap.size o P Q) := Lib.hid fun w1 hb => hM.on (HBB w1 hb)
  have q5 := heap_alloc_new W (.cells #[.int .i64 s.fn, .slice A s.args.length c, .int .i64 t.fn, .slice A2 t.args.length c2] 27)
  obtain ⟨W5, hW5⟩ : ∃ W5, W.alloc (.cells #[.int .i64 s.fn, .slice A s.args.length c, .int .i64 t.fn, .slice A2 t.args.length c2] 27) = W5 := ⟨_, rfl⟩
  have hB5 : Below W.heap.size W W5 := by rw [← hW5]; exact (Below.refl _ _).alloc (Nat.le_refl _) _
  rw [hW5] at q5
  have hl5 : W.heap.size < W5.heap.size := (Array.getElem?_eq_some_iff.1 q5).1
  have hG : Calls Try.prog 13 #[.slice (some ⟨W.heap.size, 0, none⟩) 2 2] W5 fun e w' => e = .returned (.bool (decide (2000 < sizes [s, t]))) ∧ Below W5.heap.size W5 w' :=
    kboGreat_any [s, t] (fun x hx => by simp at hx; rcases hx with rfl | rfl <;> omega) (some ⟨W.heap.size, 0, none⟩) 2 W5 (argsK_two (N := (· < W5.heap.size)) q5 hl5 hf hg (HAk.out W5 hB5) (HAk2.out W5 hB5)).toA
  have HW5 := Lib.hid hW5
  have Hwk := Lib.hid hwk
  clear hW hS hA hA2 hM hW5 q5 hwk hz
  go_enter Try.func3, Try.ntmps3
  go_upto_region 1 with fail
  rw [HW.out]
  cases hgr : decide (2000 < sizes [s, t]) with
  | true =>
    rw [hgr] at hG
    have HG := Lib.hid hG
    clear hG hgr
    go_wp2_with (first
      | (go_at_call 13; go_must (rw [HW5.out]; (with_reducible refine HG.out.mono ?_); rintro e w1 ⟨rfl, hb1⟩))
      | (go_at_call 14; (with_reducible refine (Hwk.out _).mono ?_); go_must (rintro e w2 ⟨rfl, hb2⟩))
      | fail)
    go_ret
    exact ⟨rfl, (HBB w1 (hB5.trans (hb1.mono hB5.size))).trans (hb2.mono (HBB w1 (hB5.trans (hb1.mono hB5.size))).size)⟩
  | false =>
    rw [hgr] at hG
    have HG := Lib.hid hG
    clear hG hgr
    go_upto_region 3 with (first
      | (go_at_call 13; go_must (rw [HW5.out]; (with_reducible refine HG.out.mono ?_); rintro e w1 ⟨rfl, hb1⟩))
      | fail)
    have hbW1 := hB5.trans (hb1.mono hB5.size)
    obtain ⟨y0, y1, y2, y3, y4, y5, y6, y7⟩ := HS.out w1 hbW1
    have HR := Lib.hid (refCmp8_any o s t P Q A A2 pc qc c c2 w1 (HMk.out w1 hbW1) hf hg (by omega) (by omega) (HAk.out w1 hbW1).toA (HAk2.out w1 hbW1).toA)
    go_upto_region 4 with (first
      | (go_at_call 15; (with_reducible refine HR.out.mono ?_); go_must (rintro e w2 ⟨rfl, hb2⟩))
      | fail)
    have hbW2 := hbW1.trans (hb2.mono hbW1.size)
    have hy : ∀ y : Later w2.heap.size w2, Below W.heap.size W y.w := fun y => hbW2.trans (y.h.mono hbW2.size)
    have H1 : Hid (∀ y : Later w2.heap.size w2, Calls Try.prog 16 #[.agg #[.bool o.lpo, .slice P o.prec.length pc, .slice Q o.wts.length qc, .int .i64 o.var], .agg #[.int .i64 s.fn, .slice A s.args.length c], .agg #[.int .i64 t.fn, .slice A2 t.args.length c2]] y.w fun e w' => e = .returned (.int .i64 (cmpR o s t)) ∧ Below y.w.heap.size y.w w') := Lib.hid fun y => by
      have := kboCmp_any o s t P Q A A2 pc qc c c2 y.w (HMk.out y.w (hy y)) hf hg (by omega) (HAk.out y.w (hy y)) (HAk2.out y.w (hy y))
      rwa [cmpO_eq] at this
    have H2 : Hid (∀ y : Later w2.heap.size w2, Calls Try.prog 17 #[.agg #[.bool o.lpo, .slice P o.prec.length pc, .slice Q o.wts.length qc, .int .i64 o.var], .agg #[.int .i64 s.fn, .slice A s.args.length c], .agg #[.int .i64 t.fn, .slice A2 t.args.length c2]] y.w fun e w' => e = .returned (.bool (cmpR o s t == 3)) ∧ Below y.w.heap.size y.w w') := Lib.hid fun y => by
      have := kboAbove_any o s t P Q A A2 pc qc c c2 y.w (HMk.out y.w (hy y)) hf hg (by omega) (HAk.out y.w (hy y)) (HAk2.out y.w (hy y))
      rwa [cmpO_eq] at this
    have H3 : Hid (∀ y : Later w2.heap.size w2, Calls Try.prog 18 #[.agg #[.bool o.lpo, .slice P o.prec.length pc, .slice Q o.wts.length qc, .int .i64 o.var], .agg #[.int .i64 s.fn, .slice A s.args.length c]] y.w fun e w' => e = .returned (.int .i64 (wgtO o s)) ∧ Below y.w.heap.size y.w w') := Lib.hid fun y => kboWeight_any o s P Q A pc qc c y.w (HMk.out y.w (hy y)) hf (by omega) (HAk.out y.w (hy y)).toA
    have H4 : Hid (∀ y : Later w2.heap.size w2, Calls Try.prog 19 #[.agg #[.bool o.lpo, .slice P o.prec.length pc, .slice Q o.wts.length qc, .int .i64 o.var], .agg #[.int .i64 s.fn, .slice A s.args.length c]] y.w fun e w' => e = .returned (.int .i64 (wgtO o s)) ∧ Below y.w.heap.size y.w w') := Lib.hid fun y => refWeight8_any o s P Q A pc qc c y.w (HMk.out y.w (hy y)) hf (HAk.out y.w (hy y)).toA
    have H5 : Hid (∀ y : Later w2.heap.size w2, Calls Try.prog 14 #[] y.w fun e w' => e = .returned (.bool true) ∧ Below y.w.heap.size y.w w') := Lib.hid fun y => Hwk.out y.w
    have m0 : ∀ y : Later w2.heap.size w2, y.w.cell? ⟨w.heap.size, 0, none⟩ = some (.bool o.lpo) := fun y => (HS.out y.w (hy y)).1
    have m1 : ∀ y : Later w2.heap.size w2, y.w.cell? ⟨w.heap.size, 1, none⟩ = some (.slice P o.prec.length pc) := fun y => (HS.out y.w (hy y)).2.1
    have m2 : ∀ y : Later w2.heap.size w2, y.w.cell? ⟨w.heap.size, 2, none⟩ = some (.slice Q o.wts.length qc) := fun y => (HS.out y.w (hy y)).2.2.1
    have m3 : ∀ y : Later w2.heap.size w2, y.w.cell? ⟨w.heap.size, 3, none⟩ = some (.int .i64 o.var) := fun y => (HS.out y.w (hy y)).2.2.2.1
    have m4 : ∀ y : Later w2.heap.size w2, y.w.cell? ⟨w.heap.size + 1, 0, none⟩ = some (.int .i64 s.fn) := fun y => (HS.out y.w (hy y)).2.2.2.2.1
    have m5 : ∀ y : Later w2.heap.size w2, y.w.cell? ⟨w.heap.size + 1, 1, none⟩ = some (.slice A s.args.length c) := fun y => (HS.out y.w (hy y)).2.2.2.2.2.1
    have m6 : ∀ y : Later w2.heap.size w2, y.w.cell? ⟨w.heap.size + 2, 0, none⟩ = some (.int .i64 t.fn) := fun y => (HS.out y.w (hy y)).2.2.2.2.2.2.1
    have m7 : ∀ y : Later w2.heap.size w2, y.w.cell? ⟨w.heap.size + 2, 1, none⟩ = some (.slice A2 t.args.length c2) := fun y => (HS.out y.w (hy y)).2.2.2.2.2.2.2
    clear hy y0 y1 y2 y3 y4 y5 y6 y7 x0 x1 x2 x3 x4 x5 x6 x7
    obtain ⟨q, hq⟩ : ∃ q, cmpR o s t = q := ⟨_, rfl⟩
    obtain ⟨v, hv⟩ : ∃ v, wgtO o s = v := ⟨_, rfl⟩
    rw [hq] at H1 H2 ⊢
    rw [hv] at H3 H4
    clear hq hv HR
    refine wp_region_later w2.heap.size w2 (by kernel_rfl) (by kernel_rfl) (bl_drewN (Below.refl _ _) 1) ?_
    repeat (go_big_quiet_step (first
      | (go_at_call 16; with_reducible refine calls_later _ (Nat.le_refl _) (H1.out _))
      | (go_at_call 17; with_reducible refine calls_later _ (Nat.le_refl _) (H2.out _))
      | (go_at_call 18; with_reducible refine calls_later _ (Nat.le_refl _) (H3.out _))
      | (go_at_call 19; with_reducible refine calls_later _ (Nat.le_refl _) (H4.out _))
      | (go_at_call 14; with_reducible refine calls_later _ (Nat.le_refl _) (H5.out _))
      | fail))
    refine wpQuiet_nil ?_
    rintro _ ⟨z, rfl⟩
    clear m0 m1 m2 m3 m4 m5 m6 m7
    go_wp2
    go_ret
    exact ⟨rfl, HBB z.w (hbW2.trans (z.h.mono hbW2.size))⟩

end Go.Proofs.Ytbchignbndgigaa

