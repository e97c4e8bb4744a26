/- What two substitutions do together is what they do one behind the other, in plain words. -/
import Derived.Test.YtfkefogmpmcfeaaU31
import Derived.Test.YtfkefogmpmcfeaaVA
namespace Go.Proofs.Ytfkefogmpmcfeaa
open Go.RowKit Go.Shelf
set_option maxRecDepth 100000

theorem chkFrom_of : ∀ (l : List Bd) (lo : Int), (∀ x ∈ l, lo < x.v ∧ ¬ selfB x) → l.Pairwise (fun x y => x.v < y.v) → chkFrom lo l = true
  | [], _, _, _ => rfl
  | y :: ys, lo, h, hp => by
    obtain ⟨h1, h2⟩ := List.pairwise_cons.1 hp
    obtain ⟨h3, h4⟩ := h y (by simp)
    simp only [chkFrom, Bool.and_eq_true, decide_eq_true_eq, Bool.not_eq_true', decide_eq_false_iff_not]
    exact ⟨h3, h4, chkFrom_of ys y.v (fun x hx => ⟨h1 x hx, (h x (by simp [hx])).2⟩) h2⟩
theorem mrg_mem {la lb : List Bd} (ha : chkB la = true) (hb : chkB lb = true) {z : Bd} : z ∈ mrg (thenB lb) la lb ↔ (∃ x ∈ la, thenB lb x = z) ∨ (z ∈ lb ∧ hasB la z.v = false) := by
  rw [(mrg_perm (thenB lb) _ la lb (Nat.le_refl _) (chkFrom_rise la (-1) ha) (chkFrom_rise lb (-1) hb)).mem_iff]
  simp [List.mem_append, List.mem_map, List.mem_filter]
theorem chkB_comp {la lb : List Bd} (ha : chkB la = true) (hb : chkB lb = true) : chkB (compB la lb) = true := by
  refine chkFrom_of _ _ (fun z hz => ?_) ?_
  · obtain ⟨h1, h2⟩ := List.mem_filter.1 hz
    refine ⟨?_, by simpa using h2⟩
    rcases (mrg_mem ha hb).1 h1 with ⟨x, hx, rfl⟩ | ⟨hz, _⟩
    · exact (chkFrom_all la (-1) ha x hx).1
    · exact (chkFrom_all lb (-1) hb z hz).1
  · exact (mrg_rise (thenB lb) (fun _ => rfl) _ la lb (Nat.le_refl _) (chkFrom_rise la (-1) ha) (chkFrom_rise lb (-1) hb)).filter _

/-- What a variable (that has no arguments) becomes. -/
def val (l : List Bd) (v : Int) : Tm := (bdT l v).getD (.node (-1 - v) [])
theorem find_mem {l : List Bd} (h : l.Pairwise fun x y => x.v < y.v) {z : Bd} (hz : z ∈ l) : findB l z.v = some z := by
  rcases hf : findB l z.v with _ | y
  · unfold findB at hf
    rw [List.find?_eq_none] at hf
    exact absurd (hf z hz) (by simp)
  · have hy := List.mem_of_find?_eq_some hf
    have hv : y.v = z.v := by have := List.find?_some hf; simpa using this
    obtain ⟨i, hi⟩ := List.mem_iff_getElem?.1 hy
    obtain ⟨j, hj⟩ := List.mem_iff_getElem?.1 hz
    obtain ⟨hi1, hi2⟩ := List.getElem?_eq_some_iff.1 hi
    obtain ⟨hj1, hj2⟩ := List.getElem?_eq_some_iff.1 hj
    rcases Nat.lt_trichotomy i j with h' | h' | h'
    · have := List.pairwise_iff_getElem.1 h i j hi1 hj1 h'
      rw [hi2, hj2] at this; omega
    · subst h'; rw [← hi2, ← hj2]
    · have := List.pairwise_iff_getElem.1 h j i hj1 hi1 h'
      rw [hi2, hj2] at this; omega
theorem find_none_iff {l : List Bd} {v : Int} : findB l v = none ↔ ∀ z ∈ l, z.v ≠ v := by
  unfold findB
  rw [List.find?_eq_none]
  simp
theorem find_some_mem {l : List Bd} {v : Int} {x : Bd} (h : findB l v = some x) : x ∈ l ∧ x.v = v := ⟨List.mem_of_find?_eq_some h, by have := List.find?_some h; simpa using this⟩
theorem self_eq {z : Bd} : selfB z ↔ z.t = .node (-1 - z.v) [] := by
  obtain ⟨v, f, xs⟩ := z
  unfold selfB
  simp only [Tm.fn, Tm.args, Tm.node.injEq, List.length_eq_zero_iff]
theorem app_var (g : Int → Option Tm) {v : Int} (hv : 0 ≤ v) : appT g (.node (-1 - v) []) = (g v).getD (.node (-1 - v) []) := by
  simp only [appT, appL]
  rw [if_pos (by omega), show -1 - (-1 - v) = v by omega]
theorem val_comp {la lb : List Bd} (ha : chkB la = true) (hb : chkB lb = true) {v : Int} (hv : 0 ≤ v) : val (compB la lb) v = appT (bdT lb) (val la v) := by
  have hm := mrg_rise (thenB lb) (fun _ => rfl) _ la lb (Nat.le_refl _) (chkFrom_rise la (-1) ha) (chkFrom_rise lb (-1) hb)
  have hr := chkFrom_rise _ (-1) (chkB_comp ha hb)
  -- the one of v in the merged row, if there is one
  have key : ∀ z : Bd, z ∈ mrg (thenB lb) la lb → z.v = v → val (compB la lb) v = z.t := by
    intro z hz hzv
    by_cases hs : selfB z
    · have hn : findB (compB la lb) v = none := find_none_iff.2 fun y hy e => by
        obtain ⟨h1, h2⟩ := List.mem_filter.1 hy
        have e1 := find_mem hm h1
        have e2 := find_mem hm hz
        rw [e, ← hzv, e2] at e1
        injection e1 with e1
        rw [← e1] at h2
        simp [hs] at h2
      unfold val bdT
      rw [hn, Option.map_none, Option.getD_none, self_eq.1 hs, hzv]
    · have hzc : z ∈ compB la lb := List.mem_filter.2 ⟨hz, by simpa using hs⟩
      unfold val bdT
      rw [← hzv, find_mem hr hzc]
      rfl
  rcases hf : findB la v with _ | x
  · have hval : val la v = .node (-1 - v) [] := by unfold val bdT; rw [hf]; rfl
    rw [hval, app_var _ hv]
    have hno : hasB la v = false := by unfold hasB; rw [hf]; rfl
    rcases hg : findB lb v with _ | y
    · have hn : findB (compB la lb) v = none := find_none_iff.2 fun z hz e => by
        rcases (mrg_mem ha hb).1 (List.mem_filter.1 hz).1 with ⟨x, hx, rfl⟩ | ⟨h, _⟩
        · exact find_none_iff.1 hf x hx e
        · exact find_none_iff.1 hg z h e
      unfold val bdT
      rw [hn, hg]
    · obtain ⟨hy, hyv⟩ := find_some_mem hg
      rw [key y ((mrg_mem ha hb).2 (.inr ⟨hy, by rw [hyv]; exact hno⟩)) hyv]
      unfold bdT
      rw [hg]
      rfl
  · obtain ⟨hx, hxv⟩ := find_some_mem hf
    have hval : val la v = x.t := by unfold val bdT; rw [hf]; rfl
    rw [hval, key (thenB lb x) ((mrg_mem ha hb).2 (.inl ⟨x, hx, rfl⟩)) hxv]
    rfl

theorem app_leaf (l : List Bd) {f : Int} (hf : f < 0) : appT (bdT l) (.node f []) = val l (-1 - f) := by
  have := app_var (bdT l) (v := -1 - f) (by omega)
  rw [show -1 - (-1 - f) = f by omega] at this
  rw [this]
  unfold val
  rw [show -1 - (-1 - f) = f by omega]
theorem app_node (g : Int → Option Tm) {f : Int} (hf : ¬ f < 0) (xs : List Tm) : appT g (.node f xs) = .node f (xs.map (appT g)) := by
  simp only [appT, if_neg hf, Option.getD_none, appL_eq]
theorem app_comp {la lb : List Bd} (ha : chkB la = true) (hb : chkB lb = true) (t : Tm) : plainT t = true → appT (bdT (compB la lb)) t = appT (bdT lb) (appT (bdT la) t) := by
  refine Tm.ind (P := fun t => plainT t = true → appT (bdT (compB la lb)) t = appT (bdT lb) (appT (bdT la) t)) (fun f xs ih => ?_) t
  intro hp
  simp only [plainT, Bool.and_eq_true, Bool.or_eq_true, decide_eq_true_eq, plainL_eq, List.all_eq_true] at hp
  obtain ⟨hp1, hp2⟩ := hp
  by_cases hf : f < 0
  · obtain rfl : xs = [] := by
      rcases hp2 with h | h
      · omega
      · exact List.eq_nil_of_length_eq_zero h
    rw [app_leaf _ hf, app_leaf _ hf, val_comp ha hb (by omega)]
  · rw [app_node _ hf, app_node _ hf, app_node _ hf, List.map_map]
    congr 1
    exact List.map_congr_left fun u hu => ih u hu (hp1 u hu)

theorem chk_ext {l m : List Bd} (hl : chkB l = true) (hm : chkB m = true) (h : ∀ v : Int, 0 ≤ v → val l v = val m v) : l = m := by
  have hrl := chkFrom_rise l (-1) hl
  have hrm := chkFrom_rise m (-1) hm
  have one : ∀ {a b : List Bd}, chkB a = true → chkB b = true → (∀ v : Int, 0 ≤ v → val a v = val b v) → ∀ z ∈ a, z ∈ b := by
    intro a b ha hb h z hz
    obtain ⟨h1, h2⟩ := chkFrom_all a (-1) ha z hz
    have e1 : val a z.v = z.t := by unfold val bdT; rw [find_mem (chkFrom_rise a (-1) ha) hz]; rfl
    rw [h z.v (by omega)] at e1
    rcases hf : findB b z.v with _ | y
    · unfold val bdT at e1
      rw [hf] at e1
      exact absurd (self_eq.2 e1.symm) h2
    · obtain ⟨h3, h4⟩ := find_some_mem hf
      unfold val bdT at e1
      rw [hf] at e1
      have e2 : y.t = z.t := e1
      obtain ⟨yv, yt⟩ := y
      obtain ⟨zv, zt⟩ := z
      simp only at h4 e2
      subst h4; subst e2
      exact h3
  have hnd : ∀ {a : List Bd}, a.Pairwise (fun x y => x.v < y.v) → a.Nodup := fun h => h.imp fun h e => by subst e; omega
  have hp : l.Perm m := (List.perm_ext_iff_of_nodup (hnd hrl) (hnd hrm)).2 fun z => ⟨one hl hm h z, one hm hl (fun v hv => (h v hv).symm) z⟩
  refine List.Perm.eq_of_pairwise (le := fun x y : Bd => x.v < y.v) (fun x y _ _ h1 h2 => by omega) hrl hrm hp

theorem val_plain {l : List Bd} (h : ∀ x ∈ l, plainT x.t = true) (v : Int) : plainT (val l v) = true := by
  unfold val bdT
  rcases hf : findB l v with _ | x
  · simp [plainT, plainL]
  · exact h x (find_some_mem hf).1
theorem comp_assoc {la lb lc : List Bd} (ha : chkB la = true) (hb : chkB lb = true) (hc : chkB lc = true) (hp : ∀ x ∈ la, plainT x.t = true) : compB (compB la lb) lc = compB la (compB lb lc) := by
  refine chk_ext (chkB_comp (chkB_comp ha hb) hc) (chkB_comp ha (chkB_comp hb hc)) fun v hv => ?_
  rw [val_comp (chkB_comp ha hb) hc hv, val_comp ha hb hv, val_comp ha (chkB_comp hb hc) hv, app_comp hb hc _ (val_plain hp v)]
theorem app_nil (t : Tm) : appT (bdT []) t = t := by
  refine Tm.ind (P := fun t => appT (bdT []) t = t) (fun f xs ih => ?_) t
  rw [appT_free (.inr rfl)]
  congr 1
  conv => rhs; rw [← List.map_id xs]
  exact List.map_congr_left fun u hu => ih u hu
theorem comp_nil {la : List Bd} (ha : chkB la = true) : compB la [] = la :=
  chk_ext (chkB_comp ha rfl) ha fun v hv => by rw [val_comp ha rfl hv, app_nil]
theorem nil_comp {la : List Bd} (ha : chkB la = true) : compB [] la = la :=
  chk_ext (chkB_comp rfl ha) ha fun v hv => by
    rw [val_comp rfl ha hv]
    have : val [] v = .node (-1 - v) [] := rfl
    rw [this, app_var _ hv]
    rfl

theorem app_size {g : Int → Option Tm} {m : Nat} (hm : 1 ≤ m) (hg : ∀ v t, g v = some t → t.size ≤ m) (t : Tm) : (appT g t).size ≤ t.size * m := by
  refine Tm.ind (P := fun t => (appT g t).size ≤ t.size * m) (fun f xs ih => ?_) t
  have hnode : (Tm.node f (appL g xs)).size ≤ (Tm.node f xs).size * m := by
    have key : ∀ ys : List Tm, (∀ u ∈ ys, (appT g u).size ≤ u.size * m) → sizes (appL g ys) ≤ sizes ys * m := by
      intro ys
      induction ys with
      | nil => intro _; simp [appL, sizes]
      | cons y ys ihy =>
        intro h
        have h1 := h y (by simp)
        have h2 := ihy fun u hu => h u (by simp [hu])
        simp only [appL, sizes, Nat.add_mul]
        omega
    have := key xs ih
    simp only [Tm.size, Nat.add_mul]
    omega
  simp only [appT]
  split
  · rcases hx : g (-1 - f) with _ | y
    · exact hnode
    · have h1 := hg _ _ hx
      have h2 : 1 ≤ (Tm.node f xs).size := by simp only [Tm.size]; omega
      have h3 := Nat.mul_le_mul_right m h2
      show y.size ≤ _
      omega
  · exact hnode
theorem bdT_size {l : List Bd} {m : Nat} (h : ∀ x ∈ l, x.t.size ≤ m) : ∀ v t, bdT l v = some t → t.size ≤ m := by
  intro v t e
  unfold bdT at e
  rcases hf : findB l v with _ | x
  · rw [hf] at e; cases e
  · rw [hf] at e; injection e with e; rw [← e]; exact h x (find_some_mem hf).1
theorem comp_size {la lb : List Bd} {m n : Nat} (hm : 1 ≤ m) (hn : 1 ≤ n) (ha : chkB la = true) (hb : chkB lb = true) (h1 : ∀ x ∈ la, x.t.size ≤ m) (h2 : ∀ x ∈ lb, x.t.size ≤ n) : ∀ x ∈ compB la lb, x.t.size ≤ m * n := by
  intro z hz
  rcases (mrg_mem ha hb).1 (List.mem_filter.1 hz).1 with ⟨x, hx, rfl⟩ | ⟨h, _⟩
  · exact Nat.le_trans (app_size hn (bdT_size h2) x.t) (Nat.mul_le_mul_right n (h1 x hx))
  · have := h2 z h
    have h3 := Nat.mul_le_mul_right n hm
    omega
end Go.Proofs.Ytfkefogmpmcfeaa
