/- What Add keeps, in plain words. -/
import Derived.Test.YtmcdnjhdmifpeaaDoorW22
namespace Go.Proofs.YtmcdnjhdmifpeaaDoor
open Go.RowKit

structure Good (l : List Sm) : Prop where
  len : l.length ≤ 96
  head : l[0]? = some truthSm
  one : ∀ i x, 1 ≤ i → l[i]? = some x → oneI x.name x.arity = 0
  nodup : l.Nodup

theorem scan_zero {l : List Sm} (h : scanI l = 0) : ∀ j, 1 ≤ j → j < l.length → errAt l j = 0 := by
  unfold scanI at h
  split at h
  · rename_i j hj
    have := List.find?_some hj
    simp [h] at this
  · rename_i hn
    rw [List.find?_eq_none] at hn
    intro j h1 h2
    have := hn j (List.mem_range.2 h2)
    simpa [h1] using this
theorem nodup_of_ne {l : List Sm} (h : ∀ (i j : Nat) (x : Sm), i < j → l[i]? = some x → l[j]? ≠ some x) : l.Nodup := by
  rw [List.nodup_iff_pairwise_ne, List.pairwise_iff_getElem]
  intro i j hi hj hij e
  exact h i j l[i] hij (List.getElem?_eq_getElem hi) (by rw [List.getElem?_eq_getElem hj, e])
theorem ne_of_nodup {l : List Sm} (h : l.Nodup) {i j : Nat} {x : Sm} (hij : i < j) (hi : l[i]? = some x) : l[j]? ≠ some x := by
  intro hj
  rw [List.nodup_iff_pairwise_ne, List.pairwise_iff_getElem] at h
  obtain ⟨h1, e1⟩ := List.getElem?_eq_some_iff.1 hi
  obtain ⟨h2, e2⟩ := List.getElem?_eq_some_iff.1 hj
  exact h i j h1 h2 hij (e1.trans e2.symm)
theorem atI_nodup {l : List Sm} (h : l.Nodup) {i : Nat} {x : Sm} (hi : l[i]? = some x) : atI l x = i :=
  atI_hit l x i hi fun _ hj he => ne_of_nodup h hj he hi
theorem atI_first {l : List Sm} {i : Nat} {x : Sm} (hi : l[i]? = some x) : 0 ≤ atI l x ∧ atI l x ≤ i := by
  unfold atI
  cases hf : l.findIdx? (· == x) with
  | none =>
    rw [List.findIdx?_eq_none_iff] at hf
    have := hf x (List.mem_of_getElem? hi)
    simp at this
  | some k =>
    rw [List.findIdx?_eq_some_iff_getElem] at hf
    obtain ⟨hk, _, hmin⟩ := hf
    refine ⟨Int.natCast_nonneg _, ?_⟩
    rcases Nat.lt_or_ge i k with h1 | h1
    · exfalso
      have := hmin i h1
      obtain ⟨_, e⟩ := List.getElem?_eq_some_iff.1 hi
      simp [e] at this
    · exact Int.ofNat_le.2 h1
theorem good_of_check {l : List Sm} (h : checkI l = 0) : Good l := by
  unfold checkI at h
  split at h
  · cases h
  · rename_i h96
    split at h
    · cases h
    · rename_i h0
      have hs := scan_zero h
      refine ⟨by omega, Classical.not_not.1 h0, fun i x h1 hx => ?_, nodup_of_ne fun i j x hij hi hj => ?_⟩
      · have := hs i h1 (List.getElem?_eq_some_iff.1 hx).1
        unfold errAt at this
        rw [hx] at this
        simp only at this
        split at this
        · assumption
        · rename_i hz; simpa using hz
      · have := hs j (by omega) (List.getElem?_eq_some_iff.1 hj).1
        unfold errAt at this
        rw [hj] at this
        simp only at this
        split at this
        · rename_i hz; exact hz this
        · have h2 := (atI_first hi).2
          rw [if_pos (by omega)] at this
          cases this
theorem check_of_good {l : List Sm} (h : Good l) : checkI l = 0 := by
  unfold checkI
  rw [if_neg (by have := h.len; omega), if_neg (by simp [h.head])]
  refine scan_miss fun j h1 h2 => ?_
  have hj : l[j]? = some l[j] := List.getElem?_eq_getElem h2
  exact err_ok hj (h.one j _ h1 hj) (by rw [atI_nodup h.nodup hj]; omega)

theorem addOne_mem {l : List Sm} {x y : Sm} : x ∈ addOne l y ↔ x ∈ l ∨ x = y := by
  unfold addOne
  split
  · rename_i h
    exact ⟨.inl, fun h' => h'.elim id fun e => e ▸ h⟩
  · simp
theorem addAll_mem {l m : List Sm} {x : Sm} : x ∈ addAll l m ↔ x ∈ l ∨ x ∈ m := by
  induction m generalizing l with
  | nil => simp [addAll]
  | cons y m ih =>
    have := ih (l := addOne l y)
    simp only [addAll, List.foldl_cons] at this ⊢
    rw [this, addOne_mem, List.mem_cons, or_assoc]
theorem addAll_ext (l m : List Sm) : ∃ ext, addAll l m = l ++ ext := by
  induction m generalizing l with
  | nil => exact ⟨[], by simp [addAll]⟩
  | cons y m ih =>
    obtain ⟨ext, he⟩ := ih (addOne l y)
    simp only [addAll, List.foldl_cons] at he ⊢
    rw [he]
    unfold addOne
    split
    · exact ⟨ext, rfl⟩
    · exact ⟨y :: ext, by simp⟩
theorem addAll_nodup {l m : List Sm} (h : l.Nodup) : (addAll l m).Nodup := by
  induction m generalizing l with
  | nil => exact h
  | cons y m ih =>
    refine ih (l := addOne l y) ?_
    unfold addOne
    split
    · exact h
    · rename_i hy
      rw [List.nodup_append]
      exact ⟨h, by simp, fun a ha b hb => by simp at hb; subst hb; exact fun e => hy (e ▸ ha)⟩
theorem addAll_same {l m : List Sm} (h : ∀ x ∈ m, x ∈ l) : addAll l m = l := by
  induction m with
  | nil => rfl
  | cons y m ih =>
    have : addOne l y = l := by unfold addOne; rw [if_pos (h y (by simp))]
    simp only [addAll, List.foldl_cons, this]
    exact ih fun x hx => h x (List.mem_cons_of_mem _ hx)
theorem truth_one : oneI truthSm.name truthSm.arity = 111 := by decide +kernel

/-- What it says that symbols could be added. -/
theorem addE_zero {l m : List Sm} (h : addE l m = 0) : Good l ∧ (∀ x ∈ m, badB x = false) ∧ (addAll l m).length ≤ 96 := by
  unfold addE at h
  split at h
  · exact absurd h ‹_›
  · rename_i hc
    have hc' : checkI l = 0 := Classical.not_not.1 hc
    split at h
    · rename_i x hx
      have := List.find?_some hx
      simp [badB, h] at this
    · rename_i hn
      rw [List.find?_eq_none] at hn
      refine ⟨good_of_check hc', fun x hx => by simpa using hn x hx, ?_⟩
      split at h
      · cases h
      · omega
theorem addE_of {l m : List Sm} (hl : Good l) (hm : ∀ x ∈ m, badB x = false) (h96 : (addAll l m).length ≤ 96) : addE l m = 0 := by
  unfold addE
  rw [if_neg (by simp [check_of_good hl])]
  have : m.find? badB = none := by
    rw [List.find?_eq_none]
    intro x hx
    simp [hm x hx]
  rw [this]
  simp only
  rw [if_neg (by omega)]
theorem good_add {l m : List Sm} (h : addE l m = 0) : Good (addAll l m) := by
  obtain ⟨hl, hm, h96⟩ := addE_zero h
  obtain ⟨ext, he⟩ := addAll_ext l m
  have hnd := addAll_nodup (m := m) hl.nodup
  have h0 : 0 < l.length := (List.getElem?_eq_some_iff.1 hl.head).1
  refine ⟨h96, by rw [he, List.getElem?_append_left h0]; exact hl.head, fun i x h1 hx => ?_, hnd⟩
  rcases Nat.lt_or_ge i l.length with hi | hi
  · rw [he, List.getElem?_append_left hi] at hx
    exact hl.one i x h1 hx
  · have hxm : x ∈ m := by
      rcases addAll_mem.1 (List.mem_of_getElem? hx) with hxl | hxm
      · exfalso
        obtain ⟨j, hj, e⟩ := List.getElem_of_mem hxl
        have hj' : (addAll l m)[j]? = some x := by rw [he, List.getElem?_append_left hj, List.getElem?_eq_getElem hj, e]
        exact ne_of_nodup hnd (by omega) hj' hx
      · exact hxm
    have hb := hm x hxm
    simp [badB] at hb
    by_cases h1' : oneI x.name x.arity = 0
    · exact h1'
    · exfalso
      have hxt := hb h1'
      subst hxt
      have h0' : (addAll l m)[0]? = some truthSm := by rw [he, List.getElem?_append_left h0]; exact hl.head
      exact ne_of_nodup hnd (by omega) h0' hx
theorem add_again {l m : List Sm} (h : addE l m = 0) : addE (addL l m) m = 0 ∧ addL (addL l m) m = addL l m ∧ checkI (addL l m) = 0 := by
  have hg := good_add h
  obtain ⟨hl, hm, h96⟩ := addE_zero h
  have hs : addAll (addAll l m) m = addAll l m := addAll_same fun x hx => addAll_mem.2 (.inr hx)
  have he : addE (addAll l m) m = 0 := addE_of hg hm (by rw [hs]; exact h96)
  rw [addL_ok h]
  exact ⟨he, by rw [addL_ok he, hs], check_of_good hg⟩
theorem find_old {l m : List Sm} (h : addE l m = 0) {i : Nat} {x : Sm} (hx : l[i]? = some x) : findB (addL l m) x = true ∧ findN (addL l m) x = i := by
  have hg := good_add h
  obtain ⟨ext, he⟩ := addAll_ext l m
  have hi : i < l.length := (List.getElem?_eq_some_iff.1 hx).1
  have : atI (addL l m) x = i := by
    rw [addL_ok h]
    refine atI_nodup hg.nodup ?_
    rw [he, List.getElem?_append_left hi]; exact hx
  constructor
  · simp [findB, this]
  · unfold findN; rw [this, if_neg (by omega)]
theorem find_new {l m : List Sm} (h : addE l m = 0) {x : Sm} (hx : x ∈ m) : findB (addL l m) x = true := by
  rw [addL_ok h]
  obtain ⟨j, hj, e⟩ := List.getElem_of_mem (addAll_mem.2 (.inr hx) : x ∈ addAll l m)
  have := (atI_first (l := addAll l m) (i := j) (x := x) (by rw [List.getElem?_eq_getElem hj, e])).1
  simp [findB, this]
theorem freshI_free {a : List Sm} (ha : a.length ≤ 96) (s : ByteArray) : 1 ≤ freshI a s ∧ freshI a s ≤ 97 ∧ bearsB a (nameN s (freshI a s)) = false := by
  unfold freshI
  cases hf : (List.range 98).find? (fun n => decide (1 ≤ n) && !bearsB a (nameN s n)) with
  | none =>
    exfalso
    rw [List.find?_eq_none] at hf
    have := pigeon (l := a) (s := s) ha (k := 98) (by omega) (fun j h1 h2 => by
      have := hf j (List.mem_range.2 h2)
      simpa [h1] using this)
    omega
  | some k =>
    have h1 := List.find?_some hf
    have h2 := List.mem_range.1 (List.mem_of_find?_eq_some hf)
    simp at h1
    exact ⟨h1.1, by simp; omega, h1.2⟩
theorem fresh_err {l m : List Sm} (h : addE l m = 0) {y : Sm} (hy : y ∈ m) : freshE (addL l m) y.name y.arity = 0 ∨ freshE (addL l m) y.name y.arity = 111 := by
  have hc := (add_again h).2.2
  by_cases h1 : oneI y.name y.arity = 0
  · unfold freshE
    rw [if_neg (by simp [hc]), if_neg (by simp [h1])]
    split
    · exact .inr rfl
    · exact .inl rfl
  · have hb := (addE_zero h).2.1 y hy
    simp [badB] at hb
    have := hb h1
    subst this
    right
    rw [freshE_one hc h1, truth_one]
theorem fresh_add {l m : List Sm} (h : addE l m = 0) {y : Sm} (hf : freshE (addL l m) y.name y.arity = 0) (h96 : (addL l m).length < 96) :
    addE (addL l m) [freshS (addL l m) y.name y.arity y.pred] = 0 ∧ (addL (addL l m) [freshS (addL l m) y.name y.arity y.pred]).length = (addL l m).length + 1 := by
  have hc := (add_again h).2.2
  have hg := good_of_check hc
  have hx : freshS (addL l m) y.name y.arity y.pred = ⟨nameN y.name (freshI (addL l m) y.name), y.arity, y.pred⟩ := by unfold freshS; rw [if_pos hf]
  have hfree := (freshI_free hg.len y.name).2.2
  have hone : oneI (nameN y.name (freshI (addL l m) y.name)) y.arity = 0 := by
    unfold freshE at hf
    rw [if_neg (by simp [hc])] at hf
    split at hf
    · exact absurd hf ‹_›
    · rename_i h1
      rw [one_long (Classical.not_not.1 h1)]
      exact hf
  have hnew : freshS (addL l m) y.name y.arity y.pred ∉ addL l m := by
    intro hm
    rw [hx] at hm
    have : bearsB (addL l m) (nameN y.name (freshI (addL l m) y.name)) = true := by
      unfold bearsB
      exact List.any_eq_true.2 ⟨_, hm, by simp⟩
    rw [hfree] at this
    cases this
  have ha : addAll (addL l m) [freshS (addL l m) y.name y.arity y.pred] = addL l m ++ [freshS (addL l m) y.name y.arity y.pred] := by
    simp only [addAll, List.foldl_cons, List.foldl_nil, addOne]
    rw [if_neg hnew]
  have he : addE (addL l m) [freshS (addL l m) y.name y.arity y.pred] = 0 := by
    refine addE_of hg (fun z hz => ?_) (by rw [ha]; simp; omega)
    simp at hz
    subst hz
    rw [hx]
    simp [badB, hone]
  refine ⟨he, ?_⟩
  rw [addL_ok he, ha]
  simp
theorem freshS_ok {a : List Sm} {y : Sm} (hy : y.Ok) : (freshS a y.name y.arity y.pred).Ok := by
  unfold freshS
  split
  · rename_i h
    refine ⟨?_, hy.lo, hy.hi⟩
    unfold freshE at h
    split at h
    · exact absurd h ‹_›
    · rename_i hc
      split at h
      · exact absurd h ‹_›
      · rename_i h1
        have hg := good_of_check (Classical.not_not.1 hc)
        have := (freshI_free hg.len y.name).2.1
        exact Nat.le_trans (nameN_size (named_size (one_named (Classical.not_not.1 h1))) (by omega)) (by decide)
  · exact ⟨by decide, by decide, by decide⟩
end Go.Proofs.YtmcdnjhdmifpeaaDoor
