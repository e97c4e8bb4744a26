import Derived.Test.YtfnncphkidhbpaaDoorP43Z3
import Derived.Lib.SlicesCompact
import Derived.Lib.Slices
import Derived.Test.YtfnncphkidhbpaaDoorP43Z2
import Derived.Test.YtfnncphkidhbpaaDoorP43Z1
import Derived.Laws.EntriesVeiled
import Derived.Shelf.SlSortCmp.Insertion
import Derived.Shelf.SlSortCmp.Whole1
import Derived.Test.YtfnncphkidhbpaaDoorProg
import Derived.Deep.OwnRows
/- Which orders may be, as the program asks it, in plain words. -/

namespace Go.Proofs.YtfnncphkidhbpaaDoor

open Go.RowKit
set_option maxRecDepth 100000

theorem getB_eq {l : List Int} {j : Nat} (h : j < l.length) : l.toArray[j]! = l[j] := by
  rw [getElem!_pos l.toArray j (by simpa using h)]; exact List.getElem_toArray _

theorem getD_el {l : List Int} {j : Nat} (h : j < l.length) : l.getD j 0 = l[j] := by
  rw [List.getD_eq_getElem?_getD, List.getElem?_eq_getElem h]; rfl

theorem compact_len {r : List Int} : (Lib.compact r).length = r.length ↔ ∀ j, j < r.length → Lib.keeps r.toArray j = true := by
  unfold Lib.compact Lib.compactUpTo
  rw [List.length_map]
  have h : ((List.range r.length).filter (Lib.keeps r.toArray)).length = (List.range r.length).length ↔ _ := List.length_filter_eq_length_iff
  rw [List.length_range] at h
  rw [h]
  constructor
  · intro h j hj; exact h j (List.mem_range.2 hj)
  · intro h j hj; exact h j (List.mem_range.1 hj)

theorem rise_strict {r : List Int} (hs : r.Pairwise (· ≤ ·)) (hk : ∀ j, j < r.length → Lib.keeps r.toArray j = true) : r.Nodup := by
  have step : ∀ d i, i + d + 1 < r.length → r.getD i 0 < r.getD (i + d + 1) 0 := by
    intro d
    induction d with
    | zero =>
      intro i hi
      have h1 := List.pairwise_iff_getElem.1 hs i (i + 1) (by omega) (by omega) (by omega)
      have h2 := hk (i + 1) (by omega)
      unfold Lib.keeps at h2
      rw [decide_eq_true_iff, getB_eq (show i + 1 < r.length by omega), show i + 1 - 1 = i by omega, getB_eq (show i < r.length by omega)] at h2
      rw [getD_el (show i < r.length by omega), getD_el hi]
      simp only [Nat.add_zero] at *
      omega
    | succ d ih =>
      intro i hi
      have h1 := ih i (by omega)
      have h2 := ih (i + 1) (by omega)
      have h3 := List.pairwise_iff_getElem.1 hs i (i + 1) (by omega) (by omega) (by omega)
      rw [← getD_el (show i < r.length by omega), ← getD_el (show i + 1 < r.length by omega)] at h3
      rw [show i + (d + 1) + 1 = i + 1 + d + 1 by omega]
      omega
  unfold List.Nodup
  rw [List.pairwise_iff_getElem]
  intro i j hi hj hij
  have := step (j - i - 1) i (by omega)
  rw [show i + (j - i - 1) + 1 = j by omega, getD_el hi, getD_el hj] at this
  omega

theorem rankB_iff {p : List Int} : rankB p p.length = true ↔ (∀ i, 0 < i → i < p.length → p.getD 0 0 < p.getD i 0) ∧ p.Nodup := by
  unfold rankB List.Nodup
  rw [Bool.and_eq_true, List.all_eq_true, List.pairwise_iff_getElem]
  constructor
  · rintro ⟨-, h⟩
    have hb : ∀ i, i < p.length → badR p i = false := fun i hi => by simpa using h i (List.mem_range.2 hi)
    refine ⟨fun i h0 hi => ?_, fun i j hi hj hij he => ?_⟩
    · apply Classical.byContradiction
      intro hc
      have := badR_first h0 (by omega : p.getD i 0 ≤ p.getD 0 0)
      rw [hb i hi] at this; exact absurd this (by decide)
    · have := badR_same (p := p) hij (by rw [getD_el hi, getD_el hj]; exact he.symm)
      rw [hb j hj] at this; exact absurd this (by decide)
  · rintro ⟨h1, h2⟩
    refine ⟨by simp, fun i hi => ?_⟩
    have hi := List.mem_range.1 hi
    rw [badR_no]
    · rfl
    · rintro ⟨h0, hle⟩; have := h1 i h0 hi; omega
    · intro j hj
      rw [decide_eq_false_iff_not, getD_el hi, getD_el (show j < p.length by omega)]
      exact fun e => h2 j i (by omega) hi hj e.symm

theorem ranked_eq {p r : List Int} (hp : r.Perm p) (hs : r.Pairwise (· ≤ ·)) (hn : 0 < p.length) : (decide (r.getD 0 0 = p.getD 0 0) && decide ((Lib.compact r).length = p.length)) = rankB p p.length := by
  have hlen := hp.length_eq
  rw [Bool.eq_iff_iff, rankB_iff, Bool.and_eq_true, decide_eq_true_iff, decide_eq_true_iff, ← hlen, compact_len]
  constructor
  · rintro ⟨h0, hk⟩
    have hnd := rise_strict hs hk
    have hpn : p.Nodup := hp.nodup_iff.1 hnd
    refine ⟨fun i hi hil => ?_, hpn⟩
    rw [hlen] at hil
    have hm : p[i] ∈ r := hp.mem_iff.2 (List.getElem_mem hil)
    obtain ⟨k, hk', he⟩ := List.getElem_of_mem hm
    have hne : p[0] ≠ p[i] := List.pairwise_iff_getElem.1 hpn 0 i hn hil hi
    rw [getD_el (show 0 < r.length by omega), getD_el hn] at h0
    rw [getD_el hn, getD_el hil]
    rcases Nat.eq_zero_or_pos k with hk0 | hk0
    · subst hk0; rw [h0] at he; exact absurd he hne
    · have := List.pairwise_iff_getElem.1 hs 0 k (by omega) hk' hk0
      rw [h0, he] at this
      omega
  · rintro ⟨h1, h2⟩
    have hrn : r.Nodup := hp.nodup_iff.2 h2
    refine ⟨?_, fun j hj => ?_⟩
    · have hm : r[0] ∈ p := hp.mem_iff.1 (List.getElem_mem (by omega))
      obtain ⟨i, hi, he⟩ := List.getElem_of_mem hm
      have hm' : p[0] ∈ r := hp.mem_iff.2 (List.getElem_mem hn)
      obtain ⟨k, hk, hke⟩ := List.getElem_of_mem hm'
      rw [getD_el (show 0 < r.length by omega), getD_el hn]
      rcases Nat.eq_zero_or_pos i with hi0 | hi0
      · subst hi0; exact he.symm
      · have a := h1 i hi0 (by omega)
        rw [getD_el hn, getD_el hi] at a
        rcases Nat.eq_zero_or_pos k with hk0 | hk0
        · subst hk0; exact hke
        · have := List.pairwise_iff_getElem.1 hs 0 k (by omega) hk hk0
          omega
    · unfold Lib.keeps
      rw [decide_eq_true_iff]
      rcases Nat.eq_zero_or_pos j with h0 | h0
      · exact .inl h0
      · right
        rw [getB_eq hj, getB_eq (show j - 1 < r.length by omega)]
        exact fun e => List.pairwise_iff_getElem.1 hrn (j - 1) j (by omega) hj (by omega) e.symm

theorem max_foldl (l : List Int) (a : Int) : a ≤ l.foldl max a ∧ (∀ x ∈ l, x ≤ l.foldl max a) ∧ (l.foldl max a = a ∨ l.foldl max a ∈ l) := by
  induction l generalizing a with
  | nil => simp
  | cons b l ih =>
    obtain ⟨h1, h2, h3⟩ := ih (max a b)
    rw [List.foldl_cons]
    refine ⟨by omega, fun x hx => ?_, ?_⟩
    · rcases List.mem_cons.1 hx with rfl | hx
      · omega
      · exact h2 x hx
    · rcases h3 with h3 | h3
      · rw [h3]
        rcases Int.le_total a b with h | h
        · right; rw [Int.max_eq_right h]; exact List.mem_cons_self
        · left; exact Int.max_eq_left h
      · exact .inr (List.mem_cons_of_mem _ h3)

theorem highB_max {p : List Int} {i : Nat} (hi : i < p.length) : highB p i = decide (p.getD i 0 = Lib.maxOf p) := by
  have hM : (∀ x ∈ p, x ≤ Lib.maxOf p) ∧ Lib.maxOf p ∈ p := by
    unfold Lib.maxOf
    obtain ⟨h1, h2, h3⟩ := max_foldl p (p.headD 0)
    refine ⟨h2, ?_⟩
    rcases h3 with h3 | h3
    · rw [h3]
      cases p with
      | nil => simp at hi
      | cons a l => exact List.mem_cons_self
    · exact h3
  obtain ⟨h1, h2⟩ := hM
  by_cases h : p.getD i 0 = Lib.maxOf p
  · rw [decide_eq_true h]
    refine highB_yes fun j hj => ?_
    unfold overI
    rw [Bool.and_eq_false_iff]
    right
    rw [decide_eq_false_iff_not, h, getD_el hj]
    have := h1 _ (List.getElem_mem hj)
    omega
  · rw [decide_eq_false h]
    obtain ⟨k, hk, he⟩ := List.getElem_of_mem h2
    refine highB_no hk ?_
    have hx := h1 _ (List.getElem_mem hi)
    rw [getD_el hi] at h
    unfold overI
    rw [Bool.and_eq_true, decide_eq_true_iff, decide_eq_true_iff, getD_el hi, getD_el hk, he]
    exact ⟨fun e => by subst e; exact h he, by omega⟩

/-- What a symbol weighs at least. -/
def leastP (a : Int) (h : Bool) (v : Int) : Int := if a = 0 then v else if a = 1 ∧ h = false then 1 else 0

theorem badX_least {s : Sm} {x v : Int} {h : Bool} (hv : 1 ≤ v) : badX s x v h = (decide (x < leastP s.arity h v) || decide (1000 < x)) := by
  unfold badX leastP
  rw [Bool.eq_iff_iff]
  simp only [Bool.or_eq_true, Bool.and_eq_true, decide_eq_true_iff, Bool.not_eq_true']
  cases h
  · simp only [and_true]
    split
    · omega
    · split <;> omega
  · simp only [reduceCtorEq, and_false, if_false, or_false]
    split <;> omega

end Go.Proofs.YtfnncphkidhbpaaDoor

/- Ranks and weights of a way, in plain words: the program's and the document's. -/

namespace Go.Proofs.YtfnncphkidhbpaaDoor

open Go.RowKit
set_option maxRecDepth 100000

theorem rows_exist (l : List Sm) (n : List Int) (b : Int) (m : Nat) : ∃ s : List Nat, s.Perm (List.range' 1 (m - 1)) ∧ s.Pairwise fun f g => abvR l n b g f = true := by
  refine ⟨(List.range' 1 (m - 1)).mergeSort (fun f g => !abvR l n b f g), List.mergeSort_perm _ _, ?_⟩
  have h1 : ((List.range' 1 (m - 1)).mergeSort (fun f g => !abvR l n b f g)).Pairwise (fun f g => (!abvR l n b f g) = true) := by
    refine List.pairwise_mergeSort ?_ ?_ _
    · intro x y z h1 h2
      rw [Bool.not_eq_true'] at *
      apply Classical.byContradiction
      intro h3
      have h3 : abvR l n b x z = true := by simpa using h3
      by_cases hxy : x = y
      · subst hxy; rw [h2] at h3; exact absurd h3 (by decide)
      · have := abvR_trans (abvR_tot h1 hxy) h3
        rw [h2] at this; exact absurd this (by decide)
    · intro x y
      rw [Bool.or_eq_true, Bool.not_eq_true', Bool.not_eq_true']
      cases h : abvR l n b x y
      · exact .inl rfl
      · exact .inr (abvR_asym h)
  have h2 : ((List.range' 1 (m - 1)).mergeSort (fun f g => !abvR l n b f g)).Nodup := (List.mergeSort_perm _ _).nodup_iff.2 (List.nodup_range' (step := 1))
  exact (h1.and h2).imp fun ⟨a, c⟩ => abvR_tot (by simpa using a) c

theorem rnkR_inj {l : List Sm} {n : List Int} {b : Int} {m i k : Nat} (hi : i < m) (hk : k < m) (h : rnkR l n b m i = rnkR l n b m k) : i = k := by
  obtain ⟨s, hp, hs⟩ := rows_exist l n b m
  have zero : ∀ x, x < m → rnkR l n b m x = 0 → x = 0 := by
    intro x hx h0
    apply Classical.byContradiction
    intro hne
    rw [rnkR_eq _ _ _ _ hne] at h0; omega
  by_cases h0 : i = 0
  · subst h0
    rw [show rnkR l n b m 0 = 0 from rfl] at h
    exact (zero k hk h.symm).symm
  · by_cases k0 : k = 0
    · subst k0
      rw [show rnkR l n b m 0 = 0 from rfl] at h
      exact zero i hi h
    · obtain ⟨j, hj⟩ := List.mem_iff_getElem?.1 (hp.mem_iff.2 (List.mem_range'_1.2 ⟨(by omega : 1 ≤ i), by omega⟩))
      obtain ⟨j', hj'⟩ := List.mem_iff_getElem?.1 (hp.mem_iff.2 (List.mem_range'_1.2 ⟨(by omega : 1 ≤ k), by omega⟩))
      rw [rnkR_at hp hs hj, rnkR_at hp hs hj'] at h
      obtain rfl : j = j' := by omega
      rw [hj] at hj'
      exact Option.some.inj hj'

theorem rnkR_top (l : List Sm) (n : List Int) (b : Int) {m : Nat} (hm : 0 < m) : ∃ i, i < m ∧ rnkR l n b m i = m - 1 := by
  obtain ⟨s, hp, hs⟩ := rows_exist l n b m
  have hlen := hp.length_eq
  rw [List.length_range'] at hlen
  by_cases h1 : m = 1
  · subst h1; exact ⟨0, by omega, rfl⟩
  · have hl : m - 2 < s.length := by omega
    have hx : s[m - 2]? = some s[m - 2] := List.getElem?_eq_getElem hl
    have := hp.mem_iff.1 (List.mem_of_getElem? hx)
    rw [List.mem_range'_1] at this
    exact ⟨s[m - 2], by omega, by rw [rnkR_at hp hs hx]; omega⟩

theorem rnkR_less (l : List Sm) (n : List Int) (b : Int) {m i : Nat} (hi : i < m) : rnkR l n b m i < m := by
  obtain ⟨s, hp, hs⟩ := rows_exist l n b m
  exact rnkR_lt hp hs (by omega) hi

/-- The ranks, as a row. -/
def rkL (l : List Sm) (n : List Int) (b : Int) (m : Nat) : List Int := (List.range m).map fun i => (rnkR l n b m i : Int)

theorem rkL_len (l : List Sm) (n : List Int) (b : Int) (m : Nat) : (rkL l n b m).length = m := by simp [rkL]

theorem rkL_get {l : List Sm} {n : List Int} {b : Int} {m i : Nat} (hi : i < m) : (rkL l n b m)[i]? = some (rnkR l n b m i : Int) := by
  unfold rkL; rw [List.getElem?_map, List.getElem?_range hi]; rfl

theorem rkL_getD {l : List Sm} {n : List Int} {b : Int} {m i : Nat} (hi : i < m) : (rkL l n b m).getD i 0 = (rnkR l n b m i : Int) := by
  rw [List.getD_eq_getElem?_getD, rkL_get hi]; rfl

theorem rkL_high {l : List Sm} {n : List Int} {b : Int} {m h i : Nat} (hh : h < m) (ht : rnkR l n b m h = m - 1) (hi : i < m) : highB (rkL l n b m) i = decide (i = h) := by
  by_cases he : i = h
  · subst he
    rw [decide_eq_true rfl]
    refine highB_yes fun j hj => ?_
    rw [rkL_len] at hj
    unfold overI
    rw [Bool.and_eq_false_iff]; right
    rw [decide_eq_false_iff_not, rkL_getD hi, rkL_getD hj]
    have := rnkR_less l n b hj
    omega
  · rw [decide_eq_false he]
    refine highB_no (k := h) (by rw [rkL_len]; exact hh) ?_
    unfold overI
    rw [Bool.and_eq_true, decide_eq_true_iff, decide_eq_true_iff, rkL_getD hi, rkL_getD hh]
    have := rnkR_less l n b hi
    have hne : rnkR l n b m i ≠ rnkR l n b m h := fun e => he (rnkR_inj hi hh e)
    exact ⟨fun e => he e.symm, by omega⟩

theorem rkL_idx {l : List Sm} {n : List Int} {b : Int} {m h : Nat} (hh : h < m) (ht : rnkR l n b m h = m - 1) : Lib.idxOf (rkL l n b m) ((m : Int) - 1) = h := by
  have := Lib.idxOf_hit (rkL l n b m) (rkL l n b m).length h ((m : Int) - 1) (by rw [rkL_len]; exact hh) (Nat.le_refl _) (by rw [rkL_getD hh, ht]; omega) (fun j hj => by
    rw [rkL_getD (by omega)]
    intro e
    have : j = h := rnkR_inj (by omega) hh (by rw [ht]; omega)
    omega)
  rwa [List.take_length] at this

/-- What a symbol weighs by a way, ahead of Top. -/
def wgX (l : List Sm) (n : List Int) (w : Int) (rk : List Int) (i : Nat) : Int := if w = 1 then arP l i + 1 else if w = 2 then rk.getD i 0 + 1 else if w = 3 then cnP n i + 1 else 1

/-- The document's own weight of a symbol. -/
def wtR (l : List Sm) (n : List Int) (w : Int) (top : Bool) (rk : List Int) (i : Nat) : Int :=
  min (if top = true ∧ arP l i = 1 ∧ highB rk i = true then 0 else if i = 0 then 1 else wgX l n w rk i) 1000

/-- The weights, as a row. -/
def wtL (l : List Sm) (n : List Int) (w : Int) (top : Bool) (rk : List Int) : List Int := (List.range rk.length).map (wtR l n w top rk)

theorem wtL_len (l : List Sm) (n : List Int) (w : Int) (top : Bool) (rk : List Int) : (wtL l n w top rk).length = rk.length := by simp [wtL]

theorem wtL_get {l : List Sm} {n : List Int} {w : Int} {top : Bool} {rk : List Int} {i : Nat} (hi : i < rk.length) : (wtL l n w top rk)[i]? = some (wtR l n w top rk i) := by
  unfold wtL; rw [List.getElem?_map, List.getElem?_range hi]; rfl

/-- The program's: first all, then $true, then the highest one. -/
def wtP (l : List Sm) (n : List Int) (w : Int) (top : Bool) (rk : List Int) (h : Nat) : List Int :=
  let a := (((List.range rk.length).map fun i => min (wgX l n w rk i) 1000).set 0 1)
  if top = true ∧ arP l h = 1 then a.set h 0 else a

theorem wtP_eq {l : List Sm} {n : List Int} {b : Int} {m h : Nat} (hh : h < m) (ht : rnkR l n b m h = m - 1) (w : Int) (top : Bool) : wtP l n w top (rkL l n b m) h = wtL l n w top (rkL l n b m) := by
  apply List.ext_getElem?
  intro i
  have hm := rkL_len l n b m
  rcases Nat.lt_or_ge i m with hi | hi
  · rw [wtL_get (by rw [hm]; exact hi)]
    have hb : ((List.range (rkL l n b m).length).map fun i => min (wgX l n w (rkL l n b m) i) 1000)[i]? = some (min (wgX l n w (rkL l n b m) i) 1000) := by
      rw [List.getElem?_map, List.getElem?_range (by rw [hm]; exact hi)]; rfl
    have ha : (((List.range (rkL l n b m).length).map fun i => min (wgX l n w (rkL l n b m) i) 1000).set 0 1)[i]? = some (if i = 0 then 1 else min (wgX l n w (rkL l n b m) i) 1000) := by
      rw [List.getElem?_set]
      by_cases hi0 : 0 = i
      · subst hi0; simp [hm, hi]
      · rw [if_neg hi0, hb, if_neg (fun e => hi0 e.symm)]
    unfold wtP wtR
    rw [rkL_high hh ht hi]
    by_cases hc : top = true ∧ arP l h = 1
    · simp only [if_pos hc]
      rw [List.getElem?_set]
      by_cases hih : h = i
      · subst hih
        rw [if_pos rfl, if_pos (by simp [hm, hi]), if_pos ⟨hc.1, hc.2, by simp⟩]; rfl
      · have hno : ¬ (top = true ∧ arP l i = 1 ∧ decide (i = h) = true) := fun e => hih (of_decide_eq_true e.2.2).symm
        rw [if_neg hih, ha, if_neg hno]
        by_cases hi0 : i = 0
        · rw [if_pos hi0, if_pos hi0]; rfl
        · rw [if_neg hi0, if_neg hi0]
    · simp only [if_neg hc]
      have hno : ¬ (top = true ∧ arP l i = 1 ∧ decide (i = h) = true) := fun e => hc ⟨e.1, by rw [← of_decide_eq_true e.2.2]; exact e.2.1⟩
      rw [ha, if_neg hno]
      by_cases hi0 : i = 0
      · rw [if_pos hi0, if_pos hi0]; rfl
      · rw [if_neg hi0, if_neg hi0]
  · rw [List.getElem?_eq_none (by unfold wtP; split <;> simp [hm, hi]), List.getElem?_eq_none (by rw [wtL_len, hm]; exact hi)]

end Go.Proofs.YtfnncphkidhbpaaDoor

/- prec: place, cmp.Compare, cmp.Or, least, truth, unary, the closures that compare symbols. -/

namespace Go.Proofs.YtfnncphkidhbpaaDoor

open Go.RowKit
set_option maxRecDepth 100000

theorem cmpN_any (a b : Int) (w : World) :
    Calls Tryd.prog 46 #[.int .i64 a, .int .i64 b] w fun e w' => e = .returned (.int .i64 (numI a b)) ∧ w = w' := by
  go_enter Tryd.func46, Tryd.ntmps46
  go_wp2
  all_goals
    go_ret
    first
      | exact ⟨ret_int (numI_lt (by omega)).symm, rfl⟩
      | exact ⟨ret_int (numI_gt (by omega)).symm, rfl⟩
      | exact ⟨ret_int (numI_eq (by omega) (by omega)).symm, rfl⟩

/-- Is i a place of a row of n? -/
def plcB (n : Nat) (i : Int) : Bool := decide (0 ≤ i ∧ i < (n : Int))

theorem plcB_no {n : Nat} {i : Int} (h : ¬ (0 ≤ i ∧ i < (n : Int))) : plcB n i = false := decide_eq_false h

theorem plcB_yes {n : Nat} {i : Int} (h : 0 ≤ i) (h1 : i < (n : Int)) : plcB n i = true := decide_eq_true ⟨h, h1⟩

theorem place_any (A : Option Addr) (n c : Nat) (i : Int) (w : World) :
    Calls Tryd.prog 12 #[.slice A n c, .int .i64 i] w fun e w' => e = .returned (.bool (plcB n i)) ∧ w' = w := by
  by_cases h0 : 0 ≤ i
  · by_cases h1 : i < (n : Int)
    · go_enter Tryd.func12, Tryd.ntmps12
      go_wp2
      go_ret
      exact ⟨ret_bool (plcB_yes h0 h1).symm, rfl⟩
    · go_enter Tryd.func12, Tryd.ntmps12
      go_wp2
      go_ret
      exact ⟨ret_bool (plcB_no (by omega)).symm, rfl⟩
  · go_enter Tryd.func12, Tryd.ntmps12
    go_wp2
    go_ret
    exact ⟨ret_bool (plcB_no (by omega)).symm, rfl⟩

theorem least_any (a : Int) (h : Bool) (v : Int) (w : World) :
    Calls Tryd.prog 36 #[.int .i64 a, .bool h, .int .i64 v] w fun e w' => e = .returned (.int .i64 (leastP a h v)) ∧ w' = w := by
  unfold leastP
  by_cases h0 : a = 0
  · subst h0
    go_enter Tryd.func36, Tryd.ntmps36
    go_wp2
    go_ret
    exact ⟨rfl, rfl⟩
  · rw [if_neg h0]
    by_cases h1 : a = 1
    · subst h1
      cases h
      · go_enter Tryd.func36, Tryd.ntmps36
        go_wp2
        go_ret
        exact ⟨rfl, rfl⟩
      · go_enter Tryd.func36, Tryd.ntmps36
        go_wp2
        go_ret
        exact ⟨rfl, rfl⟩
    · rw [if_neg (fun e => h1 e.1)]
      go_enter Tryd.func36, Tryd.ntmps36
      go_wp2
      go_ret
      exact ⟨rfl, rfl⟩

end Go.Proofs.YtfnncphkidhbpaaDoor

/- prec: Higher, the program's and the document's. -/

namespace Go.Proofs.YtfnncphkidhbpaaDoor

open Go.RowKit
set_option maxRecDepth 100000

/-- Does f rank above g? -/
def hiB (p : List Int) (f g : Int) : Bool := plcB p.length f && plcB p.length g && decide (p.getD g.toNat 0 < p.getD f.toNat 0)

theorem hiB_no {p : List Int} {f g : Int} (h : ¬ ((0 ≤ f ∧ f < (p.length : Int)) ∧ (0 ≤ g ∧ g < (p.length : Int)))) : hiB p f g = false := by
  unfold hiB
  by_cases h1 : 0 ≤ f ∧ f < (p.length : Int)
  · rw [plcB_yes h1.1 h1.2, plcB_no (fun e => h ⟨h1, e⟩)]; rfl
  · rw [plcB_no h1]; rfl

theorem hiB_at {p : List Int} {f g : Nat} {x y : Int} (hf : p[f]? = some x) (hg : p[g]? = some y) : hiB p (f : Int) (g : Int) = decide (y < x) := by
  have h1 := (List.getElem?_eq_some_iff.1 hf).1
  have h2 := (List.getElem?_eq_some_iff.1 hg).1
  unfold hiB
  rw [plcB_yes (by omega) (by omega), plcB_yes (by omega) (by omega), Int.toNat_natCast, Int.toNat_natCast, List.getD_eq_getElem?_getD, List.getD_eq_getElem?_getD, hf, hg]
  rfl

set_option maxHeartbeats 2000000 in
theorem higher_any (o : Odr) (f g : Int) (P Q : Option Addr) (pc qc : Nat) (w : World) (hM : OdrM w w.heap.size o P Q) :
    Calls Tryd.prog 5 #[.agg #[.bool o.lpo, .slice P o.prec.length pc, .slice Q o.wts.length qc, .int .i64 o.var], .int .i64 f, .int .i64 g] w fun e w' => e = .returned (.bool (hiB o.prec f g)) ∧ Below w.heap.size w w' := by
  obtain ⟨W, hW⟩ : ∃ W, w.alloc (.cells #[.bool o.lpo, .slice P o.prec.length pc, .slice Q o.wts.length qc, .int .i64 o.var] 24) = W := ⟨_, rfl⟩
  have q := heap_alloc_new w (.cells #[.bool o.lpo, .slice P o.prec.length pc, .slice Q o.wts.length qc, .int .i64 o.var] 24)
  rw [hW] at q
  have hB : Below w.heap.size w W := by rw [← hW]; exact (Below.refl _ _).alloc (Nat.le_refl _) _
  have hA := (hM.on hB).p
  have c1 : W.cell? ⟨w.heap.size, 1, none⟩ = some (.slice P o.prec.length pc) := by simp [World.cell?, q]
  have m1 : ∀ z : LatD W, z.w.cell? ⟨w.heap.size, 1, none⟩ = some (.slice P o.prec.length pc) := fun z => z.cell c1
  have HW := Lib.hid hW
  have HB := Lib.hid hB
  have hpl := hA.len
  have HF := Lib.hid fun (z : LatD W) (t : Int) => (place_any P o.prec.length pc t z.w).mono fun e w' (h : _ ∧ w' = z.w) => (⟨h.1, by rw [h.2]; exact On.refl _⟩ : e = .returned (.bool (plcB o.prec.length t)) ∧ On z.w w')
  clear hW q hB hM c1
  by_cases h1 : 0 ≤ f ∧ f < (o.prec.length : Int)
  · have hp1 := Lib.hid fun (z : LatD W) => (by have := HF.out z f; rwa [plcB_yes h1.1 h1.2] at this : Calls Tryd.prog 12 #[.slice P o.prec.length pc, .int .i64 f] z.w fun e w' => e = .returned (.bool true) ∧ On z.w w')
    by_cases h2 : 0 ≤ g ∧ g < (o.prec.length : Int)
    · have hp2 := Lib.hid fun (z : LatD W) => (by have := HF.out z g; rwa [plcB_yes h2.1 h2.2] at this : Calls Tryd.prog 12 #[.slice P o.prec.length pc, .int .i64 g] z.w fun e w' => e = .returned (.bool true) ∧ On z.w w')
      obtain ⟨i, rfl⟩ : ∃ i : Nat, f = (i : Int) := ⟨f.toNat, by omega⟩
      obtain ⟨j, rfl⟩ : ∃ j : Nat, g = (j : Int) := ⟨g.toNat, by omega⟩
      have hx : o.prec[i]? = some o.prec[i] := List.getElem?_eq_getElem (by omega)
      have hy : o.prec[j]? = some o.prec[j] := List.getElem?_eq_getElem (by omega)
      obtain ⟨x, hx'⟩ : ∃ x, o.prec[i] = x := ⟨_, rfl⟩
      obtain ⟨y, hy'⟩ : ∃ y, o.prec[j] = y := ⟨_, rfl⟩
      rw [hx'] at hx
      rw [hy'] at hy
      have hres := Lib.hid (hiB_at hx hy)
      obtain ⟨b, off, rfl, hb, hc⟩ := hA.ad (by omega)
      have m2 : ∀ z : LatD W, z.w.cell? ⟨b, off + i, none⟩ = some (.int .i64 x) := fun z => z.cell (hc i x hx)
      have m3 : ∀ z : LatD W, z.w.cell? ⟨b, off + j, none⟩ = some (.int .i64 y) := fun z => z.cell (hc j y hy)
      clear hc hx hy hx' hy' hA HF
      go_enter Tryd.func5, Tryd.ntmps5
      go_upto_region 1 with fail
      rw [HW.out]
      refine wp_region_latD W (by kernel_rfl) (by kernel_rfl) (On.refl _).drew ?_
      repeat (go_big_quiet_step (first
        | (with_reducible refine calls_latD _ (hp1.out _))
        | (with_reducible refine calls_latD _ (hp2.out _))
        | fail))
      refine wpQuiet_nil ?_
      rintro _ ⟨z, rfl⟩
      clear m1 m2 m3
      go_wp2
      go_ret
      exact ⟨ret_bool hres.out.symm, HB.out.trans (z.h.b.mono HB.out.size)⟩
    · have hp2 := Lib.hid fun (z : LatD W) => (by have := HF.out z g; rwa [plcB_no h2] at this : Calls Tryd.prog 12 #[.slice P o.prec.length pc, .int .i64 g] z.w fun e w' => e = .returned (.bool false) ∧ On z.w w')
      have hres := Lib.hid (hiB_no (p := o.prec) (f := f) (g := g) (fun e => h2 e.2))
      clear hA HF
      go_enter Tryd.func5, Tryd.ntmps5
      go_upto_region 1 with fail
      rw [HW.out]
      refine wp_region_latD W (by kernel_rfl) (by kernel_rfl) (On.refl _).drew ?_
      repeat (go_big_quiet_step (first
        | (with_reducible refine calls_latD _ (hp1.out _))
        | (with_reducible refine calls_latD _ (hp2.out _))
        | fail))
      refine wpQuiet_nil ?_
      rintro _ ⟨z, rfl⟩
      clear m1
      go_wp2
      go_ret
      exact ⟨ret_bool hres.out.symm, HB.out.trans (z.h.b.mono HB.out.size)⟩
  · have hp1 := Lib.hid fun (z : LatD W) => (by have := HF.out z f; rwa [plcB_no h1] at this : Calls Tryd.prog 12 #[.slice P o.prec.length pc, .int .i64 f] z.w fun e w' => e = .returned (.bool false) ∧ On z.w w')
    have hres := Lib.hid (hiB_no (p := o.prec) (f := f) (g := g) (fun e => h1 e.1))
    clear hA HF
    go_enter Tryd.func5, Tryd.ntmps5
    go_upto_region 1 with fail
    rw [HW.out]
    refine wp_region_latD W (by kernel_rfl) (by kernel_rfl) (On.refl _).drew ?_
    repeat (go_big_quiet_step (first
      | (with_reducible refine calls_latD _ (hp1.out _))
      | fail))
    refine wpQuiet_nil ?_
    rintro _ ⟨z, rfl⟩
    clear m1
    go_wp2
    go_ret
    exact ⟨ret_bool hres.out.symm, HB.out.trans (z.h.b.mono HB.out.size)⟩

set_option maxHeartbeats 2000000 in
theorem refHigher_any (o : Odr) (f g : Int) (P Q : Option Addr) (pc qc : Nat) (w : World) (hM : OdrM w w.heap.size o P Q) :
    Calls Tryd.prog 6 #[.agg #[.bool o.lpo, .slice P o.prec.length pc, .slice Q o.wts.length qc, .int .i64 o.var], .int .i64 f, .int .i64 g] w fun e w' => e = .returned (.bool (hiB o.prec f g)) ∧ Below w.heap.size w w' := by
  obtain ⟨W, hW⟩ : ∃ W, w.alloc (.cells #[.bool o.lpo, .slice P o.prec.length pc, .slice Q o.wts.length qc, .int .i64 o.var] 24) = W := ⟨_, rfl⟩
  have q := heap_alloc_new w (.cells #[.bool o.lpo, .slice P o.prec.length pc, .slice Q o.wts.length qc, .int .i64 o.var] 24)
  rw [hW] at q
  have hB : Below w.heap.size w W := by rw [← hW]; exact (Below.refl _ _).alloc (Nat.le_refl _) _
  have hA := (hM.on hB).p
  have c1 : W.cell? ⟨w.heap.size, 1, none⟩ = some (.slice P o.prec.length pc) := by simp [World.cell?, q]
  have HW := Lib.hid hW
  have HB := Lib.hid hB
  have hpl := hA.len
  clear hW q hB hM
  by_cases h1 : 0 ≤ f ∧ f < (o.prec.length : Int)
  · by_cases h2 : 0 ≤ g ∧ g < (o.prec.length : Int)
    · obtain ⟨i, rfl⟩ : ∃ i : Nat, f = (i : Int) := ⟨f.toNat, by omega⟩
      obtain ⟨j, rfl⟩ : ∃ j : Nat, g = (j : Int) := ⟨g.toNat, by omega⟩
      have hx : o.prec[i]? = some o.prec[i] := List.getElem?_eq_getElem (by omega)
      have hy : o.prec[j]? = some o.prec[j] := List.getElem?_eq_getElem (by omega)
      obtain ⟨x, hx'⟩ : ∃ x, o.prec[i] = x := ⟨_, rfl⟩
      obtain ⟨y, hy'⟩ : ∃ y, o.prec[j] = y := ⟨_, rfl⟩
      rw [hx'] at hx
      rw [hy'] at hy
      have hres := Lib.hid (hiB_at hx hy)
      obtain ⟨b, off, rfl, hb, hc⟩ := hA.ad (by omega)
      have cx := hc i x hx
      have cy := hc j y hy
      clear hc hx hy hx' hy' hA
      go_enter Tryd.func6, Tryd.ntmps6
      go_upto_region 1 with fail
      rw [HW.out]
      go_wp2_with fail
      go_quiet (fail)
      clear c1 cx cy
      go_wp2
      go_ret
      exact ⟨ret_bool hres.out.symm, HB.out.trans (bl_drewN (Below.refl _ _) _)⟩
    · have hres := Lib.hid (hiB_no (p := o.prec) (f := f) (g := g) (fun e => h2 e.2))
      by_cases g0 : 0 ≤ g
      · have g1 : (o.prec.length : Int) ≤ g := by omega
        go_enter Tryd.func6, Tryd.ntmps6
        go_upto_region 1 with fail
        rw [HW.out]
        go_wp2
        go_ret
        exact ⟨ret_bool hres.out.symm, HB.out⟩
      · have g1 : g < 0 := by omega
        go_enter Tryd.func6, Tryd.ntmps6
        go_upto_region 1 with fail
        rw [HW.out]
        go_wp2
        go_ret
        exact ⟨ret_bool hres.out.symm, HB.out⟩
  · have hres := Lib.hid (hiB_no (p := o.prec) (f := f) (g := g) (fun e => h1 e.1))
    by_cases f0 : 0 ≤ f
    · have f1 : (o.prec.length : Int) ≤ f := by omega
      by_cases g0 : g < 0
      · go_enter Tryd.func6, Tryd.ntmps6
        go_upto_region 1 with fail
        rw [HW.out]
        go_wp2
        go_ret
        exact ⟨ret_bool hres.out.symm, HB.out⟩
      · go_enter Tryd.func6, Tryd.ntmps6
        go_upto_region 1 with fail
        rw [HW.out]
        go_wp2
        go_ret
        exact ⟨ret_bool hres.out.symm, HB.out⟩
    · have f1 : f < 0 := by omega
      go_enter Tryd.func6, Tryd.ntmps6
      go_upto_region 1 with fail
      rw [HW.out]
      go_wp2
      go_ret
      exact ⟨ret_bool hres.out.symm, HB.out⟩

end Go.Proofs.YtfnncphkidhbpaaDoor

/- prec: the closures that compare two symbols. -/

namespace Go.Proofs.YtfnncphkidhbpaaDoor

open Go.RowKit
set_option maxRecDepth 100000

/-- The symbols and how often each stands, in memory: a box of two rows. -/
structure SyM (w : World) (B bs : Nat) (l : List Sm) (n : List Int) : Prop where
  bl : bs < w.heap.size
  lo : B ≤ w.heap.size
  len : n.length = l.length
  small : l.length ≤ 1000
  ar : ∀ f, 0 ≤ arP l f ∧ arP l f ≤ 99
  row : ∃ As cs Ac cc, w.cell? ⟨bs, 0, none⟩ = some (.slice As l.length cs) ∧ w.cell? ⟨bs, 1, none⟩ = some (.slice Ac n.length cc) ∧ Syms w B As l.length l ∧ Ints w B Ac n

theorem SyM.on {w w' : World} {B bs r : Nat} {l : List Sm} {n : List Int} (h : SyM w B bs l n) (hg : w.grownBy w' (some r)) (h1 : B ≤ r) (h2 : bs ≠ r) : SyM w' B bs l n := by
  obtain ⟨As, cs, Ac, cc, c0, c1, hS, hI⟩ := h.row
  have hk : ∀ b o, b < w.heap.size → b ≠ r → w'.cell? ⟨b, o, none⟩ = w.cell? ⟨b, o, none⟩ := fun b o hb hne => World.cell?_of_block (hg.block b hb (by simpa using hne))
  have hkB : ∀ p : Addr, p.block < B → w'.cell? p = w.cell? p := fun p hp => World.cell?_of_block (hg.block p.block (by have := h.lo; omega) (by simp; omega))
  exact ⟨by have := hg.size; have := h.bl; omega, by have := hg.size; have := h.lo; omega, h.len, h.small, h.ar, As, cs, Ac, cc, (hk _ _ h.bl h2).trans c0, (hk _ _ h.bl h2).trans c1, hS.keep hkB, hI.keep hkB⟩

theorem SyM.at {w : World} {B bs : Nat} {l : List Sm} {n : List Int} (h : SyM w B bs l n) {x : Nat} (hx : x < l.length) : ∃ As cs Ac cc b off b2 off2, w.cell? ⟨bs, 0, none⟩ = some (.slice As l.length cs) ∧ w.cell? ⟨bs, 1, none⟩ = some (.slice Ac n.length cc) ∧ As = some ⟨b, off, none⟩ ∧ Ac = some ⟨b2, off2, none⟩ ∧
    (∀ y, y < l.length → w.cell? ⟨b, off + y * 3 + 1, none⟩ = some (.int .i64 (arP l y))) ∧ (∀ y, y < l.length → w.cell? ⟨b2, off2 + y, none⟩ = some (.int .i64 (cnP n y))) := by
  obtain ⟨As, cs, Ac, cc, c0, c1, hS, hI⟩ := h.row
  obtain ⟨b, off, hb, hbl, hf⟩ := hS.ad (by omega)
  have hlen := h.len
  obtain ⟨b2, off2, hb2, hbl2, hf2⟩ := hI.ad (by omega)
  refine ⟨As, cs, Ac, cc, b, off, b2, off2, c0, c1, hb, hb2, fun y hy => ?_, fun y hy => ?_⟩
  · have hg : l[y]? = some l[y] := List.getElem?_eq_getElem (by omega)
    rw [(hf y _ hg).2.1]
    unfold arP
    rw [hg]; rfl
  · have hg : n[y]? = some n[y] := List.getElem?_eq_getElem (by omega)
    rw [hf2 y _ hg]
    unfold cnP
    rw [List.getD_eq_getElem?_getD, hg]; rfl

set_option maxHeartbeats 1000000 in
theorem byArity_any {w : World} {B bs : Nat} {l : List Sm} {n : List Int} (h : SyM w B bs l n) {x y : Nat} (hx : x < l.length) (hy : y < l.length) :
    Calls Tryd.prog 47 #[.int .i64 (x : Int), .int .i64 (y : Int), .pointer (some ⟨bs, 0, none⟩)] w fun e w' => e = .returned (.int .i64 (numI (arP l x) (arP l y))) ∧ On w w' := by
  obtain ⟨As, cs, Ac, cc, b, off, b2, off2, c0, c1, rfl, rfl, e1, e2⟩ := h.at hx
  have ex := e1 x hx
  have ey := e1 y hy
  have hs := h.small
  have hx' : (x : Int) < (l.length : Int) := by omega
  have hy' : (y : Int) < (l.length : Int) := by omega
  have H := Lib.hid fun z : LatD w => (cmpN_any (arP l x) (arP l y) z.w).mono fun e w' (h : _ ∧ z.w = w') => (⟨h.1, by rw [← h.2]; exact On.refl _⟩ : e = .returned (.int .i64 (numI (arP l x) (arP l y))) ∧ On z.w w')
  have m0 : ∀ z : LatD w, z.w.cell? ⟨bs, 0, none⟩ = some (.slice (some ⟨b, off, none⟩) l.length cs) := fun z => z.cell c0
  have m1 : ∀ z : LatD w, z.w.cell? ⟨b, off + x * 3 + 1, none⟩ = some (.int .i64 (arP l x)) := fun z => z.cell ex
  have m2 : ∀ z : LatD w, z.w.cell? ⟨b, off + y * 3 + 1, none⟩ = some (.int .i64 (arP l y)) := fun z => z.cell ey
  clear e1 e2 c0 c1 h ex ey
  go_enter Tryd.func47, Tryd.ntmps47
  go_upto_region 1 with fail
  refine wp_region_latD w (by kernel_rfl) (by kernel_rfl) (On.refl _).drew ?_
  repeat (go_big_quiet_step (first
    | (with_reducible refine calls_latD _ (H.out _))
    | fail))
  refine wpQuiet_nil ?_
  rintro _ ⟨z, rfl⟩
  clear m0 m1 m2
  go_wp2
  go_ret
  exact ⟨rfl, z.h⟩

end Go.Proofs.YtfnncphkidhbpaaDoor

/- prec: the closures that compare two symbols; unary; cmp.Or. -/

namespace Go.Proofs.YtfnncphkidhbpaaDoor

open Go.RowKit
set_option maxRecDepth 100000

set_option maxHeartbeats 1000000 in
theorem byOften_any {w : World} {B bs : Nat} {l : List Sm} {n : List Int} (h : SyM w B bs l n) {x y : Nat} (hx : x < l.length) (hy : y < l.length) :
    Calls Tryd.prog 49 #[.int .i64 (x : Int), .int .i64 (y : Int), .pointer (some ⟨bs, 0, none⟩)] w fun e w' => e = .returned (.int .i64 (numI (cnP n x) (cnP n y))) ∧ On w w' := by
  obtain ⟨As, cs, Ac, cc, b, off, b2, off2, c0, c1, rfl, rfl, e1, e2⟩ := h.at hx
  have ex := e2 x hx
  have ey := e2 y hy
  have hs := h.small
  have hl := h.len
  have hx' : (x : Int) < (n.length : Int) := by omega
  have hy' : (y : Int) < (n.length : Int) := by omega
  have H := Lib.hid fun z : LatD w => (cmpN_any (cnP n x) (cnP n y) z.w).mono fun e w' (h : _ ∧ z.w = w') => (⟨h.1, by rw [← h.2]; exact On.refl _⟩ : e = .returned (.int .i64 (numI (cnP n x) (cnP n y))) ∧ On z.w w')
  have m0 : ∀ z : LatD w, z.w.cell? ⟨bs, 1, none⟩ = some (.slice (some ⟨b2, off2, none⟩) n.length cc) := fun z => z.cell c1
  have m1 : ∀ z : LatD w, z.w.cell? ⟨b2, off2 + x, none⟩ = some (.int .i64 (cnP n x)) := fun z => z.cell ex
  have m2 : ∀ z : LatD w, z.w.cell? ⟨b2, off2 + y, none⟩ = some (.int .i64 (cnP n y)) := fun z => z.cell ey
  clear e1 e2 c0 c1 h ex ey
  go_enter Tryd.func49, Tryd.ntmps49
  go_upto_region 1 with fail
  refine wp_region_latD w (by kernel_rfl) (by kernel_rfl) (On.refl _).drew ?_
  repeat (go_big_quiet_step (first
    | (with_reducible refine calls_latD _ (H.out _))
    | fail))
  refine wpQuiet_nil ?_
  rintro _ ⟨z, rfl⟩
  clear m0 m1 m2
  go_wp2
  go_ret
  exact ⟨rfl, z.h⟩

set_option maxHeartbeats 1000000 in
theorem unary_any {w : World} {B : Nat} {l : List Sm} {As Ac : Option Addr} {cs m cc x : Nat} (hB : B ≤ w.heap.size) (hS : Syms w B As l.length l) (hs : l.length ≤ 1000) (hx : x < l.length) :
    Calls Tryd.prog 29 #[.agg #[.slice As l.length cs, .slice Ac m cc], .int .i64 (x : Int)] w fun e w' => e = .returned (.int .i64 (unI (arP l x))) ∧ On w w' := by
  obtain ⟨b, off, rfl, hb, hf⟩ := hS.ad (by omega)
  have hg : l[x]? = some l[x] := List.getElem?_eq_getElem hx
  have e1 := (hf x _ hg).2.1
  have ha : l[x].arity = arP l x := by unfold arP; rw [hg]; rfl
  rw [ha] at e1
  have hx' : (x : Int) < (l.length : Int) := by omega
  have e2 : ∀ o, (w.alloc o).cell? ⟨b, off + x * 3 + 1, none⟩ = some (.int .i64 (arP l x)) := fun o => (World.cell?_of_block (Below.heap_alloc w o b (by omega))).trans e1
  clear hf hg ha hS e1
  unfold unI
  by_cases h1 : arP l x = 1
  · rw [if_pos h1]
    rw [h1] at e2
    clear h1
    go_enter Tryd.func29, Tryd.ntmps29
    go_wp2
    go_ret
    exact ⟨rfl, by repeat first | exact On.refl _ | refine On.alloc ?_ _ | refine On.drew ?_⟩
  · rw [if_neg h1]
    go_enter Tryd.func29, Tryd.ntmps29
    go_wp2
    go_ret
    exact ⟨rfl, by repeat first | exact On.refl _ | refine On.alloc ?_ _ | refine On.drew ?_⟩

set_option maxHeartbeats 1000000 in
theorem byUnary_any {w : World} {B bs : Nat} {l : List Sm} {n : List Int} (h : SyM w B bs l n) {x y : Nat} (hx : x < l.length) (hy : y < l.length) :
    Calls Tryd.prog 48 #[.int .i64 (x : Int), .int .i64 (y : Int), .pointer (some ⟨bs, 0, none⟩)] w fun e w' => e = .returned (.int .i64 (numI (unI (arP l x)) (unI (arP l y)))) ∧ On w w' := by
  obtain ⟨As, cs, Ac, cc, c0, c1, hS, hI⟩ := h.row
  have hs := h.small
  have H := Lib.hid fun z : LatD w => (cmpN_any (unI (arP l x)) (unI (arP l y)) z.w).mono fun e w' (h : _ ∧ z.w = w') => (⟨h.1, by rw [← h.2]; exact On.refl _⟩ : e = .returned (.int .i64 (numI (unI (arP l x)) (unI (arP l y)))) ∧ On z.w w')
  have HU := Lib.hid fun (z : LatD w) (t : Nat) (ht : t < l.length) => unary_any (w := z.w) (B := B) (As := As) (Ac := Ac) (cs := cs) (m := n.length) (cc := cc) (Nat.le_trans h.lo z.h.b.size) (hS.keep fun p hp => World.cell?_of_block (z.h.b.block p.block (Nat.lt_of_lt_of_le hp h.lo))) h.small ht
  have HX := Lib.hid hx
  have HY := Lib.hid hy
  have m0 : ∀ z : LatD w, z.w.cell? ⟨bs, 0, none⟩ = some (.slice As l.length cs) := fun z => z.cell c0
  have m1 : ∀ z : LatD w, z.w.cell? ⟨bs, 1, none⟩ = some (.slice Ac n.length cc) := fun z => z.cell c1
  clear c0 c1 h hS hI hx hy
  go_enter Tryd.func48, Tryd.ntmps48
  go_upto_region 1 with fail
  refine wp_region_latD w (by kernel_rfl) (by kernel_rfl) (On.refl _).drew ?_
  repeat (go_big_quiet_step (first
    | (with_reducible refine calls_latD _ (H.out _))
    | (with_reducible refine calls_latD _ (HU.out _ x HX.out))
    | (with_reducible refine calls_latD _ (HU.out _ y HY.out))
    | fail))
  refine wpQuiet_nil ?_
  rintro _ ⟨z, rfl⟩
  clear m0 m1
  go_wp2
  go_ret
  exact ⟨rfl, z.h⟩

set_option maxHeartbeats 1000000 in
theorem bySeldom_any {w : World} {B bs bo : Nat} {l : List Sm} {n : List Int} (h : SyM w B bs l n) (ho : w.cell? ⟨bo, 0, none⟩ = some (.func (.func 49) #[] #[.pointer (some ⟨bs, 0, none⟩)])) {x y : Nat} (hx : x < l.length) (hy : y < l.length) :
    Calls Tryd.prog 50 #[.int .i64 (x : Int), .int .i64 (y : Int), .pointer (some ⟨bo, 0, none⟩)] w fun e w' => e = .returned (.int .i64 (numI (cnP n y) (cnP n x))) ∧ On w w' := by
  have H := Lib.hid (byOften_any h hy hx)
  clear h hx hy
  go_enter Tryd.func50, Tryd.ntmps50
  go_wp2_with (first
    | ((with_reducible refine H.out.mono ?_); go_must (rintro e w1 ⟨rfl, hb1⟩))
    | fail)
  go_ret
  exact ⟨rfl, hb1⟩

set_option maxHeartbeats 1000000 in
theorem or_any (xs : List Int) (A : Option Addr) (c : Nat) (w : World) (hA : Ints w w.heap.size A xs) :
    Calls Tryd.prog 77 #[.slice A xs.length c] w fun e w' => e = .returned (.int .i64 (orI xs)) ∧ On w w' := by
  have hlen := hA.len
  have HA := Lib.hid hA
  clear hA
  go_enter Tryd.func77, Tryd.ntmps77
  go_wp2
  go_loopw [8] (fun i wr => ∃ k q : Nat, k ≤ xs.length ∧ i = .int .i64 (k : Int) ∧ wr = w.drewN q ∧ Hid (orI xs = orI (xs.drop k))) (fun i _ => xs.length - (intOf i).toNat)
  case atStart => exact ⟨0, 0, Nat.zero_le _, rfl, rfl, by simp [Hid]⟩
  case round =>
    obtain ⟨k, q, hk, rfl, rfl, HB⟩ := hrel
    by_cases hlt : k < xs.length
    · obtain ⟨x, hx⟩ : ∃ x, xs[k]? = some x := ⟨_, List.getElem?_eq_getElem hlt⟩
      obtain ⟨b, off, rfl, _, hc⟩ := HA.out.ad (by omega)
      have hck := hc k x hx
      have hd : Hid (xs.drop k = x :: xs.drop (k + 1)) := Lib.hid (by rw [List.drop_eq_getElem_cons hlt]; rw [List.getElem?_eq_getElem hlt] at hx; rw [Option.some.inj hx])
      clear hc hx
      by_cases h0 : x = 0
      · subst h0
        go_wp2
        go_roundw
        case rel => exact ⟨k + 1, _, by omega, by go_num, rfl, Lib.hid (by rw [HB.out, hd.out, orI]; simp)⟩
        case measure => simp [intOf]; omega
      · have hfin := Lib.hid (show orI xs = x by rw [HB.out, hd.out, orI, if_pos h0])
        go_wp2
        go_ret
        exact ⟨ret_int hfin.out.symm, ⟨bl_drewN (Below.refl _ _) _, Nat.le_add_right _ _⟩⟩
    · obtain rfl : k = xs.length := by omega
      have hfin := Lib.hid (show orI xs = 0 by rw [HB.out, List.drop_length]; rfl)
      go_wp2
      go_ret
      exact ⟨ret_int hfin.out.symm, ⟨bl_drewN (Below.refl _ _) _, Nat.le_add_right _ _⟩⟩

end Go.Proofs.YtfnncphkidhbpaaDoor

/- prec: a chain of comparisons. -/

namespace Go.Proofs.YtfnncphkidhbpaaDoor

open Go.RowKit
set_option maxRecDepth 100000

theorem infoI : (Tryd.prog.info? 3).map (fun i => (i.zero, i.size, i.bytes)) = some (some (.int .i64 0), 1, 8) := by kernel_rfl

/-- A function value that compares two symbols, in all the worlds of a class. -/
def FnC (r : Nat → Nat → Int) (M : Nat) (P : World → Prop) (v : Value) : Prop := (∀ x y, I64 (r x y)) ∧ ∃ k cv, v = .func (.func k) #[] cv ∧ (∀ (args : Array Value) (w : World), (callFunc k args).run Tryd.prog w = .ok (.enter k args) w) ∧
  ∀ w, P w → ∀ x y : Nat, x < M → y < M → Calls Tryd.prog k (#[.int .i64 (x : Int), .int .i64 (y : Int)] ++ cv) w fun e w' => e = .returned (.int .i64 (r x y)) ∧ On w w'

theorem orI_i64 : ∀ {l : List Int}, (∀ x ∈ l, I64 x) → I64 (orI l)
  | [], _ => ⟨by simp [orI], by simp [orI]⟩
  | x :: l, h => by
    rw [orI]; split
    · exact h x List.mem_cons_self
    · exact orI_i64 fun y hy => h y (List.mem_cons_of_mem _ hy)

set_option maxHeartbeats 2000000 in
theorem chain1_any {P : World → Prop} (hP : ∀ a b, P a → On a b → P b) {M bt bf off c : Nat} {rs : List (Nat → Nat → Int)} {vs : List Value}
    (hrow : ∀ a, P a → a.cell? ⟨bt, 0, none⟩ = some (.slice (some ⟨bf, off, none⟩) rs.length c) ∧ ∀ (i : Nat) v, vs[i]? = some v → a.cell? ⟨bf, off + i, none⟩ = some v)
    (hv : vs.length = rs.length) (hf : ∀ (i : Nat) r v, rs[i]? = some r → vs[i]? = some v → FnC r M P v) (h3 : rs.length ≤ 3) {x y : Nat} (hx : x < M) (hy : y < M) {w : World} (hw : P w) :
    Calls Tryd.prog 76 #[.int .i64 (x : Int), .int .i64 (y : Int), .pointer (some ⟨bt, 0, none⟩)] w fun e w' => e = .returned (.int .i64 (orI (rs.map fun r => r x y))) ∧ On w w' := by
  obtain ⟨i0, hi, hz0, hz1, hz2⟩ := info_parts infoI
  have c0 := (hrow w hw).1
  have HR := Lib.hid hrow
  have HP := Lib.hid hP
  have HF := Lib.hid hf
  have HW := Lib.hid hw
  have HX := Lib.hid (show x < M ∧ y < M from ⟨hx, hy⟩)
  clear hrow hP hf hw hx hy
  go_enter Tryd.func76, Tryd.ntmps76
  go_wp2
  clear c0
  go_loopw [6, 11] (fun s6 i wr => ∃ k : Nat, k ≤ rs.length ∧ i = .int .i64 (k : Int) ∧ Hid (On w wr) ∧ Hid (wr.ownsRow w.heap.size 3 1 s6 k ((rs.take k).map fun r => Value.int .i64 (r x y)))) (fun _ i _ => rs.length - (intOf i).toNat)
  case atStart => exact ⟨0, Nat.zero_le _, rfl, On.refl _, Lib.hid (by simpa using World.ownsRow_nil w w.heap.size 3 1)⟩
  case round =>
    obtain ⟨k, hk, rfl, HO, HB⟩ := hrel
    by_cases hlt : k < rs.length
    · obtain ⟨r, hr⟩ : ∃ r, rs[k]? = some r := ⟨_, List.getElem?_eq_getElem hlt⟩
      obtain ⟨v, hvk⟩ : ∃ v, vs[k]? = some v := ⟨_, List.getElem?_eq_getElem (by omega)⟩
      obtain ⟨hi64, kf, cv, rfl, hent, hcall⟩ := HF.out k r v hr hvk
      have hPr := HP.out _ _ HW.out HO.out
      have HQ := Lib.hid (hcall wr hPr x y HX.out.1 HX.out.2)
      have hck := (HR.out wr hPr).2 k _ hvk
      have htk : Hid (rs.take (k + 1) = rs.take k ++ [r]) := Lib.hid (by rw [List.take_add_one, hr]; rfl)
      have H64 := Lib.hid hi64
      clear hr hvk hcall hPr hi64
      go_wp2_with (first
        | ((with_reducible refine HQ.out.mono ?_); go_must (rintro e w1 ⟨rfl, hb1⟩))
        | (at_builtin
           go_must (
           refine wpList_append_d rfl _ _ 22 rfl w.heap.size 3 i0 (.int .i64 0) 1 8 Tryd.underlying22 hi hz0 hz1 hz2 rfl (by decide) _ k _ rfl (row_keep HB.out fun g e => (Below.heap_alloc w1 _ g (Nat.lt_of_lt_of_le (row_lt HB.out g e).2 hb1.b.size)).trans (hb1.b.block g (row_lt HB.out g e).2)) ⟨w1.heap.size, 0, none⟩ 1 1 [.int .i64 (r x y)] rfl rfl (cell_one_new _ _ _) (by simp [Value.oneCell']) (by unfold maxLen; omega) (by omega) (by have := HO.out.b.size; have := hb1.b.size; simp; omega) (by omega) ?_
           intro v2 w2 hown2 hgr2 _ hd2
           have HO2 : Hid (On w w2) := Lib.hid ⟨((HO.out.b.trans (hb1.b.mono HO.out.b.size)).alloc (Nat.le_trans HO.out.b.size hb1.b.size) _).grown hgr2 (by have := HO.out.b.size; have := hb1.b.size; simp; omega) fun g hg => (row_lt HB.out g hg).1, Nat.le_trans HO.out.d (Nat.le_trans hb1.d hd2)⟩
           have Hown2 := Lib.hid hown2
           clear hgr2 hown2 hd2))
        | fail)
      go_roundw
      case rel => exact ⟨k + 1, by omega, by go_num, HO2, by rw [htk.out]; simpa using Hown2⟩
      case measure => simp [intOf]; omega
    · obtain rfl : k = rs.length := by omega
      have hmap : (rs.take rs.length).map (fun r => Value.int .i64 (r x y)) = (rs.map fun r => r x y).map (Value.int .i64) := by rw [List.take_length, List.map_map]; rfl
      have hall : ∀ z ∈ rs.map (fun r => r x y), I64 z := by
        intro z hz
        obtain ⟨r, hr, rfl⟩ := List.mem_map.1 hz
        obtain ⟨i, hi, he⟩ := List.getElem_of_mem hr
        exact (HF.out i r vs[i] (by rw [List.getElem?_eq_getElem hi, he]) (List.getElem?_eq_getElem (by omega))).1 x y
      obtain ⟨A, cc, rfl, hI⟩ := row_ints (l := rs.map fun r => r x y) (by rw [← hmap]; simpa using HB.out) (by simp; omega) hall
      have hO := or_any _ A cc wr hI
      rw [List.length_map] at hO ⊢
      have HQ := Lib.hid hO
      clear hO hI hall hmap
      go_wp2_with (first
        | ((with_reducible refine HQ.out.mono ?_); go_must (rintro e w1 ⟨rfl, hb1⟩))
        | fail)
      go_ret
      exact ⟨rfl, HO.out.trans hb1⟩

end Go.Proofs.YtfnncphkidhbpaaDoor

/- A region that draws its order, whose operations make memory and call: what each leaves is said by a fact that stays as memory grows; each operation is looked at once, out of the facts of those that it waits for. -/

namespace Go.Proofs.YtfnncphkidhbpaaDoor

open Go Go.RowKit

/-- A fact on a value that stays as memory grows. -/
structure Fct where
  p : Value → World → Prop
  st : ∀ {v : Value} {w w' : World}, p v w → Below w.heap.size w w' → p v w'

def Fct.eq (v : Value) : Fct := ⟨fun x _ => x = v, fun h _ => h⟩

def Fct.any : Fct := ⟨fun _ _ => True, fun h _ => h⟩

/-- What is asked of what an operation comes to. -/
def leaves (P : Program) (K : Value → World → Prop) : Result Next → Prop
  | .ok (.value u) w' => K u w'
  | .ok .skip w' => K undef w'
  | .ok (.enter f args) w' => Calls P f args w' fun e w'' => ∃ v, e = .returned v ∧ K v w''
  | _ => False

/-- What is known of the slots that an operation looks at. -/
def lookF (Fs : List Fct) (a0 a : Act) (w : World) : List (Nat × Option Nat) → Prop
  | [] => True
  | (t, none) :: r => a.eval (.tmp t) = a0.eval (.tmp t) ∧ lookF Fs a0 a w r
  | (t, some j) :: r => (Fs.getD j Fct.any).p (a.eval (.tmp t)) w ∧ lookF Fs a0 a w r

/-- One operation: its guard lets it by, and it leaves what is said; or its guard does not. -/
def stepF (P : Program) (Fs : List Fct) (a0 : Act) (W : World) (o : Oper) (ds : List (Nat × Option Nat)) (p : Fct) : Prop :=
  ((∀ j want, o.guard = some (j, want) → ∀ v w, (Fs.getD j Fct.any).p v w → v = .bool want) ∧
    ∀ (a : Act) (w : World), Below W.heap.size W w → lookF Fs a0 a w ds → leaves P (fun v w' => Below w.heap.size w w' ∧ p.p v w') ((execOp a.eval o).run P w)) ∨
  ((∃ j want, o.guard = some (j, want) ∧ ∀ v w, (Fs.getD j Fct.any).p v w → v = .bool (!want)) ∧ ∀ w, p.p undef w)

def stepsF (P : Program) (Fs : List Fct) (a0 : Act) (W : World) : List Oper → List (List (Nat × Option Nat)) → List Fct → Prop
  | o :: l, ds :: dl, p :: pl => stepF P Fs a0 W o ds p ∧ stepsF P Fs a0 W l dl pl
  | [], [], [] => True
  | _, _, _ => False

/-- All have come up. -/
def finF (Q : Act → World → Prop) (w : World) : List Oper → List Fct → Act → Prop
  | o :: l, p :: pl, a => match o.dst with
    | some d => ∀ v, p.p v w → finF Q w l pl (a.put (some d) v)
    | none => finF Q w l pl a
  | _, _, a => Q a w

/-- The region is of the kind: each waits for those that write what it looks at; no two write the same slot. -/
def kindF (n : Nat) (l : List Oper) (dl : List (List (Nat × Option Nat))) : Bool :=
  (l.zipIdx.all fun (o, i) => o.after.all (fun e => !Region.binds .any e || decide (e.on < i)) &&
    (match o.guard with | none => true | some (j, _) => o.after.any (fun e => Region.binds .any e && e.on == j) && (match (l[j]?).bind (·.dst) with | none => false | some _ => true)) &&
    (match o.dst with | none => true | some d => decide (d < n) && l.zipIdx.all fun (o', i') => i' == i || o'.dst != some d)) &&
  ((l.zip dl).all fun (o, ds) => ds.all fun (t, s) => match s with
    | none => l.all fun o' => o'.dst != some t
    | some j => (match l[j]? with | some o' => o'.dst == some t | none => false) && o.after.any (fun e => Region.binds .any e && e.on == j)) &&
  l.length == dl.length

section

variable {P : Program} {Q : Exit → Act → World → Prop}

theorem wpAny_inv {ops : Array Oper} (I : Array Bool → Act → World → Prop) (hI : ∀ listed a w, I listed a w → listed.size = ops.size)
    (hstep : ∀ listed a w i, I listed a w → i ∈ Region.ready .any ops listed → wpOp P ops Q i (fun a' w' => I (listed.setIfInBounds i true) a' w') a w)
    (hdone : ∀ listed a w, I listed a w → Region.ready .any ops listed = [] → Q .normal a w) (hfull : ∀ listed, listed.size = ops.size → listed.toList.count false = 0 → Region.ready .any ops listed = []) :
    ∀ (fuel : Nat) (listed : Array Bool) (a : Act) (w : World), listed.toList.count false ≤ fuel → I listed a w → wpAny P .any ops Q fuel listed a w
  | 0, listed, a, w, hc, h => by
    have hr := hfull listed (hI _ _ _ h) (by omega)
    exact ⟨hr, hdone _ _ _ h hr⟩
  | fuel + 1, listed, a, w, hc, h => by
    refine ⟨fun hr => hdone _ _ _ h hr, fun i hi => wpOp_mono (fun a' w' h' => wpAny_inv I hI hstep hdone hfull fuel _ a' w' ?_ h') (hstep _ _ _ i h hi)⟩
    obtain ⟨h0, o, ho, _⟩ := mem_ready.1 hi
    have hlt : i < listed.size := by rw [hI _ _ _ h]; exact (Array.getElem?_eq_some_iff.1 ho).1
    have hf : listed.toList[i]'(by simpa using hlt) = false := by simpa [hlt] using h0
    rw [Array.toList_setIfInBounds, List.count_set (by simpa using hlt)]
    have : 0 < listed.toList.count false := List.count_pos_iff.2 (by rw [← hf]; exact List.getElem_mem _)
    rw [hf]
    show listed.toList.count false - 1 + 0 ≤ fuel
    omega

theorem leaves_wp {o : Oper} {a : Act} {w : World} {K : Value → World → Prop} {K' : Act → World → Prop} (h : leaves P K ((execOp a.eval o).run P w)) (hk : ∀ v w', K v w' → K' (a.put o.dst v) w') : o.wp P a w K' Q := by
  unfold Oper.wp
  generalize (execOp a.eval o).run P w = r at h
  cases r with
  | ok n w' =>
    cases n <;> simp only [leaves] at h <;> simp only [Oper.upon]
    case value u => exact hk _ _ h
    case skip => exact hk _ _ h
    case enter f args => exact Calls.mono h fun e w'' ⟨v, he, hK⟩ => by subst he; exact hk _ _ hK
  | halt x w' => simp only [leaves] at h

theorem stepsF_get {Fs : List Fct} {a0 : Act} {W : World} : ∀ {l : List Oper} {dl : List (List (Nat × Option Nat))} {pl : List Fct}, stepsF P Fs a0 W l dl pl → ∀ (i : Nat) (o : Oper), l[i]? = some o → ∃ ds p, dl[i]? = some ds ∧ pl[i]? = some p ∧ stepF P Fs a0 W o ds p
  | o :: l, ds :: dl, p :: pl, h, 0, o', ho => by
    simp at ho
    subst ho
    exact ⟨ds, p, rfl, rfl, h.1⟩
  | o :: l, ds :: dl, p :: pl, h, i + 1, o', ho => stepsF_get h.2 i o' (by simpa using ho)
  | [], [], [], _, i, o', ho => by simp at ho
  | [], [], _ :: _, h, _, _, _ => h.elim
  | [], _ :: _, _, h, _, _, _ => h.elim
  | _ :: _, [], _, h, _, _, _ => h.elim
  | _ :: _, _ :: _, [], h, _, _, _ => h.elim

theorem finF_of {Q : Act → World → Prop} {w : World} {Fs : List Fct} {a : Act} : ∀ (l : List Oper) (pl : List Fct) (b : Act), finF Q w l pl b → a.defers = b.defers → a.tmps.size = b.tmps.size → l.length = pl.length →
    (∀ t, (∀ o ∈ l, o.dst ≠ some t) → a.tmps[t]? = b.tmps[t]?) → (∀ (i : Nat) (o : Oper) (p : Fct) (d : Nat), l[i]? = some o → pl[i]? = some p → o.dst = some d → d < a.tmps.size ∧ p.p (a.eval (.tmp d)) w) → Q a w
  | [], pl, b, h, hd, hs, hl, ht, hp => by
    obtain rfl : pl = [] := List.eq_nil_of_length_eq_zero (by simpa using hl.symm)
    have : a = b := by
      obtain ⟨at', ad⟩ := a
      obtain ⟨bt, bd⟩ := b
      simp only [Act.mk.injEq]
      exact ⟨Array.ext_getElem? fun t => ht t (by simp), hd⟩
    rw [this]
    exact h
  | o :: l, [], b, h, hd, hs, hl, ht, hp => by simp at hl
  | o :: l, p :: pl, b, h, hd, hs, hl, ht, hp => by
    simp only [List.length_cons, Nat.add_right_cancel_iff] at hl
    unfold finF at h
    cases hdst : o.dst with
    | none =>
      rw [hdst] at h
      refine finF_of (Fs := Fs) l pl b h hd hs hl (fun t e => ht t fun o' ho' => ?_) (fun i o' p' d e1 e2 e3 => hp (i + 1) o' p' d (by simpa using e1) (by simpa using e2) e3)
      rcases List.mem_cons.1 ho' with rfl | ho'
      · rw [hdst]; simp
      · exact e o' ho'
    | some d =>
      rw [hdst] at h
      obtain ⟨hlt, hpd⟩ := hp 0 o p d rfl rfl hdst
      refine finF_of (Fs := Fs) l pl _ (h _ hpd) (by simpa [Act.put] using hd) (by simpa [Act.put] using hs) hl (fun t e => ?_) (fun i o' p' d e1 e2 e3 => hp (i + 1) o' p' d (by simpa using e1) (by simpa using e2) e3)
      by_cases htd : t = d
      · subst htd
        simp only [Act.put, Act.eval]
        rw [Array.getElem?_setIfInBounds]
        simp [hlt, ← hs]
      · simp only [Act.put]
        rw [Array.getElem?_setIfInBounds_ne (Ne.symm htd)]
        refine ht t fun o' ho' => ?_
        rcases List.mem_cons.1 ho' with rfl | ho'
        · rw [hdst]; intro e'; injection e' with e'; exact htd e'.symm
        · exact e o' ho'

theorem lookF_of {Fs : List Fct} {a0 a : Act} {w : World} {l : List Oper} {o : Oper} : ∀ (ds : List (Nat × Option Nat)),
    (∀ t s, (t, s) ∈ ds → match s with | none => a.eval (.tmp t) = a0.eval (.tmp t) | some j => (Fs.getD j Fct.any).p (a.eval (.tmp t)) w) → lookF Fs a0 a w ds
  | [], _ => trivial
  | (t, none) :: r, h => ⟨h t none (by simp), lookF_of (l := l) (o := o) r fun t s e => h t s (by simp [e])⟩
  | (t, some j) :: r, h => ⟨h t (some j) (by simp), lookF_of (l := l) (o := o) r fun t s e => h t s (by simp [e])⟩

/-- What the Bool says. -/
structure KindF (n : Nat) (l : List Oper) (dl : List (List (Nat × Option Nat))) : Prop where
  ac : ∀ (i : Nat) (o : Oper), l[i]? = some o → ∀ e ∈ o.after, Region.binds .any e = true → e.on < i
  gd : ∀ (i : Nat) (o : Oper) (j : Nat) (want : Bool), l[i]? = some o → o.guard = some (j, want) → ∃ e ∈ o.after, Region.binds .any e = true ∧ e.on = j ∧ ∃ (o' : Oper) (d : Nat), l[j]? = some o' ∧ o'.dst = some d
  dn : ∀ (i : Nat) (o : Oper) (d : Nat), l[i]? = some o → o.dst = some d → d < n
  un : ∀ (i : Nat) (o : Oper) (i' : Nat) (o' : Oper) (d : Nat), l[i]? = some o → l[i']? = some o' → o.dst = some d → o'.dst = some d → i = i'
  lk : ∀ (i : Nat) (o : Oper) (ds : List (Nat × Option Nat)) (t : Nat) (s : Option Nat), l[i]? = some o → dl[i]? = some ds → (t, s) ∈ ds → match s with
    | none => ∀ o' ∈ l, o'.dst ≠ some t
    | some j => ∃ o' : Oper, l[j]? = some o' ∧ o'.dst = some t ∧ ∃ e ∈ o.after, Region.binds .any e = true ∧ e.on = j

theorem kindF_spec {n : Nat} {l : List Oper} {dl : List (List (Nat × Option Nat))} (h : kindF n l dl = true) : KindF n l dl := by
  unfold kindF at h
  simp only [Bool.and_eq_true, List.all_eq_true, beq_iff_eq] at h
  obtain ⟨⟨h1, h2⟩, h3⟩ := h
  have hz : ∀ i o, l[i]? = some o → (o, i) ∈ l.zipIdx := fun i o e => by
    rw [List.mem_zipIdx_iff_getElem?]; exact e
  refine ⟨fun i o e x hx hb => ?_, fun i o j want e hg => ?_, fun i o d e hd => ?_, fun i o i' o' d e e' hd hd' => ?_, fun i o ds t s e ed hm => ?_⟩
  · have := (h1 _ (hz i o e)).1.1
    have := Array.all_eq_true_iff_forall_mem.1 this x hx
    simpa [hb] using this
  · have := (h1 _ (hz i o e)).1.2
    simp only [hg, Bool.and_eq_true] at this
    obtain ⟨x, hx, hb⟩ := Array.any_eq_true'.1 this.1
    simp only [Bool.and_eq_true, beq_iff_eq] at hb
    have h4 := this.2
    cases hj : (l[j]?).bind (·.dst) with
    | none => rw [hj] at h4; simp at h4
    | some d =>
      obtain ⟨o', ho', hd⟩ := Option.bind_eq_some_iff.1 hj
      exact ⟨x, hx, hb.1, hb.2, o', d, ho', hd⟩
  · have := (h1 _ (hz i o e)).2
    simp only [hd, Bool.and_eq_true, decide_eq_true_eq] at this
    exact this.1
  · have := (h1 _ (hz i o e)).2
    simp only [hd, Bool.and_eq_true, List.all_eq_true] at this
    have := this.2 _ (hz i' o' e')
    simp only [hd', Bool.or_eq_true, beq_iff_eq, bne_self_eq_false, Bool.false_eq_true, or_false] at this
    exact this.symm
  · have hmem : (o, ds) ∈ l.zip dl := by
      refine List.mem_of_getElem? (i := i) ?_
      rw [List.getElem?_zip_eq_some]
      exact ⟨e, ed⟩
    have := h2 _ hmem (t, s) hm
    cases s with
    | none =>
      intro o' ho' hd
      have := List.all_eq_true.1 this o' ho'
      rw [hd] at this
      simp at this
    | some j =>
      simp only [Bool.and_eq_true] at this
      obtain ⟨h5, h6⟩ := this
      obtain ⟨x, hx, hb⟩ := Array.any_eq_true'.1 h6
      simp only [Bool.and_eq_true, beq_iff_eq] at hb
      cases hj : l[j]? with
      | none => rw [hj] at h5; simp at h5
      | some o' =>
        rw [hj] at h5
        exact ⟨o', hj, by simpa using h5, x, hx, hb.1, hb.2⟩

/-- What holds however far the region is. -/
structure InvF (n : Nat) (Fs : List Fct) (l : List Oper) (a0 : Act) (W : World) (listed : Array Bool) (a : Act) (w : World) : Prop where
  ls : listed.size = l.toArray.size
  bl : Below W.heap.size W w
  sz : a.tmps.size = n
  df : a.defers = a0.defers
  ot : ∀ t, (∀ o ∈ l, o.dst ≠ some t) → a.tmps[t]? = a0.tmps[t]?
  fs : ∀ j o d, l[j]? = some o → o.dst = some d → listed.getD j false = true → (Fs.getD j Fct.any).p (a.eval (.tmp d)) w

theorem wp_region_facts {id : Nat} {a : Act} {w : World} {l : List Oper} (n : Nat) (dl : List (List (Nat × Option Nat))) (Fs : List Fct) (hm : P.follows .mixedOrders = true) (hk : kindF n l dl = true) (hn : a.tmps.size = n)
    (h : stepsF P Fs a w.drew l dl Fs) (hf : ∀ w', Below w.drew.heap.size w.drew w' → finF (fun a' w'' => Q .normal a' w'') w' l Fs a) : (Code.region id l.toArray true).wp P Q a w := by
  have K := kindF_spec hk
  have hlen : l.length = Fs.length := by
    clear hf hk K hn
    revert h
    generalize hF : Fs = Gs
    have : ∀ (l : List Oper) (dl : List (List (Nat × Option Nat))) (pl : List Fct), stepsF P Gs a w.drew l dl pl → l.length = pl.length := by
      intro l
      induction l with
      | nil =>
        intro dl pl h
        match dl, pl, h with
        | [], [], _ => rfl
        | [], _ :: _, h => exact h.elim
        | _ :: _, _, h => exact h.elim
      | cons o l ih =>
        intro dl pl h
        match dl, pl, h with
        | ds :: dl, p :: pl, h => simp only [List.length_cons]; rw [ih dl pl h.2]
        | [], _, h => exact h.elim
        | _ :: _, [], h => exact h.elim
    exact fun h => this l dl _ h
  have hstep : ∀ listed a' w' i, InvF n Fs l a w.drew listed a' w' → i ∈ Region.ready .any l.toArray listed → wpOp P l.toArray Q i (fun a'' w'' => InvF n Fs l a w.drew (listed.setIfInBounds i true) a'' w'') a' w' := by
    intro listed a' w' i hI hi
    obtain ⟨h0, o, ho, haf⟩ := mem_ready.1 hi
    have ho' : l[i]? = some o := by simpa using ho
    obtain ⟨ds, p, hds, hp, hst⟩ := stepsF_get h i o ho'
    have hpF : Fs.getD i Fct.any = p := by simp [hp]
    have hnew : ∀ v w'', Below w'.heap.size w' w'' → p.p v w'' → InvF n Fs l a w.drew (listed.setIfInBounds i true) (a'.put o.dst v) w'' := fun v w'' hb hpv => by
      refine ⟨by simpa using hI.ls, hI.bl.trans (hb.mono hI.bl.size), ?_, ?_, fun t ht => ?_, fun j o1 d hj hd hl => ?_⟩
      · rw [← hI.sz]; cases o.dst <;> simp [Act.put]
      · rw [← hI.df]; cases o.dst <;> simp [Act.put]
      · rw [← hI.ot t ht]
        cases hd : o.dst with
        | none => rfl
        | some d =>
          have hne : d ≠ t := fun e => ht o (List.mem_of_getElem? ho') (by rw [hd, e])
          simp [Act.put, Array.getElem?_setIfInBounds_ne hne]
      · by_cases hji : j = i
        · subst hji
          obtain rfl : o1 = o := by rw [ho'] at hj; injection hj with hj; exact hj.symm
          rw [hpF, hd]
          have hlt : d < a'.tmps.size := by rw [hI.sz]; exact K.dn j o1 d hj hd
          have : (a'.put (some d) v).eval (.tmp d) = v := by simp [Act.put, Act.eval, hlt]
          rw [this]
          exact hpv
        · have hl' : listed.getD j false = true := by rwa [getD_set_ne false (Ne.symm hji)] at hl
          have h1 := (Fs.getD j Fct.any).st (hI.fs j o1 d hj hd hl') hb
          have : (a'.put o.dst v).eval (.tmp d) = a'.eval (.tmp d) := by
            cases hd' : o.dst with
            | none => rfl
            | some d' =>
              refine Act.eval_put fun x hx e => ?_
              injection hx with hx
              injection e with e
              exact hji (K.un j o1 i o d hj ho' hd (by rw [hd', hx, e]))
          rw [this]
          exact h1
    have hlisted : ∀ j o1 d, l[j]? = some o1 → o1.dst = some d → (∃ e ∈ o.after, Region.binds .any e = true ∧ e.on = j) → (Fs.getD j Fct.any).p (a'.eval (.tmp d)) w' := fun j o1 d hj hd ⟨e, he, hb, hej⟩ =>
      hI.fs j o1 d hj hd (by rw [← hej]; exact haf e he hb)
    unfold wpOp
    simp only [ho]
    have hguard : ∀ j want b, o.guard = some (j, want) → (∀ v w, (Fs.getD j Fct.any).p v w → v = .bool b) → yielded l.toArray a'.tmps j = some b := fun j want b hg hb => by
      obtain ⟨e, he, hbd, hej, o1, d, hj, hd⟩ := K.gd i o j want ho' hg
      have h1 := hb _ _ (hlisted j o1 d hj hd ⟨e, he, hbd, hej⟩)
      have hlt : d < a'.tmps.size := by rw [hI.sz]; exact K.dn j o1 d hj hd
      unfold yielded
      have h2 : a'.tmps[d]? = some (.bool b) := by
        simp only [Act.eval, Array.getD_eq_getD_getElem?, Array.getElem?_eq_getElem hlt, Option.getD_some] at h1
        rw [Array.getElem?_eq_getElem hlt, h1]
      simp [hj, hd, h2]
    rcases hst with ⟨hg, hgo⟩ | ⟨⟨j, want, hg, hgb⟩, hundef⟩
    · have hw : Region.wanted o (yielded l.toArray a'.tmps) = true := by
        unfold Region.wanted
        cases hgd : o.guard with
        | none => rfl
        | some gw =>
          obtain ⟨j, want⟩ := gw
          simp only [hguard j want want hgd (hg j want hgd), beq_self_eq_true]
      simp only [hw, if_true]
      refine .inl (leaves_wp (hgo a' w' hI.bl (lookF_of (l := l) (o := o) ds fun t s hts => ?_)) fun v w'' ⟨hb, hpv⟩ => hnew v w'' hb hpv)
      have h3 := K.lk i o ds t s ho' hds hts
      cases s with
      | none =>
        have := hI.ot t h3
        simp only [Act.eval, Array.getD_eq_getD_getElem?, this]
      | some j =>
        obtain ⟨o1, hj, hd, he⟩ := h3
        exact hlisted j o1 t hj hd he
    · have hw : Region.wanted o (yielded l.toArray a'.tmps) = false := by
        unfold Region.wanted
        rw [hg]
        simp only [hguard j want (!want) hg hgb]
        cases want <;> rfl
      simp only [hw, Bool.false_eq_true, if_false]
      exact hnew undef w' (Below.refl _ _) (hundef w')
  refine wp_region_any hm (wpAny_inv (InvF n Fs l a w.drew) (fun _ _ _ hI => hI.ls) hstep (fun listed a' w' hI hr => ?_) (fun listed hs hc => ?_) _ _ a w.drew ?_ ⟨by simp, Below.refl _ _, hn, rfl, fun _ _ => rfl, fun j o d hj hd hl => ?_⟩)
  · have hall : ∀ j o, l[j]? = some o → listed.getD j false = true := by
      intro j
      induction j using Nat.strongRecOn with
      | _ j ih =>
        intro o hj
        cases hl : listed.getD j false with
        | true => rfl
        | false =>
          have : j ∈ Region.ready .any l.toArray listed := by
            refine mem_ready.2 ⟨?_, o, by simpa using hj, fun e he hb => ?_⟩
            · have hlt : j < listed.size := by rw [hI.ls]; simpa using (List.getElem?_eq_some_iff.1 hj).1
              simpa [hlt] using hl
            · have h1 := K.ac j o hj e he hb
              have h2 : e.on < l.length := Nat.lt_trans h1 (List.getElem?_eq_some_iff.1 hj).1
              exact ih e.on h1 _ (List.getElem?_eq_getElem h2)
          rw [hr] at this
          cases this
    refine finF_of (Fs := Fs) (Q := fun a' w'' => Q .normal a' w'') l Fs a (hf w' hI.bl) hI.df (by rw [hI.sz, hn]) hlen hI.ot fun i o p d e1 e2 e3 => ⟨by rw [hI.sz]; exact K.dn i o d e1 e3, ?_⟩
    have := hI.fs i o d e1 e3 (hall i o e1)
    simpa [e2] using this
  · refine List.eq_nil_iff_forall_not_mem.2 fun i hi => ?_
    obtain ⟨h0, o, ho, _⟩ := mem_ready.1 hi
    have hlt : i < listed.size := by rw [hs]; exact (Array.getElem?_eq_some_iff.1 ho).1
    have hf' : listed.toList[i]'(by simpa using hlt) = false := by simpa [hlt] using h0
    have : 0 < listed.toList.count false := List.count_pos_iff.2 (by rw [← hf']; exact List.getElem_mem _)
    omega
  · simp
  · exfalso
    rw [Array.getD_eq_getD_getElem?, Array.getElem?_replicate] at hl
    by_cases hj' : j < l.toArray.size
    · rw [if_pos hj'] at hl; cases hl
    · rw [if_neg hj'] at hl; cases hl

end

end Go.Proofs.YtfnncphkidhbpaaDoor

/- prec: ranking: the function value of a way. -/

namespace Go.Proofs.YtfnncphkidhbpaaDoor

open Go Go.RowKit
set_option maxRecDepth 100000

def numV : Value := .func (.func 46) #[] #[]

def arV (bs : Nat) : Value := .func (.func 47) #[] #[.pointer (some ⟨bs, 0, none⟩)]

def unV (bs : Nat) : Value := .func (.func 48) #[] #[.pointer (some ⟨bs, 0, none⟩)]

def ofV (bs : Nat) : Value := .func (.func 49) #[] #[.pointer (some ⟨bs, 0, none⟩)]

def seV (bo : Nat) : Value := .func (.func 50) #[] #[.pointer (some ⟨bo, 0, none⟩)]

/-- A chain of these. -/
def ChP (n0 : Nat) (vs : List Value) (v : Value) (w : World) : Prop := ∃ bt bf, v = .func (.func 76) #[] #[.pointer (some ⟨bt, 0, none⟩)] ∧ n0 ≤ bt ∧ n0 ≤ bf ∧ w.heap[bt]? = some (.cells #[.slice (some ⟨bf, 0, none⟩) vs.length vs.length] 99) ∧ w.heap[bf]? = some (.cells vs.toArray 74)

theorem blk_st {w w' : World} (hb : Below w.heap.size w w') {b : Nat} {o : Obj} (h : w.heap[b]? = some o) : w'.heap[b]? = some o := (hb.block b (Array.getElem?_eq_some_iff.1 h).1).trans h

theorem ChP.st {n0 : Nat} {vs : List Value} {v : Value} {w w' : World} (h : ChP n0 vs v w) (hb : Below w.heap.size w w') : ChP n0 vs v w' := by
  obtain ⟨bt, bf, e, h1, h2, h3, h4⟩ := h
  exact ⟨bt, bf, e, h1, h2, blk_st hb h3, blk_st hb h4⟩

/-- The function value of way i. -/
def ValP (n0 bs bo : Nat) (i : Nat) (v : Value) (w : World) : Prop :=
  if i = 0 then v = numV else if i = 1 then ChP n0 [arV bs, numV] v w else if i = 2 then ChP n0 [unV bs, arV bs, numV] v w else if i = 3 then ChP n0 [ofV bs, numV] v w else ChP n0 [seV bo, numV] v w

theorem ValP.st {n0 bs bo i : Nat} {v : Value} {w w' : World} (h : ValP n0 bs bo i v w) (hb : Below w.heap.size w w') : ValP n0 bs bo i v w' := by
  unfold ValP at *
  split
  · rename_i h0; rw [if_pos h0] at h; exact h
  · rename_i h0; rw [if_neg h0] at h; split
    · rename_i h1; rw [if_pos h1] at h; exact h.st hb
    · rename_i h1; rw [if_neg h1] at h; split
      · rename_i h2; rw [if_pos h2] at h; exact h.st hb
      · rename_i h2; rw [if_neg h2] at h; split
        · rename_i h3; rw [if_pos h3] at h; exact h.st hb
        · rename_i h3; rw [if_neg h3] at h; exact h.st hb

/-- A new row of function values; a row of five, one for each way; a place in it. -/
def vaF (n0 bs bo i : Nat) : Fct := ⟨fun v w => ValP n0 bs bo i v w, fun h hb => h.st hb⟩

def bsF (n0 : Nat) (vs : List Value) : Fct := ⟨fun v w => ∃ b, v = .slice (some ⟨b, 0, none⟩) vs.length vs.length ∧ n0 ≤ b ∧ w.heap[b]? = some (.cells vs.toArray 74), fun ⟨b, e, h1, h2⟩ hb => ⟨b, e, h1, blk_st hb h2⟩⟩

def RowP (n0 bs bo : Nat) (b : Nat) (w : World) : Prop := ∃ f0 f1 f2 f3 f4, w.heap[b]? = some (.cells #[f0, f1, f2, f3, f4] 74) ∧ ValP n0 bs bo 0 f0 w ∧ ValP n0 bs bo 1 f1 w ∧ ValP n0 bs bo 2 f2 w ∧ ValP n0 bs bo 3 f3 w ∧ ValP n0 bs bo 4 f4 w

theorem RowP.st {n0 bs bo b : Nat} {w w' : World} (h : RowP n0 bs bo b w) (hb : Below w.heap.size w w') : RowP n0 bs bo b w' := by
  obtain ⟨f0, f1, f2, f3, f4, h, h0, h1, h2, h3, h4⟩ := h
  exact ⟨f0, f1, f2, f3, f4, blk_st hb h, h0.st hb, h1.st hb, h2.st hb, h3.st hb, h4.st hb⟩

def roF (n0 bs bo : Nat) : Fct := ⟨fun v w => ∃ b, v = .slice (some ⟨b, 0, none⟩) 5 5 ∧ RowP n0 bs bo b w, fun ⟨b, e, h⟩ hb => ⟨b, e, h.st hb⟩⟩

def plF (n0 bs bo i : Nat) : Fct := ⟨fun v w => ∃ b, v = .pointer (some ⟨b, i, none⟩) ∧ RowP n0 bs bo b w, fun ⟨b, e, h⟩ hb => ⟨b, e, h.st hb⟩⟩

set_option maxHeartbeats 1000000 in
theorem chain_any (A : Option Addr) (n c : Nat) (w : World) : Calls Tryd.prog 51 #[.slice A n c] w fun e w' => e = .returned (.func (.func 76) #[] #[.pointer (some ⟨w.heap.size, 0, none⟩)]) ∧ w' = w.alloc (.cells #[.slice A n c] 99) := by
  go_enter Tryd.func51, Tryd.ntmps51
  go_wp2
  go_ret
  exact ⟨rfl, rfl⟩

section

variable {Fs : List Fct} {a0 : Act} {W : World} {dst : Option Tmp} {ty : TypeId} {pos : String} {after : Array Edge}

theorem pk_get {a : Act} {s : Nat} {v : Value} (h : a.eval (.tmp s) = v) : a.tmps[s]?.getD undef = v := by rw [← h]; simp [Act.eval]

theorem pk_none : ∀ j want, (none : Option (Nat × Bool)) = some (j, want) → ∀ v w, (Fs.getD j Fct.any).p v w → v = .bool want := by intro _ _ h; cases h

theorem pk_move {s : Nat} {v : Value} (hs : a0.eval (.tmp s) = v) : stepF Tryd.prog Fs a0 W ⟨dst, .move (.tmp s), ty, pos, after, none⟩ [(s, none)] (Fct.eq v) := by
  refine .inl ⟨pk_none, fun a w hb hl => ?_⟩
  have h1 := pk_get (hl.1.trans hs)
  simp [go_sem, leaves, h1]
  exact ⟨Below.refl _ _, rfl⟩

theorem pk_load {s b : Nat} {v : Value} {t t' : TypeId} (hs : a0.eval (.tmp s) = .pointer (some ⟨b, 0, none⟩)) (hW : W.heap[b]? = some (.cells #[v] t')) (ht : ∀ w, (isAgg t).run Tryd.prog w = .ok false w) : stepF Tryd.prog Fs a0 W ⟨dst, .load t (.tmp s), ty, pos, after, none⟩ [(s, none)] (Fct.eq v) := by
  refine .inl ⟨pk_none, fun a w hb hl => ?_⟩
  have h1 := pk_get (hl.1.trans hs)
  have c0 := (cells_one (blk_st hb hW)).1
  simp [go_sem, leaves, h1, c0, ht]
  exact ⟨Below.refl _ _, rfl⟩

theorem pk_bs2 {n0 s s' j j' k k' : Nat} {cv cv' : Array Value} (hn : n0 ≤ W.heap.size) (hF : Fs.getD j Fct.any = Fct.eq (.func (.func k) #[] cv)) (hF' : Fs.getD j' Fct.any = Fct.eq (.func (.func k') #[] cv')) :
    stepF Tryd.prog Fs a0 W ⟨dst, .buildSlice 99 2 #[(0, .tmp s), (1, .tmp s')], ty, pos, after, none⟩ [(s, some j), (s', some j')] (bsF n0 [.func (.func k) #[] cv, .func (.func k') #[] cv']) := by
  refine .inl ⟨pk_none, fun a w hb hl => ?_⟩
  have h0 := hl.1
  have h0' := hl.2.1
  rw [hF] at h0
  rw [hF'] at h0'
  have h1 := pk_get h0
  have h2 := pk_get h0'
  simp [go_sem, leaves, h1, h2]
  exact ⟨(Below.refl _ _).alloc (Nat.le_refl _) _, _, rfl, Nat.le_trans hn hb.size, heap_alloc_new w _⟩

theorem pk_bs3 {n0 s s' s'' j j' j'' k k' k'' : Nat} {cv cv' cv'' : Array Value} (hn : n0 ≤ W.heap.size) (hF : Fs.getD j Fct.any = Fct.eq (.func (.func k) #[] cv)) (hF' : Fs.getD j' Fct.any = Fct.eq (.func (.func k') #[] cv')) (hF'' : Fs.getD j'' Fct.any = Fct.eq (.func (.func k'') #[] cv'')) :
    stepF Tryd.prog Fs a0 W ⟨dst, .buildSlice 99 3 #[(0, .tmp s), (1, .tmp s'), (2, .tmp s'')], ty, pos, after, none⟩ [(s, some j), (s', some j'), (s'', some j'')] (bsF n0 [.func (.func k) #[] cv, .func (.func k') #[] cv', .func (.func k'') #[] cv'']) := by
  refine .inl ⟨pk_none, fun a w hb hl => ?_⟩
  have h0 := hl.1
  have h0' := hl.2.1
  have h0'' := hl.2.2.1
  rw [hF] at h0
  rw [hF'] at h0'
  rw [hF''] at h0''
  have h1 := pk_get h0
  have h2 := pk_get h0'
  have h3 := pk_get h0''
  simp [go_sem, leaves, h1, h2, h3]
  exact ⟨(Below.refl _ _).alloc (Nat.le_refl _) _, _, rfl, Nat.le_trans hn hb.size, heap_alloc_new w _⟩

theorem pk_chain {n0 bs bo s j i : Nat} {vs : List Value} (hn : n0 ≤ W.heap.size) (hF : Fs.getD j Fct.any = bsF n0 vs) (hi : ∀ v w, ChP n0 vs v w → ValP n0 bs bo i v w) :
    stepF Tryd.prog Fs a0 W ⟨dst, .call ⟨.value (.func 51), #[.tmp s], #[99]⟩, ty, pos, after, none⟩ [(s, some j)] (vaF n0 bs bo i) := by
  refine .inl ⟨pk_none, fun a w hb hl => ?_⟩
  have h0 := hl.1
  rw [hF] at h0
  obtain ⟨b, hv, hb1, hb2⟩ := h0
  have h1 := pk_get hv
  simp [go_sem, leaves, h1]
  refine (chain_any _ _ _ w).mono fun e w' h => ?_
  obtain ⟨he, rfl⟩ := h
  have hbl : Below w.heap.size w (w.alloc (.cells #[.slice (some ⟨b, 0, none⟩) vs.length vs.length] 99)) := (Below.refl _ _).alloc (Nat.le_refl _) _
  exact ⟨_, he, hbl, hi _ _ ⟨_, b, rfl, Nat.le_trans hn hb.size, hb1, heap_alloc_new w _, blk_st hbl hb2⟩⟩

end

end Go.Proofs.YtfnncphkidhbpaaDoor

/- prec: ranking, walked. -/

namespace Go.Proofs.YtfnncphkidhbpaaDoor

open Go Go.RowKit
set_option maxRecDepth 100000

/-- The facts' ends: what the last operation leaves is all that is wanted. -/
theorem finF_lastP {P : Program} {Q : Act → World → Prop} {w : World} {d : Nat} {p0 : Fct} : ∀ (l : List Oper) (pl : List Fct) (a : Act), l.length = pl.length → d < a.tmps.size → (∃ o, l.getLast? = some o ∧ o.dst = some d) → pl.getLast? = some p0 → (∀ a' : Act, a'.defers = a.defers → a'.tmps.size = a.tmps.size → p0.p (a'.eval (.tmp d)) w → Q a' w) → finF Q w l pl a
  | [], _, _, _, _, ⟨_, h, _⟩, _, _ => by simp at h
  | _ :: _, [], _, h, _, _, _, _ => by simp at h
  | [o], [p], a, _, hd, ⟨o', h1, h2⟩, h3, h => by
    simp at h1 h3
    subst h1 h3
    unfold finF
    rw [h2]
    intro u hu
    unfold finF
    exact h _ rfl (by simp [Act.put]) (by simpa [Act.put, Act.eval, hd] using hu)
  | [o], _ :: _ :: _, a, h0, _, _, _, _ => by simp at h0
  | _ :: _ :: _, [_], a, h0, _, _, _, _ => by simp at h0
  | o :: o2 :: l, p :: p2 :: pl, a, h0, hd, h1, h3, h => by
    have hg : ∀ a' : Act, a'.defers = a.defers → a'.tmps.size = a.tmps.size → finF Q w (o2 :: l) (p2 :: pl) a' := fun a' e1 e2 =>
      finF_lastP (P := P) (o2 :: l) (p2 :: pl) a' (by simpa using h0) (by rw [e2]; exact hd) (by simpa using h1) (by simpa using h3) fun a2 e3 e4 => h a2 (e3.trans e1) (e4.trans e2)
    unfold finF
    cases o.dst with
    | none => exact hg a rfl rfl
    | some d' => intro u _; exact hg _ rfl (by simp [Act.put])

theorem ValP.cells {n0 bs bo i : Nat} {v : Value} {w : World} (h : ValP n0 bs bo i v w) : ∃ k cv, v = .func (.func k) #[] cv := by
  have hc : ∀ {vs : List Value}, ChP n0 vs v w → ∃ k cv, v = .func (.func k) #[] cv := fun ⟨_, _, e, _⟩ => ⟨_, _, e⟩
  unfold ValP at h
  split at h
  · exact ⟨_, _, h⟩
  · split at h
    · exact hc h
    · split at h
      · exact hc h
      · split at h
        · exact hc h
        · exact hc h

section

variable {Fs : List Fct} {a0 : Act} {W : World} {dst : Option Tmp} {ty : TypeId} {pos : String} {after : Array Edge}

set_option maxHeartbeats 1000000 in
theorem pk_bs5 {n0 bs bo s0 s1 s2 s3 s4 j0 j1 j2 j3 j4 : Nat} (hF0 : Fs.getD j0 Fct.any = Fct.eq numV) (hF1 : Fs.getD j1 Fct.any = vaF n0 bs bo 1) (hF2 : Fs.getD j2 Fct.any = vaF n0 bs bo 2) (hF3 : Fs.getD j3 Fct.any = vaF n0 bs bo 3) (hF4 : Fs.getD j4 Fct.any = vaF n0 bs bo 4) :
    stepF Tryd.prog Fs a0 W ⟨dst, .buildSlice 99 5 #[(0, .tmp s0), (1, .tmp s1), (2, .tmp s2), (3, .tmp s3), (4, .tmp s4)], ty, pos, after, none⟩ [(s0, some j0), (s1, some j1), (s2, some j2), (s3, some j3), (s4, some j4)] (roF n0 bs bo) := by
  refine .inl ⟨pk_none, fun a w hb hl => ?_⟩
  obtain ⟨h0, h1, h2, h3, h4, _⟩ := hl
  rw [hF0] at h0
  rw [hF1] at h1
  rw [hF2] at h2
  rw [hF3] at h3
  rw [hF4] at h4
  have h0 : a.eval (.tmp s0) = numV := h0
  have h1 : ValP n0 bs bo 1 (a.eval (.tmp s1)) w := h1
  have h2 : ValP n0 bs bo 2 (a.eval (.tmp s2)) w := h2
  have h3 : ValP n0 bs bo 3 (a.eval (.tmp s3)) w := h3
  have h4 : ValP n0 bs bo 4 (a.eval (.tmp s4)) w := h4
  obtain ⟨k1, v1, e1⟩ := h1.cells
  obtain ⟨k2, v2, e2⟩ := h2.cells
  obtain ⟨k3, v3, e3⟩ := h3.cells
  obtain ⟨k4, v4, e4⟩ := h4.cells
  rw [e1] at h1
  rw [e2] at h2
  rw [e3] at h3
  rw [e4] at h4
  have g0 := pk_get (h0.trans (show numV = .func (.func 46) #[] #[] from rfl))
  have g1 := pk_get e1
  have g2 := pk_get e2
  have g3 := pk_get e3
  have g4 := pk_get e4
  simp [go_sem, leaves, g0, g1, g2, g3, g4]
  have hbl : Below w.heap.size w (w.alloc (.cells #[.func (.func 46) #[] #[], .func (.func k1) #[] v1, .func (.func k2) #[] v2, .func (.func k3) #[] v3, .func (.func k4) #[] v4] 74)) := (Below.refl _ _).alloc (Nat.le_refl _) _
  exact ⟨hbl, _, rfl, _, _, _, _, _, heap_alloc_new w _, rfl, h1.st hbl, h2.st hbl, h3.st hbl, h4.st hbl⟩

theorem pk_index {n0 bs bo s s' j j' i : Nat} (hi : i ≤ 4) (hF : Fs.getD j Fct.any = roF n0 bs bo) (hF' : Fs.getD j' Fct.any = Fct.eq (.int .i64 (i : Int))) :
    stepF Tryd.prog Fs a0 W ⟨dst, .indexAddr 99 (.tmp s) (.tmp s'), ty, pos, after, none⟩ [(s, some j), (s', some j')] (plF n0 bs bo i) := by
  refine .inl ⟨pk_none, fun a w hb hl => ?_⟩
  obtain ⟨h0, h1, _⟩ := hl
  rw [hF] at h0
  rw [hF'] at h1
  obtain ⟨b, hv, hr⟩ := h0
  have g0 := pk_get hv
  have g1 := pk_get (show a.eval (.tmp s') = .int .i64 (i : Int) from h1)
  have hI : (i : Int) < 5 := by omega
  have hI0 : (0 : Int) ≤ (i : Int) := by omega
  simp [go_sem, leaves, g0, g1]
  rw [if_pos (by omega)]
  exact ⟨Below.refl _ _, b, rfl, hr⟩

theorem pk_loadV {n0 bs bo s j i : Nat} (hi : i ≤ 4) (hF : Fs.getD j Fct.any = plF n0 bs bo i) :
    stepF Tryd.prog Fs a0 W ⟨dst, .load 74 (.tmp s), ty, pos, after, none⟩ [(s, some j)] (vaF n0 bs bo i) := by
  refine .inl ⟨pk_none, fun a w hb hl => ?_⟩
  have h0 := hl.1
  rw [hF] at h0
  obtain ⟨b, hv, f0, f1, f2, f3, f4, hh, h0, h1, h2, h3, h4⟩ := h0
  have g0 := pk_get hv
  have hi : i = 0 ∨ i = 1 ∨ i = 2 ∨ i = 3 ∨ i = 4 := by omega
  have hc : ∃ f, w.cell? ⟨b, i, none⟩ = some f ∧ ValP n0 bs bo i f w := by
    rcases hi with rfl | rfl | rfl | rfl | rfl
    · exact ⟨f0, by simp [World.cell?, hh], h0⟩
    · exact ⟨f1, by simp [World.cell?, hh], h1⟩
    · exact ⟨f2, by simp [World.cell?, hh], h2⟩
    · exact ⟨f3, by simp [World.cell?, hh], h3⟩
    · exact ⟨f4, by simp [World.cell?, hh], h4⟩
  obtain ⟨f, hc, hf⟩ := hc
  simp [go_sem, leaves, g0, hc]
  exact ⟨Below.refl _ _, hf⟩

theorem pk_assign {n0 bs bo s j i : Nat} (hF : Fs.getD j Fct.any = vaF n0 bs bo i) :
    stepF Tryd.prog Fs a0 W ⟨dst, .assign (.tmp s), ty, pos, after, none⟩ [(s, some j)] (vaF n0 bs bo i) := by
  refine .inl ⟨pk_none, fun a w hb hl => ?_⟩
  have h0 := hl.1
  rw [hF] at h0
  have h0 : ValP n0 bs bo i (a.eval (.tmp s)) w := h0
  obtain ⟨k, cv, e⟩ := h0.cells
  rw [e] at h0
  have g0 := pk_get e
  simp [go_sem, leaves, g0]
  exact ⟨Below.refl _ _, h0⟩

end

theorem i64_num (a b : Int) : I64 (numI a b) := by
  unfold numI I64
  repeat' split
  all_goals omega

set_option maxHeartbeats 1000000 in
theorem valP_fn {n0 B bs bo r i : Nat} {l : List Sm} {n : List Int} {v : Value} {w : World} (hS : SyM w B bs l n) (ho : w.heap[bo]? = some (.cells #[ofV bs] 73)) (h1 : bs ≠ r) (h2 : bo ≠ r) (h3 : r < n0) (h4 : B ≤ r) (hi : i ≤ 4) (h : ValP n0 bs bo i v w) :
    FnC (byR l n (i : Int)) l.length (fun a => w.grownBy a (some r)) v := by
  have hent : ∀ a, w.grownBy a (some r) → SyM a B bs l n := fun a ha => hS.on ha h4 h1
  have hnum : FnC (fun f g => numI (f : Int) (g : Int)) l.length (fun a => w.grownBy a (some r)) numV :=
    ⟨fun _ _ => i64_num _ _, _, _, rfl, enters_of Tryd.func46 (by kernel_rfl) rfl, fun a _ x y _ _ => (cmpN_any (x : Int) (y : Int) a).mono fun e w' h => ⟨h.1, by rw [← h.2]; exact On.refl _⟩⟩
  have har : FnC (fun f g => numI (arP l f) (arP l g)) l.length (fun a => w.grownBy a (some r)) (arV bs) :=
    ⟨fun _ _ => i64_num _ _, _, _, rfl, enters_of Tryd.func47 (by kernel_rfl) rfl, fun a ha x y hx hy => byArity_any (hent a ha) hx hy⟩
  have hun : FnC (fun f g => numI (unI (arP l f)) (unI (arP l g))) l.length (fun a => w.grownBy a (some r)) (unV bs) :=
    ⟨fun _ _ => i64_num _ _, _, _, rfl, enters_of Tryd.func48 (by kernel_rfl) rfl, fun a ha x y hx hy => byUnary_any (hent a ha) hx hy⟩
  have hof : FnC (fun f g => numI (cnP n f) (cnP n g)) l.length (fun a => w.grownBy a (some r)) (ofV bs) :=
    ⟨fun _ _ => i64_num _ _, _, _, rfl, enters_of Tryd.func49 (by kernel_rfl) rfl, fun a ha x y hx hy => byOften_any (hent a ha) hx hy⟩
  have hse : FnC (fun f g => numI (cnP n g) (cnP n f)) l.length (fun a => w.grownBy a (some r)) (seV bo) :=
    ⟨fun _ _ => i64_num _ _, _, _, rfl, enters_of Tryd.func50 (by kernel_rfl) rfl, fun a ha x y hx hy => bySeldom_any (hent a ha) (by
      have := (cells_one (W := a) ((ha.block bo (Array.getElem?_eq_some_iff.1 ho).1 (by simpa using h2)).trans ho)).1
      exact this) hx hy⟩
  have hch : ∀ (rs : List (Nat → Nat → Int)) (vs : List Value), vs.length = rs.length → (∀ (i : Nat) q u, rs[i]? = some q → vs[i]? = some u → FnC q l.length (fun a => w.grownBy a (some r)) u) → 0 < rs.length → rs.length ≤ 3 → ChP n0 vs v w → FnC (fun x y => orI (rs.map fun q => q x y)) l.length (fun a => w.grownBy a (some r)) v := by
    intro rs vs hl hf hp h3' ⟨bt, bf, hv, hn1, hn2, hh1, hh2⟩
    refine ⟨fun x y => orI_i64 fun z hz => ?_, _, _, hv, enters_of Tryd.func76 (by kernel_rfl) rfl, fun a ha x y hx hy => ?_⟩
    · obtain ⟨q, hq, rfl⟩ := List.mem_map.1 hz
      obtain ⟨i, hi, he⟩ := List.getElem_of_mem hq
      exact (hf i q vs[i] (by rw [List.getElem?_eq_getElem hi, he]) (List.getElem?_eq_getElem (by omega))).1 x y
    · refine chain1_any (P := fun a => w.grownBy a (some r)) (bf := bf) (off := 0) (c := vs.length) (vs := vs) (fun a b h1 h2 => ⟨h2.b.os.trans h1.os, h2.b.tape.trans h1.tape, h2.b.output.trans h1.output, Nat.le_trans h1.size h2.b.size, fun k hk hne => (h2.b.block k (Nat.lt_of_lt_of_le hk h1.size)).trans (h1.block k hk hne)⟩) (fun a ha => ?_) hl hf h3' hx hy ha
      have g1 : a.heap[bt]? = some (.cells #[.slice (some ⟨bf, 0, none⟩) vs.length vs.length] 99) := (ha.block bt (Array.getElem?_eq_some_iff.1 hh1).1 (by simp; omega)).trans hh1
      have g2 : a.heap[bf]? = some (.cells vs.toArray 74) := (ha.block bf (Array.getElem?_eq_some_iff.1 hh2).1 (by simp; omega)).trans hh2
      refine ⟨by rw [(cells_one g1).1, hl], fun i u hu => ?_⟩
      simp [World.cell?, g2, hu]
  have hi : i = 0 ∨ i = 1 ∨ i = 2 ∨ i = 3 ∨ i = 4 := by omega
  have two : ∀ (q1 q2 : Nat → Nat → Int) (u1 u2 : Value), FnC q1 l.length (fun a => w.grownBy a (some r)) u1 → FnC q2 l.length (fun a => w.grownBy a (some r)) u2 → ∀ (i : Nat) q u, [q1, q2][i]? = some q → [u1, u2][i]? = some u → FnC q l.length (fun a => w.grownBy a (some r)) u := by
    intro q1 q2 u1 u2 g1 g2 i q u hq hu
    match i, hq, hu with
    | 0, hq, hu => simp at hq hu; subst hq hu; exact g1
    | 1, hq, hu => simp at hq hu; subst hq hu; exact g2
    | j + 2, hq, _ => simp at hq
  rcases hi with rfl | rfl | rfl | rfl | rfl
  · obtain rfl : v = numV := h
    exact hnum
  · have := hch [fun f g => numI (arP l f) (arP l g), fun f g => numI (f : Int) (g : Int)] [arV bs, numV] rfl (two _ _ _ _ har hnum) (by simp) (by simp) h
    exact this
  · have := hch [fun f g => numI (unI (arP l f)) (unI (arP l g)), fun f g => numI (arP l f) (arP l g), fun f g => numI (f : Int) (g : Int)] [unV bs, arV bs, numV] rfl (fun i q u hq hu => by
      match i, hq, hu with
      | 0, hq, hu => simp at hq hu; subst hq hu; exact hun
      | 1, hq, hu => simp at hq hu; subst hq hu; exact har
      | 2, hq, hu => simp at hq hu; subst hq hu; exact hnum
      | j + 3, hq, _ => simp at hq) (by simp) (by simp) h
    exact this
  · have := hch [fun f g => numI (cnP n f) (cnP n g), fun f g => numI (f : Int) (g : Int)] [ofV bs, numV] rfl (two _ _ _ _ hof hnum) (by simp) (by simp) h
    exact this
  · have := hch [fun f g => numI (cnP n g) (cnP n f), fun f g => numI (f : Int) (g : Int)] [seV bo, numV] rfl (two _ _ _ _ hse hnum) (by simp) (by simp) h
    exact this

end Go.Proofs.YtfnncphkidhbpaaDoor

/- prec: ranking's contract. -/

namespace Go.Proofs.YtfnncphkidhbpaaDoor

open Go Go.RowKit
set_option maxRecDepth 100000

theorem heap2p (w : World) (o1 o2 : Obj) : ((w.alloc o1).alloc o2).heap[w.heap.size]? = some o1 ∧ ((w.alloc o1).alloc o2).heap[w.heap.size + 1]? = some o2 := by
  have e1 := heap_alloc_new w o1
  have e2 := heap_alloc_new (w.alloc o1) o2
  have hz : (w.alloc o1).heap.size = w.heap.size + 1 := by simp
  rw [hz] at e2
  refine ⟨?_, e2⟩
  rw [Below.heap_alloc _ _ _ (by simp)]
  exact e1

set_option maxHeartbeats 4000000 in
theorem ranking_any {w : World} {B i : Nat} {l : List Sm} {n : List Int} {As Ac : Option Addr} {cs cc : Nat} (hB : B ≤ w.heap.size) (hlen : n.length = l.length) (hs : l.length ≤ 1000) (har : ∀ f, 0 ≤ arP l f ∧ arP l f ≤ 99) (hS : Syms w B As l.length l) (hI : Ints w B Ac n) (hi : i ≤ 4) :
    Calls Tryd.prog 26 #[.agg #[.slice As l.length cs, .slice Ac n.length cc], .int .i64 (i : Int)] w fun e w' => ∃ v, e = .returned v ∧ Below w.heap.size w w' ∧ ∀ r, B ≤ r → r < w.heap.size → FnC (byR l n (i : Int)) l.length (fun a => w'.grownBy a (some r)) v := by
  have HL := Lib.hid hlen
  obtain ⟨W1, hW1⟩ : ∃ W1, w.alloc (.cells #[.slice As l.length cs, .slice Ac n.length cc] 55) = W1 := ⟨_, rfl⟩
  have HW1 := Lib.hid hW1
  clear hlen hW1
  go_enter Tryd.func26, Tryd.ntmps26
  go_upto_region 4 with fail
  rw [HW1.out]
  go_upto_region 6 with fail
  obtain ⟨W2, hW2⟩ : ∃ W2, W1.alloc (.cells #[ofV w.heap.size] 73) = W2 := ⟨_, rfl⟩
  have HW2 := Lib.hid hW2
  have hW2' : W1.alloc (.cells #[.func (.func 49) #[] #[.pointer (some ⟨w.heap.size, 0, none⟩)]] 73) = W2 := hW2
  rw [hW2']
  have h2 : W2.drew.heap[W1.heap.size]? = some (.cells #[ofV w.heap.size] 73) := by rw [← hW2]; exact heap_alloc_new W1 _
  clear hW2 hW2'
  refine wp_region_facts 36 [[(5, none)], [(6, none)], [(5, none)], [(15, some 1), (16, some 2)], [(17, some 3)], [(7, none)], [(6, none)], [(5, none)], [(19, some 5), (20, some 6), (21, some 7)], [(22, some 8)], [(8, none)], [(5, none)], [(24, some 10), (25, some 11)], [(26, some 12)], [(9, none)], [(5, none)], [(28, some 14), (29, some 15)], [(30, some 16)], [(14, some 0), (18, some 4), (23, some 9), (27, some 13), (31, some 17)], [(1, none)], [(32, some 18), (33, some 19)], [(34, some 20)], [(35, some 21)]]
    [Fct.eq numV, Fct.eq (arV w.heap.size), Fct.eq numV, bsF W2.heap.size [arV w.heap.size, numV], vaF W2.heap.size w.heap.size W1.heap.size 1, Fct.eq (unV w.heap.size), Fct.eq (arV w.heap.size), Fct.eq numV, bsF W2.heap.size [unV w.heap.size, arV w.heap.size, numV], vaF W2.heap.size w.heap.size W1.heap.size 2,
      Fct.eq (ofV w.heap.size), Fct.eq numV, bsF W2.heap.size [ofV w.heap.size, numV], vaF W2.heap.size w.heap.size W1.heap.size 3, Fct.eq (seV W1.heap.size), Fct.eq numV, bsF W2.heap.size [seV W1.heap.size, numV], vaF W2.heap.size w.heap.size W1.heap.size 4, roF W2.heap.size w.heap.size W1.heap.size, Fct.eq (.int .i64 (i : Int)), plF W2.heap.size w.heap.size W1.heap.size i, vaF W2.heap.size w.heap.size W1.heap.size i, vaF W2.heap.size w.heap.size W1.heap.size i]
    (by kernel_rfl) (by kernel_rfl) (by kernel_rfl) ?_ ?_
  · exact ⟨pk_move rfl, pk_move rfl, pk_move rfl, pk_bs2 (Nat.le_refl _) rfl rfl, pk_chain (Nat.le_refl _) rfl fun _ _ h => h, pk_move rfl, pk_move rfl, pk_move rfl, pk_bs3 (Nat.le_refl _) rfl rfl rfl, pk_chain (Nat.le_refl _) rfl fun _ _ h => h,
      pk_load rfl h2 (fun _ => rfl), pk_move rfl, pk_bs2 (Nat.le_refl _) rfl rfl, pk_chain (Nat.le_refl _) rfl fun _ _ h => h, pk_move rfl, pk_move rfl, pk_bs2 (Nat.le_refl _) rfl rfl, pk_chain (Nat.le_refl _) rfl fun _ _ h => h, pk_bs5 rfl rfl rfl rfl rfl, pk_move rfl, pk_index hi rfl rfl, pk_loadV hi rfl, pk_assign rfl, trivial⟩
  · intro w' hb'
    refine finF_lastP (P := Tryd.prog) (d := 4) (p0 := vaF W2.heap.size w.heap.size W1.heap.size i) _ _ _ (by kernel_rfl) (Nat.lt_of_lt_of_eq (show 4 < 36 by decide) (by kernel_rfl)) ⟨_, rfl, rfl⟩ rfl ?_
    intro a' hd ha he
    have he : ValP W2.heap.size w.heap.size W1.heap.size i (a'.eval (.tmp 4)) w' := he
    obtain ⟨k, cv, ev⟩ := he.cells
    rw [ev] at he
    have hB1 : Below w.heap.size w W1 := by rw [← HW1.out]; exact (Below.refl _ _).alloc (Nat.le_refl _) _
    have hB2 : Below w.heap.size w W2 := by rw [← HW2.out]; exact hB1.alloc hB1.size _
    have hBd : Below W2.heap.size W2 w' := (Below.refl _ _).drew.trans hb'
    have hBw : Below w.heap.size w w' := hB2.trans (hBd.mono hB2.size)
    have z1 : W1.heap.size = w.heap.size + 1 := by rw [← HW1.out]; simp
    have z2 : W2.heap.size = W1.heap.size + 1 := by rw [← HW2.out]; simp
    have q1 : W1.heap[w.heap.size]? = some (.cells #[.slice As l.length cs, .slice Ac n.length cc] 55) := by rw [← HW1.out]; exact heap_alloc_new w _
    have q2 : W2.heap[w.heap.size]? = some (.cells #[.slice As l.length cs, .slice Ac n.length cc] 55) := by rw [← HW2.out]; rw [Below.heap_alloc _ _ _ (by omega)]; exact q1
    have q3 := (hBd.block w.heap.size (by omega)).trans q2
    have q4 : w'.heap[W1.heap.size]? = some (.cells #[ofV w.heap.size] 73) := (hBd.block W1.heap.size (by omega)).trans h2
    have hSy : SyM w' B w.heap.size l n := ⟨by have := hBw.size; have := hBd.size; omega, by have := hBw.size; omega, HL.out, hs, har, As, cs, Ac, cc, (cells_two q3).1, (cells_two q3).2.1, hS.keep fun p hp => hBw.cell (Nat.lt_of_lt_of_le hp hB), hI.keep fun p hp => hBw.cell (Nat.lt_of_lt_of_le hp hB)⟩
    have hfin := Lib.hid (show ∀ r, B ≤ r → r < w.heap.size → FnC (byR l n (i : Int)) l.length (fun a => w'.grownBy a (some r)) (.func (.func k) #[] cv) from fun r h1 h3 => valP_fn hSy q4 (by omega) (by omega) (by omega) h1 hi he)
    have HBw := Lib.hid hBw
    have hd2 : a'.defers = [] := hd
    have he2 := pk_get ev
    clear hd ha hb' h2 he hB1 hB2 hBd hBw z1 z2 q1 q2 q3 q4 hSy
    go_wp2
    exact bodyPost_ret (v := .func (.func k) #[] cv) (by simp [results, Tryd.results26, go_sem, he2]) hd2 ⟨_, rfl, HBw.out, hfin.out⟩

end Go.Proofs.YtfnncphkidhbpaaDoor

/- Symbols sorted by a way, in plain words. -/

namespace Go.Proofs.YtfnncphkidhbpaaDoor

open Go.RowKit Go.Shelf
set_option maxRecDepth 100000

/-- The numbers of symbols: those below m. -/
abbrev Nm (m : Nat) := {k : Nat // k < m + 1}

instance (m : Nat) : Inhabited (Nm m) := ⟨⟨0, by omega⟩⟩

def encN (m : Nat) (x : Nm m) : Value := .int .i64 (x.1 : Int)

def cfN (l : List Sm) (n : List Int) (b : Int) (m : Nat) (x y : Nm m) : Int := byR l n b x.1 y.1

theorem ltN {l : List Sm} {n : List Int} {b : Int} {m : Nat} (h0 : 0 ≤ b) (h4 : b ≤ 4) (hA : ∀ f, arP l f ≤ 99) (x y : Nm m) : ltOf (cfN l n b m) x y = abvR l n b y.1 x.1 := by
  unfold ltOf cfN
  rw [Bool.eq_iff_iff, decide_eq_true_iff]
  exact byR_abv h0 h4 hA x.1 y.1

theorem swoN {l : List Sm} {n : List Int} {b : Int} {m : Nat} (h0 : 0 ≤ b) (h4 : b ≤ 4) (hA : ∀ f, arP l f ≤ 99) : Sort.SWO (ltOf (cfN l n b m)) where
  irrefl x := by rw [ltN h0 h4 hA]; exact abvR_irr _ _ _ _
  trans x y z h1 h2 := by rw [ltN h0 h4 hA] at *; exact abvR_trans h2 h1
  ntrans x y z h1 h2 := by
    rw [ltN h0 h4 hA] at *
    apply Classical.byContradiction
    intro h3
    have h3 : abvR l n b z.1 x.1 = true := by simpa using h3
    by_cases hxy : y.1 = x.1
    · rw [← hxy, h2] at h3; exact absurd h3 (by decide)
    · have := abvR_trans h3 (abvR_tot h1 hxy)
      rw [h2] at this; exact absurd this (by decide)

theorem rise_of {l : List Sm} {n : List Int} {b : Int} {m : Nat} (h0 : 0 ≤ b) (h4 : b ≤ 4) (hA : ∀ f, arP l f ≤ 99) {d : Array (Nm m)} {r : List Nat} (hr : r.Nodup) (hp : (d.toList.map Subtype.val).Perm r) (hs : Sort.SortedIn (ltOf (cfN l n b m)) 0 d.size d) : (d.toList.map Subtype.val).Pairwise fun f g => abvR l n b g f = true := by
  have hn : (d.toList.map Subtype.val).Nodup := hp.nodup_iff.2 hr
  rw [List.pairwise_iff_getElem]
  intro i j hi hj hij
  have hi' : i < d.size := by simpa using hi
  have hj' : j < d.size := by simpa using hj
  have h1 := hs i j (Nat.zero_le _) hij hj'
  rw [ltN h0 h4 hA, getElem!_pos d i hi', getElem!_pos d j hj'] at h1
  have h2 : d[i].1 ≠ d[j].1 := by
    have := List.pairwise_iff_getElem.1 hn i j hi hj hij
    simpa using this
  have := abvR_tot h1 h2
  simpa using this

end Go.Proofs.YtfnncphkidhbpaaDoor

/- slices.SortFunc at ints: what it reaches, at this program, as the kit's tools print it. -/
namespace Go.Proofs
open Go.Shelf
def Tryd.sortI_ren : Go.Shelf.Ren := ⟨fun | 6 => 25 | 15 => 45 | 14 => 44 | 28 => 73 | 29 => 74 | 20 => 65 | 21 => 66 | 22 => 67 | 23 => 68 | 24 => 69 | 25 => 70 | 26 => 71 | 27 => 72 | 46 => 81 | 47 => 82 | 48 => 83 | 49 => 84 | 50 => 85 | 57 => 95 | n => n, fun | 22 => 22 | 24 => 3 | 25 => 73 | 3 => 3 | 39 => 97 | 0 => 0 | 53 => 118 | 55 => 120 | 4 => 4 | 46 => 111 | 45 => 110 | 50 => 115 | 5 => 5 | 9 => 9 | 66 => 125 | 70 => 91 | 76 => 136 | 77 => 137 | n => n, fun | n => n⟩
theorem Tryd.sortI : Go.Proofs.SlLaysF.n6 Tryd.prog Tryd.sortI_ren := {
  mixed := by kernel_rfl
  f6 := ⟨Tryd.f25.name, by decide, Tryd.func25.trans (congrArg some (by kernel_rfl))⟩
  f14 := ⟨Tryd.f44.name, by decide, Tryd.func44.trans (congrArg some (by kernel_rfl))⟩
  f15 := Tryd.func45.trans (congrArg some (by kernel_rfl))
  f20 := ⟨Tryd.f65.name, by decide, Tryd.func65.trans (congrArg some (by kernel_rfl))⟩
  f21 := ⟨Tryd.f66.name, by decide, Tryd.func66.trans (congrArg some (by kernel_rfl))⟩
  f22 := ⟨Tryd.f67.name, by decide, Tryd.func67.trans (congrArg some (by kernel_rfl))⟩
  f23 := ⟨Tryd.f68.name, by decide, Tryd.func68.trans (congrArg some (by kernel_rfl))⟩
  f24 := ⟨Tryd.f69.name, by decide, Tryd.func69.trans (congrArg some (by kernel_rfl))⟩
  f25 := ⟨Tryd.f70.name, by decide, Tryd.func70.trans (congrArg some (by kernel_rfl))⟩
  f26 := ⟨Tryd.f71.name, by decide, Tryd.func71.trans (congrArg some (by kernel_rfl))⟩
  f27 := ⟨Tryd.f72.name, by decide, Tryd.func72.trans (congrArg some (by kernel_rfl))⟩
  f28 := Tryd.func73.trans (congrArg some (by kernel_rfl))
  f29 := Tryd.func74.trans (congrArg some (by kernel_rfl))
  f46 := ⟨Tryd.f81.name, by decide, Tryd.func81.trans (congrArg some (by kernel_rfl))⟩
  f47 := Tryd.func82.trans (congrArg some (by kernel_rfl))
  f48 := Tryd.func83.trans (congrArg some (by kernel_rfl))
  f49 := ⟨Tryd.f84.name, by decide, Tryd.func84.trans (congrArg some (by kernel_rfl))⟩
  f50 := ⟨Tryd.f85.name, by decide, Tryd.func85.trans (congrArg some (by kernel_rfl))⟩
  f57 := ⟨Tryd.f95.name, by decide, Tryd.func95.trans (congrArg some (by kernel_rfl))⟩
  t0 := Tryd.underlying0
  a0 := Tryd.isAgg0
  z0 := Tryd.sizeOf0
  v0 := Tryd.zeroValue0
  t3 := Tryd.underlying3
  a3 := Tryd.isAgg3
  z3 := Tryd.sizeOf3
  v3 := Tryd.zeroValue3
  t4 := Tryd.underlying4
  a4 := Tryd.isAgg4
  z4 := Tryd.sizeOf4
  v4 := Tryd.zeroValue4
  t5 := Tryd.underlying5
  a5 := Tryd.isAgg5
  z5 := Tryd.sizeOf5
  v5 := Tryd.zeroValue5
  t9 := Tryd.underlying9
  a9 := Tryd.isAgg9
  z9 := Tryd.sizeOf9
  v9 := Tryd.zeroValue9
  t22 := Tryd.underlying22
  a22 := Tryd.isAgg22
  z22 := Tryd.sizeOf22
  v22 := Tryd.zeroValue22
  a24 := Tryd.isAgg3
  z24 := Tryd.sizeOf3
  t25 := Tryd.underlying73
  a25 := Tryd.isAgg73
  z25 := Tryd.sizeOf73
  v25 := Tryd.zeroValue73
  t39 := Tryd.underlying97
  a39 := Tryd.isAgg97
  z39 := Tryd.sizeOf97
  v39 := Tryd.zeroValue97
  t45 := Tryd.underlying110
  a45 := Tryd.isAgg110
  z45 := Tryd.sizeOf110
  v45 := Tryd.zeroValue110
  t46 := Tryd.underlying111
  a46 := Tryd.isAgg111
  z46 := Tryd.sizeOf111
  v46 := Tryd.zeroValue111
  t50 := Tryd.underlying115
  a50 := Tryd.isAgg115
  z50 := Tryd.sizeOf115
  v50 := Tryd.zeroValue115
  t53 := Tryd.underlying118
  a53 := Tryd.isAgg118
  z53 := Tryd.sizeOf118
  v53 := Tryd.zeroValue118
  t55 := Tryd.underlying120
  a55 := Tryd.isAgg120
  z55 := Tryd.sizeOf120
  v55 := Tryd.zeroValue120
  t66 := Tryd.underlying125
  a66 := Tryd.isAgg125
  z66 := Tryd.sizeOf125
  v66 := Tryd.zeroValue125
  t70 := Tryd.underlying91
  a70 := Tryd.isAgg91
  z70 := Tryd.sizeOf91
  v70 := Tryd.zeroValue91
  t76 := Tryd.underlying136
  a76 := Tryd.isAgg136
  z76 := Tryd.sizeOf136
  v76 := Tryd.zeroValue136
  t77 := Tryd.underlying137
  a77 := Tryd.isAgg137
  z77 := Tryd.sizeOf137
  v77 := Tryd.zeroValue137 }
end Go.Proofs

/- prec: symbols sorted by a way. -/

namespace Go.Proofs.YtfnncphkidhbpaaDoor

open Go Go.RowKit Go.Shelf
set_option maxRecDepth 100000

theorem sortW_blk {α : Type} {enc : α → Value} {w : World} {g off n : Nat} {d : Array α} {os : Array Obj} {cur : Array Value} {e : TypeId} [Inhabited α] (hg : w.heap[g]? = some (.cells cur e (0, 0))) :
    (sortWorld enc w g off n d os).heap[g]? = some (.cells (Sort.putCells enc off d cur) e (0, 0)) ∧ w.grownBy (sortWorld enc w g off n d os) (some g) := by
  have hlt := (Array.getElem?_eq_some_iff.1 hg).1
  refine ⟨?_, rfl, rfl, rfl, ?_, fun k hk hne => ?_⟩
  · unfold sortWorld Sort.grow Sort.putRow Sort.mapBlock Sort.ahead
    simp only
    rw [Array.getElem?_append_left (by simpa using hlt), Array.getElem?_modify, if_pos rfl, hg]
    rfl
  · unfold sortWorld Sort.grow Sort.putRow Sort.mapBlock Sort.ahead
    simp
  · unfold sortWorld Sort.grow Sort.putRow Sort.mapBlock Sort.ahead
    simp only
    rw [Array.getElem?_append_left (by simpa using hk), Array.getElem?_modify, if_neg (fun e => hne (by rw [e]))]

/-- All symbols but $true, in order. -/
def numsN (m : Nat) : Array (Nm m) := Array.ofFn fun k : Fin m => ⟨k.1 + 1, by omega⟩

theorem numsN_size (m : Nat) : (numsN m).size = m := by simp [numsN]

theorem numsN_vals (m : Nat) : (numsN m).toList.map Subtype.val = List.range' 1 m := by
  apply List.ext_getElem
  · simp [numsN]
  · intro i h1 h2
    simp [numsN]
    omega

set_option maxHeartbeats 2000000 in
theorem sortN_any {l : List Sm} {n : List Int} {i m g c : Nat} {v : Value} {w : World} (hi : i ≤ 4) (hA : ∀ f, arP l f ≤ 99) (hm : m ≤ 1000) (hf : FnC (byR l n (i : Int)) (m + 1) (fun a => w.grownBy a (some g)) v)
    (hg : w.heap[g]? = some (.cells ((List.range (m + 1)).map fun (k : Nat) => Value.int .i64 (k : Int)).toArray 3)) :
    Calls Tryd.prog 25 #[.slice (some ⟨g, 1, none⟩) m c, v] w fun e w' => e = .returned (.tuple #[]) ∧ ∃ s : List Nat, s.Perm (List.range' 1 m) ∧ (s.Pairwise fun f q => abvR l n (i : Int) q f = true) ∧ w.grownBy w' (some g) ∧
      w'.heap[g]? = some (.cells ((0 :: s).map fun (k : Nat) => Value.int .i64 (k : Int)).toArray 3) := by
  obtain ⟨_, k, cv, rfl, hent, hcall⟩ := hf
  have hlt := (Array.getElem?_eq_some_iff.1 hg).1
  have hO := swoN (l := l) (n := n) (b := (i : Int)) (m := m) (by omega) (by omega) hA
  have hH : Sort.Holds (encN m) w g 1 (numsN m) := by
    intro j hj
    rw [numsN_size] at hj
    have e1 : (numsN m)[j]! = ⟨j + 1, by omega⟩ := by rw [getElem!_pos _ j (by rw [numsN_size]; exact hj)]; simp [numsN]
    rw [e1]
    refine ⟨?_, ?_⟩
    · have hj2 : 1 + j < m + 1 := by omega
      simp only [World.cell?, hg, encN]
      rw [List.getElem?_toArray, List.getElem?_map, List.getElem?_range hj2]
      simp [Nat.add_comm]
    · simp [World.frozen?, hg]
  have hcmp : CmpLays1 Tryd.prog k cv (encN m) (cfN l n (i : Int) m) g 1 (numsN m).size w := fun mm os dk _ x y =>
    (hcall _ (sortW_blk hg).2 x.1 y.1 x.2 y.2).mono fun e w' h => ⟨h.1, h.2.grown⟩
  have h := Any.slices_SortFunc Tryd.sortI (encN m) (fun _ => rfl) (cfN l n (i : Int) m) hO k cv g 1 c (numsN m) w hent hcmp hH hlt (by rw [numsN_size]; omega)
  rw [numsN_size] at h
  refine Calls.mono (show Calls Tryd.prog 25 #[.slice (some ⟨g, 1, none⟩) m c, .func (.func k) #[] cv] w _ from h) ?_
  rintro e w' ⟨he, d, q, os, hp, hs, rfl⟩
  have hds : d.size = m := by have := hp.1; rwa [numsN_size] at this
  have hperm : (d.toList.map Subtype.val).Perm (List.range' 1 m) := by
    rw [← numsN_vals]
    refine List.Perm.map _ ?_
    have := hp.2.2
    have x0 : ∀ (a : Array (Nm m)) (k : Nat), a.size = k → a.extract 0 k = a := fun a k h => by subst h; exact Array.extract_size
    rwa [x0 d _ hds, x0 (numsN m) _ (numsN_size m)] at this
  refine ⟨he, d.toList.map Subtype.val, hperm, rise_of (by omega) (by omega) hA (List.nodup_range' (step := 1)) hperm (by rw [hds]; exact hs), (sortW_blk hg).2, ?_⟩
  rw [(sortW_blk hg).1]
  congr 2
  apply Array.ext_getElem?
  intro t
  unfold Sort.putCells
  rw [Array.getElem?_mapIdx, List.getElem?_toArray, List.getElem?_toArray, List.getElem?_map, List.getElem?_map]
  rcases Nat.lt_or_ge t (m + 1) with ht | ht
  · rw [List.getElem?_range ht]
    simp only [Option.map_some]
    rcases Nat.eq_zero_or_pos t with h0 | h0
    · subst h0
      rw [if_neg (by omega)]; rfl
    · obtain ⟨t', rfl⟩ : ∃ t', t = t' + 1 := ⟨t - 1, by omega⟩
      have ht' : t' < d.size := by omega
      rw [if_pos (by omega), List.getElem?_cons_succ, List.getElem?_map, Array.getElem?_toList, Array.getElem?_eq_getElem ht', show t' + 1 - 1 = t' by omega, getElem!_pos d t' ht']
      rfl
  · rw [List.getElem?_eq_none (by simpa using ht), List.getElem?_eq_none (by simp; omega)]
    rfl

end Go.Proofs.YtfnncphkidhbpaaDoor

/- A region that draws its order, whose operations make memory and call (RX), with operations behind them that wait for all ahead of them: stores. -/

namespace Go.Proofs.YtfnncphkidhbpaaDoor

open Go Go.RowKit

/-- The operations behind the others, one after another. -/
def tailWp (P : Program) (Q : Exit → Act → World → Prop) : List Oper → Act → World → Prop
  | [], a, w => Q .normal a w
  | o :: l, a, w => o.wp P a w (tailWp P Q l) Q

def waits (o : Oper) (j : Nat) : Bool := o.after.any fun e => Region.binds .any e && e.on == j

/-- Each of the later ones waits for all ahead of it. -/
def lateF (l l2 : List Oper) : Bool :=
  l2.zipIdx.all fun (o, i) => o.guard.isNone && o.after.all (fun e => !Region.binds .any e || decide (e.on < l.length + i)) &&
    ((List.range l.length).all fun j => waits o j || l.zipIdx.any fun (o', j') => waits o j' && waits o' j) && ((List.range i).all fun k => waits o (l.length + k))

structure LateF (l l2 : List Oper) : Prop where
  gd : ∀ (i : Nat) (o : Oper), l2[i]? = some o → o.guard = none
  ac : ∀ (i : Nat) (o : Oper), l2[i]? = some o → ∀ e ∈ o.after, Region.binds .any e = true → e.on < l.length + i
  al : ∀ (i : Nat) (o : Oper), l2[i]? = some o → ∀ j, j < l.length → waits o j = true ∨ ∃ (j' : Nat) (o' : Oper), l[j']? = some o' ∧ waits o j' = true ∧ waits o' j = true
  sq : ∀ (i : Nat) (o : Oper), l2[i]? = some o → ∀ k, k < i → waits o (l.length + k) = true

theorem lateF_spec {l l2 : List Oper} (h : lateF l l2 = true) : LateF l l2 := by
  unfold lateF at h
  rw [List.all_eq_true] at h
  have hz : ∀ (i : Nat) (o : Oper), l2[i]? = some o → (o, i) ∈ l2.zipIdx := fun i o e => by
    rw [List.mem_zipIdx_iff_getElem?]; exact e
  refine ⟨fun i o e => ?_, fun i o e x hx hb => ?_, fun i o e j hj => ?_, fun i o e k hk => ?_⟩
  all_goals
    have h1 := h _ (hz i o e)
    simp only [Bool.and_eq_true] at h1
    obtain ⟨⟨⟨h1, h2⟩, h3⟩, h4⟩ := h1
  · simpa using h1
  · have := Array.all_eq_true_iff_forall_mem.1 h2 x hx
    simpa [hb] using this
  · have := List.all_eq_true.1 h3 j (List.mem_range.2 hj)
    rw [Bool.or_eq_true] at this
    rcases this with h | h
    · exact .inl h
    · obtain ⟨⟨o', j'⟩, hm, h⟩ := List.any_eq_true.1 h
      rw [List.mem_zipIdx_iff_getElem?] at hm
      simp only [Bool.and_eq_true] at h
      exact .inr ⟨j', o', hm, h.1, h.2⟩
  · exact List.all_eq_true.1 h4 k (List.mem_range.2 hk)

theorem waits_spec {o : Oper} {j : Nat} (h : waits o j = true) : ∃ e ∈ o.after, Region.binds .any e = true ∧ e.on = j := by
  obtain ⟨e, he, hb⟩ := Array.any_eq_true'.1 h
  simp only [Bool.and_eq_true, beq_iff_eq] at hb
  exact ⟨e, he, hb.1, hb.2⟩

/-- One operation, with what is said of all slots together (R). -/
def stepG (P : Program) (R : Act → World → Prop) (n : Nat) (Fs : List Fct) (a0 : Act) (W : World) (o : Oper) (ds : List (Nat × Option Nat)) (p : Fct) : Prop :=
  o.guard = none ∧ ∀ (a : Act) (w : World), Below W.heap.size W w → a.tmps.size = n → lookF Fs a0 a w ds → R a w → leaves P (fun v w' => Below w.heap.size w w' ∧ p.p v w' ∧ R (a.put o.dst v) w') ((execOp a.eval o).run P w)

def stepsG (P : Program) (R : Act → World → Prop) (n : Nat) (Fs : List Fct) (a0 : Act) (W : World) : List Oper → List (List (Nat × Option Nat)) → List Fct → Prop
  | o :: l, ds :: dl, p :: pl => stepG P R n Fs a0 W o ds p ∧ stepsG P R n Fs a0 W l dl pl
  | [], [], [] => True
  | _, _, _ => False

theorem stepsG_get {P : Program} {R : Act → World → Prop} {n : Nat} {Fs : List Fct} {a0 : Act} {W : World} : ∀ {l : List Oper} {dl : List (List (Nat × Option Nat))} {pl : List Fct}, stepsG P R n Fs a0 W l dl pl → ∀ (i : Nat) (o : Oper), l[i]? = some o → ∃ ds p, dl[i]? = some ds ∧ pl[i]? = some p ∧ stepG P R n Fs a0 W o ds p
  | o :: l, ds :: dl, p :: pl, h, 0, o', ho => by
    simp at ho
    subst ho
    exact ⟨ds, p, rfl, rfl, h.1⟩
  | o :: l, ds :: dl, p :: pl, h, i + 1, o', ho => stepsG_get h.2 i o' (by simpa using ho)
  | [], [], [], _, i, o', ho => by simp at ho
  | [], [], _ :: _, h, _, _, _ => h.elim
  | [], _ :: _, _, h, _, _, _ => h.elim
  | _ :: _, [], _, h, _, _, _ => h.elim
  | _ :: _, _ :: _, [], h, _, _, _ => h.elim

/-- What holds however far the first part is. -/
structure InvG (R : Act → World → Prop) (n : Nat) (Fs : List Fct) (l l2 : List Oper) (a0 : Act) (W : World) (listed : Array Bool) (a : Act) (w : World) : Prop where
  ls : listed.size = (l ++ l2).toArray.size
  nl : ∀ j, l.length ≤ j → listed.getD j false = false
  cl : ∀ j o, l[j]? = some o → listed.getD j false = true → ∀ e ∈ o.after, Region.binds .any e = true → listed.getD e.on false = true
  bl : Below W.heap.size W w
  sz : a.tmps.size = n
  df : a.defers = a0.defers
  ot : ∀ t, (∀ o ∈ l, o.dst ≠ some t) → a.tmps[t]? = a0.tmps[t]?
  fs : ∀ j o d, l[j]? = some o → o.dst = some d → listed.getD j false = true → (Fs.getD j Fct.any).p (a.eval (.tmp d)) w
  rr : R a w

structure InvH (P : Program) (Q : Exit → Act → World → Prop) (l l2 : List Oper) (j : Nat) (listed : Array Bool) (a : Act) (w : World) : Prop where
  ls : listed.size = (l ++ l2).toArray.size
  jl : j ≤ l2.length
  yes : ∀ i, i < l.length + j → listed.getD i false = true
  no : ∀ i, l.length + j ≤ i → listed.getD i false = false
  go : tailWp P Q (l2.drop j) a w

section

variable {P : Program} {Q : Exit → Act → World → Prop}

theorem getD_put {listed : Array Bool} {i j : Nat} (h : i < listed.size) : (listed.setIfInBounds i true).getD j false = true ↔ (j = i ∨ listed.getD j false = true) := by
  by_cases e : j = i
  · subst e; simp [h]
  · rw [getD_set_ne false (Ne.symm e)]; simp [e]

theorem wp_region_facts2 {id : Nat} {a : Act} {w : World} {l l2 : List Oper} (R : Act → World → Prop) (n : Nat) (dl : List (List (Nat × Option Nat))) (Fs : List Fct) (hm : P.follows .mixedOrders = true) (hk : kindF n l dl = true) (hL : lateF l l2 = true) (hn : a.tmps.size = n)
    (hR : R a w.drew) (h : stepsG P R n Fs a w.drew l dl Fs) (hf : ∀ w', Below w.drew.heap.size w.drew w' → finF (fun a' w'' => R a' w'' → tailWp P Q l2 a' w'') w' l Fs a) : (Code.region id (l ++ l2).toArray true).wp P Q a w := by
  have K := kindF_spec hk
  have L := lateF_spec hL
  have hlen : l.length = Fs.length := by
    have : ∀ (l : List Oper) (dl : List (List (Nat × Option Nat))) (pl : List Fct), stepsG P R n Fs a w.drew l dl pl → l.length = pl.length := by
      intro l
      induction l with
      | nil =>
        intro dl pl h
        match dl, pl, h with
        | [], [], _ => rfl
        | [], _ :: _, h => exact h.elim
        | _ :: _, _, h => exact h.elim
      | cons o l ih =>
        intro dl pl h
        match dl, pl, h with
        | ds :: dl, p :: pl, h => simp only [List.length_cons]; rw [ih dl pl h.2]
        | [], _, h => exact h.elim
        | _ :: _, [], h => exact h.elim
    exact this l dl _ h
  have hop1 : ∀ i, i < l.length → (l ++ l2).toArray[i]? = l[i]? := fun i hi => by
    rw [List.getElem?_toArray, List.getElem?_append_left hi]
  have hop2 : ∀ i, l.length ≤ i → (l ++ l2).toArray[i]? = l2[i - l.length]? := fun i hi => by
    rw [List.getElem?_toArray, List.getElem?_append_right hi]
  have htot : (l ++ l2).toArray.size = l.length + l2.length := by simp
  -- what all listed gives
  have hfinish : ∀ listed a' w', InvG R n Fs l l2 a w.drew listed a' w' → (∀ j, j < l.length → listed.getD j false = true) → tailWp P Q l2 a' w' := fun listed a' w' hI hall => by
    refine (finF_of (Fs := Fs) (Q := fun a' w'' => R a' w'' → tailWp P Q l2 a' w'') (w := w') (a := a') l Fs a (hf w' hI.bl) hI.df (by rw [hI.sz, hn]) hlen hI.ot fun i o p d e1 e2 e3 => ⟨by rw [hI.sz]; exact K.dn i o d e1 e3, ?_⟩) hI.rr
    have := hI.fs i o d e1 e3 (hall i (List.getElem?_eq_some_iff.1 e1).1)
    simpa [e2] using this
  -- a later one that is ready: it is the next one
  have htail : ∀ (j : Nat) listed a' w' i, InvH P Q l l2 j listed a' w' → i ∈ Region.ready .any (l ++ l2).toArray listed → wpOp P (l ++ l2).toArray Q i (fun a'' w'' => ∃ j', InvH P Q l l2 j' (listed.setIfInBounds i true) a'' w'') a' w' := by
    intro j listed a' w' i hI hi
    obtain ⟨h0, o, ho, haf⟩ := mem_ready.1 hi
    have hlt : i < listed.size := by rw [hI.ls]; exact (Array.getElem?_eq_some_iff.1 ho).1
    have hi0 : listed.getD i false = false := by simpa [hlt] using h0
    have hge : l.length + j ≤ i := by
      rcases Nat.lt_or_ge i (l.length + j) with h1 | h1
      · rw [hI.yes i h1] at hi0; cases hi0
      · exact h1
    have ho2 : l2[i - l.length]? = some o := by rw [← hop2 i (by omega)]; exact ho
    have heq : i = l.length + j := by
      rcases Nat.eq_or_lt_of_le hge with e | e
      · exact e.symm
      · exfalso
        obtain ⟨x, hx, hb, hon⟩ := waits_spec (L.sq (i - l.length) o ho2 j (by omega))
        have := haf x hx hb
        rw [hon, hI.no _ (Nat.le_refl _)] at this
        cases this
    subst heq
    rw [show l.length + j - l.length = j by omega] at ho2
    have hjl := (List.getElem?_eq_some_iff.1 ho2).1
    have hdrop : l2.drop j = o :: l2.drop (j + 1) := by
      rw [List.drop_eq_getElem_cons hjl]
      congr 1
      exact (List.getElem?_eq_some_iff.1 ho2).2
    have hgo := hI.go
    rw [hdrop] at hgo
    unfold wpOp
    simp only [ho]
    have hw : Region.wanted o (yielded (l ++ l2).toArray a'.tmps) = true := by
      unfold Region.wanted
      rw [L.gd j o ho2]
    simp only [hw, if_true]
    refine .inl (Oper.wp_mono (fun a'' w'' h1 => ⟨j + 1, by simpa using hI.ls, by omega, fun i' hi' => ?_, fun i' hi' => ?_, h1⟩) hgo)
    · rw [getD_put hlt]
      by_cases e : i' = l.length + j
      · exact .inl e
      · exact .inr (hI.yes i' (by omega))
    · rw [getD_set_ne false (by omega)]
      exact hI.no i' (by omega)
  have hstepA : ∀ listed a' w' i, InvG R n Fs l l2 a w.drew listed a' w' → i ∈ Region.ready .any (l ++ l2).toArray listed → i < l.length → wpOp P (l ++ l2).toArray Q i (fun a'' w'' => InvG R n Fs l l2 a w.drew (listed.setIfInBounds i true) a'' w'') a' w' := by
    intro listed a' w' i hI hi hil
    obtain ⟨h0, o, ho, haf⟩ := mem_ready.1 hi
    have ho' : l[i]? = some o := by rw [← hop1 i hil]; exact ho
    have hlt0 : i < listed.size := by rw [hI.ls, htot]; omega
    obtain ⟨ds, p, hds, hp, hst⟩ := stepsG_get h i o ho'
    have hpF : Fs.getD i Fct.any = p := by simp [hp]
    have hnew : ∀ v w'', Below w'.heap.size w' w'' → p.p v w'' → R (a'.put o.dst v) w'' → InvG R n Fs l l2 a w.drew (listed.setIfInBounds i true) (a'.put o.dst v) w'' := fun v w'' hb hpv hRv => by
      refine ⟨by simpa using hI.ls, fun j hj => ?_, fun j o1 hj hl e he hbd => ?_, hI.bl.trans (hb.mono hI.bl.size), ?_, ?_, fun t ht => ?_, fun j o1 d hj hd hl => ?_, hRv⟩
      · rw [getD_set_ne false (by omega)]; exact hI.nl j hj
      · rw [getD_put hlt0] at hl ⊢
        rcases hl with rfl | hl
        · obtain rfl : o1 = o := by rw [ho'] at hj; injection hj with hj; exact hj.symm
          exact .inr (haf e he hbd)
        · exact .inr (hI.cl j o1 hj hl e he hbd)
      · rw [← hI.sz]; cases o.dst <;> simp [Act.put]
      · rw [← hI.df]; cases o.dst <;> simp [Act.put]
      · rw [← hI.ot t ht]
        cases hd : o.dst with
        | none => rfl
        | some d =>
          have hne : d ≠ t := fun e => ht o (List.mem_of_getElem? ho') (by rw [hd, e])
          simp [Act.put, Array.getElem?_setIfInBounds_ne hne]
      · by_cases hji : j = i
        · subst hji
          obtain rfl : o1 = o := by rw [ho'] at hj; injection hj with hj; exact hj.symm
          rw [hpF, hd]
          have hlt : d < a'.tmps.size := by rw [hI.sz]; exact K.dn j o1 d hj hd
          have : (a'.put (some d) v).eval (.tmp d) = v := by simp [Act.put, Act.eval, hlt]
          rw [this]
          exact hpv
        · have hl' : listed.getD j false = true := by rwa [getD_set_ne false (Ne.symm hji)] at hl
          have h1 := (Fs.getD j Fct.any).st (hI.fs j o1 d hj hd hl') hb
          have : (a'.put o.dst v).eval (.tmp d) = a'.eval (.tmp d) := by
            cases hd' : o.dst with
            | none => rfl
            | some d' =>
              refine Act.eval_put fun x hx e => ?_
              injection hx with hx
              injection e with e
              exact hji (K.un j o1 i o d hj ho' hd (by rw [hd', hx, e]))
          rw [this]
          exact h1
    have hlisted : ∀ j o1 d, l[j]? = some o1 → o1.dst = some d → (∃ e ∈ o.after, Region.binds .any e = true ∧ e.on = j) → (Fs.getD j Fct.any).p (a'.eval (.tmp d)) w' := fun j o1 d hj hd ⟨e, he, hb, hej⟩ =>
      hI.fs j o1 d hj hd (by rw [← hej]; exact haf e he hb)
    unfold wpOp
    simp only [ho]
    obtain ⟨hgn, hgo⟩ := hst
    have hw : Region.wanted o (yielded (l ++ l2).toArray a'.tmps) = true := by
      unfold Region.wanted
      rw [hgn]
    simp only [hw, if_true]
    refine .inl (leaves_wp (hgo a' w' hI.bl hI.sz (lookF_of (l := l) (o := o) ds fun t s hts => ?_) hI.rr) fun v w'' ⟨hb, hpv, hRv⟩ => hnew v w'' hb hpv hRv)
    have h3 := K.lk i o ds t s ho' hds hts
    cases s with
    | none =>
      have := hI.ot t h3
      simp only [Act.eval, Array.getD_eq_getD_getElem?, this]
    | some j =>
      obtain ⟨o1, hj, hd, he⟩ := h3
      exact hlisted j o1 t hj hd he
  -- a later one is ready: all of the first part is listed
  have hallA : ∀ listed a' w' i, InvG R n Fs l l2 a w.drew listed a' w' → i ∈ Region.ready .any (l ++ l2).toArray listed → l.length ≤ i → ∀ j, j < l.length → listed.getD j false = true := fun listed a' w' i hI hi hge j hj => by
    obtain ⟨h0, o, ho, haf⟩ := mem_ready.1 hi
    have ho2 : l2[i - l.length]? = some o := by rw [← hop2 i hge]; exact ho
    rcases L.al _ o ho2 j hj with h1 | ⟨j', o', hj', h1, h2⟩
    · obtain ⟨e, he, hb, hon⟩ := waits_spec h1
      rw [← hon]; exact haf e he hb
    · obtain ⟨e, he, hb, hon⟩ := waits_spec h1
      obtain ⟨e2, he2, hb2, hon2⟩ := waits_spec h2
      have h3 := haf e he hb
      rw [hon] at h3
      rw [← hon2]; exact hI.cl j' o' hj' h3 e2 he2 hb2
  have hAH : ∀ listed a' w', InvG R n Fs l l2 a w.drew listed a' w' → (∀ j, j < l.length → listed.getD j false = true) → InvH P Q l l2 0 listed a' w' := fun listed a' w' hI hall =>
    ⟨hI.ls, Nat.zero_le _, fun i hi => hall i (by omega), fun i hi => hI.nl i (by omega), by rw [List.drop_zero]; exact hfinish listed a' w' hI hall⟩
  refine wp_region_any hm (wpAny_inv (fun listed a' w' => InvG R n Fs l l2 a w.drew listed a' w' ∨ ∃ j, InvH P Q l l2 j listed a' w') (fun _ _ _ hI => hI.elim (fun h => h.ls) fun ⟨_, h⟩ => h.ls) (fun listed a' w' i hI hi => ?_) (fun listed a' w' hI hr => ?_) (fun listed hs hc => ?_) _ _ a w.drew ?_ (.inl ⟨by simp, fun j hj => ?_, fun j o hj hl => ?_, Below.refl _ _, hn, rfl, fun _ _ => rfl, fun j o d hj hd hl => ?_, hR⟩))
  · rcases hI with hI | ⟨j, hI⟩
    · rcases Nat.lt_or_ge i l.length with hil | hge
      · exact wpOp_mono (fun _ _ h => .inl h) (hstepA listed a' w' i hI hi hil)
      · exact wpOp_mono (fun _ _ h => .inr h) (htail 0 listed a' w' i (hAH listed a' w' hI (hallA listed a' w' i hI hi hge)) hi)
    · exact wpOp_mono (fun _ _ h => .inr h) (htail j listed a' w' i hI hi)
  · have hH : ∃ j, InvH P Q l l2 j listed a' w' := by
      rcases hI with hI | h
      · refine ⟨0, hAH listed a' w' hI ?_⟩
        have hall : ∀ j o, l[j]? = some o → listed.getD j false = true := by
          intro j
          induction j using Nat.strongRecOn with
          | _ j ih =>
            intro o hj
            cases hl : listed.getD j false with
            | true => rfl
            | false =>
              have hjl := (List.getElem?_eq_some_iff.1 hj).1
              have : j ∈ Region.ready .any (l ++ l2).toArray listed := by
                refine mem_ready.2 ⟨?_, o, by rw [hop1 j hjl]; exact hj, fun e he hb => ?_⟩
                · have hlt : j < listed.size := by rw [hI.ls, htot]; omega
                  simpa [hlt] using hl
                · have h1 := K.ac j o hj e he hb
                  exact ih e.on h1 _ (List.getElem?_eq_getElem (by omega))
              rw [hr] at this
              cases this
        exact fun j hj => hall j _ (List.getElem?_eq_getElem hj)
      · exact h
    obtain ⟨j, hI⟩ := hH
    by_cases hjl : j < l2.length
    · exfalso
      have : l.length + j ∈ Region.ready .any (l ++ l2).toArray listed := by
        refine mem_ready.2 ⟨?_, l2[j], by rw [hop2 _ (by omega), show l.length + j - l.length = j by omega, List.getElem?_eq_getElem hjl], fun e he hb => ?_⟩
        · have hlt : l.length + j < listed.size := by rw [hI.ls, htot]; omega
          have := hI.no (l.length + j) (Nat.le_refl _)
          simpa [hlt] using this
        · exact hI.yes e.on (L.ac j _ (List.getElem?_eq_getElem hjl) e he hb)
      rw [hr] at this
      cases this
    · have hgo := hI.go
      rw [List.drop_eq_nil_of_le (by omega)] at hgo
      exact hgo
  · refine List.eq_nil_iff_forall_not_mem.2 fun i hi => ?_
    obtain ⟨h0, o, ho, _⟩ := mem_ready.1 hi
    have hlt : i < listed.size := by rw [hs]; exact (Array.getElem?_eq_some_iff.1 ho).1
    have hf' : listed.toList[i]'(by simpa using hlt) = false := by simpa [hlt] using h0
    have : 0 < listed.toList.count false := List.count_pos_iff.2 (by rw [← hf']; exact List.getElem_mem _)
    omega
  · simp
  · rw [Array.getD_eq_getD_getElem?, Array.getElem?_replicate]
    split <;> rfl
  · exfalso
    rw [Array.getD_eq_getD_getElem?, Array.getElem?_replicate] at hl
    split at hl <;> cases hl
  · exfalso
    rw [Array.getD_eq_getD_getElem?, Array.getElem?_replicate] at hl
    split at hl <;> cases hl

/-- Boxed, so that no tactic looks inside. -/
structure TailS (P : Program) (Q : Exit → Act → World → Prop) (l : List Oper) (a : Act) (w : World) : Prop where
  go : tailWp P Q l a w

structure FinS (Q : Act → World → Prop) (w : World) (l : List Oper) (pl : List Fct) (a : Act) : Prop where
  go : finF Q w l pl a

theorem finF_mono {Q Q' : Act → World → Prop} (h : ∀ a w, Q a w → Q' a w) {w : World} : ∀ (l : List Oper) (pl : List Fct) (a : Act), finF Q w l pl a → finF Q' w l pl a
  | [], pl, a, hf => by unfold finF at *; exact h _ _ hf
  | o :: l, [], a, hf => by unfold finF at *; exact h _ _ hf
  | o :: l, p :: pl, a, hf => by
    unfold finF at *
    cases hd : o.dst with
    | none => rw [hd] at hf; exact finF_mono h l pl a hf
    | some d => rw [hd] at hf; exact fun v hv => finF_mono h l pl _ (hf v hv)

/-- The same, parted at a place. -/
theorem wp_region_facts3 {id : Nat} {a : Act} {w : World} {L : List Oper} (k : Nat) (R : Act → World → Prop) (n : Nat) (dl : List (List (Nat × Option Nat))) (Fs : List Fct) (hm : P.follows .mixedOrders = true) (hk : kindF n (L.take k) dl = true) (hL : lateF (L.take k) (L.drop k) = true) (hn : a.tmps.size = n)
    (hR : R a w.drew) (h : stepsG P R n Fs a w.drew (L.take k) dl Fs) (hf : ∀ w', Below w.drew.heap.size w.drew w' → FinS (fun a' w'' => R a' w'' → TailS P Q (L.drop k) a' w'') w' (L.take k) Fs a) : (Code.region id L.toArray true).wp P Q a w := by
  have := wp_region_facts2 (id := id) R n dl Fs hm hk hL hn hR h (fun w' hb => finF_mono (fun _ _ h1 h2 => (h1 h2).go) _ _ _ (hf w' hb).go)
  rwa [List.take_append_drop] at this

end

theorem FinS.some {Q : Act → World → Prop} {w : World} {o : Oper} {l : List Oper} {p : Fct} {pl : List Fct} {a : Act} {d : Nat} (hd : o.dst = some d) (h : ∀ v, p.p v w → FinS Q w l pl (a.put (some d) v)) : FinS Q w (o :: l) (p :: pl) a :=
  ⟨by unfold finF; rw [hd]; exact fun v hv => (h v hv).go⟩

theorem FinS.nil {Q : Act → World → Prop} {w : World} {a : Act} (h : Q a w) : FinS Q w [] [] a :=
  ⟨by unfold finF; exact h⟩

end Go.Proofs.YtfnncphkidhbpaaDoor

/- prec: ranks. -/

namespace Go.Proofs.YtfnncphkidhbpaaDoor

open Go Go.RowKit
set_option maxRecDepth 100000

/-- A row of ints in a block. -/
def iC (xs : List Int) : Array Value := (xs.map (Value.int .i64)).toArray

/-- The first k numbers, then zeros. -/
def upTo (k m : Nat) : List Int := (List.range m).map fun j => if j < k then (j : Int) else 0

theorem upTo_len (k m : Nat) : (upTo k m).length = m := by simp [upTo]

theorem made_iC (m : Nat) : madeCells #[.int .i64 0] m = iC (upTo 0 m) := by
  unfold iC upTo
  rw [List.map_map, ← Array.toList_inj]
  apply List.ext_getElem
  · simp [size_madeCells]
  · intro j h1 h2
    simp [madeCells, Nat.mod_one]

theorem iC_cell {w : World} {g : Nat} {xs : List Int} (h : w.heap[g]? = some (.cells (iC xs) 3)) {j : Nat} {x : Int} (hx : xs[j]? = some x) : w.cell? ⟨g, j, none⟩ = some (.int .i64 x) ∧ w.frozen? ⟨g, j, none⟩ = false := by
  refine ⟨?_, by simp [World.frozen?, h]⟩
  simp [World.cell?, h, iC, hx]

theorem iC_set {w : World} {g : Nat} {xs : List Int} (h : w.heap[g]? = some (.cells (iC xs) 3)) (j : Nat) (x : Int) : (w.setCell ⟨g, j, none⟩ (.int .i64 x)).heap[g]? = some (.cells (iC (xs.set j x)) 3) := by
  simp only [World.setCell, Array.getElem?_modify, if_pos, h, Option.map_some]
  unfold iC
  congr 2
  simp [List.map_set]

theorem upTo_set {k m : Nat} (h : k < m) : (upTo k m).set k (k : Int) = upTo (k + 1) m := by
  unfold upTo
  apply List.ext_getElem?
  intro t
  rw [List.getElem?_set]
  rcases Nat.lt_or_ge t m with ht | ht
  · rw [List.getElem?_map, List.getElem?_map, List.getElem?_range ht]
    by_cases hkt : k = t
    · subst hkt; simp [ht]
    · rw [if_neg hkt]
      simp only [Option.map_some]
      by_cases h1 : t < k
      · rw [if_pos h1, if_pos (by omega)]
      · rw [if_neg h1, if_neg (by omega)]
  · have : ¬ k = t := by omega
    rw [if_neg this, List.getElem?_eq_none (by simpa using ht), List.getElem?_eq_none (by simpa using ht)]

theorem upTo_all (m : Nat) : iC (upTo m m) = ((List.range m).map fun (k : Nat) => Value.int .i64 (k : Int)).toArray := by
  unfold iC upTo
  rw [List.map_map]
  congr 1
  apply List.map_congr_left
  intro j hj
  have := List.mem_range.1 hj
  simp [this]

/-- The ranks of the first k of a row of symbols. -/
def rkTo (r : List Nat) (k m : Nat) (f : Nat → Nat) : List Int := (List.range m).map fun j => if j ∈ r.take k then (f j : Int) else 0

theorem rkTo_set {r : List Nat} {k m : Nat} {f : Nat → Nat} {x : Nat} (hx : r[k]? = some x) (hf : f x = k) (hm : x < m) : (rkTo r k m f).set x (k : Int) = rkTo r (k + 1) m f := by
  unfold rkTo
  apply List.ext_getElem?
  intro t
  rw [List.getElem?_set]
  have htk : r.take (k + 1) = r.take k ++ [x] := by rw [List.take_add_one, hx]; rfl
  rcases Nat.lt_or_ge t m with ht | ht
  · rw [List.getElem?_map, List.getElem?_map, List.getElem?_range ht, htk]
    by_cases hkt : x = t
    · subst hkt; simp [ht, hf]
    · rw [if_neg hkt]
      have : (t ∈ r.take k ++ [x]) ↔ t ∈ r.take k := by simp [Ne.symm hkt]
      simp only [Option.map_some, this]
  · have : ¬ x = t := by omega
    rw [if_neg this, List.getElem?_eq_none (by simpa using ht), List.getElem?_eq_none (by simpa using ht)]

end Go.Proofs.YtfnncphkidhbpaaDoor

/- prec: ranks, walked. -/

namespace Go.Proofs.YtfnncphkidhbpaaDoor

open Go Go.RowKit
set_option maxRecDepth 100000

theorem rkTo_zero (r : List Nat) (m : Nat) (f : Nat → Nat) : rkTo r 0 m f = upTo 0 m := by simp [rkTo, upTo]

theorem rkTo_all {l : List Sm} {n : List Int} {b : Int} {m : Nat} {s : List Nat} (hp : s.Perm (List.range' 1 m)) : rkTo (0 :: s) (m + 1) (m + 1) (rnkR l n b (m + 1)) = rkL l n b (m + 1) := by
  unfold rkTo rkL
  apply List.map_congr_left
  intro j hj
  have hj := List.mem_range.1 hj
  have hl := hp.length_eq
  rw [List.length_range'] at hl
  rw [List.take_of_length_le (by simp; omega), if_pos]
  rcases Nat.eq_zero_or_pos j with h0 | h0
  · subst h0; exact List.mem_cons_self
  · exact List.mem_cons_of_mem _ (hp.mem_iff.2 (List.mem_range'_1.2 ⟨by omega, by omega⟩))

theorem FnC.le {r : Nat → Nat → Int} {M : Nat} {P P' : World → Prop} {v : Value} (h : FnC r M P v) (hP : ∀ a, P' a → P a) : FnC r M P' v := by
  obtain ⟨h1, k, cv, h2, h3, h4⟩ := h
  exact ⟨h1, k, cv, h2, h3, fun w hw => h4 w (hP w hw)⟩

/-- The function value that ranking tells, which leaves block G alone. -/
def rkF (r : Nat → Nat → Int) (M G : Nat) : Fct := ⟨fun v w => FnC r M (fun a => w.grownBy a (some G)) v, fun h hb => h.le fun _ ha => ⟨ha.os.trans hb.os, ha.tape.trans hb.tape, ha.output.trans hb.output, Nat.le_trans hb.size ha.size, fun k hk hne => (ha.block k (Nat.lt_of_lt_of_le hk hb.size) hne).trans (hb.block k hk)⟩⟩

set_option maxHeartbeats 2000000 in
theorem sortO_any {l : List Sm} {n : List Int} {i m g c : Nat} {v : Value} {w : World} (hi : i ≤ 4) (hA : ∀ f, arP l f ≤ 99) (hm : m ≤ 1000) (hf : FnC (byR l n (i : Int)) (m + 1) (fun a => w.grownBy a (some g)) v)
    (hg : w.heap[g]? = some (.cells (iC (upTo (m + 1) (m + 1))) 3)) :
    Calls Tryd.prog 25 #[.slice (some ⟨g, if m + 1 = 1 then 0 else 1, none⟩) m c, v] w fun e w' => e = .returned (.tuple #[]) ∧ ∃ s : List Nat, s.Perm (List.range' 1 m) ∧ (s.Pairwise fun f q => abvR l n (i : Int) q f = true) ∧ w.grownBy w' (some g) ∧
      w'.heap[g]? = some (.cells (iC ((0 :: s).map fun (k : Nat) => (k : Int))) 3) := by
  by_cases h0 : m = 0
  · subst h0
    obtain ⟨_, k, cv, rfl, hent, hcall⟩ := hf
    have hlt := (Array.getElem?_eq_some_iff.1 hg).1
    have hcmp : CmpLays1 Tryd.prog k cv (encN 0) (cfN l n (i : Int) 0) g 0 (numsN 0).size w := fun mm os dk _ x y =>
      (hcall _ (sortW_blk hg).2 x.1 y.1 x.2 y.2).mono fun e w' h => ⟨h.1, h.2.grown⟩
    have h := Any.slices_SortFunc Tryd.sortI (encN 0) (fun _ => rfl) (cfN l n (i : Int) 0) (swoN (by omega) (by omega) hA) k cv g 0 c (numsN 0) w hent hcmp (fun j hj => by rw [numsN_size] at hj; omega) hlt (by rw [numsN_size]; omega)
    rw [numsN_size] at h
    refine Calls.mono (show Calls Tryd.prog 25 #[.slice (some ⟨g, 0, none⟩) 0 c, .func (.func k) #[] cv] w _ from h) ?_
    rintro e w' ⟨he, d, q, os, hp, _, rfl⟩
    have hds : d.size = 0 := by have := hp.1; rwa [numsN_size] at this
    refine ⟨he, [], List.Perm.refl _, List.Pairwise.nil, (sortW_blk hg).2, ?_⟩
    rw [(sortW_blk hg).1]
    congr 2
    apply Array.ext_getElem?
    intro t
    unfold Sort.putCells
    rw [Array.getElem?_mapIdx]
    have hno : ∀ x : Value, (if 0 ≤ t ∧ t < 0 + d.size then encN 0 d[t - 0]! else x) = x := fun x => if_neg (by omega)
    rw [show (fun x : Value => if 0 ≤ t ∧ t < 0 + d.size then encN 0 d[t - 0]! else x) = id from funext hno, Option.map_id]
    rfl
  · rw [if_neg (by omega)]
    rw [upTo_all] at hg
    refine (sortN_any hi hA hm hf hg).mono ?_
    rintro e w' ⟨he, s, h1, h2, h3, h4⟩
    refine ⟨he, s, h1, h2, h3, ?_⟩
    rw [h4]
    unfold iC
    rw [List.map_map]; rfl

section

variable {Fs : List Fct} {a0 : Act} {W : World} {dst : Option Tmp} {ty : TypeId} {pos : String} {after : Array Edge} {nn : Nat}

theorem pg_out {s : Nat} {v : Value} (hs : a0.eval (.tmp s) = v) : stepG Tryd.prog (fun _ _ => True) nn Fs a0 W ⟨dst, .move (.tmp s), ty, pos, after, none⟩ [(s, none)] (Fct.eq v) := by
  refine ⟨rfl, fun a w hb hn hl _ => ?_⟩
  have h1 := pk_get (hl.1.trans hs)
  simp [go_sem, leaves, h1, Fct.eq]
  exact Below.refl _ _

theorem pg_tail {s j g L : Nat} (h1 : 1 ≤ L) (hF : Fs.getD j Fct.any = Fct.eq (.slice (some ⟨g, 0, none⟩) L L)) : stepG Tryd.prog (fun _ _ => True) nn Fs a0 W ⟨dst, .slice 22 (.tmp s) (some (.const (.int .i64 1))) none none, ty, pos, after, none⟩ [(s, some j)] (Fct.eq (.slice (some ⟨g, if L = 1 then 0 else 1, none⟩) (L - 1) (L - 1))) := by
  refine ⟨rfl, fun a w hb hn hl _ => ?_⟩
  have h0 := hl.1
  rw [hF] at h0
  have e1 := pk_get h0
  obtain ⟨m, rfl⟩ : ∃ m, L = m + 1 := ⟨L - 1, by omega⟩
  by_cases hm : m = 0
  · subst hm
    simp [go_sem, leaves, e1, Fct.eq]
    exact Below.refl _ _
  · have hI : (1 : Int) ≤ (m : Int) + 1 := by omega
    simp [go_sem, leaves, e1, Fct.eq, hm]
    rw [if_pos hI]
    exact ⟨Below.refl _ _, rfl⟩

theorem pg_load2 {s b : Nat} {x y : Value} (hs : a0.eval (.tmp s) = .pointer (some ⟨b, 0, none⟩)) (hW : W.heap[b]? = some (.cells #[x, y] 55)) : stepG Tryd.prog (fun _ _ => True) nn Fs a0 W ⟨dst, .load 55 (.tmp s), ty, pos, after, none⟩ [(s, none)] (Fct.eq (.agg #[x, y])) := by
  refine ⟨rfl, fun a w hb hn hl _ => ?_⟩
  have h1 := pk_get (hl.1.trans hs)
  obtain ⟨c0, c1, _⟩ := cells_two (blk_st hb hW)
  simp [go_sem, leaves, h1, c0, c1, Fct.eq]
  exact Below.refl _ _

theorem pg_ranking {s j s' j' B G i : Nat} {l : List Sm} {n : List Int} {As Ac : Option Addr} {cs cc : Nat} (hB : B ≤ W.heap.size) (hG : B ≤ G) (hGW : G < W.heap.size) (hlen : n.length = l.length) (hs : l.length ≤ 1000) (har : ∀ f, 0 ≤ arP l f ∧ arP l f ≤ 99) (hS : Syms W B As l.length l) (hI : Ints W B Ac n) (hi : i ≤ 4)
    (hF : Fs.getD j Fct.any = Fct.eq (.agg #[.slice As l.length cs, .slice Ac n.length cc])) (hF' : Fs.getD j' Fct.any = Fct.eq (.int .i64 (i : Int))) {t t' : TypeId} :
    stepG Tryd.prog (fun _ _ => True) nn Fs a0 W ⟨dst, .call ⟨.value (.func 26), #[.tmp s, .tmp s'], #[t, t']⟩, ty, pos, after, none⟩ [(s, some j), (s', some j')] (rkF (byR l n (i : Int)) l.length G) := by
  refine ⟨rfl, fun a w hb hn hl _ => ?_⟩
  obtain ⟨h0, h1, _⟩ := hl
  rw [hF] at h0
  rw [hF'] at h1
  have e0 := pk_get h0
  have e1 := pk_get h1
  simp [go_sem, leaves, e0, e1]
  refine (ranking_any (cs := cs) (cc := cc) (Nat.le_trans hB hb.size) hlen hs har (hS.keep fun p hp => hb.cell (Nat.lt_of_lt_of_le hp hB)) (hI.keep fun p hp => hb.cell (Nat.lt_of_lt_of_le hp hB)) hi).mono fun e w' h => ?_
  obtain ⟨v, he, hbw, hv⟩ := h
  exact ⟨_, he, hbw, hv G hG (Nat.lt_of_lt_of_le hGW hb.size)⟩

end

set_option maxHeartbeats 4000000 in
theorem ranks_any {w : World} {B i m : Nat} {l : List Sm} {n : List Int} {As Ac : Option Addr} {cs cc : Nat} (hB : B ≤ w.heap.size) (hlen : n.length = l.length) (hm : l.length = m + 1) (hs : m ≤ 999) (har : ∀ f, 0 ≤ arP l f ∧ arP l f ≤ 99) (hS : Syms w B As l.length l) (hI : Ints w B Ac n) (hi : i ≤ 4) :
    Calls Tryd.prog 16 #[.agg #[.slice As l.length cs, .slice Ac n.length cc], .int .i64 (i : Int)] w fun e w' => ∃ g, e = .returned (.slice (some ⟨g, 0, none⟩) l.length l.length) ∧ Below w.heap.size w w' ∧ w.heap.size ≤ g ∧ w'.heap[g]? = some (.cells (iC (rkL l n (i : Int) l.length)) 3) := by
  obtain ⟨i0, hi1, hz0, hz1, hz2⟩ := info_parts infoI
  have hmk : ∀ w : World, (Instr.makeSlice 22 (.int .i64 (l.length : Int)) (.int .i64 (l.length : Int))).run Tryd.prog w = .ok (.slice (some ⟨w.heap.size, 0, none⟩) l.length l.length) (w.alloc (.cells (iC (upTo 0 l.length)) 3)) := fun w => by
    rw [← made_iC]; exact run_make_row _ _ i0 _ Tryd.underlying22 hi1 hz0 hz1 rfl _ _ l.length (by rw [hz2]; omega) (by omega) w
  have Hmk := Lib.hid hmk
  obtain ⟨W1, hW1⟩ : ∃ W1, w.alloc (.cells #[.slice As l.length cs, .slice Ac n.length cc] 55) = W1 := ⟨_, rfl⟩
  obtain ⟨W2, hW2⟩ : ∃ W2, W1.alloc (.cells (iC (upTo 0 l.length)) 3) = W2 := ⟨_, rfl⟩
  have q1 : W1.heap[w.heap.size]? = some (.cells #[.slice As l.length cs, .slice Ac n.length cc] 55) := by rw [← hW1]; exact heap_alloc_new w _
  have z1 : W1.heap.size = w.heap.size + 1 := by rw [← hW1]; simp
  have z2 : W2.heap.size = w.heap.size + 2 := by rw [← hW2]; simp; omega
  have q2 : W2.heap[W1.heap.size]? = some (.cells (iC (upTo 0 l.length)) 3) := by rw [← hW2]; exact heap_alloc_new W1 _
  have hB1 : Below w.heap.size w W1 := by rw [← hW1]; exact (Below.refl _ _).alloc (Nat.le_refl _) _
  have hB2 : Below W1.heap.size W1 W2 := by rw [← hW2]; exact (Below.refl _ _).alloc (Nat.le_refl _) _
  have HW1 := Lib.hid hW1
  have HW2 := Lib.hid hW2
  have Hm := Lib.hid hm
  have HL := Lib.hid hlen
  have HZ := Lib.hid (And.intro z1 z2)
  have HQ := Lib.hid (And.intro q1 q2)
  have HB := Lib.hid (And.intro hB1 hB2)
  have hl64 : l.length ≤ 1000 := by omega
  clear hm hlen hW1 hW2 z1 z2 q1 q2 hB1 hB2 hi1 hz0 hz1 hz2
  go_enter Tryd.func16, Tryd.ntmps16
  go_upto_region 1 with fail
  rw [HW1.out]
  have c0 := (cells_two HQ.out.1).1
  go_upto_region 2 with fail
  rw [HW2.out]
  clear c0 hmk
  go_wp2
  go_loopw [16] (fun s16 wr => ∃ k : Nat, k ≤ l.length ∧ s16 = .int .i64 (k : Int) ∧ Hid (Below W1.heap.size W1 wr ∧ wr.heap.size = W2.heap.size ∧ wr.heap[W1.heap.size]? = some (.cells (iC (upTo k l.length)) 3))) (fun s16 _ => l.length - (intOf s16).toNat)
  case atStart => exact ⟨0, Nat.zero_le _, rfl, HB.out.2, rfl, HQ.out.2⟩
  case round =>
    obtain ⟨k, hk, rfl, HR⟩ := hrel
    by_cases hlt : k < l.length
    · have hx : (upTo k l.length)[k]? = some 0 := by unfold upTo; rw [List.getElem?_map, List.getElem?_range hlt]; simp
      obtain ⟨c1, f1⟩ := iC_cell HR.out.2.2 hx
      clear hx
      have HN : Hid (Below W1.heap.size W1 (wr.setCell ⟨W1.heap.size, k, none⟩ (.int .i64 (k : Int))) ∧ (wr.setCell ⟨W1.heap.size, k, none⟩ (.int .i64 (k : Int))).heap.size = W2.heap.size ∧ (wr.setCell ⟨W1.heap.size, k, none⟩ (.int .i64 (k : Int))).heap[W1.heap.size]? = some (.cells (iC (upTo (k + 1) l.length)) 3)) :=
        Lib.hid ⟨HR.out.1.setCell (Nat.le_refl _) _, by rw [← HR.out.2.1]; simp, by rw [iC_set HR.out.2.2, upTo_set hlt]⟩
      go_wp2
      go_roundw
      case rel => exact ⟨k + 1, by omega, by go_num, HN⟩
      case measure => simp [intOf]; omega
    · obtain rfl : k = l.length := by omega
      go_wp2_with fail
      have hBd : Below wr.heap.size wr wr.drew := (Below.refl _ _).drew
      have hw1 : Below w.heap.size w wr := HB.out.1.trans (HR.out.1.mono HB.out.1.size)
      have hG : w.heap.size ≤ W1.heap.size := by have := HZ.out.1; omega
      have hGr : W1.heap.size < wr.heap.size := by have := HR.out.2.1; have := HZ.out; omega
      have hSd : Syms wr.drew B As l.length l := (hS.keep fun p hp => hw1.cell (Nat.lt_of_lt_of_le hp hB))
      have hId : Ints wr.drew B Ac n := (hI.keep fun p hp => hw1.cell (Nat.lt_of_lt_of_le hp hB))
      have hbox : wr.drew.heap[w.heap.size]? = some (.cells #[.slice As l.length cs, .slice Ac n.length cc] 55) := (HR.out.1.block w.heap.size (by have := HZ.out.1; omega)).trans HQ.out.1
      refine wp_region_facts3 5 (fun _ _ => True) 46 [[(5, none)], [(24, some 0)], [(2, none)], [(1, none)], [(26, some 2), (27, some 3)]]
        [Fct.eq (.slice (some ⟨W1.heap.size, 0, none⟩) l.length l.length), Fct.eq (.slice (some ⟨W1.heap.size, if l.length = 1 then 0 else 1, none⟩) (l.length - 1) (l.length - 1)), Fct.eq (.agg #[.slice As l.length cs, .slice Ac n.length cc]), Fct.eq (.int .i64 (i : Int)), rkF (byR l n (i : Int)) l.length W1.heap.size] (by kernel_rfl) (by decide +kernel) (by decide +kernel) (by kernel_rfl) trivial ?_ ?_
      · exact ⟨pg_out rfl, pg_tail (by have := Hm.out; omega) rfl, pg_load2 rfl hbox, pg_out rfl, pg_ranking (show B ≤ wr.drew.heap.size from Nat.le_trans hB hw1.size) (Nat.le_trans hB hG) (show W1.heap.size < wr.drew.heap.size from hGr) HL.out hl64 har hSd hId hi rfl rfl, trivial⟩
      intro w4 hb4
      generalize hA0 : ({ tmps := _, defers := _ } : Act) = a0
      simp only [List.take_succ_cons, List.take_zero, List.drop_succ_cons, List.drop_zero]
      refine FinS.some rfl (fun u0 (e0 : u0 = _) => ?_)
      subst e0
      refine FinS.some rfl (fun u1 (e1 : u1 = _) => ?_)
      subst e1
      refine FinS.some rfl (fun u2 (e2 : u2 = _) => ?_)
      subst e2
      refine FinS.some rfl (fun u3 (e3 : u3 = _) => ?_)
      subst e3
      refine FinS.some rfl (fun u4 (e4 : FnC (byR l n (i : Int)) l.length (fun a => w4.grownBy a (some W1.heap.size)) u4) => FinS.nil fun _ => ?_)
      refine ⟨?_⟩
      subst hA0
      simp only [Act.put, List.setIfInBounds_toArray, List.set_cons_succ, List.set_cons_zero]
      have hL1 : l.length - 1 + 1 = l.length := by have := Hm.out; omega
      have hrow4 : w4.heap[W1.heap.size]? = some (.cells (iC (upTo (l.length - 1 + 1) (l.length - 1 + 1))) 3) := by rw [hL1]; exact (hb4.block _ hGr).trans HR.out.2.2
      have hsort := sortO_any (m := l.length - 1) (c := l.length - 1) hi (fun f => (har f).2) (by omega) (by rw [hL1]; exact e4) hrow4
      rw [hL1] at hsort
      obtain ⟨o, ho⟩ : ∃ o, (if l.length = 1 then 0 else 1) = o := ⟨_, rfl⟩
      rw [ho] at hsort ⊢
      clear ho
      obtain ⟨_, kf, cv, rfl, hent, _⟩ := e4
      obtain ⟨KK, hKK⟩ : ∃ KK : Value → World → Prop, KK = fun _ w' => ∃ s : List Nat, s.Perm (List.range' 1 (l.length - 1)) ∧ (s.Pairwise fun f q => abvR l n (i : Int) q f = true) ∧ w4.grownBy w' (some W1.heap.size) ∧ w'.heap[W1.heap.size]? = some (.cells (iC ((0 :: s).map fun (k : Nat) => (k : Int))) 3) := ⟨_, rfl⟩
      have hsort2 : Calls Tryd.prog 25 #[.slice (some ⟨W1.heap.size, o, none⟩) (l.length - 1) (l.length - 1), .func (.func kf) #[] cv] w4 fun e w' => ∃ v, e = .returned v ∧ KK v w' := hsort.mono fun e w' h => ⟨_, h.1, by rw [hKK]; exact h.2⟩
      refine leaves_wp (K := KK) ?_ ?_
      · clear hL1 hrow4
        simp [go_sem, leaves]
        exact hsort2
      · intro v w5 hkk
        rw [hKK] at hkk
        obtain ⟨s, hp, hsr, hgr, hrow⟩ := hkk
        clear hKK hsort2
        unfold tailWp
        simp only [Act.put, List.setIfInBounds_toArray, List.set_cons_succ, List.set_cons_zero]
        have hW1w5 : Below w.heap.size w w5 := (hw1.trans ((hBd.trans (show Below wr.heap.size wr.drew w4 from hb4)).mono hw1.size)).trans ⟨hgr.os, hgr.tape, hgr.output, hgr.size, fun k hk => hgr.block k (by have := hb4.size; have : wr.heap.size ≤ w4.heap.size := hb4.size; have := HZ.out.1; omega) (by have := HZ.out.1; simp; omega)⟩
        obtain ⟨W6, hW6⟩ : ∃ W6, w5.alloc (.cells (iC (upTo 0 l.length)) 3) = W6 := ⟨_, rfl⟩
        have HW6 := Lib.hid hW6
        have g5 : W1.heap.size < w5.heap.size := (Array.getElem?_eq_some_iff.1 hrow).1
        have q6 : W6.heap[w5.heap.size]? = some (.cells (iC (rkTo (0 :: s) 0 l.length (rnkR l n (i : Int) l.length))) 3) := by rw [rkTo_zero, ← hW6]; exact heap_alloc_new w5 _
        have r6 : W6.heap[W1.heap.size]? = some (.cells (iC ((0 :: s).map fun (k : Nat) => (k : Int))) 3) := by rw [← hW6, Below.heap_alloc _ _ _ g5]; exact hrow
        have b6 : Below w.heap.size w W6 := by rw [← hW6]; exact hW1w5.alloc hW1w5.size _
        have HX := Lib.hid (And.intro q6 (And.intro r6 b6))
        have HP := Lib.hid (And.intro hp hsr)
        have HG := Lib.hid (And.intro g5 hW1w5.size)
        have hlen2 : Hid ((0 :: s).length = l.length) := Lib.hid (by have := hp.length_eq; rw [List.length_range'] at this; rw [List.length_cons]; omega)
        have hmk2 := Lib.hid (show (Instr.makeSlice 22 (.int .i64 (l.length : Int)) (.int .i64 (l.length : Int))).run Tryd.prog w5 = .ok (.slice (some ⟨w5.heap.size, 0, none⟩) l.length l.length) W6 from by rw [Hmk.out w5, hW6])
        clear hW6 q6 r6 b6 hp hsr hgr hrow g5 hW1w5 hsort hrow4 hbox hSd hId hG hGr hw1 hBd hb4 hent
        have hmk3 := hmk2.out
        go_upto_region 9 with fail
        clear hmk3
        go_wp2
        go_loopw [35] (fun s35 wr2 => ∃ k : Nat, k ≤ l.length ∧ s35 = .int .i64 (k : Int) ∧ Hid (wr2.heap[w5.heap.size]? = some (.cells (iC (rkTo (0 :: s) k l.length (rnkR l n (i : Int) l.length))) 3) ∧ wr2.heap[W1.heap.size]? = some (.cells (iC ((0 :: s).map fun (k : Nat) => (k : Int))) 3) ∧ Below w.heap.size w wr2)) (fun s35 _ => l.length - (intOf s35).toNat)
        case atStart => exact ⟨0, Nat.zero_le _, rfl, HX⟩
        case round =>
          obtain ⟨k, hk, rfl, HR2⟩ := hrel
          by_cases hlt : k < l.length
          · have hlt2 : k < (0 :: s).length := by rw [hlen2.out]; exact hlt
            obtain ⟨x, hx⟩ : ∃ x, (0 :: s)[k]? = some x := ⟨_, List.getElem?_eq_getElem hlt2⟩
            have hfx : rnkR l n (i : Int) l.length x = k := by
              cases k with
              | zero => simp at hx; subst hx; rfl
              | succ j => exact rnkR_at HP.out.1 HP.out.2 (by simpa using hx)
            have hxl : x < l.length := by
              rcases List.mem_cons.1 (List.mem_of_getElem? hx) with rfl | hm
              · omega
              · have := HP.out.1.mem_iff.1 hm
                rw [List.mem_range'_1] at this; omega
            have hxr : (rkTo (0 :: s) k l.length (rnkR l n (i : Int) l.length))[x]? = some ((rkTo (0 :: s) k l.length (rnkR l n (i : Int) l.length)).getD x 0) := by
              have : x < (rkTo (0 :: s) k l.length (rnkR l n (i : Int) l.length)).length := by simp [rkTo, hxl]
              rw [List.getD_eq_getElem?_getD, List.getElem?_eq_getElem this]; rfl
            obtain ⟨c1, f1⟩ := iC_cell HR2.out.1 hxr
            obtain ⟨c2, _⟩ := iC_cell HR2.out.2.1 (show ((0 :: s).map fun (k : Nat) => (k : Int))[k]? = some (x : Int) by rw [List.getElem?_map, hx]; rfl)
            have hx64 : (x : Int) < (l.length : Int) := by omega
            have HN := Lib.hid (show (wr.setCell ⟨w5.heap.size, x, none⟩ (.int .i64 (k : Int))).heap[w5.heap.size]? = some (.cells (iC (rkTo (0 :: s) (k + 1) l.length (rnkR l n (i : Int) l.length))) 3) ∧ (wr.setCell ⟨w5.heap.size, x, none⟩ (.int .i64 (k : Int))).heap[W1.heap.size]? = some (.cells (iC ((0 :: s).map fun (k : Nat) => (k : Int))) 3) ∧ Below w.heap.size w (wr.setCell ⟨w5.heap.size, x, none⟩ (.int .i64 (k : Int))) from
              ⟨by rw [iC_set HR2.out.1, rkTo_set hx hfx hxl], (Below.heap_setCell _ _ _ _ (by have := HG.out.1; simp; omega)).trans HR2.out.2.1, HR2.out.2.2.setCell (by have := HG.out.2; simp; omega) _⟩)
            clear hx hfx hxr hlt2
            go_wp2
            go_roundw
            case rel => exact ⟨k + 1, by omega, by go_num, HN⟩
            case measure => simp [intOf]; omega
          · obtain rfl : k = l.length := by omega
            go_wp2
            go_ret
            refine ⟨w5.heap.size, rfl, HR2.out.2.2, HG.out.2, ?_⟩
            have hfin := rkTo_all (l := l) (n := n) (b := (i : Int)) HP.out.1
            have hL2 : l.length - 1 + 1 = l.length := by have := Hm.out; omega
            rw [hL2] at hfin
            rw [← hfin]
            exact HR2.out.1

end Go.Proofs.YtfnncphkidhbpaaDoor

/- prec: weighing. -/

namespace Go.Proofs.YtfnncphkidhbpaaDoor

open Go Go.RowKit
set_option maxRecDepth 100000

/-- A function value that weighs a symbol, in all the worlds of a class. -/
def WgF (q : Nat → Int) (M : Nat) (P : World → Prop) (v : Value) : Prop := ∃ k cv, v = .func (.func k) #[] cv ∧ (∀ (args : Array Value) (w : World), (callFunc k args).run Tryd.prog w = .ok (.enter k args) w) ∧
  ∀ w, P w → ∀ x : Nat, x < M → Calls Tryd.prog k (#[.int .i64 (x : Int)] ++ cv) w fun e w' => e = .returned (.int .i64 (q x)) ∧ w' = w

theorem wg1_any (x : Nat) (w : World) : Calls Tryd.prog 52 #[.int .i64 (x : Int)] w fun e w' => e = .returned (.int .i64 1) ∧ w' = w := by
  go_enter Tryd.func52, Tryd.ntmps52
  go_wp2
  go_ret
  exact ⟨rfl, rfl⟩

set_option maxHeartbeats 1000000 in
theorem wg2_any {w : World} {B bs cs x : Nat} {l : List Sm} {As : Option Addr} (c0 : w.cell? ⟨bs, 0, none⟩ = some (.slice As l.length cs)) (hS : Syms w B As l.length l) (hl : l.length ≤ 1000) (har : arP l x ≤ 99 ∧ 0 ≤ arP l x) (hx : x < l.length) :
    Calls Tryd.prog 53 #[.int .i64 (x : Int), .pointer (some ⟨bs, 0, none⟩)] w fun e w' => e = .returned (.int .i64 (arP l x + 1)) ∧ w' = w := by
  obtain ⟨b, off, rfl, hb, hf⟩ := hS.ad (by omega)
  have hg : l[x]? = some l[x] := List.getElem?_eq_getElem hx
  have e1 := (hf x _ hg).2.1
  have ha : l[x].arity = arP l x := by unfold arP; rw [hg]; rfl
  rw [ha] at e1
  have hx' : (x : Int) < (l.length : Int) := by omega
  have hw : IntKind.i64.wrap (arP l x + 1) = arP l x + 1 := by rw [IntKind.wrap_i64]; omega
  clear hf hg ha hS
  go_enter Tryd.func53, Tryd.ntmps53
  go_wp2
  go_ret
  exact ⟨rfl, rfl⟩

set_option maxHeartbeats 1000000 in
theorem wg3_any {w : World} {B br c x : Nat} {rk : List Int} {A : Option Addr} (c0 : w.cell? ⟨br, 0, none⟩ = some (.slice A rk.length c)) (hI : Ints w B A rk) (hl : rk.length ≤ 1000) (hr : -1000000 ≤ rk.getD x 0 ∧ rk.getD x 0 ≤ 1000000) (hx : x < rk.length) :
    Calls Tryd.prog 54 #[.int .i64 (x : Int), .pointer (some ⟨br, 0, none⟩)] w fun e w' => e = .returned (.int .i64 (rk.getD x 0 + 1)) ∧ w' = w := by
  obtain ⟨b, off, rfl, hb, hf⟩ := hI.ad (by omega)
  have hg : rk[x]? = some (rk.getD x 0) := by rw [List.getD_eq_getElem?_getD, List.getElem?_eq_getElem hx]; rfl
  have e1 := hf x _ hg
  obtain ⟨y, hy⟩ : ∃ y, rk.getD x 0 = y := ⟨_, rfl⟩
  rw [hy] at e1 hr ⊢
  have hx' : (x : Int) < (rk.length : Int) := by omega
  have hw : IntKind.i64.wrap (y + 1) = y + 1 := by rw [IntKind.wrap_i64]; omega
  clear hf hg hI hy
  go_enter Tryd.func54, Tryd.ntmps54
  go_wp2
  go_ret
  exact ⟨rfl, rfl⟩

set_option maxHeartbeats 1000000 in
theorem wg4_any {w : World} {B bs c x : Nat} {n : List Int} {A : Option Addr} (c0 : w.cell? ⟨bs, 1, none⟩ = some (.slice A n.length c)) (hI : Ints w B A n) (hl : n.length ≤ 1000) (hr : 0 ≤ cnP n x ∧ cnP n x ≤ 1152921504606846976) (hx : x < n.length) :
    Calls Tryd.prog 55 #[.int .i64 (x : Int), .pointer (some ⟨bs, 0, none⟩)] w fun e w' => e = .returned (.int .i64 (cnP n x + 1)) ∧ w' = w := by
  obtain ⟨b, off, rfl, hb, hf⟩ := hI.ad (by omega)
  have hg : n[x]? = some (cnP n x) := by unfold cnP; rw [List.getD_eq_getElem?_getD, List.getElem?_eq_getElem hx]; rfl
  have e1 := hf x _ hg
  obtain ⟨y, hy⟩ : ∃ y, cnP n x = y := ⟨_, rfl⟩
  rw [hy] at e1 hr ⊢
  have hx' : (x : Int) < (n.length : Int) := by omega
  have hw : IntKind.i64.wrap (y + 1) = y + 1 := by rw [IntKind.wrap_i64]; omega
  clear hf hg hI hy
  go_enter Tryd.func55, Tryd.ntmps55
  go_wp2
  go_ret
  exact ⟨rfl, rfl⟩

set_option maxHeartbeats 4000000 in
theorem weighing_any {w : World} {B wb : Nat} {l : List Sm} {n rk : List Int} {As Ac Ar : Option Addr} {cs cc cr : Nat} (hB : B ≤ w.heap.size) (hlen : n.length = l.length) (hrl : rk.length = l.length) (hs : l.length ≤ 1000) (har : ∀ f, 0 ≤ arP l f ∧ arP l f ≤ 99) (hcn : ∀ f, 0 ≤ cnP n f ∧ cnP n f ≤ 1152921504606846976) (hrk : ∀ x, -1000000 ≤ rk.getD x 0 ∧ rk.getD x 0 ≤ 1000000)
    (hS : Syms w B As l.length l) (hI : Ints w B Ac n) (hR : Ints w w.heap.size Ar rk) (hi : wb ≤ 3) :
    Calls Tryd.prog 27 #[.agg #[.slice As l.length cs, .slice Ac n.length cc], .int .i64 (wb : Int), .slice Ar rk.length cr] w fun e w' => ∃ v, e = .returned v ∧ Below w.heap.size w w' ∧ WgF (wgX l n (wb : Int) rk) l.length (fun a => Below w'.heap.size w' a) v := by
  obtain ⟨W2, hW2⟩ : ∃ W2, (w.alloc (.cells #[.slice As l.length cs, .slice Ac n.length cc] 55)).alloc (.cells #[.slice Ar rk.length cr] 22) = W2 := ⟨_, rfl⟩
  have hW2' := hW2
  obtain ⟨q1, q2⟩ := heap2p w (.cells #[.slice As l.length cs, .slice Ac n.length cc] 55) (.cells #[.slice Ar rk.length cr] 22)
  rw [hW2] at q1 q2
  have z2 : W2.heap.size = w.heap.size + 2 := by rw [← hW2]; simp
  have hB2 : Below w.heap.size w W2 := by rw [← hW2]; exact ((Below.refl _ _).alloc (Nat.le_refl _) _).alloc (by simp) _
  have HQ := Lib.hid (And.intro q1 (And.intro q2 (And.intro z2 hB2)))
  have HL := Lib.hid (And.intro hlen hrl)
  have HW2 := Lib.hid hW2'
  have HF : Hid (∀ w', Below W2.heap.size W2 w' → ∀ a, Below w'.heap.size w' a → a.heap[w.heap.size]? = some (.cells #[.slice As l.length cs, .slice Ac n.length cc] 55) ∧ a.heap[w.heap.size + 1]? = some (.cells #[.slice Ar rk.length cr] 22) ∧ Below w.heap.size w a) := Lib.hid fun w' h1 a h2 => by
    have h3 : Below W2.heap.size W2 a := h1.trans (h2.mono h1.size)
    exact ⟨(h3.block _ (by omega)).trans q1, (h3.block _ (by omega)).trans q2, hB2.trans (h3.mono hB2.size)⟩
  clear hW2 hW2' q1 q2 z2 hB2 hlen hrl
  have hi : wb = 0 ∨ wb = 1 ∨ wb = 2 ∨ wb = 3 := by omega
  rcases hi with rfl | rfl | rfl | rfl
  all_goals
    go_enter Tryd.func27, Tryd.ntmps27
    go_upto_region 1 with fail
    rw [HW2.out]
    go_wp2
    go_ret
  · refine ⟨_, rfl, HQ.out.2.2.2.alloc HQ.out.2.2.2.size _, _, #[], rfl, enters_of Tryd.func52 (by kernel_rfl) rfl, fun a _ x _ => ?_⟩
    exact wg1_any x a
  · refine ⟨_, rfl, HQ.out.2.2.2.alloc HQ.out.2.2.2.size _, _, #[.pointer (some ⟨w.heap.size, 0, none⟩)], rfl, enters_of Tryd.func53 (by kernel_rfl) rfl, fun a ha x hx => ?_⟩
    obtain ⟨a1, a2, a3⟩ := HF.out _ ((Below.refl _ _).alloc (Nat.le_refl _) _) a ha
    exact wg2_any (cells_two a1).1 (hS.keep fun p hp => a3.cell (Nat.lt_of_lt_of_le hp hB)) hs ⟨(har x).2, (har x).1⟩ hx
  · refine ⟨_, rfl, HQ.out.2.2.2.alloc HQ.out.2.2.2.size _, _, #[.pointer (some ⟨w.heap.size + 1, 0, none⟩)], rfl, enters_of Tryd.func54 (by kernel_rfl) rfl, fun a ha x hx => ?_⟩
    obtain ⟨a1, a2, a3⟩ := HF.out _ ((Below.refl _ _).alloc (Nat.le_refl _) _) a ha
    exact wg3_any (cells_one a2).1 (hR.keep fun p hp => a3.cell hp) (by rw [HL.out.2]; exact hs) (hrk x) (by rw [HL.out.2]; exact hx)
  · refine ⟨_, rfl, HQ.out.2.2.2.alloc HQ.out.2.2.2.size _, _, #[.pointer (some ⟨w.heap.size, 0, none⟩)], rfl, enters_of Tryd.func55 (by kernel_rfl) rfl, fun a ha x hx => ?_⟩
    obtain ⟨a1, a2, a3⟩ := HF.out _ ((Below.refl _ _).alloc (Nat.le_refl _) _) a ha
    exact wg4_any (cells_two a1).2.1 (hI.keep fun p hp => a3.cell (Nat.lt_of_lt_of_le hp hB)) (by rw [HL.out.1]; exact hs) (hcn x) (by rw [HL.out.1]; exact hx)

end Go.Proofs.YtfnncphkidhbpaaDoor

/- prec: weights. -/

namespace Go.Proofs.YtfnncphkidhbpaaDoor

open Go Go.RowKit
set_option maxRecDepth 100000

theorem idx_from : ∀ (xs : List Int) (x : Int) (k : Nat), (∀ j, j < k → xs[j]? ≠ some x) → (xs[k]? = some x → Lib.idxOf xs x = k) := by
  intro xs x k h hx
  have hlt := (List.getElem?_eq_some_iff.1 hx).1
  have := Lib.idxOf_hit xs xs.length k x hlt (Nat.le_refl _) (by rw [List.getD_eq_getElem?_getD, hx]; rfl) (fun j hj e => by
    have hj' : j < xs.length := by omega
    rw [List.getD_eq_getElem?_getD, List.getElem?_eq_getElem hj'] at e
    exact h j hj (by rw [List.getElem?_eq_getElem hj']; exact congrArg some e))
  rwa [List.take_length] at this

set_option maxHeartbeats 1000000 in
theorem idxP_any (xs : List Int) (x : Int) (h : Nat) (A : Option Addr) (c : Nat) (w : World) (hA : Ints w w.heap.size A xs) (hx : Lib.idxOf xs x = h) :
    Calls Tryd.prog 28 #[.slice A xs.length c, .int .i64 x] w fun e w' => e = .returned (.int .i64 (h : Int)) ∧ Below w.heap.size w w' := by
  have hlen := hA.len
  have HA := Lib.hid hA
  have HX := Lib.hid hx
  clear hA hx
  go_enter Tryd.func28, Tryd.ntmps28
  go_wp2
  go_loopw [8] (fun i wr => ∃ k q : Nat, k ≤ xs.length ∧ i = .int .i64 (k : Int) ∧ wr = w.drewN q ∧ Hid (∀ j, j < k → xs[j]? ≠ some x)) (fun i _ => xs.length - (intOf i).toNat)
  case atStart => exact ⟨0, 0, Nat.zero_le _, rfl, rfl, fun j h0 => absurd h0 (Nat.not_lt_zero _)⟩
  case round =>
    obtain ⟨k, q, hk, rfl, rfl, HB⟩ := hrel
    by_cases hlt : k < xs.length
    · obtain ⟨y, hy⟩ : ∃ y, xs[k]? = some y := ⟨_, List.getElem?_eq_getElem hlt⟩
      obtain ⟨b, off, rfl, _, hc⟩ := HA.out.ad (by omega)
      have hck := hc k y hy
      by_cases h0 : x = y
      · subst h0
        have hfin := Lib.hid (show (k : Int) = (h : Int) by rw [← idx_from xs x k HB.out hy, HX.out])
        clear hc hy
        go_wp2
        go_ret
        exact ⟨ret_int hfin.out, bl_drewN (Below.refl _ _) _⟩
      · have HN := Lib.hid (show ∀ j, j < k + 1 → xs[j]? ≠ some x from fun j hj e => by
          rcases Nat.lt_or_ge j k with h1 | h1
          · exact HB.out j h1 e
          · obtain rfl : j = k := by omega
            rw [hy] at e; exact h0 (Option.some.inj e).symm)
        clear hc hy
        go_wp2
        go_roundw
        case rel => exact ⟨k + 1, _, by omega, by go_num, rfl, HN⟩
        case measure => simp [intOf]; omega
    · exfalso
      obtain rfl : k = xs.length := by omega
      have := Lib.idxOf_miss xs xs.length x (fun j hj e => by
        rw [List.getD_eq_getElem?_getD, List.getElem?_eq_getElem hj] at e
        exact HB.out j hj (by rw [List.getElem?_eq_getElem hj]; exact congrArg some e))
      rw [List.take_length, HX.out] at this
      omega

/-- The first k weights, then zeros. -/
def wgTo (q : Nat → Int) (k m : Nat) : List Int := (List.range m).map fun j => if j < k then min (q j) 1000 else 0

theorem wgTo_zero (q : Nat → Int) (m : Nat) : wgTo q 0 m = upTo 0 m := by simp [wgTo, upTo]

theorem wgTo_all (q : Nat → Int) (m : Nat) : wgTo q m m = (List.range m).map fun j => min (q j) 1000 := by
  unfold wgTo
  apply List.map_congr_left
  intro j hj
  rw [if_pos (List.mem_range.1 hj)]

theorem wgTo_set {q : Nat → Int} {k m : Nat} (h : k < m) : (wgTo q k m).set k (min (q k) 1000) = wgTo q (k + 1) m := by
  unfold wgTo
  apply List.ext_getElem?
  intro t
  rw [List.getElem?_set]
  rcases Nat.lt_or_ge t m with ht | ht
  · rw [List.getElem?_map, List.getElem?_map, List.getElem?_range ht]
    by_cases hkt : k = t
    · subst hkt; simp [ht]
    · rw [if_neg hkt]
      simp only [Option.map_some]
      by_cases h1 : t < k
      · rw [if_pos h1, if_pos (by omega)]
      · rw [if_neg h1, if_neg (by omega)]
  · have : ¬ k = t := by omega
    rw [if_neg this, List.getElem?_eq_none (by simpa using ht), List.getElem?_eq_none (by simpa using ht)]

theorem wgTo_len (q : Nat → Int) (k m : Nat) : (wgTo q k m).length = m := by simp [wgTo]

theorem iC_at {w : World} {g : Nat} {xs : List Int} (h : w.heap[g]? = some (.cells (iC xs) 3)) {j : Nat} (hj : j < xs.length) : w.cell? ⟨g, j, none⟩ = some (.int .i64 xs[j]) ∧ w.frozen? ⟨g, j, none⟩ = false := iC_cell h (List.getElem?_eq_getElem hj)

set_option maxHeartbeats 4000000 in
theorem weights_any {w : World} {B wb h : Nat} {b : Int} {lpo top : Bool} {l : List Sm} {n rk : List Int} {As Ac Ar : Option Addr} {cs cc cr : Nat} (hB : B ≤ w.heap.size) (hlen : n.length = l.length) (hrl : rk.length = l.length) (h1 : 1 ≤ l.length) (hs : l.length ≤ 1000) (har : ∀ f, 0 ≤ arP l f ∧ arP l f ≤ 99) (hcn : ∀ f, 0 ≤ cnP n f ∧ cnP n f ≤ 1152921504606846976) (hrk : ∀ x, -1000000 ≤ rk.getD x 0 ∧ rk.getD x 0 ≤ 1000000)
    (hh : h < l.length) (hx : Lib.idxOf rk ((l.length : Int) - 1) = h) (hS : Syms w B As l.length l) (hI : Ints w B Ac n) (hR : Ints w w.heap.size Ar rk) (hi : wb ≤ 3) :
    Calls Tryd.prog 17 #[.agg #[.slice As l.length cs, .slice Ac n.length cc], .agg #[.bool lpo, .int .i64 b, .int .i64 (wb : Int), .bool top], .slice Ar rk.length cr] w fun e w' => ∃ g, e = .returned (.slice (some ⟨g, 0, none⟩) l.length l.length) ∧ Below w.heap.size w w' ∧ w.heap.size ≤ g ∧ w'.heap[g]? = some (.cells (iC (wtP l n (wb : Int) top rk h)) 3) := by
  obtain ⟨W2, hW2⟩ : ∃ W2, (w.alloc (.cells #[.slice As l.length cs, .slice Ac n.length cc] 55)).alloc (.cells #[.bool lpo, .int .i64 b, .int .i64 (wb : Int), .bool top] 34) = W2 := ⟨_, rfl⟩
  obtain ⟨q1, q2⟩ := heap2p w (.cells #[.slice As l.length cs, .slice Ac n.length cc] 55) (.cells #[.bool lpo, .int .i64 b, .int .i64 (wb : Int), .bool top] 34)
  rw [hW2] at q1 q2
  have z2 : W2.heap.size = w.heap.size + 2 := by rw [← hW2]; simp
  have hB2 : Below w.heap.size w W2 := by rw [← hW2]; exact ((Below.refl _ _).alloc (Nat.le_refl _) _).alloc (by simp) _
  have hwg := weighing_any (w := W2) (wb := wb) (cs := cs) (cc := cc) (cr := cr) (Nat.le_trans hB hB2.size) hlen hrl hs har hcn hrk (hS.keep fun p hp => hB2.cell (Nat.lt_of_lt_of_le hp hB)) (hI.keep fun p hp => hB2.cell (Nat.lt_of_lt_of_le hp hB)) (hR.on hB2) hi
  have c0 := (cells_two q1).1
  have c1 := (cells_two q1).2.1
  have d2 : W2.cell? ⟨w.heap.size + 1, 2, none⟩ = some (.int .i64 (wb : Int)) := by simp [World.cell?, q2]
  have HWG := Lib.hid hwg
  have HQ := Lib.hid (And.intro q1 (And.intro q2 (And.intro z2 hB2)))
  have HL := Lib.hid (And.intro hlen hrl)
  have HW2 := Lib.hid hW2
  have HX := Lib.hid hx
  clear hW2 q1 q2 z2 hB2 hlen hrl hwg hx
  go_enter Tryd.func17, Tryd.ntmps17
  go_upto_region 1 with fail
  rw [HW2.out]
  obtain ⟨i0, hi1, hz0, hz1, hz2⟩ := info_parts infoI
  have hmk : ∀ w : World, (Instr.makeSlice 22 (.int .i64 (rk.length : Int)) (.int .i64 (rk.length : Int))).run Tryd.prog w = .ok (.slice (some ⟨w.heap.size, 0, none⟩) rk.length rk.length) (w.alloc (.cells (iC (upTo 0 rk.length)) 3)) := fun w => by
    rw [← made_iC]; exact run_make_row _ _ i0 _ Tryd.underlying22 hi1 hz0 hz1 rfl _ _ rk.length (by rw [hz2]; have := HL.out.2; omega) (by have := HL.out.2; omega) w
  clear hi1 hz0 hz1 hz2
  go_wp2_with (first
    | ((with_reducible refine HWG.out.mono ?_); go_must (rintro e w3 ⟨v, rfl, hb3, kf, cv, rfl, hent, hcall⟩; have HV := Lib.hid hcall; clear hcall c0 c1 d2))
    | fail)
  clear hmk
  have HB3 := Lib.hid hb3
  clear hb3
  have hrl64 : rk.length ≤ 1000 := by rw [HL.out.2]; exact hs
  obtain ⟨q, hq⟩ : ∃ q, wgX l n (wb : Int) rk = q := ⟨_, rfl⟩
  rw [hq] at HV
  have Hq := Lib.hid hq
  clear hq
  go_loopw [21] (fun s21 wr => ∃ k : Nat, k ≤ rk.length ∧ s21 = .int .i64 (k : Int) ∧ Hid (Below w3.heap.size w3 wr ∧ w3.heap.size < wr.heap.size ∧ wr.heap[w3.heap.size]? = some (.cells (iC (wgTo q k rk.length)) 3))) (fun s21 _ => rk.length - (intOf s21).toNat)
  case atStart => exact ⟨0, Nat.zero_le _, rfl, (Below.refl _ _).alloc (Nat.le_refl _) _, by simp, by rw [wgTo_zero]; exact heap_alloc_new w3 _⟩
  case round =>
    obtain ⟨k, hk, rfl, HR⟩ := hrel
    by_cases hlt : k < rk.length
    · obtain ⟨c1, f1⟩ := iC_at HR.out.2.2 (j := k) (by rw [wgTo_len]; exact hlt)
      have HC := HV.out wr HR.out.1 k (by rw [← HL.out.2]; exact hlt)
      obtain ⟨y, hy⟩ : ∃ y, q k = y := ⟨_, rfl⟩
      rw [hy] at HC
      replace HC := Lib.hid HC
      have HN := Lib.hid (show Below w3.heap.size w3 (wr.setCell ⟨w3.heap.size, k, none⟩ (.int .i64 (min y 1000))) ∧ w3.heap.size < (wr.setCell ⟨w3.heap.size, k, none⟩ (.int .i64 (min y 1000))).heap.size ∧ (wr.setCell ⟨w3.heap.size, k, none⟩ (.int .i64 (min y 1000))).heap[w3.heap.size]? = some (.cells (iC (wgTo q (k + 1) rk.length)) 3) from
        ⟨HR.out.1.setCell (Nat.le_refl _) _, by simpa using HR.out.2.1, by rw [iC_set HR.out.2.2, ← hy, wgTo_set hlt]⟩)
      clear hy
      go_wp2_with (first
        | ((with_reducible refine HC.out.mono ?_); go_must (rintro e w5 ⟨rfl, rfl⟩))
        | fail)
      go_roundw
      case rel => exact ⟨k + 1, by omega, by go_num, HN⟩
      case measure => simp [intOf]; omega
    · obtain rfl : k = rk.length := by omega
      have hL1 : 1 ≤ rk.length := by rw [HL.out.2]; exact h1
      obtain ⟨c1, f1⟩ := iC_at HR.out.2.2 (j := 0) (by rw [wgTo_len]; omega)
      obtain ⟨W5, hW5⟩ : ∃ W5, wr.setCell ⟨w3.heap.size, 0, none⟩ (.int .i64 1) = W5 := ⟨_, rfl⟩
      have q5 : W5.heap[w3.heap.size]? = some (.cells (iC ((wgTo q rk.length rk.length).set 0 1)) 3) := by rw [← hW5, iC_set HR.out.2.2]
      have b5 : Below w3.heap.size w3 W5 := by rw [← hW5]; exact HR.out.1.setCell (Nat.le_refl _) _
      have s5 : w3.heap.size < W5.heap.size := (Array.getElem?_eq_some_iff.1 q5).1
      have bw : Below w.heap.size w W5 := HQ.out.2.2.2.trans ((HB3.out.trans (b5.mono HB3.out.size)).mono HQ.out.2.2.2.size)
      have bW2 : Below W2.heap.size W2 W5 := HB3.out.trans (b5.mono HB3.out.size)
      have Hix := Lib.hid (idxP_any rk ((rk.length : Int) - 1) h Ar cr W5 (hR.on bw) (by rw [HL.out.2]; exact HX.out))
      have H5 := Lib.hid (And.intro q5 (And.intro b5 (And.intro s5 (And.intro bw bW2))))
      have HU : Hid (∀ w6, Below W5.heap.size W5 w6 → Calls Tryd.prog 29 #[.agg #[.slice As l.length cs, .slice Ac n.length cc], .int .i64 (h : Int)] w6 fun e w' => e = .returned (.int .i64 (unI (arP l h))) ∧ On w6 w') := Lib.hid fun w6 hb6 => unary_any (B := B) (Nat.le_trans hB (Nat.le_trans bw.size hb6.size)) (hS.keep fun p hp => (bw.trans (hb6.mono bw.size)).cell (Nat.lt_of_lt_of_le hp hB)) hs hh
      have HM : Hid (∀ w6, Below W5.heap.size W5 w6 → w6.cell? ⟨w.heap.size, 0, none⟩ = some (.slice As l.length cs) ∧ w6.cell? ⟨w.heap.size, 1, none⟩ = some (.slice Ac n.length cc) ∧ w6.cell? ⟨w.heap.size + 1, 3, none⟩ = some (.bool top) ∧ w6.heap[w3.heap.size]? = some (.cells (iC ((wgTo q rk.length rk.length).set 0 1)) 3)) := Lib.hid fun w6 hb6 => by
        have e1 := ((bW2.trans (hb6.mono bW2.size)).block w.heap.size (by have := HQ.out.2.2.1; omega)).trans HQ.out.1
        have e2 := ((bW2.trans (hb6.mono bW2.size)).block (w.heap.size + 1) (by have := HQ.out.2.2.1; omega)).trans HQ.out.2.1
        exact ⟨(cells_two e1).1, (cells_two e1).2.1, by simp [World.cell?, e2], (hb6.block _ s5).trans q5⟩
      have hwr : IntKind.i64.wrap ((rk.length : Int) - 1) = (rk.length : Int) - 1 := by rw [IntKind.wrap_i64]; omega
      have HW5 := Lib.hid hW5
      have Hh9 := Lib.hid (show (h : Int) < (rk.length : Int) by have := HL.out.2; omega)
      have hset := Lib.hid (show wtP l n (wb : Int) top rk h = (if top = true ∧ arP l h = 1 then ((wgTo q rk.length rk.length).set 0 1).set h 0 else (wgTo q rk.length rk.length).set 0 1) by unfold wtP; rw [wgTo_all, ← Hq.out])
      have hgl := Lib.hid (show w.heap.size ≤ w3.heap.size from Nat.le_trans HQ.out.2.2.2.size HB3.out.size)
      clear q5 b5 s5 bw bW2 hW5
      cases htop : top with
      | false =>
        go_upto_region 9 with fail
        rw [HW5.out]
        go_wp2_with (first
          | ((with_reducible refine Hix.out.mono ?_); go_must (rintro e w6 ⟨rfl, hb6⟩; obtain ⟨m0, m1, m2, m3⟩ := HM.out w6 hb6; have HM3 := Lib.hid m3; have HB6 := Lib.hid hb6; have HU6 := Lib.hid (HU.out w6 hb6); clear m3 hb6))
          | fail)
        go_ret
        refine ⟨w3.heap.size, by rw [← HL.out.2]; rfl, H5.out.2.2.2.1.trans (HB6.out.mono H5.out.2.2.2.1.size), hgl.out, ?_⟩
        rw [hset.out, if_neg (by rw [htop]; simp)]
        exact HM3.out
      | true =>
        by_cases hu : arP l h = 1
        · have hu1 : unI (arP l h) = 1 := by unfold unI; rw [if_pos hu]
          rw [hu1] at HU
          go_upto_region 9 with fail
          rw [HW5.out]
          go_wp2_with (first
            | ((with_reducible refine Hix.out.mono ?_); go_must (rintro e w6 ⟨rfl, hb6⟩; obtain ⟨m0, m1, m2, m3⟩ := HM.out w6 hb6; have HM3 := Lib.hid m3; have HB6 := Lib.hid hb6; have HU6 := Lib.hid (HU.out w6 hb6); clear m3 hb6))
            | ((with_reducible refine HU6.out.mono ?_); go_must (rintro e w7 ⟨rfl, hon⟩; have m7 := blk_st hon.b HM3.out; have HB7 := Lib.hid (H5.out.2.2.2.1.trans ((HB6.out.trans (hon.b.mono HB6.out.size)).mono H5.out.2.2.2.1.size)); have HM7 := Lib.hid m7; obtain ⟨c9, f9⟩ := iC_at m7 (j := h) (by have e1 := HL.out.2; simp only [List.length_set, wgTo_len]; omega); have hh9 := Hh9.out; clear hon m7 m0 m1 m2))
            | fail)
          go_ret
          refine ⟨w3.heap.size, by rw [← HL.out.2]; rfl, HB7.out.setCell hgl.out _, hgl.out, ?_⟩
          rw [hset.out, if_pos ⟨htop, hu⟩]
          exact iC_set HM7.out h 0
        · have hu1 : unI (arP l h) = 0 := by unfold unI; rw [if_neg hu]
          rw [hu1] at HU
          go_upto_region 9 with fail
          rw [HW5.out]
          go_wp2_with (first
            | ((with_reducible refine Hix.out.mono ?_); go_must (rintro e w6 ⟨rfl, hb6⟩; obtain ⟨m0, m1, m2, m3⟩ := HM.out w6 hb6; have HM3 := Lib.hid m3; have HB6 := Lib.hid hb6; have HU6 := Lib.hid (HU.out w6 hb6); clear m3 hb6))
            | ((with_reducible refine HU6.out.mono ?_); go_must (rintro e w7 ⟨rfl, hon⟩; have m7 := blk_st hon.b HM3.out; have HB7 := Lib.hid (H5.out.2.2.2.1.trans ((HB6.out.trans (hon.b.mono HB6.out.size)).mono H5.out.2.2.2.1.size)); have HM7 := Lib.hid m7; clear hon m7 m0 m1 m2))
            | fail)
          go_ret
          refine ⟨w3.heap.size, by rw [← HL.out.2]; rfl, HB7.out, hgl.out, ?_⟩
          rw [hset.out, if_neg (fun e => hu e.2)]
          exact HM7.out

end Go.Proofs.YtfnncphkidhbpaaDoor

