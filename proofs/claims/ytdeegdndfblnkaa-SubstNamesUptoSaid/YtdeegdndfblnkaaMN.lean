/- Depth, Ground. Ground. Rising rows of numbers, in plain words: sorted and made single, or put in one after the other. -/
import Derived.Test.YtdeegdndfblnkaaR5
import Derived.Test.YtdeegdndfblnkaaD1
import Derived.Lib.SlicesCompact
namespace Go.Proofs.Ytdeegdndfblnkaa
open Go.RowKit Go.Shelf

attribute [local go_sem] Oper.semAt_some
set_option maxRecDepth 100000

/-- The longest place of these, and one more. -/
def maxP : List (List Int × Tm) → Nat
  | [] => 0
  | x :: l => max (1 + x.1.length) (maxP l)
theorem maxP_app : ∀ (a b : List (List Int × Tm)), maxP (a ++ b) = max (maxP a) (maxP b)
  | [], b => by simp [maxP]
  | x :: a, b => by simp only [List.cons_append, maxP, maxP_app a b]; omega
theorem maxP_vis (t : Tm) : ∀ p, maxP (vis p t) = p.length + t.depth := by
  have key : ∀ xs : List Tm, (∀ t ∈ xs, ∀ p, maxP (vis p t) = p.length + t.depth) → ∀ (p : List Int) (i : Nat), maxP (visL p i xs) = if xs = [] then 0 else p.length + 1 + depths xs := by
    intro xs
    induction xs with
    | nil => intro _ p i; simp [visL, maxP]
    | cons x xs ih =>
      intro h p i
      have h1 := h x (by simp) (p ++ [(i : Int)])
      have h2 := ih (fun t ht => h t (by simp [ht])) p (i + 1)
      simp only [visL, maxP_app, h1, h2, depths, List.length_append, List.length_cons, List.length_nil]
      rw [if_neg (show ¬ (x :: xs = []) by simp)]
      have := depth_pos x
      by_cases e : xs = []
      · rw [if_pos e, e]; simp only [depths]; omega
      · rw [if_neg e]; omega
  refine Tm.ind (P := fun t => ∀ p, maxP (vis p t) = p.length + t.depth) (fun f xs ih p => ?_) t
  simp only [vis, Tm.depth, maxP, key xs ih]
  by_cases e : xs = []
  · rw [if_pos e, e]; simp only [depths]; omega
  · rw [if_neg e]; omega
theorem maxP_mem {l : List (List Int × Tm)} {x : List Int × Tm} (h : x ∈ l) : 1 + x.1.length ≤ maxP l := by
  induction l with
  | nil => simp at h
  | cons y l ih =>
    simp only [List.mem_cons] at h
    simp only [maxP]
    rcases h with rfl | h
    · omega
    · have := ih h; omega
theorem maxP_pre {t : Tm} {pre : List Vis} (h : pre.map Vis.key <+: vis [] t) : maxP (pre.map Vis.key) ≤ maxP (vis [] t) := by
  obtain ⟨r, hr⟩ := h
  rw [← hr, maxP_app]; omega
theorem pre_mem {t : Tm} {pre : List Vis} {x : Vis} (h : (pre ++ [x]).map Vis.key <+: vis [] t) : x.key ∈ vis [] t := h.subset (by simp)

end Go.Proofs.Ytdeegdndfblnkaa

namespace Go.Proofs.Ytdeegdndfblnkaa
open Go.RowKit Go.Shelf

attribute [local go_sem] Oper.semAt_some
set_option maxRecDepth 100000

/-- The variables' numbers that stand in these, in order. -/
def vnums : List (List Int × Tm) → List Int
  | [] => []
  | x :: l => if x.2.fn < 0 then (-1 - x.2.fn) :: vnums l else vnums l
theorem vnums_app : ∀ (a b : List (List Int × Tm)), vnums (a ++ b) = vnums a ++ vnums b
  | [], b => by simp [vnums]
  | x :: a, b => by
    simp only [List.cons_append, vnums, vnums_app a b]
    split <;> simp
theorem vnums_snoc_neg {pre : List Vis} {x : Vis} (h : x.t.fn < 0) : vnums ((pre ++ [x]).map Vis.key) = vnums (pre.map Vis.key) ++ [-1 - x.t.fn] := by
  rw [List.map_append, vnums_app]
  simp only [List.map_cons, List.map_nil, vnums, Vis.key, if_pos h]
theorem vnums_snoc_pos {pre : List Vis} {x : Vis} (h : ¬ x.t.fn < 0) : vnums ((pre ++ [x]).map Vis.key) = vnums (pre.map Vis.key) := by
  rw [List.map_append, vnums_app]
  simp only [List.map_cons, List.map_nil, vnums, Vis.key, if_neg h, List.append_nil]
theorem vnums_pre {t : Tm} {pre : List Vis} (h : pre.map Vis.key <+: vis [] t) : vnums (pre.map Vis.key) <+: vnums (vis [] t) := by
  obtain ⟨r, hr⟩ := h
  rw [← hr, vnums_app]
  exact List.prefix_append _ _
theorem stp_alloc {N P : Nat → Prop} (W : World) (o : Obj) (hN : ∀ g, N g → g < W.heap.size) : Stp N (fun _ => P) W (W.alloc o) :=
  ⟨(Keeps.alloc W o).mono fun g hg => hg.elim (hN g) (fun e => e.1), fun _ e => .inl e⟩

end Go.Proofs.Ytdeegdndfblnkaa

namespace Go.Proofs.Ytdeegdndfblnkaa
open Go.RowKit

mutual
/-- The variables' numbers in a term, in order. -/
def vn : Tm → List Int
  | .node f xs => (if f < 0 then [-1 - f] else []) ++ vnL xs
def vnL : List Tm → List Int
  | [] => []
  | t :: ts => vn t ++ vnL ts
end
theorem vnums_vis (t : Tm) : ∀ p, vnums (vis p t) = vn t := by
  have key : ∀ xs : List Tm, (∀ t ∈ xs, ∀ p, vnums (vis p t) = vn t) → ∀ (p : List Int) (i : Nat), vnums (visL p i xs) = vnL xs := by
    intro xs
    induction xs with
    | nil => intro _ p i; simp [visL, vnums, vnL]
    | cons x xs ih =>
      intro h p i
      simp only [visL, vnL, vnums_app, h x (by simp), ih (fun t ht => h t (by simp [ht]))]
  refine Tm.ind (P := fun t => ∀ p, vnums (vis p t) = vn t) (fun f xs ih p => ?_) t
  simp only [vis, vn, vnums, key xs ih, Tm.fn]
  split <;> simp
theorem vnL_app : ∀ (a b : List Tm), vnL (a ++ b) = vnL a ++ vnL b
  | [], b => by simp [vnL]
  | x :: a, b => by simp only [List.cons_append, vnL, vnL_app a b, List.append_assoc]
theorem vnL_take {xs : List Tm} {k : Nat} {u : Tm} (h : xs[k]? = some u) : vnL (xs.take (k + 1)) = vnL (xs.take k) ++ vn u := by
  rw [List.take_add_one, h, vnL_app]
  simp [vnL]
theorem vn_len (t : Tm) : (vn t).length ≤ t.size := by
  have key : ∀ xs : List Tm, (∀ t ∈ xs, (vn t).length ≤ t.size) → (vnL xs).length ≤ sizes xs := by
    intro xs
    induction xs with
    | nil => intro _; simp [vnL]
    | cons x xs ih =>
      intro h
      have h1 := h x (by simp)
      have h2 := ih fun t ht => h t (by simp [ht])
      simp only [vnL, sizes, List.length_append]
      omega
  refine Tm.ind (P := fun t => (vn t).length ≤ t.size) (fun f xs ih => ?_) t
  have := key xs ih
  simp only [vn, Tm.size, List.length_append]
  split <;> simp <;> omega

/-- One number put into a row, from a place on: none, if it stands there. -/
def insGo (v : Int) : List Int → Bool → List Int → Option (List Int)
  | [], done, out => some (if done then out else out ++ [v])
  | x :: r, done, out => if x = v then none else if v < x ∧ done = false then insGo v r true (out ++ [v] ++ [x]) else insGo v r done (out ++ [x])
def insI (l : List Int) (v : Int) : List Int := (insGo v l false []).getD l

theorem insGo_true (v : Int) : ∀ (r out : List Int), v ∉ r → insGo v r true out = some (out ++ r)
  | [], out, _ => by simp [insGo]
  | x :: r, out, h => by
    simp only [List.mem_cons, not_or] at h
    simp only [insGo, if_neg (show ¬ x = v from fun e => h.1 e.symm)]
    rw [if_neg (by simp), insGo_true v r _ h.2]
    simp
theorem insGo_mem (v : Int) : ∀ (r : List Int) (d : Bool) (out : List Int), v ∈ r → insGo v r d out = none
  | x :: r, d, out, h => by
    simp only [insGo]
    by_cases e : x = v
    · rw [if_pos e]
    · rw [if_neg e]
      have h2 : v ∈ r := by
        rcases List.mem_cons.1 h with h | h
        · exact absurd h.symm e
        · exact h
      split
      · exact insGo_mem v r _ _ h2
      · exact insGo_mem v r _ _ h2
theorem insGo_false (v : Int) : ∀ (r out : List Int), r.Pairwise (· < ·) → v ∉ r → ∃ a b, r = a ++ b ∧ insGo v r false out = some (out ++ a ++ v :: b) ∧ (∀ x ∈ a, x < v) ∧ ∀ x ∈ b, v < x
  | [], out, _, _ => ⟨[], [], rfl, by simp [insGo], by simp, by simp⟩
  | x :: r, out, hp, h => by
    simp only [List.mem_cons, not_or] at h
    rw [List.pairwise_cons] at hp
    have hne : ¬ x = v := fun e => h.1 e.symm
    by_cases hx : v < x
    · refine ⟨[], x :: r, rfl, ?_, by simp, fun y hy => ?_⟩
      · simp only [insGo, if_neg hne]
        rw [if_pos ⟨hx, by trivial⟩, insGo_true v r _ h.2]
        simp
      · rcases List.mem_cons.1 hy with rfl | hy
        · exact hx
        · have := hp.1 y hy; omega
    · obtain ⟨a, b, e1, e2, e3, e4⟩ := insGo_false v r (out ++ [x]) hp.2 h.2
      refine ⟨x :: a, b, by rw [e1]; rfl, ?_, fun y hy => ?_, e4⟩
      · simp only [insGo, if_neg hne]
        rw [if_neg (by omega), e2]
        simp
      · rcases List.mem_cons.1 hy with rfl | hy
        · omega
        · exact e3 y hy
theorem insI_rise {l : List Int} (v : Int) (h : l.Pairwise (· < ·)) : (insI l v).Pairwise (· < ·) ∧ ∀ x, x ∈ insI l v ↔ x ∈ l ∨ x = v := by
  unfold insI
  by_cases hv : v ∈ l
  · rw [insGo_mem v l _ _ hv]
    refine ⟨h, fun x => ⟨.inl, fun e => e.elim id fun e => by rw [e]; exact hv⟩⟩
  · obtain ⟨a, b, e1, e2, e3, e4⟩ := insGo_false v l [] h hv
    rw [e2]
    simp only [Option.getD_some, List.nil_append]
    rw [e1] at h
    obtain ⟨ha, hb, hab⟩ := List.pairwise_append.1 h
    refine ⟨List.pairwise_append.2 ⟨ha, List.pairwise_cons.2 ⟨e4, hb⟩, fun x hx y hy => ?_⟩, fun x => ?_⟩
    · rcases List.mem_cons.1 hy with rfl | hy
      · exact e3 x hx
      · exact hab x hx y hy
    · rw [e1]
      simp only [List.mem_append, List.mem_cons]
      constructor
      · rintro (h | h | h)
        · exact .inl (.inl h)
        · exact .inr h
        · exact .inl (.inr h)
      · rintro ((h | h) | h)
        · exact .inl h
        · exact .inr (.inr h)
        · exact .inr (.inl h)
theorem insI_fold : ∀ (r l : List Int), l.Pairwise (· < ·) → (r.foldl insI l).Pairwise (· < ·) ∧ ∀ x, x ∈ r.foldl insI l ↔ x ∈ l ∨ x ∈ r
  | [], l, h => ⟨h, fun x => by simp⟩
  | v :: r, l, h => by
    obtain ⟨h1, h2⟩ := insI_rise v h
    obtain ⟨h3, h4⟩ := insI_fold r (insI l v) h1
    refine ⟨h3, fun x => ?_⟩
    rw [List.foldl_cons, h4, h2]
    simp only [List.mem_cons]
    constructor
    · rintro ((h | h) | h)
      · exact .inl h
      · exact .inr (.inl h)
      · exact .inr (.inr h)
    · rintro (h | h | h)
      · exact .inl (.inl h)
      · exact .inl (.inr h)
      · exact .inr h
/-- Rising rows of the same numbers are the same. -/
theorem rise_eq : ∀ {a b : List Int}, a.Pairwise (· < ·) → b.Pairwise (· < ·) → (∀ x, x ∈ a ↔ x ∈ b) → a = b
  | [], [], _, _, _ => rfl
  | [], y :: b, _, _, h => absurd ((h y).2 (by simp)) (by simp)
  | x :: a, [], _, _, h => absurd ((h x).1 (by simp)) (by simp)
  | x :: a, y :: b, ha, hb, h => by
    rw [List.pairwise_cons] at ha hb
    have e : x = y := by
      have h1 := (h x).1 (by simp)
      have h2 := (h y).2 (by simp)
      rcases List.mem_cons.1 h1 with h1 | h1
      · exact h1
      · rcases List.mem_cons.1 h2 with h2 | h2
        · exact h2.symm
        · have := hb.1 x h1; have := ha.1 y h2; omega
    subst e
    rw [rise_eq ha.2 hb.2 fun z => ?_]
    constructor
    · intro hz
      rcases List.mem_cons.1 ((h z).1 (by simp [hz])) with e | e
      · have := ha.1 z hz; omega
      · exact e
    · intro hz
      rcases List.mem_cons.1 ((h z).2 (by simp [hz])) with e | e
      · have := hb.1 z hz; omega
      · exact e
open Go.Lib in
theorem comp_rise (d : Array Int) (hs : ∀ i j, i ≤ j → j < d.size → d[i]! ≤ d[j]!) : ∀ m, m ≤ d.size → (compactUpTo d m).Pairwise (· < ·) ∧ ∀ x, x ∈ compactUpTo d m ↔ ∃ j, j < m ∧ d[j]! = x
  | 0, _ => by simp [compactUpTo]
  | m + 1, hm => by
    obtain ⟨h1, h2⟩ := comp_rise d hs m (by omega)
    rw [compactUpTo_succ]
    by_cases hk : keeps d m = true
    · rw [if_pos hk]
      refine ⟨List.pairwise_append.2 ⟨h1, by simp, fun x hx y hy => ?_⟩, fun x => ?_⟩
      · simp only [List.mem_cons, List.not_mem_nil, or_false] at hy
        subst hy
        obtain ⟨j, hj, rfl⟩ := (h2 x).1 hx
        have h3 := hs j (m - 1) (by omega) (by omega)
        have h4 := hs (m - 1) m (by omega) (by omega)
        simp only [keeps, decide_eq_true_eq] at hk
        rcases hk with hk | hk
        · omega
        · omega
      · rw [List.mem_append, h2]
        simp only [List.mem_cons, List.not_mem_nil, or_false]
        constructor
        · rintro (⟨j, hj, e⟩ | rfl)
          · exact ⟨j, by omega, e⟩
          · exact ⟨m, by omega, rfl⟩
        · rintro ⟨j, hj, e⟩
          by_cases e2 : j = m
          · subst e2; exact .inr e.symm
          · exact .inl ⟨j, by omega, e⟩
    · rw [if_neg hk, List.append_nil]
      simp only [keeps, decide_eq_true_eq, not_or, ne_eq, Classical.not_not] at hk
      refine ⟨h1, fun x => ?_⟩
      rw [h2]
      constructor
      · rintro ⟨j, hj, e⟩; exact ⟨j, by omega, e⟩
      · rintro ⟨j, hj, e⟩
        by_cases e2 : j = m
        · subst e2; exact ⟨j - 1, by omega, by rw [← hk.2]; exact e⟩
        · exact ⟨j, by omega, e⟩
open Go.Lib in
/-- Sorted and made single, or put in one after the other: the same row. -/
theorem sort_ins (r : List Int) : compact (r.mergeSort fun x y => decide (x ≤ y)) = r.foldl insI [] := by
  have hp : (r.mergeSort fun x y => decide (x ≤ y)).Pairwise (fun x y => decide (x ≤ y) = true) := List.pairwise_mergeSort (fun a b c h1 h2 => by simp at *; omega) (fun a b => by simp; omega) r
  have hmem : ∀ x, x ∈ r.mergeSort (fun x y => decide (x ≤ y)) ↔ x ∈ r := fun x => List.mem_mergeSort
  generalize r.mergeSort (fun x y => decide (x ≤ y)) = z at hp hmem
  obtain ⟨h1, h2⟩ := insI_fold r [] List.Pairwise.nil
  obtain ⟨h3, h4⟩ := comp_rise z.toArray (fun i j hij hj => by
    have hj' : j < z.length := by simpa using hj
    have ei : z.toArray[i]! = z[i]'(by omega) := by rw [getElem!_pos _ i (by simpa using (by omega : i < z.length))]; simp
    have ej : z.toArray[j]! = z[j]'hj' := by rw [getElem!_pos _ j (by simpa using hj')]; simp
    rw [ei, ej]
    by_cases e : i = j
    · subst e; omega
    · have := List.pairwise_iff_getElem.1 hp i j (by omega) hj' (by omega)
      simpa using this) z.length (by simp)
  refine rise_eq h3 h1 fun x => ?_
  rw [show (x ∈ compact z ↔ x ∈ compactUpTo z.toArray z.length) from Iff.rfl, h4, h2, ← hmem]
  simp only [List.not_mem_nil, false_or]
  constructor
  · rintro ⟨j, hj, e⟩
    rw [getElem!_pos _ j (by simpa using hj)] at e
    rw [← e]
    simp
  · intro hx
    obtain ⟨j, hj, e⟩ := List.mem_iff_getElem.1 hx
    exact ⟨j, hj, by rw [getElem!_pos _ j (by simpa using hj)]; simpa using e⟩

end Go.Proofs.Ytdeegdndfblnkaa
