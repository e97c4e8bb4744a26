import Derived.Test.YtkpkhnaflohjpaaP26Z14
import Derived.Test.YtkpkhnaflohjpaaP26Z7
import Derived.Lib.SlicesCompact
import Derived.Test.YtkpkhnaflohjpaaP26Z13
import Derived.Test.YtkpkhnaflohjpaaP26Z5
/- Size. -/

namespace Go.Proofs.Ytkpkhnaflohjpaa

open Go.RowKit Go.Shelf
attribute [local go_sem] Oper.semAt_some
set_option maxRecDepth 100000

theorem vis_len (t : Tm) : ∀ p, (vis p t).length = t.size := by
  have key : ∀ xs : List Tm, (∀ t ∈ xs, ∀ p, (vis p t).length = t.size) → ∀ (p : List Int) (i : Nat), (visL p i xs).length = sizes xs := by
    intro xs
    induction xs with
    | nil => intro _ p i; simp [visL, sizes]
    | cons x xs ih =>
      intro h p i
      simp only [visL, sizes, List.length_append, h x (by simp), ih (fun t ht => h t (by simp [ht]))]
  refine Tm.ind (P := fun t => ∀ p, (vis p t).length = t.size) (fun f xs ih p => ?_) t
  simp only [vis, Tm.size, List.length_cons, key xs ih]

theorem pre_len {t : Tm} {pre : List Vis} (h : pre.map Vis.key <+: vis [] t) : pre.length ≤ t.size := by
  have := h.length_le
  rw [vis_len, List.length_map] at this
  exact this

/-- What a range's record turns, where a body's cells are asked. -/
theorem put_block {W : World} {l g : Nat} {r : Loop} {o : Obj} {cs : Array Value} {t : TypeId} {z : Nat × Nat} (h : W.heap[g]? = some (.cells cs t z)) (hl : W.heap[l]? = some (.loop r)) : (W.putObj l o).heap[g]? = some (.cells cs t z) :=
  (World.putObj_heap_other (fun e => by subst e; rw [h] at hl; cases hl)).trans h

end Go.Proofs.Ytkpkhnaflohjpaa

/- Depth, Ground. Ground. Rising rows of numbers, in plain words: sorted and made single, or put in one after the other. -/

namespace Go.Proofs.Ytkpkhnaflohjpaa

open Go.RowKit Go.Shelf

attribute [local go_sem] Oper.semAt_some
set_option maxRecDepth 100000

/-- The longest place of these, and one more. -/
def maxP : List (List Int × Tm) → Nat
  | [] => 0
  | x :: l => max (1 + x.1.length) (maxP l)

theorem maxP_app : ∀ (a b : List (List Int × Tm)), maxP (a ++ b) = max (maxP a) (maxP b)
  | [], b => by simp [maxP]
  | x :: a, b => by simp only [List.cons_append, maxP, maxP_app a b]; omega

theorem maxP_vis (t : Tm) : ∀ p, maxP (vis p t) = p.length + t.depth := by
  have key : ∀ xs : List Tm, (∀ t ∈ xs, ∀ p, maxP (vis p t) = p.length + t.depth) → ∀ (p : List Int) (i : Nat), maxP (visL p i xs) = if xs = [] then 0 else p.length + 1 + depths xs := by
    intro xs
    induction xs with
    | nil => intro _ p i; simp [visL, maxP]
    | cons x xs ih =>
      intro h p i
      have h1 := h x (by simp) (p ++ [(i : Int)])
      have h2 := ih (fun t ht => h t (by simp [ht])) p (i + 1)
      simp only [visL, maxP_app, h1, h2, depths, List.length_append, List.length_cons, List.length_nil]
      rw [if_neg (show ¬ (x :: xs = []) by simp)]
      have := depth_pos x
      by_cases e : xs = []
      · rw [if_pos e, e]; simp only [depths]; omega
      · rw [if_neg e]; omega
  refine Tm.ind (P := fun t => ∀ p, maxP (vis p t) = p.length + t.depth) (fun f xs ih p => ?_) t
  simp only [vis, Tm.depth, maxP, key xs ih]
  by_cases e : xs = []
  · rw [if_pos e, e]; simp only [depths]; omega
  · rw [if_neg e]; omega

theorem maxP_mem {l : List (List Int × Tm)} {x : List Int × Tm} (h : x ∈ l) : 1 + x.1.length ≤ maxP l := by
  induction l with
  | nil => simp at h
  | cons y l ih =>
    simp only [List.mem_cons] at h
    simp only [maxP]
    rcases h with rfl | h
    · omega
    · have := ih h; omega

theorem maxP_pre {t : Tm} {pre : List Vis} (h : pre.map Vis.key <+: vis [] t) : maxP (pre.map Vis.key) ≤ maxP (vis [] t) := by
  obtain ⟨r, hr⟩ := h
  rw [← hr, maxP_app]; omega

theorem pre_mem {t : Tm} {pre : List Vis} {x : Vis} (h : (pre ++ [x]).map Vis.key <+: vis [] t) : x.key ∈ vis [] t := h.subset (by simp)

end Go.Proofs.Ytkpkhnaflohjpaa

namespace Go.Proofs.Ytkpkhnaflohjpaa

open Go.RowKit Go.Shelf

attribute [local go_sem] Oper.semAt_some
set_option maxRecDepth 100000

/-- The variables' numbers that stand in these, in order. -/
def vnums : List (List Int × Tm) → List Int
  | [] => []
  | x :: l => if x.2.fn < 0 then (-1 - x.2.fn) :: vnums l else vnums l

theorem vnums_app : ∀ (a b : List (List Int × Tm)), vnums (a ++ b) = vnums a ++ vnums b
  | [], b => by simp [vnums]
  | x :: a, b => by
    simp only [List.cons_append, vnums, vnums_app a b]
    split <;> simp

theorem vnums_snoc_neg {pre : List Vis} {x : Vis} (h : x.t.fn < 0) : vnums ((pre ++ [x]).map Vis.key) = vnums (pre.map Vis.key) ++ [-1 - x.t.fn] := by
  rw [List.map_append, vnums_app]
  simp only [List.map_cons, List.map_nil, vnums, Vis.key, if_pos h]

theorem vnums_snoc_pos {pre : List Vis} {x : Vis} (h : ¬ x.t.fn < 0) : vnums ((pre ++ [x]).map Vis.key) = vnums (pre.map Vis.key) := by
  rw [List.map_append, vnums_app]
  simp only [List.map_cons, List.map_nil, vnums, Vis.key, if_neg h, List.append_nil]

theorem vnums_pre {t : Tm} {pre : List Vis} (h : pre.map Vis.key <+: vis [] t) : vnums (pre.map Vis.key) <+: vnums (vis [] t) := by
  obtain ⟨r, hr⟩ := h
  rw [← hr, vnums_app]
  exact List.prefix_append _ _

theorem stp_alloc {N P : Nat → Prop} (W : World) (o : Obj) (hN : ∀ g, N g → g < W.heap.size) : Stp N (fun _ => P) W (W.alloc o) :=
  ⟨(Keeps.alloc W o).mono fun g hg => hg.elim (hN g) (fun e => e.1), fun _ e => .inl e⟩

end Go.Proofs.Ytkpkhnaflohjpaa

namespace Go.Proofs.Ytkpkhnaflohjpaa

open Go.RowKit

mutual
/-- The variables' numbers in a term, in order. -/
def vn : Tm → List Int
  | .node f xs => (if f < 0 then [-1 - f] else []) ++ vnL xs
def vnL : List Tm → List Int
  | [] => []
  | t :: ts => vn t ++ vnL ts
end

theorem vnums_vis (t : Tm) : ∀ p, vnums (vis p t) = vn t := by
  have key : ∀ xs : List Tm, (∀ t ∈ xs, ∀ p, vnums (vis p t) = vn t) → ∀ (p : List Int) (i : Nat), vnums (visL p i xs) = vnL xs := by
    intro xs
    induction xs with
    | nil => intro _ p i; simp [visL, vnums, vnL]
    | cons x xs ih =>
      intro h p i
      simp only [visL, vnL, vnums_app, h x (by simp), ih (fun t ht => h t (by simp [ht]))]
  refine Tm.ind (P := fun t => ∀ p, vnums (vis p t) = vn t) (fun f xs ih p => ?_) t
  simp only [vis, vn, vnums, key xs ih, Tm.fn]
  split <;> simp

theorem vnL_app : ∀ (a b : List Tm), vnL (a ++ b) = vnL a ++ vnL b
  | [], b => by simp [vnL]
  | x :: a, b => by simp only [List.cons_append, vnL, vnL_app a b, List.append_assoc]

theorem vnL_take {xs : List Tm} {k : Nat} {u : Tm} (h : xs[k]? = some u) : vnL (xs.take (k + 1)) = vnL (xs.take k) ++ vn u := by
  rw [List.take_add_one, h, vnL_app]
  simp [vnL]

theorem vn_len (t : Tm) : (vn t).length ≤ t.size := by
  have key : ∀ xs : List Tm, (∀ t ∈ xs, (vn t).length ≤ t.size) → (vnL xs).length ≤ sizes xs := by
    intro xs
    induction xs with
    | nil => intro _; simp [vnL]
    | cons x xs ih =>
      intro h
      have h1 := h x (by simp)
      have h2 := ih fun t ht => h t (by simp [ht])
      simp only [vnL, sizes, List.length_append]
      omega
  refine Tm.ind (P := fun t => (vn t).length ≤ t.size) (fun f xs ih => ?_) t
  have := key xs ih
  simp only [vn, Tm.size, List.length_append]
  split <;> simp <;> omega

/-- One number put into a row, from a place on: none, if it stands there. -/
def insGo (v : Int) : List Int → Bool → List Int → Option (List Int)
  | [], done, out => some (if done then out else out ++ [v])
  | x :: r, done, out => if x = v then none else if v < x ∧ done = false then insGo v r true (out ++ [v] ++ [x]) else insGo v r done (out ++ [x])

def insI (l : List Int) (v : Int) : List Int := (insGo v l false []).getD l

theorem insGo_true (v : Int) : ∀ (r out : List Int), v ∉ r → insGo v r true out = some (out ++ r)
  | [], out, _ => by simp [insGo]
  | x :: r, out, h => by
    simp only [List.mem_cons, not_or] at h
    simp only [insGo, if_neg (show ¬ x = v from fun e => h.1 e.symm)]
    rw [if_neg (by simp), insGo_true v r _ h.2]
    simp

theorem insGo_mem (v : Int) : ∀ (r : List Int) (d : Bool) (out : List Int), v ∈ r → insGo v r d out = none
  | x :: r, d, out, h => by
    simp only [insGo]
    by_cases e : x = v
    · rw [if_pos e]
    · rw [if_neg e]
      have h2 : v ∈ r := by
        rcases List.mem_cons.1 h with h | h
        · exact absurd h.symm e
        · exact h
      split
      · exact insGo_mem v r _ _ h2
      · exact insGo_mem v r _ _ h2

theorem insGo_false (v : Int) : ∀ (r out : List Int), r.Pairwise (· < ·) → v ∉ r → ∃ a b, r = a ++ b ∧ insGo v r false out = some (out ++ a ++ v :: b) ∧ (∀ x ∈ a, x < v) ∧ ∀ x ∈ b, v < x
  | [], out, _, _ => ⟨[], [], rfl, by simp [insGo], by simp, by simp⟩
  | x :: r, out, hp, h => by
    simp only [List.mem_cons, not_or] at h
    rw [List.pairwise_cons] at hp
    have hne : ¬ x = v := fun e => h.1 e.symm
    by_cases hx : v < x
    · refine ⟨[], x :: r, rfl, ?_, by simp, fun y hy => ?_⟩
      · simp only [insGo, if_neg hne]
        rw [if_pos ⟨hx, by trivial⟩, insGo_true v r _ h.2]
        simp
      · rcases List.mem_cons.1 hy with rfl | hy
        · exact hx
        · have := hp.1 y hy; omega
    · obtain ⟨a, b, e1, e2, e3, e4⟩ := insGo_false v r (out ++ [x]) hp.2 h.2
      refine ⟨x :: a, b, by rw [e1]; rfl, ?_, fun y hy => ?_, e4⟩
      · simp only [insGo, if_neg hne]
        rw [if_neg (by omega), e2]
        simp
      · rcases List.mem_cons.1 hy with rfl | hy
        · omega
        · exact e3 y hy

theorem insI_rise {l : List Int} (v : Int) (h : l.Pairwise (· < ·)) : (insI l v).Pairwise (· < ·) ∧ ∀ x, x ∈ insI l v ↔ x ∈ l ∨ x = v := by
  unfold insI
  by_cases hv : v ∈ l
  · rw [insGo_mem v l _ _ hv]
    refine ⟨h, fun x => ⟨.inl, fun e => e.elim id fun e => by rw [e]; exact hv⟩⟩
  · obtain ⟨a, b, e1, e2, e3, e4⟩ := insGo_false v l [] h hv
    rw [e2]
    simp only [Option.getD_some, List.nil_append]
    rw [e1] at h
    obtain ⟨ha, hb, hab⟩ := List.pairwise_append.1 h
    refine ⟨List.pairwise_append.2 ⟨ha, List.pairwise_cons.2 ⟨e4, hb⟩, fun x hx y hy => ?_⟩, fun x => ?_⟩
    · rcases List.mem_cons.1 hy with rfl | hy
      · exact e3 x hx
      · exact hab x hx y hy
    · rw [e1]
      simp only [List.mem_append, List.mem_cons]
      constructor
      · rintro (h | h | h)
        · exact .inl (.inl h)
        · exact .inr h
        · exact .inl (.inr h)
      · rintro ((h | h) | h)
        · exact .inl h
        · exact .inr (.inr h)
        · exact .inr (.inl h)

theorem insI_fold : ∀ (r l : List Int), l.Pairwise (· < ·) → (r.foldl insI l).Pairwise (· < ·) ∧ ∀ x, x ∈ r.foldl insI l ↔ x ∈ l ∨ x ∈ r
  | [], l, h => ⟨h, fun x => by simp⟩
  | v :: r, l, h => by
    obtain ⟨h1, h2⟩ := insI_rise v h
    obtain ⟨h3, h4⟩ := insI_fold r (insI l v) h1
    refine ⟨h3, fun x => ?_⟩
    rw [List.foldl_cons, h4, h2]
    simp only [List.mem_cons]
    constructor
    · rintro ((h | h) | h)
      · exact .inl h
      · exact .inr (.inl h)
      · exact .inr (.inr h)
    · rintro (h | h | h)
      · exact .inl (.inl h)
      · exact .inl (.inr h)
      · exact .inr h

/-- Rising rows of the same numbers are the same. -/
theorem rise_eq : ∀ {a b : List Int}, a.Pairwise (· < ·) → b.Pairwise (· < ·) → (∀ x, x ∈ a ↔ x ∈ b) → a = b
  | [], [], _, _, _ => rfl
  | [], y :: b, _, _, h => absurd ((h y).2 (by simp)) (by simp)
  | x :: a, [], _, _, h => absurd ((h x).1 (by simp)) (by simp)
  | x :: a, y :: b, ha, hb, h => by
    rw [List.pairwise_cons] at ha hb
    have e : x = y := by
      have h1 := (h x).1 (by simp)
      have h2 := (h y).2 (by simp)
      rcases List.mem_cons.1 h1 with h1 | h1
      · exact h1
      · rcases List.mem_cons.1 h2 with h2 | h2
        · exact h2.symm
        · have := hb.1 x h1; have := ha.1 y h2; omega
    subst e
    rw [rise_eq ha.2 hb.2 fun z => ?_]
    constructor
    · intro hz
      rcases List.mem_cons.1 ((h z).1 (by simp [hz])) with e | e
      · have := ha.1 z hz; omega
      · exact e
    · intro hz
      rcases List.mem_cons.1 ((h z).2 (by simp [hz])) with e | e
      · have := hb.1 z hz; omega
      · exact e

open Go.Lib in

theorem comp_rise (d : Array Int) (hs : ∀ i j, i ≤ j → j < d.size → d[i]! ≤ d[j]!) : ∀ m, m ≤ d.size → (compactUpTo d m).Pairwise (· < ·) ∧ ∀ x, x ∈ compactUpTo d m ↔ ∃ j, j < m ∧ d[j]! = x
  | 0, _ => by simp [compactUpTo]
  | m + 1, hm => by
    obtain ⟨h1, h2⟩ := comp_rise d hs m (by omega)
    rw [compactUpTo_succ]
    by_cases hk : keeps d m = true
    · rw [if_pos hk]
      refine ⟨List.pairwise_append.2 ⟨h1, by simp, fun x hx y hy => ?_⟩, fun x => ?_⟩
      · simp only [List.mem_cons, List.not_mem_nil, or_false] at hy
        subst hy
        obtain ⟨j, hj, rfl⟩ := (h2 x).1 hx
        have h3 := hs j (m - 1) (by omega) (by omega)
        have h4 := hs (m - 1) m (by omega) (by omega)
        simp only [keeps, decide_eq_true_eq] at hk
        rcases hk with hk | hk
        · omega
        · omega
      · rw [List.mem_append, h2]
        simp only [List.mem_cons, List.not_mem_nil, or_false]
        constructor
        · rintro (⟨j, hj, e⟩ | rfl)
          · exact ⟨j, by omega, e⟩
          · exact ⟨m, by omega, rfl⟩
        · rintro ⟨j, hj, e⟩
          by_cases e2 : j = m
          · subst e2; exact .inr e.symm
          · exact .inl ⟨j, by omega, e⟩
    · rw [if_neg hk, List.append_nil]
      simp only [keeps, decide_eq_true_eq, not_or, ne_eq, Classical.not_not] at hk
      refine ⟨h1, fun x => ?_⟩
      rw [h2]
      constructor
      · rintro ⟨j, hj, e⟩; exact ⟨j, by omega, e⟩
      · rintro ⟨j, hj, e⟩
        by_cases e2 : j = m
        · subst e2; exact ⟨j - 1, by omega, by rw [← hk.2]; exact e⟩
        · exact ⟨j, by omega, e⟩

open Go.Lib in

/-- Sorted and made single, or put in one after the other: the same row. -/
theorem sort_ins (r : List Int) : compact (r.mergeSort fun x y => decide (x ≤ y)) = r.foldl insI [] := by
  have hp : (r.mergeSort fun x y => decide (x ≤ y)).Pairwise (fun x y => decide (x ≤ y) = true) := List.pairwise_mergeSort (fun a b c h1 h2 => by simp at *; omega) (fun a b => by simp; omega) r
  have hmem : ∀ x, x ∈ r.mergeSort (fun x y => decide (x ≤ y)) ↔ x ∈ r := fun x => List.mem_mergeSort
  generalize r.mergeSort (fun x y => decide (x ≤ y)) = z at hp hmem
  obtain ⟨h1, h2⟩ := insI_fold r [] List.Pairwise.nil
  obtain ⟨h3, h4⟩ := comp_rise z.toArray (fun i j hij hj => by
    have hj' : j < z.length := by simpa using hj
    have ei : z.toArray[i]! = z[i]'(by omega) := by rw [getElem!_pos _ i (by simpa using (by omega : i < z.length))]; simp
    have ej : z.toArray[j]! = z[j]'hj' := by rw [getElem!_pos _ j (by simpa using hj')]; simp
    rw [ei, ej]
    by_cases e : i = j
    · subst e; omega
    · have := List.pairwise_iff_getElem.1 hp i j (by omega) hj' (by omega)
      simpa using this) z.length (by simp)
  refine rise_eq h3 h1 fun x => ?_
  rw [show (x ∈ compact z ↔ x ∈ compactUpTo z.toArray z.length) from Iff.rfl, h4, h2, ← hmem]
  simp only [List.not_mem_nil, false_or]
  constructor
  · rintro ⟨j, hj, e⟩
    rw [getElem!_pos _ j (by simpa using hj)] at e
    rw [← e]
    simp
  · intro hx
    obtain ⟨j, hj, e⟩ := List.mem_iff_getElem.1 hx
    exact ⟨j, hj, by rw [getElem!_pos _ j (by simpa using hj)]; simpa using e⟩

end Go.Proofs.Ytkpkhnaflohjpaa

/- A range over a function whose iterator ranges over a function itself; Places' iterator. -/

namespace Go.Proofs.Ytkpkhnaflohjpaa

open Go Go.RowKit Go.Shelf
attribute [local go_sem] Oper.semAt_some
set_option maxRecDepth 100000

section

variable {F : Fence} {n : Nat} {P : Program} {α : Type}

/-- An iterator's contract, where what is left behind a stop abides as well. -/
def SeqD (F : Fence) (n : Nat) (P : Program) (gf : Nat) (lb : Array Value) (encs : α → Array Value) (Fx : α → World → Prop) (N : Nat → Prop) (S Sp : List α → Prop) (w : World) : Prop :=
  ∀ (l : Nat) (C : World → Nat → Prop) (J Jx : List α → World → Prop) (W : World), Below w.heap.size w W → FrameC C J → BoundC C J → FrameC C Jx →
    (∀ m pre x W1, J pre W1 → Sp (pre ++ [x]) → Fx x W1 → YieldAt F m P l (encs x) W1 fun e W' =>
      (e = .returned (.bool true) ∧ J (pre ++ [x]) W' ∧ Stp N C W1 W') ∨ (e = .returned (.bool false) ∧ Jx (pre ++ [x]) W' ∧ Stp N C W1 W')) →
    J [] W →
    CallsIn F n P gf (#[.func (.yield l) #[] #[]] ++ lb) W fun e W' => (∃ v, e = .returned v) ∧ ((∃ xs, S xs ∧ J xs W') ∨ (∃ pre, Sp pre ∧ Jx pre W'))

theorem range_lawD {g : Operand} {ps : Array Tmp} {assign body : Code} {Q : Exit → Act → World → Prop} {a : Act} {w : World}
    (hro : F.round = none) (hd : F.depth = none) {gf : Nat} {lb : Array Value} (hg : a.eval g = .func (.func gf) #[] lb) (hFg : F.fn gf) (eg : ∀ args w, (callFunc gf args).run P w = .ok (.enter gf args) w)
    {encs : α → Array Value} {Fx : α → World → Prop} {N : Nat → Prop} {S Sp : List α → Prop} {w0 : World} (hseq : ∀ m, SeqD F m P gf lb encs Fx N S Sp w0) (hb0 : Below w0.heap.size w0 w) (hps : ∀ x, (encs x).size = ps.size) (hN : ∀ g, N g → g < w.heap.size)
    (C : World → Nat → Prop) (I : List α → World → Prop) (Ix : Code → List α → World → Prop) (hI : FrameC C I) (hbd : BoundC C I) (hIx : ∀ c, FrameC C (Ix c))
    (h0 : I [] w) (Ax : List α → α → Act → World → Prop)
    (hAx : ∀ pre x a' W l r o, Ax pre x a' W → w.heap.size ≤ l → W.heap[l]? = some (.loop r) → ¬ C W l → (∀ g, C (W.putObj l o) g → C W g) ∧ Ax pre x a' (W.putObj l o))
    (hassign : ∀ (l m : Nat) (pre : List α) (x : α) (W : World) (K : Act → World → Prop), I pre W → Sp (pre ++ [x]) → Fx x W → (∀ a' W', Stp N C W W' → Ax pre x a' W' → K a' W') →
      assign.wpIn (F.inRound l) m P (Exit.then K (fun _ _ _ => False)) { tmps := (ps.zip (encs x)).foldl (fun t (p, v) => t.setIfInBounds p v) a.tmps, defers := [] } W)
    (hbody : ∀ (l m : Nat) (pre : List α) (x : α) (a' : Act) (W : World), Sp (pre ++ [x]) → Ax pre x a' W → body.wpIn (F.inRound l) m P (bodyC N C I Ix (pre ++ [x]) W) a' W)
    (hdone : ∀ (D : Nat) (xs : List α) (W : World), w.heap.size ≤ D → S xs → I xs W → ¬ C W D → W.heap[D]? = some (.deferred (some [])) → Q .normal { a with defers := { target := .collected D, args := #[] } :: a.defers } W)
    (hstop : ∀ (D : Nat) (c : Code) (pre : List α) (W : World), w.heap.size ≤ D → Sp pre → Ix c pre W → ¬ C W D → W.heap[D]? = some (.deferred (some [])) → c.wpIn F n P Q { a with defers := { target := .collected D, args := #[] } :: a.defers } W) :
    (Code.rangeFunc g ps assign body).wpIn F n P Q a w := by
  refine wpIn_rangeFunc fun fn hfn => ?_
  rw [hro]
  have hdd : ∀ k : Nat, F.depth.isSome = true → 1 ≤ k := fun k h => by rw [hd] at h; cases h
  -- the two blocks that the statement lays: for the rounds' deferred calls (d); the loop's record (l)
  obtain ⟨d, hd0⟩ : ∃ d, d = w.heap.size := ⟨_, rfl⟩
  obtain ⟨rec, hrec⟩ : ∃ rec : LoopState → Option Code → Loop, rec = fun st pe => { state := st, pending := pe, fn, tmps := a.tmps, params := ps, assign, body, defers := w.heap.size } := ⟨_, rfl⟩
  obtain ⟨W1, hW1⟩ : ∃ W1, (w.alloc (.deferred (some []))).alloc (.loop (rec .ready none)) = W1 := ⟨_, rfl⟩
  have hl1 : W1.heap[d + 1]? = some (.loop (rec .ready none)) := by
    rw [← hW1, hd0, show w.heap.size + 1 = (w.alloc (.deferred (some []))).heap.size by simp]; exact World.alloc_heap_new _ _
  have hk1 : W1.heap[d]? = some (.deferred (some [])) := by rw [← hW1, hd0]; exact (Below.heap_alloc _ _ _ (by simp)).trans (World.alloc_heap_new w _)
  have hBw : Below w.heap.size w W1 := by rw [← hW1]; exact ((Below.refl _ w).alloc (Nat.le_refl _) _).alloc (by simp) _
  have hIw := hI [] w W1 h0 ((Keeps.of_below hBw).mono fun g e => hbd [] w h0 g e)
  have hbw : ∀ g, C W1 g → g < w.heap.size := fun g e => hbd [] w h0 g (hIw.2 g e)
  have hNd : ∀ g, N g → g < d := fun g e => by rw [hd0]; exact hN g e
  -- what the rounds speak of, with the two blocks
  let CJ : World → Nat → Prop := fun W g => C W g ∨ g = d + 1 ∨ g = d
  let J : List α → World → Prop := fun pre W => I pre W ∧ (W.heap[d + 1]? = some (.loop (rec .ready none)) ∧ W.heap[d]? = some (.deferred (some []))) ∧ ¬ C W (d + 1) ∧ ¬ C W d
  let Jx : List α → World → Prop := fun pre W => ∃ c, Ix c pre W ∧ (W.heap[d + 1]? = some (.loop (rec .done (some c))) ∧ W.heap[d]? = some (.deferred (some []))) ∧ ¬ C W (d + 1) ∧ ¬ C W d
  have hJF : FrameC CJ J := by
    rintro s A B ⟨h1, ⟨h2, h3⟩, h4, h5⟩ hk
    have hi := hI s A B h1 (hk.mono fun g e => .inl e)
    exact ⟨⟨hi.1, ⟨(hk.block _ (.inr (.inl rfl))).trans h2, (hk.block _ (.inr (.inr rfl))).trans h3⟩, fun e => h4 (hi.2 _ e), fun e => h5 (hi.2 _ e)⟩, fun g e => e.elim (fun e => .inl (hi.2 g e)) .inr⟩
  have hJxF : FrameC CJ Jx := by
    rintro s A B ⟨cd, h1, ⟨h2, h3⟩, h4, h5⟩ hk
    have hi := hIx cd s A B h1 (hk.mono fun g e => .inl e)
    exact ⟨⟨cd, hi.1, ⟨(hk.block _ (.inr (.inl rfl))).trans h2, (hk.block _ (.inr (.inr rfl))).trans h3⟩, fun e => h4 (hi.2 _ e), fun e => h5 (hi.2 _ e)⟩, fun g e => e.elim (fun e => .inl (hi.2 g e)) .inr⟩
  have hJB : BoundC CJ J := by
    rintro s A ⟨h1, ⟨h2, h3⟩, _, _⟩ g (e | rfl | rfl)
    · exact hbd s A h1 g e
    · exact (Array.getElem?_eq_some_iff.1 h2).1
    · exact (Array.getElem?_eq_some_iff.1 h3).1
  refine ⟨d + 1, [{ target := .collected d, args := #[] }], W1, { target := .fn (.func gf) lb, args := #[.func (.yield (d + 1)) #[] #[]] }, W1, gf, #[.func (.yield (d + 1)) #[] #[]] ++ lb, W1, ?_, ?_, ?_, ?_, fun h => hdd _ h, ?_⟩
  · rw [← hW1, hrec, hd0]; exact run_enterLoop_outer _ _ _ _ _
  · simp only [resolve, hg]
    simp [go_sem]
  · intro f' hf'; simp [Target.leads] at hf'; subst hf'; exact hFg
  · simp [invoke, go_sem, eg]
  · refine (hseq _ (d + 1) CJ J Jx W1 (hb0.trans (hBw.mono hb0.size)) hJF hJB hJxF ?_ ⟨hIw.1, ⟨hl1, hk1⟩, fun e => ?_, fun e => ?_⟩).mono ?_
    · -- one round
      rintro m pre x W ⟨hi, ⟨hl, hk⟩, hnl, hnd⟩ hsp hfx
      have hy := run_yield (P := P) (args := encs x) hl (by rw [hrec]; exact hps x)
      rw [hrec] at hy
      refine ⟨fn, _, assign, body, hy, roundIn_of_wpIn hfn (hassign _ m pre x W _ hi hsp hfx ?_)⟩
      clear hy
      intro a' Wa hst hax
      have hlW : d + 1 < W.heap.size := (Array.getElem?_eq_some_iff.1 hl).1
      have hla : Wa.heap[d + 1]? = some (.loop (rec .ready none)) := (hst.keeps.block _ (.inr ⟨hlW, hnl⟩)).trans hl
      have hka : Wa.heap[d]? = some (.deferred (some [])) := (hst.keeps.block _ (.inr ⟨by omega, hnd⟩)).trans hk
      have hnla : ¬ C Wa (d + 1) := fun e => (hst.grows _ e).elim hnl (fun e => by omega)
      have hnda : ¬ C Wa d := fun e => (hst.grows _ e).elim hnd (fun e => by omega)
      have hla1 : d + 1 < Wa.heap.size := (Array.getElem?_eq_some_iff.1 hla).1
      refine ⟨_, run_beginRound hla (by rw [hrec]), ?_⟩
      obtain ⟨hgr, hax2⟩ := hAx pre x a' Wa (d + 1) _ (.loop { rec .ready none with state := .busy }) hax (by omega) hla hnla
      obtain ⟨Wb, hWb⟩ : ∃ Wb, Wa.putObj (d + 1) (.loop { rec .ready none with state := .busy }) = Wb := ⟨_, rfl⟩
      have hlb : Wb.heap[d + 1]? = some (.loop { rec .ready none with state := .busy }) := by rw [← hWb]; exact World.putObj_heap_same hla1
      have hkb : Wb.heap[d]? = some (.deferred (some [])) := by rw [← hWb]; exact (World.putObj_heap_other (by omega)).trans hka
      have hKab : Keeps (· ≠ d + 1) Wa Wb := by rw [← hWb]; exact Keeps.put _ _ _
      rw [hWb] at hgr hax2 ⊢
      have hnlb : ¬ C Wb (d + 1) := fun e => hnla (hgr _ e)
      have hndb : ¬ C Wb d := fun e => hnda (hgr _ e)
      refine wpIn_mono (hbody _ m pre x a' Wb hsp hax2) ?_
      have hszb : Wa.heap.size ≤ Wb.heap.size := hKab.size
      have fin : ∀ (jump : Option Code) (W3 : World), Stp N C Wb W3 →
          (Instr.endRound (d + 1) jump).run P W3 = .ok (.bool jump.isNone) (W3.putObj (d + 1) (.loop (rec (if jump.isNone then .ready else .done) jump))) ∧
          (W3.putObj (d + 1) (.loop (rec (if jump.isNone then .ready else .done) jump))).heap[d + 1]? = some (.loop (rec (if jump.isNone then .ready else .done) jump)) ∧
          (W3.putObj (d + 1) (.loop (rec (if jump.isNone then .ready else .done) jump))).heap[d]? = some (.deferred (some [])) ∧ ¬ C W3 (d + 1) ∧ ¬ C W3 d := fun jump W3 h3 => by
        have hl3 : W3.heap[d + 1]? = some (.loop { rec .ready none with state := .busy }) := (h3.keeps.block _ (.inr ⟨by omega, hnlb⟩)).trans hlb
        have hk3 : W3.heap[d]? = some (.deferred (some [])) := (h3.keeps.block _ (.inr ⟨by omega, hndb⟩)).trans hkb
        have := run_endRound (P := P) jump hl3
        rw [hrec] at this ⊢
        exact ⟨this, World.putObj_heap_same (Array.getElem?_eq_some_iff.1 hl3).1, (World.putObj_heap_other (by omega)).trans hk3, fun e => (h3.grows _ e).elim hnlb (fun e => by omega), fun e => (h3.grows _ e).elim hndb (fun e => by omega)⟩
      have stp4 : ∀ (o : Obj) (W3 : World), Stp N C Wb W3 → (∀ g, C (W3.putObj (d + 1) o) g → C W3 g) → Stp N CJ W (W3.putObj (d + 1) o) := fun o W3 h3 hg4 => by
        refine ⟨?_, ?_⟩
        · refine (hst.keeps.mono fun g hg => ?_).trans ((hKab.mono fun g hg => ?_).trans ((h3.keeps.mono fun g hg => ?_).trans ((Keeps.put W3 (d + 1) _).mono fun g hg => ?_)))
          · exact hg.elim .inl fun hg => .inr ⟨hg.1, fun e => hg.2 (.inl e)⟩
          · exact hg.elim (fun e => by have := hNd _ e; omega) fun hg e => hg.2 (.inr (.inl e))
          · exact hg.elim .inl fun hg => .inr ⟨by have := hst.keeps.size; omega, fun e => (hst.grows g (hgr g e)).elim (fun e => hg.2 (.inl e)) (fun e => by omega)⟩
          · exact hg.elim (fun e => by have := hNd _ e; omega) fun hg e => hg.2 (.inr (.inl e))
        · rintro g (e | e)
          · rcases h3.grows g (hg4 g e) with e | e
            · rcases hst.grows g (hgr g e) with e | e
              · exact .inl (.inl e)
              · exact .inr e
            · exact .inr (Nat.le_trans hst.keeps.size (Nat.le_trans hszb e))
          · exact .inl (.inr e)
      rintro e a3 W3 hp
      cases e with
      | normal =>
        obtain ⟨hi3, h3⟩ := hp
        obtain ⟨hr, hl4, hk4, hn4, hm4⟩ := fin none W3 h3
        obtain ⟨hi4, hg4⟩ := hI _ W3 _ hi3 ((Keeps.put W3 (d + 1) (.loop (rec (if (none : Option Code).isNone then .ready else .done) none))).mono fun g e he => hn4 (he ▸ e))
        exact ⟨_, _, hr, .inl ⟨rfl, ⟨hi4, ⟨hl4, hk4⟩, fun e => hn4 (hg4 _ e), fun e => hm4 (hg4 _ e)⟩, stp4 _ W3 h3 hg4⟩⟩
      | ret =>
        obtain ⟨hi3, h3⟩ := hp
        obtain ⟨hr, hl4, hk4, hn4, hm4⟩ := fin (some .ret) W3 h3
        have hK4 := (Keeps.put W3 (d + 1) (.loop (rec (if (some Code.ret).isNone then .ready else .done) (some .ret)))).mono (T := C W3) fun g e he => hn4 (he ▸ e)
        exact ⟨_, _, hr, .inr ⟨rfl, ⟨.ret, (hIx _ _ W3 _ hi3 hK4).1, ⟨hl4, hk4⟩, fun e => hn4 ((hIx _ _ W3 _ hi3 hK4).2 _ e), fun e => hm4 ((hIx _ _ W3 _ hi3 hK4).2 _ e)⟩, stp4 _ W3 h3 (hIx _ _ W3 _ hi3 hK4).2⟩⟩
      | exit id =>
        obtain ⟨hi3, h3⟩ := hp
        obtain ⟨hr, hl4, hk4, hn4, hm4⟩ := fin (some (.exit id)) W3 h3
        have hK4 := (Keeps.put W3 (d + 1) (.loop (rec (if (some (Code.exit id)).isNone then .ready else .done) (some (.exit id))))).mono (T := C W3) fun g e he => hn4 (he ▸ e)
        exact ⟨_, _, hr, .inr ⟨rfl, ⟨.exit id, (hIx _ _ W3 _ hi3 hK4).1, ⟨hl4, hk4⟩, fun e => hn4 ((hIx _ _ W3 _ hi3 hK4).2 _ e), fun e => hm4 ((hIx _ _ W3 _ hi3 hK4).2 _ e)⟩, stp4 _ W3 h3 (hIx _ _ W3 _ hi3 hK4).2⟩⟩
      | goto t =>
        obtain ⟨hi3, h3⟩ := hp
        obtain ⟨hr, hl4, hk4, hn4, hm4⟩ := fin (some (.goto t)) W3 h3
        have hK4 := (Keeps.put W3 (d + 1) (.loop (rec (if (some (Code.goto t)).isNone then .ready else .done) (some (.goto t))))).mono (T := C W3) fun g e he => hn4 (he ▸ e)
        exact ⟨_, _, hr, .inr ⟨rfl, ⟨.goto t, (hIx _ _ W3 _ hi3 hK4).1, ⟨hl4, hk4⟩, fun e => hn4 ((hIx _ _ W3 _ hi3 hK4).2 _ e), fun e => hm4 ((hIx _ _ W3 _ hi3 hK4).2 _ e)⟩, stp4 _ W3 h3 (hIx _ _ W3 _ hi3 hK4).2⟩⟩
      | panic ch => exact hp.elim
      | outgrown => exact hp.elim
    · have := hbw _ e; omega
    · have := hbw _ e; omega
    · -- behind the iterator
      rintro e W2 ⟨⟨v, rfl⟩, (⟨xs, hS, hi, ⟨hl, hk⟩, hnl, hnd⟩ | ⟨pre, hSp, c, hi, ⟨hl, hk⟩, hnl, hnd⟩)⟩
      · refine ⟨none, _, by have := run_endLoop (P := P) hl (by rw [hrec]; simp); rw [hrec] at this; exact this, hdone d xs _ (by omega) hS ?_ (fun e => hnd ((hI xs W2 _ hi ((Keeps.put W2 (d + 1) _).mono fun g e he => hnl (he ▸ e))).2 _ e)) ((World.putObj_heap_other (by omega)).trans hk)⟩
        exact (hI xs W2 _ hi ((Keeps.put W2 (d + 1) _).mono fun g e he => hnl (he ▸ e))).1
      · refine ⟨some c, _, by have := run_endLoop (P := P) hl (by rw [hrec]; simp); rw [hrec] at this; exact this, hstop d c pre _ (by omega) hSp ?_ (fun e => hnd ((hIx c pre W2 _ hi ((Keeps.put W2 (d + 1) _).mono fun g e he => hnl (he ▸ e))).2 _ e)) ((World.putObj_heap_other (by omega)).trans hk)⟩
        exact (hIx c pre W2 _ hi ((Keeps.put W2 (d + 1) _).mono fun g e he => hnl (he ▸ e))).1

theorem SeqC.toD {gf : Nat} {lb : Array Value} {encs : α → Array Value} {Fx : α → World → Prop} {N : Nat → Prop} {S Sp : List α → Prop} {w : World} (h : SeqC F n P gf lb encs Fx N S Sp w) : SeqD F n P gf lb encs Fx N S Sp w := by
  intro l C J Jx W hW hJ hB _ hY h0
  refine h l C J Jx W hW hJ hB (fun m pre x W1 h1 h2 h3 => ?_) h0
  obtain ⟨fn, tm, asg, bd, h4, h5⟩ := hY m pre x W1 h1 h2 h3
  exact ⟨fn, tm, asg, bd, h4, h5.mono fun e W' hh => hh.imp id fun hh => ⟨hh.1, hh.2.1⟩⟩

end

/-- A yield's contract, in a round of another range. -/
theorem round_round {P : Program} {l f : Nat} {tmps : Array Value} {assign body : Code} {w : World} {R : Ending → World → Prop} (l' m : Nat) {m' : Nat} (h : RoundIn Fence.wide m' P l f tmps assign body w R) : RoundIn (Fence.wide.inRound l') m P l f tmps assign body w R := by
  refine ⟨trivial, fun c cs hr => ?_⟩
  exact h.2 c cs (fun d hd => by cases hd)

/-- What stands at a place that a walk goes over. -/
theorem vis_sub (t : Tm) : ∀ p q u, (q, u) ∈ vis p t → ∃ r, q = p ++ r ∧ subT t r = some u := by
  refine Tm.ind (P := fun t => ∀ p q u, (q, u) ∈ vis p t → ∃ r, q = p ++ r ∧ subT t r = some u) (fun f xs ih p q u h => ?_) t
  have key : ∀ (ys zs : List Tm), xs = zs ++ ys → (q, u) ∈ visL p zs.length ys → ∃ r, q = p ++ r ∧ subT (.node f xs) r = some u := by
    intro ys
    induction ys with
    | nil => intro zs _ h; simp [visL] at h
    | cons y ys ihy =>
      intro zs hz h
      simp only [visL, List.mem_append] at h
      rcases h with h | h
      · have hy : y ∈ xs := by rw [hz]; simp
        obtain ⟨r, rfl, hr⟩ := ih y hy _ _ _ h
        refine ⟨(zs.length : Int) :: r, by simp, ?_⟩
        have hget : xs[zs.length]? = some y := by rw [hz]; simp
        have hlt := (List.getElem?_eq_some_iff.1 hget).1
        rw [sub_step (t := .node f xs) (i := (zs.length : Int)) (u := y) (by omega) (by show _ < ((xs.length : Nat) : Int); omega) (by simpa [Tm.args] using hget)]
        exact hr
      · exact ihy (zs ++ [y]) (by rw [hz]; simp) (by simpa using h)
  simp only [vis, List.mem_cons] at h
  rcases h with h | h
  · injection h with h1 h2
    exact ⟨[], by simp [h1], by simp [subT, h2]⟩
  · exact key xs [] rfl h

theorem key_sub {t : Tm} {pre : List Vis} {x : Vis} (h : (pre ++ [x]).map Vis.key <+: vis [] t) : subT t x.pos = some x.t ∧ x.pos.length + 1 ≤ t.depth ∧ x.t.size ≤ t.size := by
  have hm := pre_mem h
  obtain ⟨r, hr, hs⟩ := vis_sub t [] x.pos x.t hm
  rw [List.nil_append] at hr
  have hmax := maxP_mem hm
  rw [maxP_vis] at hmax
  subst hr
  refine ⟨hs, ?_, sub_size hs⟩
  simp only [Vis.key, List.length_nil] at hmax
  omega

/-- A row that is there stays, whatever is laid besides. -/
theorem args_up {w w' : World} {B B' : Nat} {A : Option Addr} {xs : List Tm} (h : Args w B A xs) (hk : ∀ b o v, w.cell? ⟨b, o, none⟩ = some v → w'.cell? ⟨b, o, none⟩ = some v) (hB : B ≤ B') : Args w' B' A xs := by
  induction h with
  | nil A => exact .nil A
  | row b off xs A' c' hb hlen hi h0 h1 _ ih => exact .row b off xs A' c' (by omega) hlen hi (fun i t e => hk _ _ _ (h0 i t e)) (fun i t e => hk _ _ _ (h1 i t e)) ih

theorem ints_up {w w' : World} {B B' : Nat} {A : Option Addr} {l : List Int} (h : Ints w B A l) (hk : ∀ b o v, w.cell? ⟨b, o, none⟩ = some v → w'.cell? ⟨b, o, none⟩ = some v) (hB : B ≤ B') : Ints w' B' A l :=
  ⟨h.len, h.i64, fun hn => by
    obtain ⟨b, off, hA, hlt, hc⟩ := h.ad hn
    exact ⟨b, off, hA, by omega, fun i x hi => hk _ _ _ (hc i x hi)⟩⟩

theorem cell_put {W : World} {l : Nat} {r : Loop} {o : Obj} (hl : W.heap[l]? = some (.loop r)) : ∀ b i v, W.cell? ⟨b, i, none⟩ = some v → (W.putObj l o).cell? ⟨b, i, none⟩ = some v := by
  intro b i v h
  have hne : b ≠ l := fun e => by
    subst e
    simp only [World.cell?, hl] at h
    cases h
  rw [cell_of_heap (World.putObj_heap_other hne)]
  exact h

theorem pl_step {N : Nat → Prop} {C : World → Nat → Prop} {by' : Nat} {Wx w3 w4 : World} (hB : Below Wx.heap.size Wx w3) (hC : ∀ g, C w3 g → C Wx g) (hst : Stp N C w3 w4) (hN : ∀ g, N g → g < Wx.heap.size) : Stp N (fun W g => C W g ∨ g = by') Wx w4 := by
  refine ⟨((Keeps.of_below hB).mono fun g e => e.elim (hN g) (fun e => e.1)).trans (hst.keeps.mono fun g e => e.imp id fun e => ⟨Nat.lt_of_lt_of_le e.1 hB.size, fun h => e.2 (.inl (hC g h))⟩), fun g e => ?_⟩
  rcases e with e | e
  · rcases hst.grows g e with e | e
    · exact .inl (.inl (hC g e))
    · exact .inr (Nat.le_trans hB.size e)
  · exact .inl (.inr e)

/-- What Places hands over: laid since, apart from all that was. -/
structure VisFxL (lo : Nat) (x : Vis) (W : World) : Prop where
  fx : VisFx x W
  plo : ∀ b off, x.A = some ⟨b, off, none⟩ → lo ≤ b
  alo : ArgsN W (fun g => lo ≤ g ∧ g < W.heap.size) x.A' x.t.args

theorem argsN_up {w w' : World} {N M : Nat → Prop} {A : Option Addr} {xs : List Tm} (h : ArgsN w N A xs) (hk : ∀ b o v, w.cell? ⟨b, o, none⟩ = some v → w'.cell? ⟨b, o, none⟩ = some v) (hB : ∀ g, N g → M g) : ArgsN w' M A xs := by
  induction h with
  | nil A => exact .nil A
  | row b off xs A' c' hb hlen hi h0 h1 _ ih => exact .row b off xs A' c' (hB b hb) hlen hi (fun i t e => hk _ _ _ (h0 i t e)) (fun i t e => hk _ _ _ (h1 i t e)) ih

theorem VisFxL.put {lo : Nat} {x : Vis} {W : World} {l : Nat} {r : Loop} {o : Obj} (h : VisFxL lo x W) (hl : W.heap[l]? = some (.loop r)) : VisFxL lo x (W.putObj l o) :=
  ⟨⟨ints_up h.fx.pos (cell_put hl) (by simp), h.fx.i64, args_up h.fx.args (cell_put hl) (by simp)⟩, h.plo, argsN_up h.alo (cell_put hl) (by simp)⟩

theorem VisFxL.on {lo : Nat} {x : Vis} {W W' : World} (h : VisFxL lo x W) (hb : Below W.heap.size W W') : VisFxL lo x W' :=
  ⟨⟨h.fx.pos.on hb, h.fx.i64, h.fx.args.on hb⟩, h.plo, (h.alo.keep fun g e => hb.block g e.2).wide fun _ e => ⟨e.1, Nat.lt_of_lt_of_le e.2 hb.size⟩⟩

/-- A store below leaves it alone. -/
theorem VisFxL.set {lo : Nat} {x : Vis} {W : World} {p : Addr} {v : Value} (h : VisFxL lo x W) (hp : p.block < lo) : VisFxL lo x (W.setCell p v) := by
  have hk : ∀ g, lo ≤ g → (W.setCell p v).heap[g]? = W.heap[g]? := fun _ e => heap_setCell_other _ _ _ _ (by omega)
  have ha := h.alo.keep (w' := W.setCell p v) fun g e => hk g e.1
  refine ⟨⟨⟨h.fx.pos.len, h.fx.pos.i64, fun hn => ?_⟩, h.fx.i64, ha.args fun _ e => by simpa using e.2⟩, h.plo, ha.wide fun _ e => ⟨e.1, by simpa using e.2⟩⟩
  obtain ⟨b, off, e, hb, hc⟩ := h.fx.pos.ad hn
  exact ⟨b, off, e, by simpa using hb, fun i y hy => (cell_of_heap (hk b (h.plo b off e))).trans (hc i y hy)⟩

theorem yield_or {e : Ending} {X Y : Prop} (h : (e = .returned (.bool true) ∧ X) ∨ (e = .returned (.bool false) ∧ Y)) : ∃ b, e = .returned (.bool b) ∧ ((b = true ∧ X) ∨ (b = false ∧ Y)) := by
  rcases h with ⟨h, x⟩ | ⟨h, y⟩
  · exact ⟨true, h, .inl ⟨rfl, x⟩⟩
  · exact ⟨false, h, .inr ⟨rfl, y⟩⟩

end Go.Proofs.Ytkpkhnaflohjpaa

/- The document's own answer: Places. -/

namespace Go.Proofs.Ytkpkhnaflohjpaa

open Go.RowKit Go.Shelf
set_option maxRecDepth 100000

theorem own_three (w : World) (x y z : Value) (t : TypeId) : (w.alloc (.cells #[x, y, z] t)).ownsRow w.heap.size t 3 (.slice (some ⟨w.heap.size, 0, none⟩) 1 1) 1 [x, y, z] :=
  ⟨rfl, .inr ⟨w.heap.size, 1, #[x, y, z], rfl, Nat.le_refl _, heap_alloc_new w _, Nat.le_refl _, by decide, rfl, rfl⟩⟩

theorem own_one (w : World) (x : Value) (t : TypeId) : (w.alloc (.cells #[x] t)).ownsRow w.heap.size t 1 (.slice (some ⟨w.heap.size, 0, none⟩) 1 1) 1 [x] :=
  ⟨rfl, .inr ⟨w.heap.size, 1, #[x], rfl, Nat.le_refl _, heap_alloc_new w _, Nat.le_refl _, by decide, rfl, rfl⟩⟩

theorem cells_new_three (w : World) (x y z : Value) (t : TypeId) : ∀ j u, [x, y, z][j]? = some u → (w.alloc (.cells #[x, y, z] t)).cell? ((⟨w.heap.size, 0, none⟩ : Addr).add j) = some u := by
  intro j u hj
  match j, hj with
  | 0, hj => simp at hj; subst hj; simp [Addr.add]
  | 1, hj => simp at hj; subst hj; simp [Addr.add]
  | 2, hj => simp at hj; subst hj; simp [Addr.add]
  | j + 3, hj => simp at hj

theorem row_base {W : World} {base base' n : Nat} {e : TypeId} {size : Nat} {v : Value} {vs : List Value} (h : W.ownsRow base e size v n vs) (hb : base' ≤ base) : W.ownsRow base' e size v n vs := by
  refine ⟨h.1, ?_⟩
  rcases h.2 with h0 | ⟨g, cap, cur, hv, h1, hrest⟩
  · exact .inl h0
  · exact .inr ⟨g, cap, cur, hv, Nat.le_trans hb h1, hrest⟩

theorem vis_room {f : Int} {xs : List Tm} {k : Nat} {u : Tm} (h : xs[k]? = some u) : (visL [] 0 (xs.take k)).length + u.size + 1 ≤ (Tm.node f xs).size := by
  have h1 := (visL_pre [] xs (k + 1)).length_le
  rw [visL_take h, List.length_append, vis_len] at h1
  have h2 := congrArg List.length (vis_eq [] (Tm.node f xs))
  rw [vis_len] at h2
  simp only [List.length_cons, Tm.args] at h2
  omega

theorem pk_depth {L : List Pk} {u : Tm} {x : Pk} (h4 : L.map Pk.key = vis [] u) (hx : x ∈ L) : x.p.length + 1 ≤ u.depth := by
  have hm : x.key ∈ vis [] u := by rw [← h4]; exact List.mem_map_of_mem hx
  have := maxP_mem hm
  rw [maxP_vis] at this
  simp only [Pk.key, List.length_nil] at this
  omega

end Go.Proofs.Ytkpkhnaflohjpaa

/- The document's own Places, again: its rows have room for what they hold. (gen_ek.py) -/

namespace Go.Proofs.Ytkpkhnaflohjpaa

open Go.RowKit Go.Shelf
set_option maxRecDepth 100000

structure PkFxK (w : World) (N : Nat → Prop) (x : Pk) : Prop where
  pos : IntsN w N x.Ap x.p
  i64 : I64 x.t.fn
  args : ArgsK w N x.A x.c x.t.args
  cap : x.p.length ≤ x.cp ∧ x.cp ≤ 9223372036854775807

theorem PkFxK.keep {w w' : World} {N : Nat → Prop} {x : Pk} (h : PkFxK w N x) (hk : ∀ g, N g → w'.heap[g]? = w.heap[g]?) : PkFxK w' N x := ⟨h.pos.keep hk, h.i64, h.args.keep hk, h.cap⟩

theorem PkFxK.wide {w : World} {N M : Nat → Prop} {x : Pk} (h : PkFxK w N x) (hk : ∀ g, N g → M g) : PkFxK w M x := ⟨h.pos.wide hk, h.i64, h.args.wide hk, h.cap⟩

section

variable {w w' : World} {base : Nat} {v : Value} {l : List Pk} {N M : Nat → Prop}

end

end Go.Proofs.Ytkpkhnaflohjpaa

/- lpo: the document's own flat: plain steps; the walk. -/

namespace Go.Proofs.Ytkpkhnaflohjpaa

open Go.RowKit Go.Shelf Go.Maps
set_option maxRecDepth 100000

theorem kidN_snoc : ∀ (n : Nat) (xs : List Tm) (y : Tm), kidN n (xs ++ [y]) = kidN n xs ++ [n + sizes xs]
  | n, [], y => by simp [kidN, sizes]
  | n, x :: xs, y => by
    rw [List.cons_append, kidN, kidN, kidN_snoc, List.cons_append, sizes, show n + x.size + sizes xs = n + (x.size + sizes xs) by omega]

theorem ndL_snoc : ∀ (n : Nat) (xs : List Tm) (y : Tm), ndL n (xs ++ [y]) = ndL n xs ++ ndT (n + sizes xs) y
  | n, [], y => by simp [ndL, sizes]
  | n, x :: xs, y => by
    rw [List.cons_append, ndL, ndL, ndL_snoc, List.append_assoc, sizes, show n + x.size + sizes xs = n + (x.size + sizes xs) by omega]

/-- The table while the parts of t are laid: those before, t with its first k numbers, what lies under its first k arguments. -/
def flM (L0 : List (Tm × List Nat)) (t : Tm) (k : Nat) : List (Tm × List Nat) := L0 ++ (t, kidN (L0.length + 1) (t.args.take k)) :: ndL (L0.length + 1) (t.args.take k)

theorem flM_zero (L0 : List (Tm × List Nat)) (t : Tm) : flM L0 t 0 = L0 ++ [(t, [])] := by simp [flM, kidN, ndL]

theorem flM_all (L0 : List (Tm × List Nat)) (t : Tm) : flM L0 t t.args.length = L0 ++ ndT L0.length t := by
  obtain ⟨f, xs⟩ := t
  unfold flM
  rw [List.take_length, ndT]; rfl

theorem flM_len (L0 : List (Tm × List Nat)) (t : Tm) (k : Nat) : (flM L0 t k).length = L0.length + 1 + sizes (t.args.take k) := by
  unfold flM
  rw [List.length_append, List.length_cons, ndL_len]; omega

theorem flM_at (L0 : List (Tm × List Nat)) (t : Tm) (k : Nat) : (flM L0 t k)[L0.length]? = some (t, kidN (L0.length + 1) (t.args.take k)) := by
  unfold flM
  rw [List.getElem?_append_right (Nat.le_refl _), Nat.sub_self]; rfl

theorem flM_next {L0 : List (Tm × List Nat)} {t : Tm} {k : Nat} {x : Tm} (hx : t.args[k]? = some x) : flM L0 t (k + 1) = (flM L0 t k ++ ndT (flM L0 t k).length x).set L0.length (t, kidN (L0.length + 1) (t.args.take k) ++ [(flM L0 t k).length]) := by
  have e : t.args.take (k + 1) = t.args.take k ++ [x] := by rw [List.take_add_one, hx]; rfl
  rw [flM_len]
  unfold flM
  rw [e, kidN_snoc, ndL_snoc, List.append_assoc, List.set_append_right _ _ (Nat.le_refl _), Nat.sub_self, List.cons_append, List.set_cons_zero]

theorem info_node : (Try.prog.info? 66).map (fun i => (i.zero, i.size, i.bytes)) = some (some (.agg #[.int .i64 0, .slice none 0 0, .slice none 0 0]), 3, 56) := by kernel_rfl

end Go.Proofs.Ytkpkhnaflohjpaa

/- lpo: what a table that grows leaves as it was. -/

namespace Go.Proofs.Ytkpkhnaflohjpaa

open Go.RowKit Go.Shelf Go.Maps
set_option maxRecDepth 100000

/-- The blocks of a table. -/
def OwnC (v : Value) (l : List Nd) (g : Nat) : Prop := v.ownBlock = some g ∨ ∃ x ∈ l, x.kv.ownBlock = some g

structure OwnS (W : World) (v : Value) (l : List Nd) (w : World) (v' : Value) (l' : List Nd) : Prop where
  k : KeepsC (OwnC v l) W w
  o : ∀ g, OwnC v' l' g → OwnC v l g ∨ W.heap.size ≤ g

section

variable {W w w1 w2 : World} {v v1 v2 : Value} {l l1 l2 : List Nd}

theorem OwnS.refl (W : World) (v : Value) (l : List Nd) : OwnS W v l W v l := ⟨KeepsC.refl _ _, fun _ h => .inl h⟩

theorem OwnS.trans (h : OwnS W v l w1 v1 l1) (k : OwnS w1 v1 l1 w2 v2 l2) : OwnS W v l w2 v2 l2 := by
  refine ⟨Keeps.trans h.k (Keeps.mono k.k fun g e => ⟨Nat.lt_of_lt_of_le e.1 h.k.size, fun e2 => (h.o g e2).elim e.2 fun e3 => by have := e.1; omega⟩), fun g e => ?_⟩
  rcases k.o g e with e | e
  · exact h.o g e
  · exact .inr (Nat.le_trans h.k.size e)

theorem OwnS.on (h : OwnS W v l w v1 l1) (hb : Below w.heap.size w w1) : OwnS W v l w1 v1 l1 := h.trans ⟨KeepsC.of_below hb, fun _ e => .inl e⟩

theorem own_lt {base : Nat} (h : RowN w base v l) {g : Nat} (e : OwnC v l g) : base ≤ g ∧ g < w.heap.size := by
  rcases e with e | ⟨x, hx, e⟩
  · exact row_lt h.row g e
  · exact row_lt (h.ks x hx).row g e

theorem OwnS.push {u : Tm} {A : Option Addr} {c : Nat} (hg : w.grownBy w1 v.ownBlock) (hv : v1.ownBlock = v.ownBlock ∨ v1.ownBlock = some w.heap.size) : OwnS w v l w1 v1 (l ++ [⟨u, A, c, .slice none 0 0, []⟩]) := by
  refine ⟨(Keeps.of_grown hg).mono fun g e => ⟨e.1, fun e2 => e.2 (.inl e2.symm)⟩, fun g e => ?_⟩
  rcases e with e | ⟨x, hx, e⟩
  · rcases hv with hv | hv
    · exact .inl (.inl (hv ▸ e))
    · rw [hv] at e
      injection e with e
      exact .inr (by omega)
  · rcases List.mem_append.1 hx with hx | hx
    · exact .inl (.inr ⟨x, hx, e⟩)
    · rw [List.mem_singleton] at hx
      subst hx
      simp [Value.ownBlock] at e

theorem OwnS.kid {g cap n at_ j : Nat} {x : Nd} {kv' : Value} (hi : l[at_]? = some x) (hg : w.grownBy w1 x.kv.ownBlock) (hv : kv'.ownBlock = x.kv.ownBlock ∨ kv'.ownBlock = some w.heap.size) :
    OwnS w (.slice (some ⟨g, 0, none⟩) n cap) l (w1.setCell ⟨g, at_ * 3 + 2, none⟩ kv') (.slice (some ⟨g, 0, none⟩) n cap) (l.set at_ (x.kid kv' j)) := by
  have hmem := List.mem_of_getElem? hi
  refine ⟨Keeps.trans ((Keeps.of_grown hg).mono fun q e => ⟨e.1, fun e2 => e.2 (.inr ⟨x, hmem, e2.symm⟩)⟩) ((Keeps.set w1 ⟨g, at_ * 3 + 2, none⟩ kv').mono fun q e => ?_), fun q e => ?_⟩
  · show q ≠ g
    rintro rfl
    exact e.2 (.inl rfl)
  · rcases e with e | ⟨y, hy, e⟩
    · exact .inl (.inl e)
    · rcases List.mem_or_eq_of_mem_set hy with hy | rfl
      · exact .inl (.inr ⟨y, hy, e⟩)
      · have e' : kv'.ownBlock = some q := e
        rcases hv with hv | hv
        · exact .inl (.inr ⟨x, hmem, hv ▸ e'⟩)
        · rw [hv] at e'
          injection e' with e'
          exact .inr (by omega)

end

theorem set_map_p {l : List Nd} {i : Nat} {x : Nd} {kv : Value} {j : Nat} : (l.set i (x.kid kv j)).map Nd.p = (l.map Nd.p).set i (x.u, x.ks ++ [j]) := by
  rw [List.map_set]; rfl

/-- What flat does. -/
def FlatI (t : Tm) : Prop := ∀ (l : List Nd) (v : Value) (A : Option Addr) (c b0 : Nat) (w : World), l.length + t.size ≤ 2147483648 → I64 t.fn → Args w b0 A t.args → RowN w b0 v l → b0 ≤ w.heap.size →
  Calls Try.prog 19 #[.agg #[.int .i64 t.fn, .slice A t.args.length c], v] w fun e w' => ∃ v' l', e = .returned v' ∧ RowN w' b0 v' l' ∧ l'.map Nd.p = l.map Nd.p ++ ndT l.length t ∧ OwnS w v l w' v' l'

end Go.Proofs.Ytkpkhnaflohjpaa

/- lpo: the document's own flat, walked. -/

namespace Go.Proofs.Ytkpkhnaflohjpaa

open Go.RowKit Go.Shelf Go.Maps
set_option maxRecDepth 100000

set_option maxHeartbeats 4000000 in
theorem refFlat_any (t : Tm) : FlatI t := by
  refine Tm.ind (P := FlatI) (fun f xs ih => ?_) t
  intro l v A c b0 w hz hf hA hR hb0
  simp only [Tm.fn, Tm.args] at hf hA ⊢
  have hlen := hA.len
  obtain ⟨i0, hi, hz0, hz1, hz2⟩ := info_parts info_node
  obtain ⟨i1, hi1, hy0, hy1, hy2⟩ := info_parts infoInt
  obtain ⟨W, hW⟩ : ∃ W, w.alloc (.cells #[.int .i64 f, .slice A xs.length c] 27) = W := ⟨_, rfl⟩
  have hB : Below w.heap.size w W := by rw [← hW]; exact (Below.refl _ _).alloc (Nat.le_refl _) _
  have q0 : W.heap[w.heap.size]? = some (.cells #[.int .i64 f, .slice A xs.length c] 27) := by rw [← hW]; exact heap_alloc_new _ _
  have hWs : W.heap.size = w.heap.size + 1 := by rw [← hW]; simp
  obtain ⟨a0, a1, _, _⟩ := cells_two q0
  have hzz : l.length + (1 + sizes xs) ≤ 2147483648 := by simpa only [Tm.size, Nat.add_comm] using hz
  have hRW := hR.on hB hb0
  obtain ⟨Av, cv, rfl⟩ := row_slice hR.row
  have hown : ∀ g, OwnC (.slice Av l.length cv) l g → b0 ≤ g ∧ g < w.heap.size := fun g e => own_lt hR e
  have HW := Lib.hid hW
  have HWs := Lib.hid hWs
  have hWge := hB.size
  have HA := Lib.hid hA
  have HRW := Lib.hid hRW
  have HO := Lib.hid hown
  have Hq0 := Lib.hid q0
  have hOB : OwnS w (.slice Av l.length cv) l W (.slice Av l.length cv) l := (OwnS.refl _ _ _).on hB
  have HOB := Lib.hid hOB
  clear hW hA hR hRW hown hOB hz hWs
  go_enter Try.func19, Try.ntmps19
  go_upto_region 1 with fail
  rw [HW.out]
  go_wp2_with (first
    | (at_builtin
       go_must (
       refine wpList_append_own_at _ rfl _ _ 46 rfl b0 66 i0 (.agg #[.int .i64 0, .slice none 0 0, .slice none 0 0]) 3 56 Try.underlying46 hi hz0 hz1 hz2 rfl (by decide) (.slice Av l.length cv) l.length _ rfl (row_keep HRW.out.row fun g e => Below.heap_alloc W _ g (row_lt HRW.out.row g e).2) ⟨W.heap.size, 0, none⟩ 1 1 [.int .i64 f, .slice A xs.length c, .slice none 0 0] rfl rfl (cells_new_three _ _ _ _ _) (by simp [Value.oneCell']) (by unfold maxLen; omega) (by omega) (by simp; omega) ?_
       intro v1 w1 hown1 hgr1 _ hat1
       have hWs := HWs.out
       have hX : Below W.heap.size W (W.alloc (.cells #[.int .i64 f, .slice A xs.length c, .slice none 0 0] 66)) := (Below.refl _ _).alloc (Nat.le_refl _) _
       have HR1 := Lib.hid ((HRW.out.on hX (by omega)).push (u := .node f xs) (A := A) (c := c) hown1 hf (HA.out.blw ((hB.mono hb0).trans (hX.mono (by omega)))) (by have := hX.size; omega) hgr1 hat1 (fun g e => (HO.out g (.inl e)).1))
       have HS1 := Lib.hid (((OwnS.refl W (.slice Av l.length cv) l).on hX).trans (OwnS.push (u := .node f xs) (A := A) (c := c) hgr1 hat1))
       clear hown1 hgr1 hat1 hX hWs))
    | fail)
  go_loopw [1, 6] (fun lv i wr => ∃ (k : Nat) (vk : Value) (lk : List Nd), k ≤ xs.length ∧ lv = vk ∧ i = .int .i64 (k : Int) ∧ Hid (RowN wr b0 vk lk) ∧ Hid (lk.map Nd.p = flM (l.map Nd.p) (.node f xs) k) ∧ Hid (OwnS W (.slice Av l.length cv) l wr vk lk)) (fun _ i _ => xs.length - (intOf i).toNat)
  case atStart => exact ⟨0, _, _, Nat.zero_le _, rfl, rfl, HR1, Lib.hid (by rw [flM_zero, List.map_append]; rfl), HS1⟩
  case round =>
    obtain ⟨k, vk, lk, hk, rfl, rfl, Hr, Hm, Hs⟩ := hrel
    have hWs := HWs.out
    have hnb : ¬ OwnC (.slice Av l.length cv) l w.heap.size := fun e => by have := (HO.out _ e).2; omega
    have hKb : Below b0 W wr := Hs.out.k.below (by omega) fun g hg e => by have := (HO.out g e).1; omega
    have hwrs := hKb.size
    obtain ⟨y0, y1, _, _⟩ := cells_two ((Hs.out.k.block (by omega) hnb).trans Hq0.out)
    obtain ⟨Ak, ck, rfl⟩ := row_slice Hr.out.row
    have hml : lk.length = l.length + 1 + sizes (xs.take k) := by
      have := congrArg List.length Hm.out
      rwa [List.length_map, flM_len, List.length_map] at this
    clear hWs hnb
    by_cases hkl : k < xs.length
    · obtain ⟨u, hu⟩ : ∃ u, xs[k]? = some u := ⟨_, List.getElem?_eq_getElem hkl⟩
      have hszu := sizes_take hu
      have hsl := sizes_le xs (k + 1)
      obtain ⟨bb, off, A1, c1, hAe, ha⟩ := (HA.out.blw ((hB.mono hb0).trans hKb)).get hu
      have z0 := ha.c0
      have z1 := ha.c1
      have HI := Lib.hid (ih u (List.mem_of_getElem? hu) lk (.slice Ak lk.length ck) A1 c1 b0 wr (by omega) ha.hi ha.sub Hr.out (by omega))
      subst hAe
      have Hu := Lib.hid hu
      have Hml := Lib.hid hml
      have hbd : lk.length + u.size ≤ 2147483648 := by omega
      have hbl : l.length < lk.length := by omega
      have hbx : xs.length ≤ 2147483648 := by have := sizes_len xs; omega
      clear ha hu hml hszu
      go_wp2_with (first
        | (go_at_call 19; (with_reducible refine HI.out.mono ?_); go_must (
            rintro e w2 ⟨v2, l2, rfl, hR2, hm2, hS2⟩
            obtain ⟨x, hx, hxp⟩ : ∃ x, l2[l.length]? = some x ∧ x.p = (.node f xs, kidN (l.length + 1) (xs.take k)) := by
              have h1 := congrArg (fun L => L[l.length]?) hm2
              simp only [Hm.out] at h1
              have h2 := flM_at (l.map Nd.p) (.node f xs) k
              rw [List.length_map] at h2
              rw [List.getElem?_append_left (List.getElem?_eq_some_iff.1 h2).1, h2, List.getElem?_map] at h1
              cases hx : l2[l.length]? with
              | none => rw [hx] at h1; simp at h1
              | some x => rw [hx] at h1; exact ⟨x, rfl, by simpa [Tm.args] using h1⟩
            have hmx := List.mem_of_getElem? hx
            have hlx := (List.getElem?_eq_some_iff.1 hx).1
            have hml2 : l2.length = lk.length + u.size := by
              have := congrArg List.length hm2
              rwa [List.length_map, List.length_append, List.length_map, ndT_len] at this
            obtain ⟨g2, cp2, rfl, hg2⟩ : ∃ g2 cp2, v2 = .slice (some ⟨g2, 0, none⟩) l2.length cp2 ∧ g2 < w2.heap.size := by
              rcases hR2.row.2 with ⟨_, h0⟩ | ⟨g, cap, cur, hv, _, hg, _⟩
              · omega
              · exact ⟨g, cap, hv, (Array.getElem?_eq_some_iff.1 hg).1⟩
            have hkx := hR2.ks x hmx
            obtain ⟨K, kc, hkv⟩ := row_slice hkx.row
            have hkl2 : (x.ks.map fun (k : Nat) => (k : Int)).length = x.ks.length := by simp
            rw [hkl2] at hkv
            have c2 := hR2.row.cellAt (l.length * 3 + 2) (by omega)
            have q2 := nd_get l2 l.length 2 (by omega)
            rw [hx] at q2
            rw [q2] at c2
            change w2.cell? ⟨g2, l.length * 3 + 2, none⟩ = some x.kv at c2
            have hfz := hR2.row.frozenAt (l.length * 3 + 2)
            have hav := hR2.av x hmx
            have hkr := hkx.row
            rw [hkl2, hkv] at hkr
            have hkn : x.ks.length ≤ xs.length := by
              have : x.ks = kidN (l.length + 1) (xs.take k) := by simpa [Nd.p] using congrArg Prod.snd hxp
              rw [this, kidN_len, List.length_take]; omega
            have c2' := c2
            rw [hkv] at c2
            have HR2 := Lib.hid hR2
            have HS2 := Lib.hid hS2
            have Hm2 := Lib.hid hm2
            have Hx := Lib.hid hx
            have Hxp := Lib.hid hxp
            have Hkv := Lib.hid hkv
            have Hkr := Lib.hid hkr
            have Hav := Lib.hid hav
            have Hc2 := Lib.hid c2
            have Hfz := Lib.hid hfz
            have hsz2 := hS2.k.size
            have hb2 : l2.length ≤ 2147483648 := by omega
            have Hml2 := Lib.hid hml2
            clear hml2 hkl2
            clear hR2 hS2 hm2 hx hxp hkv hkr hav hfz c2' hkx q2 hmx))
        | (at_builtin
           go_must (
           refine wpList_append_own_at _ rfl _ _ 22 rfl b0 3 i1 (.int .i64 0) 1 8 Try.underlying22 hi1 hy0 hy1 hy2 rfl (by decide) (.slice K x.ks.length kc) x.ks.length _ rfl (row_keep Hkr.out fun g e => Below.heap_alloc w2 _ g (row_lt Hkr.out g e).2) ⟨w2.heap.size, 0, none⟩ 1 1 [.int .i64 (lk.length : Int)] rfl rfl (cell_one_new _ _ _) (by simp [Value.oneCell']) (by unfold maxLen; omega) (by omega) (by simp; omega) ?_
           intro kv3 w3 hown3 hgr3 _ hat3
           obtain ⟨K3, c3, rfl⟩ := row_slice hown3
           have hX : Below w2.heap.size w2 (w2.alloc (.cells #[.int .i64 (lk.length : Int)] 3)) := (Below.refl _ _).alloc (Nat.le_refl _) _
           have hsX := hX.size
           rw [← Hkv.out] at hgr3 hat3
           have HR4 := Lib.hid ((HR2.out.on hX (by omega)).kid Hx.out (by unfold I64; omega) hown3 hgr3 hat3)
           have HS4 := Lib.hid ((HS2.out.on hX).trans (OwnS.kid (g := g2) (cap := cp2) (n := l2.length) (j := lk.length) Hx.out hgr3 hat3))
           have hblk : w3.heap[g2]? = w2.heap[g2]? := (hgr3.block g2 (by omega) fun e => Hav.out g2 e.symm rfl).trans (hX.block g2 hg2)
           have d2 := (World.cell?_of_block (a := ⟨g2, l.length * 3 + 2, none⟩) hblk).trans Hc2.out
           have dz := (frozen_of_heap (o := l.length * 3 + 2) hblk).trans Hfz.out
           clear hown3 hgr3 hat3 hX))
        | fail)
      have hfm : (l2.set l.length (x.kid (.slice K3 (x.ks.length + 1) c3) lk.length)).map Nd.p = flM (l.map Nd.p) (.node f xs) (k + 1) := by
        have e1 : (flM (l.map Nd.p) (.node f xs) k).length = lk.length := by rw [← Hm.out, List.length_map]
        have e2 : x.u = .node f xs ∧ x.ks = kidN (l.length + 1) (xs.take k) := by simpa [Nd.p] using Hxp.out
        rw [set_map_p, Hm2.out, Hm.out, flM_next (t := .node f xs) Hu.out, e1, List.length_map, e2.1, e2.2]; rfl
      have Hfm := Lib.hid hfm
      have HS5 := Lib.hid (Hs.out.trans HS4.out)
      clear hfm
      go_roundw
      case rel => exact ⟨k + 1, _, _, by omega, rfl, by go_num, HR4, Hfm, HS5⟩
      case measure => simp [intOf]; omega
    · obtain rfl : k = xs.length := by omega
      have hfin := flM_all (l.map Nd.p) (.node f xs)
      rw [List.length_map] at hfin
      have Hfin := Lib.hid (Hm.out.trans hfin)
      clear hfin hml
      go_wp2
      go_ret
      exact ⟨_, lk, rfl, Hr.out, Hfin.out, HOB.out.trans Hs.out⟩

end Go.Proofs.Ytkpkhnaflohjpaa

/- lpo: the document's own over: how its pair is made, in whatever order: what single operations leave. -/

namespace Go.Proofs.Ytkpkhnaflohjpaa

open Go Go.RowKit Go.Shelf Go.Maps
set_option maxRecDepth 100000

/-- The value is a table of t, in blocks from base on. -/
def tabF (base : Nat) (t : Tm) : Fct := ⟨fun v w => base ≤ w.heap.size ∧ ∃ l, RowN w base v l ∧ l.map Nd.p = ndT 0 t, fun ⟨h, l, h1, h2⟩ hb => ⟨Nat.le_trans h hb.size, l, h1.on hb h, h2⟩⟩

/-- The value is the pair. -/
def prF (base : Nat) (o : Odr) (P Q : Option Addr) (pc qc : Nat) (s t : Tm) : Fct := ⟨fun v w => ∃ va vb, v = .agg #[.bool o.lpo, .slice P o.prec.length pc, .slice Q o.wts.length qc, .int .i64 o.var, va, vb, .slice none 0 0] ∧ (tabF base s).p va w ∧ (tabF base t).p vb w, fun ⟨va, vb, hv, h1, h2⟩ hb => ⟨va, vb, hv, (tabF base s).st h1 hb, (tabF base t).st h2 hb⟩⟩

/-- The value points to the pair. -/
def ptF (base : Nat) (o : Odr) (P Q : Option Addr) (pc qc : Nat) (s t : Tm) : Fct := ⟨fun v w => ∃ bp A B ca cb, v = .pointer (some ⟨bp, 0, none⟩) ∧ base ≤ bp ∧ bp < w.heap.size ∧ w.heap[bp]? = some (.cells #[.bool o.lpo, .slice P o.prec.length pc, .slice Q o.wts.length qc, .int .i64 o.var, .slice A (ndT 0 s).length ca, .slice B (ndT 0 t).length cb, .slice none 0 0] 50) ∧ NdW w bp A (ndT 0 s) ∧ NdW w bp B (ndT 0 t),
  fun ⟨bp, A, B, ca, cb, hv, h1, h2, h3, h4, h5⟩ hb => ⟨bp, A, B, ca, cb, hv, h1, Nat.lt_of_lt_of_le h2 hb.size, (hb.block bp h2).trans h3, h4.blw (hb.mono (Nat.le_of_lt h2)), h5.blw (hb.mono (Nat.le_of_lt h2))⟩⟩

theorem tabF.read {base : Nat} {t : Tm} {v : Value} {w : World} (h : (tabF base t).p v w) (hz : t.size ≤ 1073741824) : ∃ A c, v = .slice A (ndT 0 t).length c ∧ NdW w w.heap.size A (ndT 0 t) := by
  obtain ⟨hb, l, h1, h2⟩ := h
  have hl : l.length = (ndT 0 t).length := by rw [← h2, List.length_map]
  obtain ⟨A, c, hv, hN⟩ := h1.read (by rw [hl, ndT_len]; omega) hb (Nat.le_refl _)
  rw [hl] at hv
  rw [h2] at hN
  exact ⟨A, c, hv, hN⟩

section

variable {Fs : List Fct} {a0 : Act} {W : World} {dst : Option Tmp} {ty : TypeId} {pos : String} {after : Array Edge}

theorem so_none {j : Nat} {want : Bool} {Q : Prop} (h : (none : Option (Nat × Bool)) = some (j, want)) : Q := by cases h

theorem so_load4 {s b : Nat} {x y z u : Value} (hs : a0.eval (.tmp s) = .pointer (some ⟨b, 0, none⟩)) (hW : W.heap[b]? = some (.cells #[x, y, z, u] 24)) :
    stepF Try.prog Fs a0 W ⟨dst, .load 24 (.tmp s), ty, pos, after, none⟩ [(s, none)] (Fct.eq (.agg #[x, y, z, u])) := by
  refine .inl ⟨fun j want h => so_none h, fun a w hb hl => ?_⟩
  have e1 := ev_get (hl.1.trans hs)
  obtain ⟨c0, c1, c2, c3⟩ := cells_four ((hb.block b (Array.getElem?_eq_some_iff.1 hW).1).trans hW)
  simp [go_sem, leaves, e1, c0, c1, c2, c3]
  exact ⟨Below.refl _ _, rfl⟩

theorem so_load2 {s b : Nat} {x y : Value} (hs : a0.eval (.tmp s) = .pointer (some ⟨b, 0, none⟩)) (hW : W.heap[b]? = some (.cells #[x, y] 27)) :
    stepF Try.prog Fs a0 W ⟨dst, .load 27 (.tmp s), ty, pos, after, none⟩ [(s, none)] (Fct.eq (.agg #[x, y])) := by
  refine .inl ⟨fun j want h => so_none h, fun a w hb hl => ?_⟩
  have e1 := ev_get (hl.1.trans hs)
  obtain ⟨c0, c1, _, _⟩ := cells_two ((hb.block b (Array.getElem?_eq_some_iff.1 hW).1).trans hW)
  simp [go_sem, leaves, e1, c0, c1]
  exact ⟨Below.refl _ _, rfl⟩

theorem so_flat {s j : Nat} {t : Tm} {A : Option Addr} {c base : Nat} {ta tb : TypeId} (hF : Fs.getD j Fct.any = Fct.eq (.agg #[.int .i64 t.fn, .slice A t.args.length c])) (hz : t.size ≤ 1073741824) (hf : I64 t.fn) (hA : Args W base A t.args) (hb0 : base ≤ W.heap.size) :
    stepF Try.prog Fs a0 W ⟨dst, .call ⟨.value (.func 19), #[.tmp s, .const (.slice none 0 0)], #[ta, tb]⟩, ty, pos, after, none⟩ [(s, some j)] (tabF base t) := by
  refine .inl ⟨fun j want h => so_none h, fun a w hb hl => ?_⟩
  have h0 := hl.1
  rw [hF] at h0
  have e1 := ev_get h0
  have he := enters_of Try.func19 (by kernel_rfl) rfl #[.agg #[.int .i64 t.fn, .slice A t.args.length c], .slice none 0 0] w
  simp [go_sem, leaves, e1, he]
  refine (refFlat_any t [] (.slice none 0 0) A c base w (by simp; omega) hf (hA.blw (hb.mono hb0)) (RowN.nil_ _ _) (Nat.le_trans hb0 hb.size)).mono fun e w' h => ?_
  obtain ⟨v', l', rfl, h1, h2, h3⟩ := h
  refine ⟨v', rfl, h3.k.below (Nat.le_refl _) fun g _ e => ?_, Nat.le_trans (Nat.le_trans hb0 hb.size) h3.k.size, l', h1, by simpa using h2⟩
  rcases e with e | ⟨x, hx, _⟩
  · simp [Value.ownBlock] at e
  · simp at hx

end

end Go.Proofs.Ytkpkhnaflohjpaa

/- lpo: the document's own over: its pair made; what single operations leave, on. -/

namespace Go.Proofs.Ytkpkhnaflohjpaa

open Go Go.RowKit Go.Shelf Go.Maps
set_option maxRecDepth 100000

section

variable {Fs : List Fct} {a0 : Act} {W : World} {dst : Option Tmp} {ty : TypeId} {pos : String} {after : Array Edge}

theorem so_build {s1 s2 s3 j1 j2 j3 base : Nat} {o : Odr} {P Q : Option Addr} {pc qc : Nat} {s t : Tm} (hF1 : Fs.getD j1 Fct.any = Fct.eq (.agg #[.bool o.lpo, .slice P o.prec.length pc, .slice Q o.wts.length qc, .int .i64 o.var])) (hF2 : Fs.getD j2 Fct.any = tabF base s) (hF3 : Fs.getD j3 Fct.any = tabF base t) (hs : s.size ≤ 1073741824) (ht : t.size ≤ 1073741824) :
    stepF Try.prog Fs a0 W ⟨dst, .build 50 #[(0, .tmp s1), (1, .tmp s2), (2, .tmp s3)], ty, pos, after, none⟩ [(s1, some j1), (s2, some j2), (s3, some j3)] (prF base o P Q pc qc s t) := by
  refine .inl ⟨fun j want h => so_none h, fun a w hb hl => ?_⟩
  obtain ⟨h0, h1, h2, _⟩ := hl
  rw [hF1] at h0
  rw [hF2] at h1
  rw [hF3] at h2
  have e0 := ev_get h0
  have h1' := h1
  have h2' := h2
  obtain ⟨A, c, hv, _⟩ := tabF.read h1 hs
  obtain ⟨B, d, hv2, _⟩ := tabF.read h2 ht
  have e1 := ev_get hv
  have e2 := ev_get hv2
  rw [hv] at h1'
  rw [hv2] at h2'
  simp [go_sem, leaves, e0, e1, e2]
  exact ⟨Below.refl _ _, _, _, rfl, h1', h2'⟩

theorem so_box {s1 j1 base : Nat} {o : Odr} {P Q : Option Addr} {pc qc : Nat} {s t : Tm} (hF1 : Fs.getD j1 Fct.any = prF base o P Q pc qc s t) (hs : s.size ≤ 1073741824) (ht : t.size ≤ 1073741824) :
    stepF Try.prog Fs a0 W ⟨dst, .box 50 (.tmp s1), ty, pos, after, none⟩ [(s1, some j1)] (ptF base o P Q pc qc s t) := by
  refine .inl ⟨fun j want h => so_none h, fun a w hb hl => ?_⟩
  have h0 := hl.1
  rw [hF1] at h0
  obtain ⟨va, vb, hv, h1, h2⟩ := h0
  have hbs := h1.1
  obtain ⟨A, c, rfl, hN1⟩ := tabF.read h1 hs
  obtain ⟨B, d, rfl, hN2⟩ := tabF.read h2 ht
  have e0 := ev_get hv
  have hbl : ∀ o' : Obj, Below w.heap.size w (w.alloc o') := fun o' => (Below.refl _ _).alloc (Nat.le_refl _) _
  simp [go_sem, leaves, e0]
  exact ⟨hbl _, w.heap.size, A, B, c, d, rfl, hbs, by simp, heap_alloc_new _ _, hN1.blw (hbl _), hN2.blw (hbl _)⟩

theorem so_assign {s1 j1 base : Nat} {o : Odr} {P Q : Option Addr} {pc qc : Nat} {s t : Tm} (hF1 : Fs.getD j1 Fct.any = ptF base o P Q pc qc s t) :
    stepF Try.prog Fs a0 W ⟨dst, .assign (.tmp s1), ty, pos, after, none⟩ [(s1, some j1)] (ptF base o P Q pc qc s t) := by
  refine .inl ⟨fun j want h => so_none h, fun a w hb hl => ?_⟩
  have h0 := hl.1
  rw [hF1] at h0
  obtain ⟨bp, A, B, ca, cb, hv, hr⟩ := h0
  have e0 := ev_get hv
  simp [go_sem, leaves, e0]
  exact ⟨Below.refl _ _, bp, A, B, ca, cb, rfl, hr⟩

end

end Go.Proofs.Ytkpkhnaflohjpaa

