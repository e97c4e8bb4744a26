import Derived.Test.YtnmpeodngipfcaaP24Z2
import Derived.Test.YtnmpeodngipfcaaP22Z7
import Derived.Lib.SlicesCompact
import Derived.Test.YtnmpeodngipfcaaP22Z12
import Derived.Test.YtnmpeodngipfcaaP24Z1
/- Size. -/

namespace Go.Proofs.Ytnmpeodngipfcaa

open Go.RowKit Go.Shelf
attribute [local go_sem] Oper.semAt_some
set_option maxRecDepth 100000

theorem vis_len (t : Tm) : ∀ p, (vis p t).length = t.size := by
  have key : ∀ xs : List Tm, (∀ t ∈ xs, ∀ p, (vis p t).length = t.size) → ∀ (p : List Int) (i : Nat), (visL p i xs).length = sizes xs := by
    intro xs
    induction xs with
    | nil => intro _ p i; simp [visL, sizes]
    | cons x xs ih =>
      intro h p i
      simp only [visL, sizes, List.length_append, h x (by simp), ih (fun t ht => h t (by simp [ht]))]
  refine Tm.ind (P := fun t => ∀ p, (vis p t).length = t.size) (fun f xs ih p => ?_) t
  simp only [vis, Tm.size, List.length_cons, key xs ih]

theorem pre_len {t : Tm} {pre : List Vis} (h : pre.map Vis.key <+: vis [] t) : pre.length ≤ t.size := by
  have := h.length_le
  rw [vis_len, List.length_map] at this
  exact this

/-- What a range's record turns, where a body's cells are asked. -/
theorem put_block {W : World} {l g : Nat} {r : Loop} {o : Obj} {cs : Array Value} {t : TypeId} {z : Nat × Nat} (h : W.heap[g]? = some (.cells cs t z)) (hl : W.heap[l]? = some (.loop r)) : (W.putObj l o).heap[g]? = some (.cells cs t z) :=
  (World.putObj_heap_other (fun e => by subst e; rw [h] at hl; cases hl)).trans h

end Go.Proofs.Ytnmpeodngipfcaa

/- Depth, Ground. Ground. Rising rows of numbers, in plain words: sorted and made single, or put in one after the other. -/

namespace Go.Proofs.Ytnmpeodngipfcaa

open Go.RowKit Go.Shelf

attribute [local go_sem] Oper.semAt_some
set_option maxRecDepth 100000

/-- The longest place of these, and one more. -/
def maxP : List (List Int × Tm) → Nat
  | [] => 0
  | x :: l => max (1 + x.1.length) (maxP l)

theorem maxP_app : ∀ (a b : List (List Int × Tm)), maxP (a ++ b) = max (maxP a) (maxP b)
  | [], b => by simp [maxP]
  | x :: a, b => by simp only [List.cons_append, maxP, maxP_app a b]; omega

theorem maxP_vis (t : Tm) : ∀ p, maxP (vis p t) = p.length + t.depth := by
  have key : ∀ xs : List Tm, (∀ t ∈ xs, ∀ p, maxP (vis p t) = p.length + t.depth) → ∀ (p : List Int) (i : Nat), maxP (visL p i xs) = if xs = [] then 0 else p.length + 1 + depths xs := by
    intro xs
    induction xs with
    | nil => intro _ p i; simp [visL, maxP]
    | cons x xs ih =>
      intro h p i
      have h1 := h x (by simp) (p ++ [(i : Int)])
      have h2 := ih (fun t ht => h t (by simp [ht])) p (i + 1)
      simp only [visL, maxP_app, h1, h2, depths, List.length_append, List.length_cons, List.length_nil]
      rw [if_neg (show ¬ (x :: xs = []) by simp)]
      have := depth_pos x
      by_cases e : xs = []
      · rw [if_pos e, e]; simp only [depths]; omega
      · rw [if_neg e]; omega
  refine Tm.ind (P := fun t => ∀ p, maxP (vis p t) = p.length + t.depth) (fun f xs ih p => ?_) t
  simp only [vis, Tm.depth, maxP, key xs ih]
  by_cases e : xs = []
  · rw [if_pos e, e]; simp only [depths]; omega
  · rw [if_neg e]; omega

theorem maxP_mem {l : List (List Int × Tm)} {x : List Int × Tm} (h : x ∈ l) : 1 + x.1.length ≤ maxP l := by
  induction l with
  | nil => simp at h
  | cons y l ih =>
    simp only [List.mem_cons] at h
    simp only [maxP]
    rcases h with rfl | h
    · omega
    · have := ih h; omega

theorem maxP_pre {t : Tm} {pre : List Vis} (h : pre.map Vis.key <+: vis [] t) : maxP (pre.map Vis.key) ≤ maxP (vis [] t) := by
  obtain ⟨r, hr⟩ := h
  rw [← hr, maxP_app]; omega

theorem pre_mem {t : Tm} {pre : List Vis} {x : Vis} (h : (pre ++ [x]).map Vis.key <+: vis [] t) : x.key ∈ vis [] t := h.subset (by simp)

end Go.Proofs.Ytnmpeodngipfcaa

namespace Go.Proofs.Ytnmpeodngipfcaa

open Go.RowKit Go.Shelf

attribute [local go_sem] Oper.semAt_some
set_option maxRecDepth 100000

/-- The variables' numbers that stand in these, in order. -/
def vnums : List (List Int × Tm) → List Int
  | [] => []
  | x :: l => if x.2.fn < 0 then (-1 - x.2.fn) :: vnums l else vnums l

theorem vnums_app : ∀ (a b : List (List Int × Tm)), vnums (a ++ b) = vnums a ++ vnums b
  | [], b => by simp [vnums]
  | x :: a, b => by
    simp only [List.cons_append, vnums, vnums_app a b]
    split <;> simp

theorem vnums_snoc_neg {pre : List Vis} {x : Vis} (h : x.t.fn < 0) : vnums ((pre ++ [x]).map Vis.key) = vnums (pre.map Vis.key) ++ [-1 - x.t.fn] := by
  rw [List.map_append, vnums_app]
  simp only [List.map_cons, List.map_nil, vnums, Vis.key, if_pos h]

theorem vnums_snoc_pos {pre : List Vis} {x : Vis} (h : ¬ x.t.fn < 0) : vnums ((pre ++ [x]).map Vis.key) = vnums (pre.map Vis.key) := by
  rw [List.map_append, vnums_app]
  simp only [List.map_cons, List.map_nil, vnums, Vis.key, if_neg h, List.append_nil]

theorem vnums_pre {t : Tm} {pre : List Vis} (h : pre.map Vis.key <+: vis [] t) : vnums (pre.map Vis.key) <+: vnums (vis [] t) := by
  obtain ⟨r, hr⟩ := h
  rw [← hr, vnums_app]
  exact List.prefix_append _ _

theorem stp_alloc {N P : Nat → Prop} (W : World) (o : Obj) (hN : ∀ g, N g → g < W.heap.size) : Stp N (fun _ => P) W (W.alloc o) :=
  ⟨(Keeps.alloc W o).mono fun g hg => hg.elim (hN g) (fun e => e.1), fun _ e => .inl e⟩

end Go.Proofs.Ytnmpeodngipfcaa

namespace Go.Proofs.Ytnmpeodngipfcaa

open Go.RowKit

mutual
/-- The variables' numbers in a term, in order. -/
def vn : Tm → List Int
  | .node f xs => (if f < 0 then [-1 - f] else []) ++ vnL xs
def vnL : List Tm → List Int
  | [] => []
  | t :: ts => vn t ++ vnL ts
end

theorem vnums_vis (t : Tm) : ∀ p, vnums (vis p t) = vn t := by
  have key : ∀ xs : List Tm, (∀ t ∈ xs, ∀ p, vnums (vis p t) = vn t) → ∀ (p : List Int) (i : Nat), vnums (visL p i xs) = vnL xs := by
    intro xs
    induction xs with
    | nil => intro _ p i; simp [visL, vnums, vnL]
    | cons x xs ih =>
      intro h p i
      simp only [visL, vnL, vnums_app, h x (by simp), ih (fun t ht => h t (by simp [ht]))]
  refine Tm.ind (P := fun t => ∀ p, vnums (vis p t) = vn t) (fun f xs ih p => ?_) t
  simp only [vis, vn, vnums, key xs ih, Tm.fn]
  split <;> simp

theorem vnL_app : ∀ (a b : List Tm), vnL (a ++ b) = vnL a ++ vnL b
  | [], b => by simp [vnL]
  | x :: a, b => by simp only [List.cons_append, vnL, vnL_app a b, List.append_assoc]

theorem vnL_take {xs : List Tm} {k : Nat} {u : Tm} (h : xs[k]? = some u) : vnL (xs.take (k + 1)) = vnL (xs.take k) ++ vn u := by
  rw [List.take_add_one, h, vnL_app]
  simp [vnL]

theorem vn_len (t : Tm) : (vn t).length ≤ t.size := by
  have key : ∀ xs : List Tm, (∀ t ∈ xs, (vn t).length ≤ t.size) → (vnL xs).length ≤ sizes xs := by
    intro xs
    induction xs with
    | nil => intro _; simp [vnL]
    | cons x xs ih =>
      intro h
      have h1 := h x (by simp)
      have h2 := ih fun t ht => h t (by simp [ht])
      simp only [vnL, sizes, List.length_append]
      omega
  refine Tm.ind (P := fun t => (vn t).length ≤ t.size) (fun f xs ih => ?_) t
  have := key xs ih
  simp only [vn, Tm.size, List.length_append]
  split <;> simp <;> omega

/-- One number put into a row, from a place on: none, if it stands there. -/
def insGo (v : Int) : List Int → Bool → List Int → Option (List Int)
  | [], done, out => some (if done then out else out ++ [v])
  | x :: r, done, out => if x = v then none else if v < x ∧ done = false then insGo v r true (out ++ [v] ++ [x]) else insGo v r done (out ++ [x])

def insI (l : List Int) (v : Int) : List Int := (insGo v l false []).getD l

theorem insGo_true (v : Int) : ∀ (r out : List Int), v ∉ r → insGo v r true out = some (out ++ r)
  | [], out, _ => by simp [insGo]
  | x :: r, out, h => by
    simp only [List.mem_cons, not_or] at h
    simp only [insGo, if_neg (show ¬ x = v from fun e => h.1 e.symm)]
    rw [if_neg (by simp), insGo_true v r _ h.2]
    simp

theorem insGo_mem (v : Int) : ∀ (r : List Int) (d : Bool) (out : List Int), v ∈ r → insGo v r d out = none
  | x :: r, d, out, h => by
    simp only [insGo]
    by_cases e : x = v
    · rw [if_pos e]
    · rw [if_neg e]
      have h2 : v ∈ r := by
        rcases List.mem_cons.1 h with h | h
        · exact absurd h.symm e
        · exact h
      split
      · exact insGo_mem v r _ _ h2
      · exact insGo_mem v r _ _ h2

theorem insGo_false (v : Int) : ∀ (r out : List Int), r.Pairwise (· < ·) → v ∉ r → ∃ a b, r = a ++ b ∧ insGo v r false out = some (out ++ a ++ v :: b) ∧ (∀ x ∈ a, x < v) ∧ ∀ x ∈ b, v < x
  | [], out, _, _ => ⟨[], [], rfl, by simp [insGo], by simp, by simp⟩
  | x :: r, out, hp, h => by
    simp only [List.mem_cons, not_or] at h
    rw [List.pairwise_cons] at hp
    have hne : ¬ x = v := fun e => h.1 e.symm
    by_cases hx : v < x
    · refine ⟨[], x :: r, rfl, ?_, by simp, fun y hy => ?_⟩
      · simp only [insGo, if_neg hne]
        rw [if_pos ⟨hx, by trivial⟩, insGo_true v r _ h.2]
        simp
      · rcases List.mem_cons.1 hy with rfl | hy
        · exact hx
        · have := hp.1 y hy; omega
    · obtain ⟨a, b, e1, e2, e3, e4⟩ := insGo_false v r (out ++ [x]) hp.2 h.2
      refine ⟨x :: a, b, by rw [e1]; rfl, ?_, fun y hy => ?_, e4⟩
      · simp only [insGo, if_neg hne]
        rw [if_neg (by omega), e2]
        simp
      · rcases List.mem_cons.1 hy with rfl | hy
        · omega
        · exact e3 y hy

theorem insI_rise {l : List Int} (v : Int) (h : l.Pairwise (· < ·)) : (insI l v).Pairwise (· < ·) ∧ ∀ x, x ∈ insI l v ↔ x ∈ l ∨ x = v := by
  unfold insI
  by_cases hv : v ∈ l
  · rw [insGo_mem v l _ _ hv]
    refine ⟨h, fun x => ⟨.inl, fun e => e.elim id fun e => by rw [e]; exact hv⟩⟩
  · obtain ⟨a, b, e1, e2, e3, e4⟩ := insGo_false v l [] h hv
    rw [e2]
    simp only [Option.getD_some, List.nil_append]
    rw [e1] at h
    obtain ⟨ha, hb, hab⟩ := List.pairwise_append.1 h
    refine ⟨List.pairwise_append.2 ⟨ha, List.pairwise_cons.2 ⟨e4, hb⟩, fun x hx y hy => ?_⟩, fun x => ?_⟩
    · rcases List.mem_cons.1 hy with rfl | hy
      · exact e3 x hx
      · exact hab x hx y hy
    · rw [e1]
      simp only [List.mem_append, List.mem_cons]
      constructor
      · rintro (h | h | h)
        · exact .inl (.inl h)
        · exact .inr h
        · exact .inl (.inr h)
      · rintro ((h | h) | h)
        · exact .inl h
        · exact .inr (.inr h)
        · exact .inr (.inl h)

theorem insI_fold : ∀ (r l : List Int), l.Pairwise (· < ·) → (r.foldl insI l).Pairwise (· < ·) ∧ ∀ x, x ∈ r.foldl insI l ↔ x ∈ l ∨ x ∈ r
  | [], l, h => ⟨h, fun x => by simp⟩
  | v :: r, l, h => by
    obtain ⟨h1, h2⟩ := insI_rise v h
    obtain ⟨h3, h4⟩ := insI_fold r (insI l v) h1
    refine ⟨h3, fun x => ?_⟩
    rw [List.foldl_cons, h4, h2]
    simp only [List.mem_cons]
    constructor
    · rintro ((h | h) | h)
      · exact .inl h
      · exact .inr (.inl h)
      · exact .inr (.inr h)
    · rintro (h | h | h)
      · exact .inl (.inl h)
      · exact .inl (.inr h)
      · exact .inr h

/-- Rising rows of the same numbers are the same. -/
theorem rise_eq : ∀ {a b : List Int}, a.Pairwise (· < ·) → b.Pairwise (· < ·) → (∀ x, x ∈ a ↔ x ∈ b) → a = b
  | [], [], _, _, _ => rfl
  | [], y :: b, _, _, h => absurd ((h y).2 (by simp)) (by simp)
  | x :: a, [], _, _, h => absurd ((h x).1 (by simp)) (by simp)
  | x :: a, y :: b, ha, hb, h => by
    rw [List.pairwise_cons] at ha hb
    have e : x = y := by
      have h1 := (h x).1 (by simp)
      have h2 := (h y).2 (by simp)
      rcases List.mem_cons.1 h1 with h1 | h1
      · exact h1
      · rcases List.mem_cons.1 h2 with h2 | h2
        · exact h2.symm
        · have := hb.1 x h1; have := ha.1 y h2; omega
    subst e
    rw [rise_eq ha.2 hb.2 fun z => ?_]
    constructor
    · intro hz
      rcases List.mem_cons.1 ((h z).1 (by simp [hz])) with e | e
      · have := ha.1 z hz; omega
      · exact e
    · intro hz
      rcases List.mem_cons.1 ((h z).2 (by simp [hz])) with e | e
      · have := hb.1 z hz; omega
      · exact e

open Go.Lib in

theorem comp_rise (d : Array Int) (hs : ∀ i j, i ≤ j → j < d.size → d[i]! ≤ d[j]!) : ∀ m, m ≤ d.size → (compactUpTo d m).Pairwise (· < ·) ∧ ∀ x, x ∈ compactUpTo d m ↔ ∃ j, j < m ∧ d[j]! = x
  | 0, _ => by simp [compactUpTo]
  | m + 1, hm => by
    obtain ⟨h1, h2⟩ := comp_rise d hs m (by omega)
    rw [compactUpTo_succ]
    by_cases hk : keeps d m = true
    · rw [if_pos hk]
      refine ⟨List.pairwise_append.2 ⟨h1, by simp, fun x hx y hy => ?_⟩, fun x => ?_⟩
      · simp only [List.mem_cons, List.not_mem_nil, or_false] at hy
        subst hy
        obtain ⟨j, hj, rfl⟩ := (h2 x).1 hx
        have h3 := hs j (m - 1) (by omega) (by omega)
        have h4 := hs (m - 1) m (by omega) (by omega)
        simp only [keeps, decide_eq_true_eq] at hk
        rcases hk with hk | hk
        · omega
        · omega
      · rw [List.mem_append, h2]
        simp only [List.mem_cons, List.not_mem_nil, or_false]
        constructor
        · rintro (⟨j, hj, e⟩ | rfl)
          · exact ⟨j, by omega, e⟩
          · exact ⟨m, by omega, rfl⟩
        · rintro ⟨j, hj, e⟩
          by_cases e2 : j = m
          · subst e2; exact .inr e.symm
          · exact .inl ⟨j, by omega, e⟩
    · rw [if_neg hk, List.append_nil]
      simp only [keeps, decide_eq_true_eq, not_or, ne_eq, Classical.not_not] at hk
      refine ⟨h1, fun x => ?_⟩
      rw [h2]
      constructor
      · rintro ⟨j, hj, e⟩; exact ⟨j, by omega, e⟩
      · rintro ⟨j, hj, e⟩
        by_cases e2 : j = m
        · subst e2; exact ⟨j - 1, by omega, by rw [← hk.2]; exact e⟩
        · exact ⟨j, by omega, e⟩

open Go.Lib in

/-- Sorted and made single, or put in one after the other: the same row. -/
theorem sort_ins (r : List Int) : compact (r.mergeSort fun x y => decide (x ≤ y)) = r.foldl insI [] := by
  have hp : (r.mergeSort fun x y => decide (x ≤ y)).Pairwise (fun x y => decide (x ≤ y) = true) := List.pairwise_mergeSort (fun a b c h1 h2 => by simp at *; omega) (fun a b => by simp; omega) r
  have hmem : ∀ x, x ∈ r.mergeSort (fun x y => decide (x ≤ y)) ↔ x ∈ r := fun x => List.mem_mergeSort
  generalize r.mergeSort (fun x y => decide (x ≤ y)) = z at hp hmem
  obtain ⟨h1, h2⟩ := insI_fold r [] List.Pairwise.nil
  obtain ⟨h3, h4⟩ := comp_rise z.toArray (fun i j hij hj => by
    have hj' : j < z.length := by simpa using hj
    have ei : z.toArray[i]! = z[i]'(by omega) := by rw [getElem!_pos _ i (by simpa using (by omega : i < z.length))]; simp
    have ej : z.toArray[j]! = z[j]'hj' := by rw [getElem!_pos _ j (by simpa using hj')]; simp
    rw [ei, ej]
    by_cases e : i = j
    · subst e; omega
    · have := List.pairwise_iff_getElem.1 hp i j (by omega) hj' (by omega)
      simpa using this) z.length (by simp)
  refine rise_eq h3 h1 fun x => ?_
  rw [show (x ∈ compact z ↔ x ∈ compactUpTo z.toArray z.length) from Iff.rfl, h4, h2, ← hmem]
  simp only [List.not_mem_nil, false_or]
  constructor
  · rintro ⟨j, hj, e⟩
    rw [getElem!_pos _ j (by simpa using hj)] at e
    rw [← e]
    simp
  · intro hx
    obtain ⟨j, hj, e⟩ := List.mem_iff_getElem.1 hx
    exact ⟨j, hj, by rw [getElem!_pos _ j (by simpa using hj)]; simpa using e⟩

end Go.Proofs.Ytnmpeodngipfcaa

/- A range over a function whose iterator ranges over a function itself; Places' iterator. -/

namespace Go.Proofs.Ytnmpeodngipfcaa

open Go Go.RowKit Go.Shelf
attribute [local go_sem] Oper.semAt_some
set_option maxRecDepth 100000

section

variable {F : Fence} {n : Nat} {P : Program} {α : Type}

/-- An iterator's contract, where what is left behind a stop abides as well. -/
def SeqD (F : Fence) (n : Nat) (P : Program) (gf : Nat) (lb : Array Value) (encs : α → Array Value) (Fx : α → World → Prop) (N : Nat → Prop) (S Sp : List α → Prop) (w : World) : Prop :=
  ∀ (l : Nat) (C : World → Nat → Prop) (J Jx : List α → World → Prop) (W : World), Below w.heap.size w W → FrameC C J → BoundC C J → FrameC C Jx →
    (∀ m pre x W1, J pre W1 → Sp (pre ++ [x]) → Fx x W1 → YieldAt F m P l (encs x) W1 fun e W' =>
      (e = .returned (.bool true) ∧ J (pre ++ [x]) W' ∧ Stp N C W1 W') ∨ (e = .returned (.bool false) ∧ Jx (pre ++ [x]) W' ∧ Stp N C W1 W')) →
    J [] W →
    CallsIn F n P gf (#[.func (.yield l) #[] #[]] ++ lb) W fun e W' => (∃ v, e = .returned v) ∧ ((∃ xs, S xs ∧ J xs W') ∨ (∃ pre, Sp pre ∧ Jx pre W'))

theorem range_lawD {g : Operand} {ps : Array Tmp} {assign body : Code} {Q : Exit → Act → World → Prop} {a : Act} {w : World}
    (hro : F.round = none) (hd : F.depth = none) {gf : Nat} {lb : Array Value} (hg : a.eval g = .func (.func gf) #[] lb) (hFg : F.fn gf) (eg : ∀ args w, (callFunc gf args).run P w = .ok (.enter gf args) w)
    {encs : α → Array Value} {Fx : α → World → Prop} {N : Nat → Prop} {S Sp : List α → Prop} {w0 : World} (hseq : ∀ m, SeqD F m P gf lb encs Fx N S Sp w0) (hb0 : Below w0.heap.size w0 w) (hps : ∀ x, (encs x).size = ps.size) (hN : ∀ g, N g → g < w.heap.size)
    (C : World → Nat → Prop) (I : List α → World → Prop) (Ix : Code → List α → World → Prop) (hI : FrameC C I) (hbd : BoundC C I) (hIx : ∀ c, FrameC C (Ix c))
    (h0 : I [] w) (Ax : List α → α → Act → World → Prop)
    (hAx : ∀ pre x a' W l r o, Ax pre x a' W → w.heap.size ≤ l → W.heap[l]? = some (.loop r) → ¬ C W l → (∀ g, C (W.putObj l o) g → C W g) ∧ Ax pre x a' (W.putObj l o))
    (hassign : ∀ (l m : Nat) (pre : List α) (x : α) (W : World) (K : Act → World → Prop), I pre W → Sp (pre ++ [x]) → Fx x W → (∀ a' W', Stp N C W W' → Ax pre x a' W' → K a' W') →
      assign.wpIn (F.inRound l) m P (Exit.then K (fun _ _ _ => False)) { tmps := (ps.zip (encs x)).foldl (fun t (p, v) => t.setIfInBounds p v) a.tmps, defers := [] } W)
    (hbody : ∀ (l m : Nat) (pre : List α) (x : α) (a' : Act) (W : World), Sp (pre ++ [x]) → Ax pre x a' W → body.wpIn (F.inRound l) m P (bodyC N C I Ix (pre ++ [x]) W) a' W)
    (hdone : ∀ (D : Nat) (xs : List α) (W : World), w.heap.size ≤ D → S xs → I xs W → ¬ C W D → W.heap[D]? = some (.deferred (some [])) → Q .normal { a with defers := { target := .collected D, args := #[] } :: a.defers } W)
    (hstop : ∀ (D : Nat) (c : Code) (pre : List α) (W : World), w.heap.size ≤ D → Sp pre → Ix c pre W → ¬ C W D → W.heap[D]? = some (.deferred (some [])) → c.wpIn F n P Q { a with defers := { target := .collected D, args := #[] } :: a.defers } W) :
    (Code.rangeFunc g ps assign body).wpIn F n P Q a w := by
  refine wpIn_rangeFunc fun fn hfn => ?_
  rw [hro]
  have hdd : ∀ k : Nat, F.depth.isSome = true → 1 ≤ k := fun k h => by rw [hd] at h; cases h
  -- the two blocks that the statement lays: for the rounds' deferred calls (d); the loop's record (l)
  obtain ⟨d, hd0⟩ : ∃ d, d = w.heap.size := ⟨_, rfl⟩
  obtain ⟨rec, hrec⟩ : ∃ rec : LoopState → Option Code → Loop, rec = fun st pe => { state := st, pending := pe, fn, tmps := a.tmps, params := ps, assign, body, defers := w.heap.size } := ⟨_, rfl⟩
  obtain ⟨W1, hW1⟩ : ∃ W1, (w.alloc (.deferred (some []))).alloc (.loop (rec .ready none)) = W1 := ⟨_, rfl⟩
  have hl1 : W1.heap[d + 1]? = some (.loop (rec .ready none)) := by
    rw [← hW1, hd0, show w.heap.size + 1 = (w.alloc (.deferred (some []))).heap.size by simp]; exact World.alloc_heap_new _ _
  have hk1 : W1.heap[d]? = some (.deferred (some [])) := by rw [← hW1, hd0]; exact (Below.heap_alloc _ _ _ (by simp)).trans (World.alloc_heap_new w _)
  have hBw : Below w.heap.size w W1 := by rw [← hW1]; exact ((Below.refl _ w).alloc (Nat.le_refl _) _).alloc (by simp) _
  have hIw := hI [] w W1 h0 ((Keeps.of_below hBw).mono fun g e => hbd [] w h0 g e)
  have hbw : ∀ g, C W1 g → g < w.heap.size := fun g e => hbd [] w h0 g (hIw.2 g e)
  have hNd : ∀ g, N g → g < d := fun g e => by rw [hd0]; exact hN g e
  -- what the rounds speak of, with the two blocks
  let CJ : World → Nat → Prop := fun W g => C W g ∨ g = d + 1 ∨ g = d
  let J : List α → World → Prop := fun pre W => I pre W ∧ (W.heap[d + 1]? = some (.loop (rec .ready none)) ∧ W.heap[d]? = some (.deferred (some []))) ∧ ¬ C W (d + 1) ∧ ¬ C W d
  let Jx : List α → World → Prop := fun pre W => ∃ c, Ix c pre W ∧ (W.heap[d + 1]? = some (.loop (rec .done (some c))) ∧ W.heap[d]? = some (.deferred (some []))) ∧ ¬ C W (d + 1) ∧ ¬ C W d
  have hJF : FrameC CJ J := by
    rintro s A B ⟨h1, ⟨h2, h3⟩, h4, h5⟩ hk
    have hi := hI s A B h1 (hk.mono fun g e => .inl e)
    exact ⟨⟨hi.1, ⟨(hk.block _ (.inr (.inl rfl))).trans h2, (hk.block _ (.inr (.inr rfl))).trans h3⟩, fun e => h4 (hi.2 _ e), fun e => h5 (hi.2 _ e)⟩, fun g e => e.elim (fun e => .inl (hi.2 g e)) .inr⟩
  have hJxF : FrameC CJ Jx := by
    rintro s A B ⟨cd, h1, ⟨h2, h3⟩, h4, h5⟩ hk
    have hi := hIx cd s A B h1 (hk.mono fun g e => .inl e)
    exact ⟨⟨cd, hi.1, ⟨(hk.block _ (.inr (.inl rfl))).trans h2, (hk.block _ (.inr (.inr rfl))).trans h3⟩, fun e => h4 (hi.2 _ e), fun e => h5 (hi.2 _ e)⟩, fun g e => e.elim (fun e => .inl (hi.2 g e)) .inr⟩
  have hJB : BoundC CJ J := by
    rintro s A ⟨h1, ⟨h2, h3⟩, _, _⟩ g (e | rfl | rfl)
    · exact hbd s A h1 g e
    · exact (Array.getElem?_eq_some_iff.1 h2).1
    · exact (Array.getElem?_eq_some_iff.1 h3).1
  refine ⟨d + 1, [{ target := .collected d, args := #[] }], W1, { target := .fn (.func gf) lb, args := #[.func (.yield (d + 1)) #[] #[]] }, W1, gf, #[.func (.yield (d + 1)) #[] #[]] ++ lb, W1, ?_, ?_, ?_, ?_, fun h => hdd _ h, ?_⟩
  · rw [← hW1, hrec, hd0]; exact run_enterLoop_outer _ _ _ _ _
  · simp only [resolve, hg]
    simp [go_sem]
  · intro f' hf'; simp [Target.leads] at hf'; subst hf'; exact hFg
  · simp [invoke, go_sem, eg]
  · refine (hseq _ (d + 1) CJ J Jx W1 (hb0.trans (hBw.mono hb0.size)) hJF hJB hJxF ?_ ⟨hIw.1, ⟨hl1, hk1⟩, fun e => ?_, fun e => ?_⟩).mono ?_
    · -- one round
      rintro m pre x W ⟨hi, ⟨hl, hk⟩, hnl, hnd⟩ hsp hfx
      have hy := run_yield (P := P) (args := encs x) hl (by rw [hrec]; exact hps x)
      rw [hrec] at hy
      refine ⟨fn, _, assign, body, hy, roundIn_of_wpIn hfn (hassign _ m pre x W _ hi hsp hfx ?_)⟩
      clear hy
      intro a' Wa hst hax
      have hlW : d + 1 < W.heap.size := (Array.getElem?_eq_some_iff.1 hl).1
      have hla : Wa.heap[d + 1]? = some (.loop (rec .ready none)) := (hst.keeps.block _ (.inr ⟨hlW, hnl⟩)).trans hl
      have hka : Wa.heap[d]? = some (.deferred (some [])) := (hst.keeps.block _ (.inr ⟨by omega, hnd⟩)).trans hk
      have hnla : ¬ C Wa (d + 1) := fun e => (hst.grows _ e).elim hnl (fun e => by omega)
      have hnda : ¬ C Wa d := fun e => (hst.grows _ e).elim hnd (fun e => by omega)
      have hla1 : d + 1 < Wa.heap.size := (Array.getElem?_eq_some_iff.1 hla).1
      refine ⟨_, run_beginRound hla (by rw [hrec]), ?_⟩
      obtain ⟨hgr, hax2⟩ := hAx pre x a' Wa (d + 1) _ (.loop { rec .ready none with state := .busy }) hax (by omega) hla hnla
      obtain ⟨Wb, hWb⟩ : ∃ Wb, Wa.putObj (d + 1) (.loop { rec .ready none with state := .busy }) = Wb := ⟨_, rfl⟩
      have hlb : Wb.heap[d + 1]? = some (.loop { rec .ready none with state := .busy }) := by rw [← hWb]; exact World.putObj_heap_same hla1
      have hkb : Wb.heap[d]? = some (.deferred (some [])) := by rw [← hWb]; exact (World.putObj_heap_other (by omega)).trans hka
      have hKab : Keeps (· ≠ d + 1) Wa Wb := by rw [← hWb]; exact Keeps.put _ _ _
      rw [hWb] at hgr hax2 ⊢
      have hnlb : ¬ C Wb (d + 1) := fun e => hnla (hgr _ e)
      have hndb : ¬ C Wb d := fun e => hnda (hgr _ e)
      refine wpIn_mono (hbody _ m pre x a' Wb hsp hax2) ?_
      have hszb : Wa.heap.size ≤ Wb.heap.size := hKab.size
      have fin : ∀ (jump : Option Code) (W3 : World), Stp N C Wb W3 →
          (Instr.endRound (d + 1) jump).run P W3 = .ok (.bool jump.isNone) (W3.putObj (d + 1) (.loop (rec (if jump.isNone then .ready else .done) jump))) ∧
          (W3.putObj (d + 1) (.loop (rec (if jump.isNone then .ready else .done) jump))).heap[d + 1]? = some (.loop (rec (if jump.isNone then .ready else .done) jump)) ∧
          (W3.putObj (d + 1) (.loop (rec (if jump.isNone then .ready else .done) jump))).heap[d]? = some (.deferred (some [])) ∧ ¬ C W3 (d + 1) ∧ ¬ C W3 d := fun jump W3 h3 => by
        have hl3 : W3.heap[d + 1]? = some (.loop { rec .ready none with state := .busy }) := (h3.keeps.block _ (.inr ⟨by omega, hnlb⟩)).trans hlb
        have hk3 : W3.heap[d]? = some (.deferred (some [])) := (h3.keeps.block _ (.inr ⟨by omega, hndb⟩)).trans hkb
        have := run_endRound (P := P) jump hl3
        rw [hrec] at this ⊢
        exact ⟨this, World.putObj_heap_same (Array.getElem?_eq_some_iff.1 hl3).1, (World.putObj_heap_other (by omega)).trans hk3, fun e => (h3.grows _ e).elim hnlb (fun e => by omega), fun e => (h3.grows _ e).elim hndb (fun e => by omega)⟩
      have stp4 : ∀ (o : Obj) (W3 : World), Stp N C Wb W3 → (∀ g, C (W3.putObj (d + 1) o) g → C W3 g) → Stp N CJ W (W3.putObj (d + 1) o) := fun o W3 h3 hg4 => by
        refine ⟨?_, ?_⟩
        · refine (hst.keeps.mono fun g hg => ?_).trans ((hKab.mono fun g hg => ?_).trans ((h3.keeps.mono fun g hg => ?_).trans ((Keeps.put W3 (d + 1) _).mono fun g hg => ?_)))
          · exact hg.elim .inl fun hg => .inr ⟨hg.1, fun e => hg.2 (.inl e)⟩
          · exact hg.elim (fun e => by have := hNd _ e; omega) fun hg e => hg.2 (.inr (.inl e))
          · exact hg.elim .inl fun hg => .inr ⟨by have := hst.keeps.size; omega, fun e => (hst.grows g (hgr g e)).elim (fun e => hg.2 (.inl e)) (fun e => by omega)⟩
          · exact hg.elim (fun e => by have := hNd _ e; omega) fun hg e => hg.2 (.inr (.inl e))
        · rintro g (e | e)
          · rcases h3.grows g (hg4 g e) with e | e
            · rcases hst.grows g (hgr g e) with e | e
              · exact .inl (.inl e)
              · exact .inr e
            · exact .inr (Nat.le_trans hst.keeps.size (Nat.le_trans hszb e))
          · exact .inl (.inr e)
      rintro e a3 W3 hp
      cases e with
      | normal =>
        obtain ⟨hi3, h3⟩ := hp
        obtain ⟨hr, hl4, hk4, hn4, hm4⟩ := fin none W3 h3
        obtain ⟨hi4, hg4⟩ := hI _ W3 _ hi3 ((Keeps.put W3 (d + 1) (.loop (rec (if (none : Option Code).isNone then .ready else .done) none))).mono fun g e he => hn4 (he ▸ e))
        exact ⟨_, _, hr, .inl ⟨rfl, ⟨hi4, ⟨hl4, hk4⟩, fun e => hn4 (hg4 _ e), fun e => hm4 (hg4 _ e)⟩, stp4 _ W3 h3 hg4⟩⟩
      | ret =>
        obtain ⟨hi3, h3⟩ := hp
        obtain ⟨hr, hl4, hk4, hn4, hm4⟩ := fin (some .ret) W3 h3
        have hK4 := (Keeps.put W3 (d + 1) (.loop (rec (if (some Code.ret).isNone then .ready else .done) (some .ret)))).mono (T := C W3) fun g e he => hn4 (he ▸ e)
        exact ⟨_, _, hr, .inr ⟨rfl, ⟨.ret, (hIx _ _ W3 _ hi3 hK4).1, ⟨hl4, hk4⟩, fun e => hn4 ((hIx _ _ W3 _ hi3 hK4).2 _ e), fun e => hm4 ((hIx _ _ W3 _ hi3 hK4).2 _ e)⟩, stp4 _ W3 h3 (hIx _ _ W3 _ hi3 hK4).2⟩⟩
      | exit id =>
        obtain ⟨hi3, h3⟩ := hp
        obtain ⟨hr, hl4, hk4, hn4, hm4⟩ := fin (some (.exit id)) W3 h3
        have hK4 := (Keeps.put W3 (d + 1) (.loop (rec (if (some (Code.exit id)).isNone then .ready else .done) (some (.exit id))))).mono (T := C W3) fun g e he => hn4 (he ▸ e)
        exact ⟨_, _, hr, .inr ⟨rfl, ⟨.exit id, (hIx _ _ W3 _ hi3 hK4).1, ⟨hl4, hk4⟩, fun e => hn4 ((hIx _ _ W3 _ hi3 hK4).2 _ e), fun e => hm4 ((hIx _ _ W3 _ hi3 hK4).2 _ e)⟩, stp4 _ W3 h3 (hIx _ _ W3 _ hi3 hK4).2⟩⟩
      | goto t =>
        obtain ⟨hi3, h3⟩ := hp
        obtain ⟨hr, hl4, hk4, hn4, hm4⟩ := fin (some (.goto t)) W3 h3
        have hK4 := (Keeps.put W3 (d + 1) (.loop (rec (if (some (Code.goto t)).isNone then .ready else .done) (some (.goto t))))).mono (T := C W3) fun g e he => hn4 (he ▸ e)
        exact ⟨_, _, hr, .inr ⟨rfl, ⟨.goto t, (hIx _ _ W3 _ hi3 hK4).1, ⟨hl4, hk4⟩, fun e => hn4 ((hIx _ _ W3 _ hi3 hK4).2 _ e), fun e => hm4 ((hIx _ _ W3 _ hi3 hK4).2 _ e)⟩, stp4 _ W3 h3 (hIx _ _ W3 _ hi3 hK4).2⟩⟩
      | panic ch => exact hp.elim
      | outgrown => exact hp.elim
    · have := hbw _ e; omega
    · have := hbw _ e; omega
    · -- behind the iterator
      rintro e W2 ⟨⟨v, rfl⟩, (⟨xs, hS, hi, ⟨hl, hk⟩, hnl, hnd⟩ | ⟨pre, hSp, c, hi, ⟨hl, hk⟩, hnl, hnd⟩)⟩
      · refine ⟨none, _, by have := run_endLoop (P := P) hl (by rw [hrec]; simp); rw [hrec] at this; exact this, hdone d xs _ (by omega) hS ?_ (fun e => hnd ((hI xs W2 _ hi ((Keeps.put W2 (d + 1) _).mono fun g e he => hnl (he ▸ e))).2 _ e)) ((World.putObj_heap_other (by omega)).trans hk)⟩
        exact (hI xs W2 _ hi ((Keeps.put W2 (d + 1) _).mono fun g e he => hnl (he ▸ e))).1
      · refine ⟨some c, _, by have := run_endLoop (P := P) hl (by rw [hrec]; simp); rw [hrec] at this; exact this, hstop d c pre _ (by omega) hSp ?_ (fun e => hnd ((hIx c pre W2 _ hi ((Keeps.put W2 (d + 1) _).mono fun g e he => hnl (he ▸ e))).2 _ e)) ((World.putObj_heap_other (by omega)).trans hk)⟩
        exact (hIx c pre W2 _ hi ((Keeps.put W2 (d + 1) _).mono fun g e he => hnl (he ▸ e))).1

theorem SeqC.toD {gf : Nat} {lb : Array Value} {encs : α → Array Value} {Fx : α → World → Prop} {N : Nat → Prop} {S Sp : List α → Prop} {w : World} (h : SeqC F n P gf lb encs Fx N S Sp w) : SeqD F n P gf lb encs Fx N S Sp w := by
  intro l C J Jx W hW hJ hB _ hY h0
  refine h l C J Jx W hW hJ hB (fun m pre x W1 h1 h2 h3 => ?_) h0
  obtain ⟨fn, tm, asg, bd, h4, h5⟩ := hY m pre x W1 h1 h2 h3
  exact ⟨fn, tm, asg, bd, h4, h5.mono fun e W' hh => hh.imp id fun hh => ⟨hh.1, hh.2.1⟩⟩

end

/-- A yield's contract, in a round of another range. -/
theorem round_round {P : Program} {l f : Nat} {tmps : Array Value} {assign body : Code} {w : World} {R : Ending → World → Prop} (l' m : Nat) {m' : Nat} (h : RoundIn Fence.wide m' P l f tmps assign body w R) : RoundIn (Fence.wide.inRound l') m P l f tmps assign body w R := by
  refine ⟨trivial, fun c cs hr => ?_⟩
  exact h.2 c cs (fun d hd => by cases hd)

/-- What stands at a place that a walk goes over. -/
theorem vis_sub (t : Tm) : ∀ p q u, (q, u) ∈ vis p t → ∃ r, q = p ++ r ∧ subT t r = some u := by
  refine Tm.ind (P := fun t => ∀ p q u, (q, u) ∈ vis p t → ∃ r, q = p ++ r ∧ subT t r = some u) (fun f xs ih p q u h => ?_) t
  have key : ∀ (ys zs : List Tm), xs = zs ++ ys → (q, u) ∈ visL p zs.length ys → ∃ r, q = p ++ r ∧ subT (.node f xs) r = some u := by
    intro ys
    induction ys with
    | nil => intro zs _ h; simp [visL] at h
    | cons y ys ihy =>
      intro zs hz h
      simp only [visL, List.mem_append] at h
      rcases h with h | h
      · have hy : y ∈ xs := by rw [hz]; simp
        obtain ⟨r, rfl, hr⟩ := ih y hy _ _ _ h
        refine ⟨(zs.length : Int) :: r, by simp, ?_⟩
        have hget : xs[zs.length]? = some y := by rw [hz]; simp
        have hlt := (List.getElem?_eq_some_iff.1 hget).1
        rw [sub_step (t := .node f xs) (i := (zs.length : Int)) (u := y) (by omega) (by show _ < ((xs.length : Nat) : Int); omega) (by simpa [Tm.args] using hget)]
        exact hr
      · exact ihy (zs ++ [y]) (by rw [hz]; simp) (by simpa using h)
  simp only [vis, List.mem_cons] at h
  rcases h with h | h
  · injection h with h1 h2
    exact ⟨[], by simp [h1], by simp [subT, h2]⟩
  · exact key xs [] rfl h

theorem key_sub {t : Tm} {pre : List Vis} {x : Vis} (h : (pre ++ [x]).map Vis.key <+: vis [] t) : subT t x.pos = some x.t ∧ x.pos.length + 1 ≤ t.depth ∧ x.t.size ≤ t.size := by
  have hm := pre_mem h
  obtain ⟨r, hr, hs⟩ := vis_sub t [] x.pos x.t hm
  rw [List.nil_append] at hr
  have hmax := maxP_mem hm
  rw [maxP_vis] at hmax
  subst hr
  refine ⟨hs, ?_, sub_size hs⟩
  simp only [Vis.key, List.length_nil] at hmax
  omega

/-- A row that is there stays, whatever is laid besides. -/
theorem args_up {w w' : World} {B B' : Nat} {A : Option Addr} {xs : List Tm} (h : Args w B A xs) (hk : ∀ b o v, w.cell? ⟨b, o, none⟩ = some v → w'.cell? ⟨b, o, none⟩ = some v) (hB : B ≤ B') : Args w' B' A xs := by
  induction h with
  | nil A => exact .nil A
  | row b off xs A' c' hb hlen hi h0 h1 _ ih => exact .row b off xs A' c' (by omega) hlen hi (fun i t e => hk _ _ _ (h0 i t e)) (fun i t e => hk _ _ _ (h1 i t e)) ih

theorem ints_up {w w' : World} {B B' : Nat} {A : Option Addr} {l : List Int} (h : Ints w B A l) (hk : ∀ b o v, w.cell? ⟨b, o, none⟩ = some v → w'.cell? ⟨b, o, none⟩ = some v) (hB : B ≤ B') : Ints w' B' A l :=
  ⟨h.len, h.i64, fun hn => by
    obtain ⟨b, off, hA, hlt, hc⟩ := h.ad hn
    exact ⟨b, off, hA, by omega, fun i x hi => hk _ _ _ (hc i x hi)⟩⟩

theorem cell_put {W : World} {l : Nat} {r : Loop} {o : Obj} (hl : W.heap[l]? = some (.loop r)) : ∀ b i v, W.cell? ⟨b, i, none⟩ = some v → (W.putObj l o).cell? ⟨b, i, none⟩ = some v := by
  intro b i v h
  have hne : b ≠ l := fun e => by
    subst e
    simp only [World.cell?, hl] at h
    cases h
  rw [cell_of_heap (World.putObj_heap_other hne)]
  exact h

theorem pl_step {N : Nat → Prop} {C : World → Nat → Prop} {by' : Nat} {Wx w3 w4 : World} (hB : Below Wx.heap.size Wx w3) (hC : ∀ g, C w3 g → C Wx g) (hst : Stp N C w3 w4) (hN : ∀ g, N g → g < Wx.heap.size) : Stp N (fun W g => C W g ∨ g = by') Wx w4 := by
  refine ⟨((Keeps.of_below hB).mono fun g e => e.elim (hN g) (fun e => e.1)).trans (hst.keeps.mono fun g e => e.imp id fun e => ⟨Nat.lt_of_lt_of_le e.1 hB.size, fun h => e.2 (.inl (hC g h))⟩), fun g e => ?_⟩
  rcases e with e | e
  · rcases hst.grows g e with e | e
    · exact .inl (.inl (hC g e))
    · exact .inr (Nat.le_trans hB.size e)
  · exact .inl (.inr e)

/-- What Places hands over: laid since, apart from all that was. -/
structure VisFxL (lo : Nat) (x : Vis) (W : World) : Prop where
  fx : VisFx x W
  plo : ∀ b off, x.A = some ⟨b, off, none⟩ → lo ≤ b
  alo : ArgsN W (fun g => lo ≤ g ∧ g < W.heap.size) x.A' x.t.args

theorem argsN_up {w w' : World} {N M : Nat → Prop} {A : Option Addr} {xs : List Tm} (h : ArgsN w N A xs) (hk : ∀ b o v, w.cell? ⟨b, o, none⟩ = some v → w'.cell? ⟨b, o, none⟩ = some v) (hB : ∀ g, N g → M g) : ArgsN w' M A xs := by
  induction h with
  | nil A => exact .nil A
  | row b off xs A' c' hb hlen hi h0 h1 _ ih => exact .row b off xs A' c' (hB b hb) hlen hi (fun i t e => hk _ _ _ (h0 i t e)) (fun i t e => hk _ _ _ (h1 i t e)) ih

theorem VisFxL.put {lo : Nat} {x : Vis} {W : World} {l : Nat} {r : Loop} {o : Obj} (h : VisFxL lo x W) (hl : W.heap[l]? = some (.loop r)) : VisFxL lo x (W.putObj l o) :=
  ⟨⟨ints_up h.fx.pos (cell_put hl) (by simp), h.fx.i64, args_up h.fx.args (cell_put hl) (by simp)⟩, h.plo, argsN_up h.alo (cell_put hl) (by simp)⟩

theorem VisFxL.on {lo : Nat} {x : Vis} {W W' : World} (h : VisFxL lo x W) (hb : Below W.heap.size W W') : VisFxL lo x W' :=
  ⟨⟨h.fx.pos.on hb, h.fx.i64, h.fx.args.on hb⟩, h.plo, (h.alo.keep fun g e => hb.block g e.2).wide fun _ e => ⟨e.1, Nat.lt_of_lt_of_le e.2 hb.size⟩⟩

/-- A store below leaves it alone. -/
theorem VisFxL.set {lo : Nat} {x : Vis} {W : World} {p : Addr} {v : Value} (h : VisFxL lo x W) (hp : p.block < lo) : VisFxL lo x (W.setCell p v) := by
  have hk : ∀ g, lo ≤ g → (W.setCell p v).heap[g]? = W.heap[g]? := fun _ e => heap_setCell_other _ _ _ _ (by omega)
  have ha := h.alo.keep (w' := W.setCell p v) fun g e => hk g e.1
  refine ⟨⟨⟨h.fx.pos.len, h.fx.pos.i64, fun hn => ?_⟩, h.fx.i64, ha.args fun _ e => by simpa using e.2⟩, h.plo, ha.wide fun _ e => ⟨e.1, by simpa using e.2⟩⟩
  obtain ⟨b, off, e, hb, hc⟩ := h.fx.pos.ad hn
  exact ⟨b, off, e, by simpa using hb, fun i y hy => (cell_of_heap (hk b (h.plo b off e))).trans (hc i y hy)⟩

theorem yield_or {e : Ending} {X Y : Prop} (h : (e = .returned (.bool true) ∧ X) ∨ (e = .returned (.bool false) ∧ Y)) : ∃ b, e = .returned (.bool b) ∧ ((b = true ∧ X) ∨ (b = false ∧ Y)) := by
  rcases h with ⟨h, x⟩ | ⟨h, y⟩
  · exact ⟨true, h, .inl ⟨rfl, x⟩⟩
  · exact ⟨false, h, .inr ⟨rfl, y⟩⟩

end Go.Proofs.Ytnmpeodngipfcaa

/- The document's own answer: Places. -/

namespace Go.Proofs.Ytnmpeodngipfcaa

open Go.RowKit Go.Shelf
set_option maxRecDepth 100000

theorem info_place : (Try.prog.info? 45).map (fun i => (i.zero, i.size, i.bytes)) = some (some (.agg #[.slice none 0 0, .int .i64 0, .slice none 0 0]), 3, 56) := by kernel_rfl

/-- One place more, behind an append. -/
theorem RowP.grow {w2 w3 w5 : World} {lo : Nat} {v v5 : Value} {L : List Pk} {x : Pk} {o : Obj} (h : RowP w2 lo v L (Apart lo v w2)) (hb : Below w2.heap.size w2 w3) (hx : PkFx w3 (Apart lo v w3) x)
    (hown : w5.ownsRow lo 45 3 v5 (L.length + 1) (L.flatMap Pk.cells ++ x.cells)) (hgr : (w3.alloc o).grownBy w5 v.ownBlock) (hat : v5.ownBlock = v.ownBlock ∨ v5.ownBlock = some (w3.alloc o).heap.size) :
    RowP w5 lo v5 (L ++ [x]) (Apart lo v5 w5) := by
  have hlt := row_lt h.row
  have hs3 := hb.size
  have hs5 := hgr.size
  simp at hs5
  have hK : ∀ g, g < w3.heap.size → v.ownBlock ≠ some g → w5.heap[g]? = w3.heap[g]? := fun g h1 h2 => (hgr.block g (by simp; omega) (fun e => h2 e.symm)).trans (Below.heap_alloc w3 o g h1)
  have hNM : ∀ g, Apart lo v w3 g → Apart lo v5 w5 g := fun g e => ⟨e.1, by have := e.2.1; omega, fun e2 => by
    rcases hat with h3 | h3
    · rw [h3] at e2; exact e.2.2 e2
    · rw [h3] at e2; injection e2 with e2; simp at e2; have := e.2.1; omega⟩
  have h3 : RowP w3 lo v L (Apart lo v w3) := (h.keep (fun g e => hb.block g (hlt g e).2) (fun g e => hb.block g e.2.1)).wide fun g e => ⟨e.1, by have := e.2.1; omega, e.2.2⟩
  exact h3.push hown ((hx.keep fun g e => hK g e.2.1 e.2.2).wide hNM) (fun g e => hK g e.2.1 e.2.2) hNM

theorem own_three (w : World) (x y z : Value) (t : TypeId) : (w.alloc (.cells #[x, y, z] t)).ownsRow w.heap.size t 3 (.slice (some ⟨w.heap.size, 0, none⟩) 1 1) 1 [x, y, z] :=
  ⟨rfl, .inr ⟨w.heap.size, 1, #[x, y, z], rfl, Nat.le_refl _, heap_alloc_new w _, Nat.le_refl _, by decide, rfl, rfl⟩⟩

theorem own_one (w : World) (x : Value) (t : TypeId) : (w.alloc (.cells #[x] t)).ownsRow w.heap.size t 1 (.slice (some ⟨w.heap.size, 0, none⟩) 1 1) 1 [x] :=
  ⟨rfl, .inr ⟨w.heap.size, 1, #[x], rfl, Nat.le_refl _, heap_alloc_new w _, Nat.le_refl _, by decide, rfl, rfl⟩⟩

theorem cells_new_three (w : World) (x y z : Value) (t : TypeId) : ∀ j u, [x, y, z][j]? = some u → (w.alloc (.cells #[x, y, z] t)).cell? ((⟨w.heap.size, 0, none⟩ : Addr).add j) = some u := by
  intro j u hj
  match j, hj with
  | 0, hj => simp at hj; subst hj; simp [Addr.add]
  | 1, hj => simp at hj; subst hj; simp [Addr.add]
  | 2, hj => simp at hj; subst hj; simp [Addr.add]
  | j + 3, hj => simp at hj

theorem row_base {W : World} {base base' n : Nat} {e : TypeId} {size : Nat} {v : Value} {vs : List Value} (h : W.ownsRow base e size v n vs) (hb : base' ≤ base) : W.ownsRow base' e size v n vs := by
  refine ⟨h.1, ?_⟩
  rcases h.2 with h0 | ⟨g, cap, cur, hv, h1, hrest⟩
  · exact .inl h0
  · exact .inr ⟨g, cap, cur, hv, Nat.le_trans hb h1, hrest⟩

def RPlacesPost (t : Tm) (w : World) (e : Ending) (w' : World) : Prop := ∃ v L, e = .returned v ∧ L.map Pk.key = vis [] t ∧ RowP w' w.heap.size v L (Apart w.heap.size v w') ∧ Below w.heap.size w w'

def RPlacesAt (t : Tm) : Prop := t.size ≤ 1099511627776 → ∀ (A : Option Addr) (c : Nat) (w : World), I64 t.fn → Args w w.heap.size A t.args → Calls Try.prog 23 #[.agg #[.int .i64 t.fn, .slice A t.args.length c]] w (RPlacesPost t w)

/-- What the outer loop has laid. -/
structure RPI (w W wr : World) (xs : List Tm) (f : Int) (k : Nat) (v : Value) (L : List Pk) : Prop where
  blw : Below (w.heap.size + 1) W wr
  key : L.map Pk.key = ([], .node f xs) :: visL [] 0 (xs.take k)
  row : RowP wr (w.heap.size + 1) v L (Apart (w.heap.size + 1) v wr)

/-- What the inner loop has laid; the argument's places lie there still. -/
structure RPJ (w W wr w4 wx : World) (xs : List Tm) (f : Int) (k : Nat) (v4 : Value) (L4 : List Pk) (m : Nat) (v : Value) (L : List Pk) : Prop where
  blw : Below (w.heap.size + 1) W wx
  key : L.map Pk.key = (([], .node f xs) :: visL [] 0 (xs.take k)) ++ (L4.take m).map fun x => ((k : Int) :: x.p, x.t)
  row : RowP wx (w.heap.size + 1) v L (Apart (w.heap.size + 1) v wx)
  inn : RowP wx wr.heap.size v4 L4 (Apart wr.heap.size v4 w4)
  off : ∀ g, v.ownBlock = some g → g < wr.heap.size ∨ w4.heap.size ≤ g
  big : w4.heap.size ≤ wx.heap.size
  mid : wr.heap.size ≤ w4.heap.size
  inn4 : ∀ g, v4.ownBlock = some g → wr.heap.size ≤ g ∧ g < w4.heap.size

theorem vis_room {f : Int} {xs : List Tm} {k : Nat} {u : Tm} (h : xs[k]? = some u) : (visL [] 0 (xs.take k)).length + u.size + 1 ≤ (Tm.node f xs).size := by
  have h1 := (visL_pre [] xs (k + 1)).length_le
  rw [visL_take h, List.length_append, vis_len] at h1
  have h2 := congrArg List.length (vis_eq [] (Tm.node f xs))
  rw [vis_len] at h2
  simp only [List.length_cons, Tm.args] at h2
  omega

theorem RPJ.room {w W wr w4 wx : World} {xs : List Tm} {f : Int} {k m : Nat} {v4 v : Value} {L4 L : List Pk} {u : Tm} (h : RPJ w W wr w4 wx xs f k v4 L4 m v L) (hu : xs[k]? = some u) (h4 : L4.map Pk.key = vis [] u) (hm : m < L4.length) : L.length + 1 ≤ (Tm.node f xs).size := by
  have h1 := vis_room (f := f) hu
  have h2 := congrArg List.length h.key
  have h3 := congrArg List.length h4
  rw [vis_len, List.length_map] at h3
  rw [List.length_map, List.length_append, List.length_map, List.length_take] at h2
  simp only [List.length_cons] at h2
  omega

theorem pk_depth {L : List Pk} {u : Tm} {x : Pk} (h4 : L.map Pk.key = vis [] u) (hx : x ∈ L) : x.p.length + 1 ≤ u.depth := by
  have hm : x.key ∈ vis [] u := by rw [← h4]; exact List.mem_map_of_mem hx
  have := maxP_mem hm
  rw [maxP_vis] at this
  simp only [Pk.key, List.length_nil] at this
  omega

/-- The next place of the argument, at the row's end. -/
theorem RPJ.next {w W wr w4 wx wz w5 : World} {xs : List Tm} {f : Int} {k m : Nat} {v4 v v5 vp : Value} {L4 L : List Pk} {x : Pk} {o : Obj} {Ap : Option Addr} {cp : Nat} (h : RPJ w W wr w4 wx xs f k v4 L4 m v L) (hWs : W.heap.size = w.heap.size + 1) (hrs : W.heap.size ≤ wr.heap.size) (hx : L4[m]? = some x) (hb : Below wx.heap.size wx wz)
    (hvp : vp = .slice Ap (x.p.length + 1) cp) (hp : wz.ownsRow wx.heap.size 3 1 vp (x.p.length + 1) (((k : Int) :: x.p).map (Value.int .i64))) (hk : I64 (k : Int)) (hxl : x.p.length + 1 ≤ 9223372036854775807)
    (hown : w5.ownsRow (w.heap.size + 1) 45 3 v5 (L.length + 1) (L.flatMap Pk.cells ++ (⟨(k : Int) :: x.p, x.t, Ap, cp, x.A, x.c⟩ : Pk).cells)) (hgr : (wz.alloc o).grownBy w5 v.ownBlock) (hat : v5.ownBlock = v.ownBlock ∨ v5.ownBlock = some (wz.alloc o).heap.size) :
    RPJ w W wr w4 w5 xs f k v4 L4 (m + 1) v5 (L ++ [⟨(k : Int) :: x.p, x.t, Ap, cp, x.A, x.c⟩]) := by
  have hlt := row_lt h.row.row
  have hzs := hb.size
  have h5s := hgr.size
  simp at h5s
  have hbig := h.big
  have hmid := h.mid
  have hfx := h.inn.fx x (List.mem_of_getElem? hx)
  have h4l := row_lt h.inn.row
  have hvv := h.off
  have hK : ∀ g, g < wx.heap.size → v.ownBlock ≠ some g → w5.heap[g]? = wx.heap[g]? := fun g h1 h2 => (hgr.block g (by simp; omega) (fun e => h2 e.symm)).trans ((Below.heap_alloc wz o g (by omega)).trans (hb.block g h1))
  have hin : ∀ g, wr.heap.size ≤ g → g < w4.heap.size → v.ownBlock ≠ some g := fun g h1 h2 e => by have := hvv g e; omega
  refine ⟨?_, ?_, ?_, ?_, ?_, by omega, hmid, h.inn4⟩
  · exact ((h.blw.trans (hb.mono (by omega))).alloc (by omega) _).grown hgr (by simp; omega) fun g e => (hlt g e).1
  · rw [List.map_append, h.key, List.take_add_one, hx, List.map_append, List.append_assoc]; rfl
  · refine h.row.grow hb ⟨?_, hfx.i64, ?_⟩ hown hgr hat
    · have hl : ((k : Int) :: x.p).length = x.p.length + 1 := rfl
      obtain ⟨A2, c2, e, hI⟩ := row_intsN (N := Apart (w.heap.size + 1) v wz) (l := (k : Int) :: x.p) (by rw [hl]; exact hp) (by rw [hl]; exact hxl) (fun y hy => by
        rcases List.mem_cons.1 hy with rfl | hy
        · exact hk
        · exact hfx.pos.i64 y hy) (fun g e => ⟨by have := (row_lt hp g e).1; omega, (row_lt hp g e).2, fun e2 => by have := (row_lt hp g e).1; have := (hlt g e2).2; omega⟩)
      rw [hvp] at e
      injection e with e1 _ e3
      subst e1; subst e3
      exact hI
    · exact (hfx.args.keep fun g e => hb.block g (by have := e.2.1; omega)).wide fun g e => ⟨by have := e.1; omega, by have := e.2.1; omega, hin g e.1 e.2.1⟩
  · exact h.inn.keep (fun g e => hK g (by have := h.inn4 g e; omega) (hin g (h.inn4 g e).1 (h.inn4 g e).2)) (fun g e => hK g (by have := e.2.1; omega) (hin g e.1 e.2.1))
  · intro g e
    rcases hat with h3 | h3
    · rw [h3] at e; exact hvv g e
    · rw [h3] at e; injection e with e; simp at e; right; omega

set_option maxHeartbeats 4000000 in
theorem refPlaces_any (t : Tm) : RPlacesAt t := by
  refine Tm.ind (P := RPlacesAt) (fun f xs ih => ?_) t
  intro hsz A c w hf hA
  simp only [Tm.fn, Tm.args] at hf hA ⊢
  obtain ⟨i0, hi, hz0, hz1, hz2⟩ := info_parts info_place
  obtain ⟨i1, hi1, hy0, hy1, hy2⟩ := info_parts infoInt
  obtain ⟨W, hW⟩ : ∃ W, w.alloc (.cells #[.int .i64 f, .slice A xs.length c] 27) = W := ⟨_, rfl⟩
  have hB : Below w.heap.size w W := by rw [← hW]; exact (Below.refl _ _).alloc (Nat.le_refl _) _
  have q0 : W.heap[w.heap.size]? = some (.cells #[.int .i64 f, .slice A xs.length c] 27) := by rw [← hW]; exact heap_alloc_new _ _
  have hWs : W.heap.size = w.heap.size + 1 := by rw [← hW]; simp
  obtain ⟨a0, a1, _, _⟩ := cells_two q0
  have HW := Lib.hid hW
  have HA := Lib.hid hA
  have hl64 := hA.len
  have H1 := Lib.hid (hA.on hB)
  clear hW hA
  go_enter Try.func23, Try.ntmps23
  go_upto_region 1 with fail
  rw [HW.out]
  go_wp2_with (first
    | (go_at_call 50; refine (refCopy_at (.node f xs) A c W (by omega) hf H1.out).mono ?_; go_must (rintro e w2 ⟨A4, c4, rfl, hN4, hb4⟩; simp only [Tm.fn, Tm.args] at hN4 ⊢))
    | fail)
  have hs2 := hb4.size
  have hI0 : Hid (RPI w W (w2.alloc (.cells #[.slice none 0 0, .int .i64 f, .slice A4 xs.length c4] 45)) xs f 0 (.slice (some ⟨w2.heap.size, 0, none⟩) 1 1) [⟨[], .node f xs, none, 0, A4, c4⟩]) := by
    have hBa : Below w2.heap.size w2 (w2.alloc (.cells #[.slice none 0 0, .int .i64 f, .slice A4 xs.length c4] 45)) := (Below.refl _ _).alloc (Nat.le_refl _) _
    refine ⟨?_, by simp [visL, Pk.key], ⟨row_base (own_three w2 _ _ _ _) (by omega), fun x hx => ?_⟩⟩
    · exact ((hb4.mono (by omega)).trans (hBa.mono (by omega)))
    · simp only [List.mem_cons, List.not_mem_nil, or_false] at hx
      subst hx
      exact ⟨IntsN.nil_ _ _ _, hf, (hN4.keep fun g e => hBa.block g e.2).wide fun g e => ⟨by omega, by have := e.2; simp; omega, fun e2 => by injection e2 with e2; have e3 : w2.heap.size = g := e2; have := e.2; omega⟩⟩
  clear hN4
  go_loopw [3, 4] (fun s3 i wr => ∃ (k : Nat) (v : Value) (L : List Pk), k ≤ xs.length ∧ i = .int .i64 (k : Int) ∧ v = s3 ∧ Hid (RPI w W wr xs f k v L)) (fun _ i _ => xs.length - (intOf i).toNat)
  case atStart => exact ⟨0, _, _, Nat.zero_le _, rfl, rfl, hI0⟩
  case round =>
    obtain ⟨k, v, L, hk, rfl, rfl, H⟩ := hrel
    obtain ⟨wo, rfl⟩ : ∃ wo, wo = wr := ⟨_, rfl⟩
    have hBr := H.out.blw
    by_cases hlt : k < xs.length
    · obtain ⟨u, hu⟩ : ∃ u, xs[k]? = some u := ⟨_, List.getElem?_eq_getElem hlt⟩
      have hBw : Below w.heap.size w wo := hB.trans (hBr.mono (by omega))
      have hrs : W.heap.size ≤ wo.heap.size := hBr.size
      obtain ⟨a0, a1, _, _⟩ := cells_two ((hBr.block w.heap.size (by omega)).trans q0)
      obtain ⟨bb, off, A1, c1, rfl, ha⟩ := HA.out.get hu
      have e0 := cell_on hBw ha.hb ha.c0
      have e1 := cell_on hBw ha.hb ha.c1
      have hs1 : Hid (Args wo wo.heap.size A1 u.args) := ha.sub.on hBw
      have hi64 := ha.hi
      have hmem := List.mem_of_getElem? hu
      have husz : u.size ≤ 1099511627776 := by have := size_mem hmem; simp only [Tm.size] at hsz; omega
      have hk64 : I64 (k : Int) := ⟨by omega, by omega⟩
      have Hu := Lib.hid hu
      clear hu ha
      go_wp2_with (first
        | (go_at_call 23
           go_must (
           refine (ih u hmem husz A1 c1 wo hi64 hs1.out).mono ?_
           rintro e w4 ⟨v4, L4, rfl, hL4, hR4, hb4⟩
           have hl4 : L4.length = u.size := by have := congrArg List.length hL4; rwa [vis_len, List.length_map] at this
           have hrow4 := hR4.row
           obtain ⟨g4, c4, hv4⟩ := row_some hrow4 (by have := size_pos u; omega)
           subst hv4
           have HR4 := Lib.hid hR4
           clear hR4 hrow4))
        | fail)
      have hJ0 : Hid (RPJ w W wo w4 w4 xs f k (.slice (some ⟨g4, 0, none⟩) L4.length c4) L4 0 v L) := by
        have hlt4 := row_lt HR4.out.row
        have hlv := row_lt H.out.row.row
        exact ⟨hBr.trans (hb4.mono (by omega)), by rw [H.out.key]; simp, (H.out.row.keep (fun g e => hb4.block g (hlv g e).2) (fun g e => hb4.block g e.2.1)).wide fun g e => ⟨e.1, by have := e.2.1; have := hb4.size; omega, e.2.2⟩, HR4.out, fun g e => .inl (hlv g e).2, Nat.le_refl _, hb4.size, hlt4⟩
      clear a0 a1 e0 e1
      go_loopw [3, 6] (fun s3 i' wx => ∃ (m : Nat) (v' : Value) (L' : List Pk), m ≤ L4.length ∧ i' = .int .i64 (m : Int) ∧ v' = s3 ∧ Hid (RPJ w W wo w4 wx xs f k (.slice (some ⟨g4, 0, none⟩) L4.length c4) L4 m v' L')) (fun _ i' _ => L4.length - (intOf i').toNat)
      case atStart => exact ⟨0, _, _, Nat.zero_le _, rfl, rfl, hJ0⟩
      case round =>
        obtain ⟨m, v', L', hm, rfl, rfl, HJ⟩ := hrel
        obtain ⟨wx, rfl⟩ : ∃ wx, wx = wr := ⟨_, rfl⟩
        have hL64 : L4.length ≤ 9223372036854775807 := by omega
        by_cases hml : m < L4.length
        · obtain ⟨x, hx⟩ : ∃ x, L4[m]? = some x := ⟨_, List.getElem?_eq_getElem hml⟩
          obtain ⟨g4', c4', e4, hog, hg4, y0, y1, y2, hfx⟩ := HJ.out.inn.get hx
          injection e4 with e4 _ e5
          injection e4 with e4
          injection e4 with e4 _ _
          subst e4
          subst e5
          have hxd := pk_depth hL4 (List.mem_of_getElem? hx)
          have hud := depth_le_size u
          have hroom := HJ.out.room Hu.out hL4 hml
          have hpx := hfx.pos
          have hxl : x.p.length ≤ 1099511627776 := by omega
          have hinB : ∀ g, Apart wo.heap.size (.slice (some ⟨g4, 0, none⟩) L4.length c4) w4 g → g < wx.heap.size := fun g e => Nat.lt_of_lt_of_le e.2.1 HJ.out.big
          have Hx := Lib.hid hx
          have Hpx := Lib.hid hpx
          have Hown0 := Lib.hid (own_one wx (.int .i64 (k : Int)) 3)
          have hBa : Below wx.heap.size wx (wx.alloc (.cells #[.int .i64 (k : Int)] 3)) := (Below.refl _ _).alloc (Nat.le_refl _) _
          clear hx hpx hfx hog
          go_wp2
          go_loopw [7, 8] (fun s7 j' wz => ∃ (j : Nat) (vp : Value), j ≤ x.p.length ∧ j' = .int .i64 (j : Int) ∧ vp = s7 ∧ Below wx.heap.size wx wz ∧ Hid (wz.ownsRow wx.heap.size 3 1 vp (j + 1) (((k : Int) :: x.p.take j).map (Value.int .i64)))) (fun _ j' _ => x.p.length - (intOf j').toNat)
          case atStart => exact ⟨0, _, Nat.zero_le _, rfl, rfl, hBa, by simpa using Hown0⟩
          case round =>
            obtain ⟨j, vp, hj, rfl, rfl, hBz, HP⟩ := hrel
            obtain ⟨wz, rfl⟩ : ∃ wz, wz = wr := ⟨_, rfl⟩
            have z0 := cell_on hBz hg4 y0
            have hp64 : x.p.length ≤ 9223372036854775807 := by omega
            by_cases hjl : j < x.p.length
            · obtain ⟨y, hy⟩ : ∃ y, x.p[j]? = some y := ⟨_, List.getElem?_eq_getElem hjl⟩
              obtain ⟨pb, po, epb, hpb, hpc⟩ := Hpx.out.ad (by omega)
              have z1 := cell_on hBz (hinB _ hpb) (hpc _ _ hy)
              rw [epb] at z0
              have htk : x.p.take (j + 1) = x.p.take j ++ [y] := by rw [List.take_add_one, hy]; rfl
              have Hy := Lib.hid htk
              have hbzs := hBz.size
              have hrl := row_lt HP.out
              clear hy hpc htk
              go_wp2_with (first
                | (at_builtin
                   go_must (
                   refine wpList_append_own _ rfl _ _ 43 rfl wx.heap.size 3 i1 (.int .i64 0) 1 8 Try.underlying43 hi1 hy0 hy1 hy2 rfl (by decide) _ (j + 1) _ rfl ((row_keep HP.out fun g e => Below.heap_alloc wz _ g (hrl g e).2)) ⟨wz.heap.size, 0, none⟩ 1 1 [.int .i64 y] rfl rfl (cell_one_new _ _ _) (by simp [Value.oneCell']) (by unfold maxLen; omega) (by omega) (by simp; omega) ?_
                   intro v2 w2' hown2 hgr2 _
                   have hB2 : Below wx.heap.size wx w2' := (hBz.alloc hbzs _).grown hgr2 (by simp; omega) fun g hg => (hrl g hg).1
                   have Hown2 := Lib.hid hown2
                   clear hgr2 hown2))
                | fail)
              go_roundw
              case rel => exact ⟨j + 1, _, by omega, by go_num, rfl, hB2, by rw [Hy.out]; simpa using Hown2⟩
              case measure => simp [intOf]; omega
            · obtain rfl : j = x.p.length := by omega
              obtain ⟨gp, cpp, evp⟩ := ownsRow_succ HP.out
              subst evp
              have HQ := Lib.hid (show wz.ownsRow wx.heap.size 3 1 (.slice (some ⟨gp, 0, none⟩) (x.p.length + 1) cpp) (x.p.length + 1) (((k : Int) :: x.p).map (Value.int .i64)) by simpa using HP.out)
              have w1' := cell_on hBz hg4 y1
              have w2' := cell_on hBz hg4 y2
              have hbzs := hBz.size
              have hrow := Lib.hid HJ.out.row.row
              have hrl := row_lt hrow.out
              have hwxs : w.heap.size + 1 ≤ wx.heap.size := by have := HJ.out.mid; have := HJ.out.big; omega
              go_wp2_with (first
                | (at_builtin
                   go_must (
                   refine wpList_append_own_at _ rfl _ _ 41 rfl (w.heap.size + 1) 45 i0 (.agg #[.slice none 0 0, .int .i64 0, .slice none 0 0]) 3 56 Try.underlying41 hi hz0 hz1 hz2 rfl (by decide) v' L'.length _ rfl (row_keep hrow.out fun g e => (Below.heap_alloc wz _ g (Nat.lt_of_lt_of_le (hrl g e).2 hbzs)).trans (hBz.block g (hrl g e).2)) ⟨wz.heap.size, 0, none⟩ 1 1 [.slice (some ⟨gp, 0, none⟩) (x.p.length + 1) cpp, .int .i64 x.t.fn, .slice x.A x.t.args.length x.c] rfl rfl (cells_new_three _ _ _ _ _) (by simp [Value.oneCell']) (by unfold maxLen; omega) (by omega) (by simp; omega) ?_
                   intro v5 w5 hown5 hgr5 _ hat5
                   have Hn5 := Lib.hid (HJ.out.next (x := x) (Ap := some ⟨gp, 0, none⟩) (cp := cpp) hWs hrs Hx.out hBz rfl HQ.out hk64 (by omega) hown5 hgr5 hat5)
                   clear hown5 hgr5 hat5))
                | fail)
              go_roundw
              case rel => exact ⟨m + 1, _, _, by omega, by go_num, rfl, Hn5⟩
              case measure => simp [intOf]; omega
        · obtain rfl : m = L4.length := by omega
          have hkey2 := HJ.out.key
          rw [List.take_length] at hkey2
          have Hnext : Hid (RPI w W wx xs f (k + 1) v' L') := ⟨HJ.out.blw, by
            rw [hkey2, visL_take Hu.out]
            have e : (L4.map fun x => ((k : Int) :: x.p, x.t)) = vis ([] ++ [(k : Int)]) u := by
              rw [List.nil_append, vis_one, ← hL4, List.map_map]; rfl
            rw [e]; simp, HJ.out.row⟩
          clear hkey2
          go_wp2
          go_roundw
          case rel => exact ⟨k + 1, _, _, by omega, by go_num, rfl, Hnext⟩
          case measure => simp [intOf]; omega
    · obtain rfl : k = xs.length := by omega
      obtain ⟨a0, a1, _, _⟩ := cells_two ((hBr.block w.heap.size (by omega)).trans q0)
      have hrow := H.out.row
      have hkey := H.out.key
      rw [List.take_length] at hkey
      have hBw : Below w.heap.size w wo := hB.trans (hBr.mono (by omega))
      go_wp2
      go_ret
      exact ⟨_, L, rfl, by rw [hkey, vis_eq]; rfl, ⟨row_base hrow.row (by omega), fun x hx => (hrow.fx x hx).wide fun g e => ⟨by have := e.1; omega, e.2.1, e.2.2⟩⟩, hBw⟩

end Go.Proofs.Ytnmpeodngipfcaa

/- The document's own Places, again: its rows have room for what they hold. (gen_ek.py) -/

namespace Go.Proofs.Ytnmpeodngipfcaa

open Go.RowKit Go.Shelf
set_option maxRecDepth 100000

structure PkFxK (w : World) (N : Nat → Prop) (x : Pk) : Prop where
  pos : IntsN w N x.Ap x.p
  i64 : I64 x.t.fn
  args : ArgsK w N x.A x.c x.t.args
  cap : x.p.length ≤ x.cp ∧ x.cp ≤ 9223372036854775807

theorem PkFxK.keep {w w' : World} {N : Nat → Prop} {x : Pk} (h : PkFxK w N x) (hk : ∀ g, N g → w'.heap[g]? = w.heap[g]?) : PkFxK w' N x := ⟨h.pos.keep hk, h.i64, h.args.keep hk, h.cap⟩

theorem PkFxK.wide {w : World} {N M : Nat → Prop} {x : Pk} (h : PkFxK w N x) (hk : ∀ g, N g → M g) : PkFxK w M x := ⟨h.pos.wide hk, h.i64, h.args.wide hk, h.cap⟩

/-- The slice v is the call's own; it holds the places l, whose numbers and terms lie in N's blocks. -/
structure RowPK (w : World) (base : Nat) (v : Value) (l : List Pk) (N : Nat → Prop) : Prop where
  row : w.ownsRow base 45 3 v l.length (l.flatMap Pk.cells)
  fx : ∀ x ∈ l, PkFxK w N x

section

variable {w w' : World} {base : Nat} {v : Value} {l : List Pk} {N M : Nat → Prop}

theorem RowPK.keep (h : RowPK w base v l N) (hv : ∀ g, v.ownBlock = some g → w'.heap[g]? = w.heap[g]?) (hN : ∀ g, N g → w'.heap[g]? = w.heap[g]?) : RowPK w' base v l N :=
  ⟨row_keep h.row hv, fun x hx => (h.fx x hx).keep hN⟩

theorem RowPK.wide (h : RowPK w base v l N) (hk : ∀ g, N g → M g) : RowPK w base v l M := ⟨h.row, fun x hx => (h.fx x hx).wide hk⟩

theorem RowPK.shape (h : RowPK w base v l N) : ∃ A c, v = .slice A l.length c := by
  rcases h.row.2 with ⟨hv, h0⟩ | ⟨g, cap, cur, hv, _⟩
  · exact ⟨none, 0, by rw [hv, h0]⟩
  · exact ⟨_, cap, hv⟩

/-- One of the places, read. -/
theorem RowPK.get (h : RowPK w base v l N) {i : Nat} {x : Pk} (hx : l[i]? = some x) : ∃ g c, v = .slice (some ⟨g, 0, none⟩) l.length c ∧ v.ownBlock = some g ∧ g < w.heap.size ∧ w.cell? ⟨g, i * 3, none⟩ = some (.slice x.Ap x.p.length x.cp) ∧ w.cell? ⟨g, i * 3 + 1, none⟩ = some (.int .i64 x.t.fn) ∧ w.cell? ⟨g, i * 3 + 2, none⟩ = some (.slice x.A x.t.args.length x.c) ∧ PkFxK w N x := by
  have hlt := (List.getElem?_eq_some_iff.1 hx).1
  rcases h.row.2 with ⟨_, h0⟩ | ⟨g, cap, cur, rfl, hb, hg, _⟩
  · omega
  · refine ⟨g, cap, rfl, rfl, (Array.getElem?_eq_some_iff.1 hg).1, ?_, ?_, ?_, h.fx x (List.mem_of_getElem? hx)⟩
    · have hq := pk_get l i 0 (by omega)
      rw [Nat.add_zero, hx] at hq
      rw [h.row.cellAt (i * 3) (by omega), hq]
      rfl
    · have hq := pk_get l i 1 (by omega)
      rw [hx] at hq
      rw [h.row.cellAt (i * 3 + 1) (by omega), hq]
      rfl
    · have hq := pk_get l i 2 (by omega)
      rw [hx] at hq
      rw [h.row.cellAt (i * 3 + 2) (by omega), hq]
      rfl

/-- One more. -/
theorem RowPK.push {x : Pk} {v' : Value} (h : RowPK w base v l N) (hrow : w'.ownsRow base 45 3 v' (l.length + 1) (l.flatMap Pk.cells ++ x.cells)) (hx : PkFxK w' M x) (hk : ∀ g, N g → w'.heap[g]? = w.heap[g]?) (hNM : ∀ g, N g → M g) : RowPK w' base v' (l ++ [x]) M := by
  refine ⟨?_, ?_⟩
  · rw [List.length_append, List.flatMap_append]
    simpa using hrow
  · intro y hy
    rcases List.mem_append.1 hy with hy | hy
    · exact ((h.fx y hy).keep hk).wide hNM
    · simp only [List.mem_cons, List.not_mem_nil, or_false] at hy
      subst hy; exact hx

end

/-- One place more, behind an append. -/
theorem RowPK.grow {w2 w3 w5 : World} {lo : Nat} {v v5 : Value} {L : List Pk} {x : Pk} {o : Obj} (h : RowPK w2 lo v L (Apart lo v w2)) (hb : Below w2.heap.size w2 w3) (hx : PkFxK w3 (Apart lo v w3) x)
    (hown : w5.ownsRow lo 45 3 v5 (L.length + 1) (L.flatMap Pk.cells ++ x.cells)) (hgr : (w3.alloc o).grownBy w5 v.ownBlock) (hat : v5.ownBlock = v.ownBlock ∨ v5.ownBlock = some (w3.alloc o).heap.size) :
    RowPK w5 lo v5 (L ++ [x]) (Apart lo v5 w5) := by
  have hlt := row_lt h.row
  have hs3 := hb.size
  have hs5 := hgr.size
  simp at hs5
  have hK : ∀ g, g < w3.heap.size → v.ownBlock ≠ some g → w5.heap[g]? = w3.heap[g]? := fun g h1 h2 => (hgr.block g (by simp; omega) (fun e => h2 e.symm)).trans (Below.heap_alloc w3 o g h1)
  have hNM : ∀ g, Apart lo v w3 g → Apart lo v5 w5 g := fun g e => ⟨e.1, by have := e.2.1; omega, fun e2 => by
    rcases hat with h3 | h3
    · rw [h3] at e2; exact e.2.2 e2
    · rw [h3] at e2; injection e2 with e2; simp at e2; have := e.2.1; omega⟩
  have h3 : RowPK w3 lo v L (Apart lo v w3) := (h.keep (fun g e => hb.block g (hlt g e).2) (fun g e => hb.block g e.2.1)).wide fun g e => ⟨e.1, by have := e.2.1; omega, e.2.2⟩
  exact h3.push hown ((hx.keep fun g e => hK g e.2.1 e.2.2).wide hNM) (fun g e => hK g e.2.1 e.2.2) hNM

def RPlacesPostK (t : Tm) (w : World) (e : Ending) (w' : World) : Prop := ∃ v L, e = .returned v ∧ L.map Pk.key = vis [] t ∧ RowPK w' w.heap.size v L (Apart w.heap.size v w') ∧ Below w.heap.size w w'

def RPlacesAtK (t : Tm) : Prop := t.size ≤ 1099511627776 → ∀ (A : Option Addr) (c : Nat) (w : World), I64 t.fn → Args w w.heap.size A t.args → Calls Try.prog 23 #[.agg #[.int .i64 t.fn, .slice A t.args.length c]] w (RPlacesPostK t w)

/-- What the outer loop has laid. -/
structure RPIK (w W wr : World) (xs : List Tm) (f : Int) (k : Nat) (v : Value) (L : List Pk) : Prop where
  blw : Below (w.heap.size + 1) W wr
  key : L.map Pk.key = ([], .node f xs) :: visL [] 0 (xs.take k)
  row : RowPK wr (w.heap.size + 1) v L (Apart (w.heap.size + 1) v wr)

/-- What the inner loop has laid; the argument's places lie there still. -/
structure RPJK (w W wr w4 wx : World) (xs : List Tm) (f : Int) (k : Nat) (v4 : Value) (L4 : List Pk) (m : Nat) (v : Value) (L : List Pk) : Prop where
  blw : Below (w.heap.size + 1) W wx
  key : L.map Pk.key = (([], .node f xs) :: visL [] 0 (xs.take k)) ++ (L4.take m).map fun x => ((k : Int) :: x.p, x.t)
  row : RowPK wx (w.heap.size + 1) v L (Apart (w.heap.size + 1) v wx)
  inn : RowPK wx wr.heap.size v4 L4 (Apart wr.heap.size v4 w4)
  off : ∀ g, v.ownBlock = some g → g < wr.heap.size ∨ w4.heap.size ≤ g
  big : w4.heap.size ≤ wx.heap.size
  mid : wr.heap.size ≤ w4.heap.size
  inn4 : ∀ g, v4.ownBlock = some g → wr.heap.size ≤ g ∧ g < w4.heap.size

theorem RPJK.room {w W wr w4 wx : World} {xs : List Tm} {f : Int} {k m : Nat} {v4 v : Value} {L4 L : List Pk} {u : Tm} (h : RPJK w W wr w4 wx xs f k v4 L4 m v L) (hu : xs[k]? = some u) (h4 : L4.map Pk.key = vis [] u) (hm : m < L4.length) : L.length + 1 ≤ (Tm.node f xs).size := by
  have h1 := vis_room (f := f) hu
  have h2 := congrArg List.length h.key
  have h3 := congrArg List.length h4
  rw [vis_len, List.length_map] at h3
  rw [List.length_map, List.length_append, List.length_map, List.length_take] at h2
  simp only [List.length_cons] at h2
  omega

/-- The next place of the argument, at the row's end. -/
theorem RPJK.next {w W wr w4 wx wz w5 : World} {xs : List Tm} {f : Int} {k m : Nat} {v4 v v5 vp : Value} {L4 L : List Pk} {x : Pk} {o : Obj} {Ap : Option Addr} {cp : Nat} (h : RPJK w W wr w4 wx xs f k v4 L4 m v L) (hWs : W.heap.size = w.heap.size + 1) (hrs : W.heap.size ≤ wr.heap.size) (hx : L4[m]? = some x) (hb : Below wx.heap.size wx wz)
    (hvp : vp = .slice Ap (x.p.length + 1) cp) (hp : wz.ownsRow wx.heap.size 3 1 vp (x.p.length + 1) (((k : Int) :: x.p).map (Value.int .i64))) (hk : I64 (k : Int)) (hxl : x.p.length + 1 ≤ 9223372036854775807)
    (hown : w5.ownsRow (w.heap.size + 1) 45 3 v5 (L.length + 1) (L.flatMap Pk.cells ++ (⟨(k : Int) :: x.p, x.t, Ap, cp, x.A, x.c⟩ : Pk).cells)) (hgr : (wz.alloc o).grownBy w5 v.ownBlock) (hat : v5.ownBlock = v.ownBlock ∨ v5.ownBlock = some (wz.alloc o).heap.size) :
    RPJK w W wr w4 w5 xs f k v4 L4 (m + 1) v5 (L ++ [⟨(k : Int) :: x.p, x.t, Ap, cp, x.A, x.c⟩]) := by
  have hlt := row_lt h.row.row
  have hzs := hb.size
  have h5s := hgr.size
  simp at h5s
  have hbig := h.big
  have hmid := h.mid
  have hfx := h.inn.fx x (List.mem_of_getElem? hx)
  have h4l := row_lt h.inn.row
  have hvv := h.off
  have hK : ∀ g, g < wx.heap.size → v.ownBlock ≠ some g → w5.heap[g]? = wx.heap[g]? := fun g h1 h2 => (hgr.block g (by simp; omega) (fun e => h2 e.symm)).trans ((Below.heap_alloc wz o g (by omega)).trans (hb.block g h1))
  have hin : ∀ g, wr.heap.size ≤ g → g < w4.heap.size → v.ownBlock ≠ some g := fun g h1 h2 e => by have := hvv g e; omega
  refine ⟨?_, ?_, ?_, ?_, ?_, by omega, hmid, h.inn4⟩
  · exact ((h.blw.trans (hb.mono (by omega))).alloc (by omega) _).grown hgr (by simp; omega) fun g e => (hlt g e).1
  · rw [List.map_append, h.key, List.take_add_one, hx, List.map_append, List.append_assoc]; rfl
  · refine h.row.grow hb ⟨?_, hfx.i64, ?_, ?_⟩ hown hgr hat
    · have hl : ((k : Int) :: x.p).length = x.p.length + 1 := rfl
      obtain ⟨A2, c2, e, hI⟩ := row_intsN (N := Apart (w.heap.size + 1) v wz) (l := (k : Int) :: x.p) (by rw [hl]; exact hp) (by rw [hl]; exact hxl) (fun y hy => by
        rcases List.mem_cons.1 hy with rfl | hy
        · exact hk
        · exact hfx.pos.i64 y hy) (fun g e => ⟨by have := (row_lt hp g e).1; omega, (row_lt hp g e).2, fun e2 => by have := (row_lt hp g e).1; have := (hlt g e2).2; omega⟩)
      rw [hvp] at e
      injection e with e1 _ e3
      subst e1; subst e3
      exact hI
    · exact (hfx.args.keep fun g e => hb.block g (by have := e.2.1; omega)).wide fun g e => ⟨by have := e.1; omega, by have := e.2.1; omega, hin g e.1 e.2.1⟩
    · rcases hp.2 with ⟨_, h0⟩ | ⟨g, cap, cur, hv, _, _, hnc, hcm, _⟩
      · simp at h0
      · rw [hvp] at hv
        injection hv with _ _ h3
        subst h3
        exact ⟨by simpa using hnc, hcm⟩
  · exact h.inn.keep (fun g e => hK g (by have := h.inn4 g e; omega) (hin g (h.inn4 g e).1 (h.inn4 g e).2)) (fun g e => hK g (by have := e.2.1; omega) (hin g e.1 e.2.1))
  · intro g e
    rcases hat with h3 | h3
    · rw [h3] at e; exact hvv g e
    · rw [h3] at e; injection e with e; simp at e; right; omega

set_option maxHeartbeats 4000000 in
theorem refPlacesK_any (t : Tm) : RPlacesAtK t := by
  refine Tm.ind (P := RPlacesAtK) (fun f xs ih => ?_) t
  intro hsz A c w hf hA
  simp only [Tm.fn, Tm.args] at hf hA ⊢
  obtain ⟨i0, hi, hz0, hz1, hz2⟩ := info_parts info_place
  obtain ⟨i1, hi1, hy0, hy1, hy2⟩ := info_parts infoInt
  obtain ⟨W, hW⟩ : ∃ W, w.alloc (.cells #[.int .i64 f, .slice A xs.length c] 27) = W := ⟨_, rfl⟩
  have hB : Below w.heap.size w W := by rw [← hW]; exact (Below.refl _ _).alloc (Nat.le_refl _) _
  have q0 : W.heap[w.heap.size]? = some (.cells #[.int .i64 f, .slice A xs.length c] 27) := by rw [← hW]; exact heap_alloc_new _ _
  have hWs : W.heap.size = w.heap.size + 1 := by rw [← hW]; simp
  obtain ⟨a0, a1, _, _⟩ := cells_two q0
  have HW := Lib.hid hW
  have HA := Lib.hid hA
  have hl64 := hA.len
  have H1 := Lib.hid (hA.on hB)
  clear hW hA
  go_enter Try.func23, Try.ntmps23
  go_upto_region 1 with fail
  rw [HW.out]
  go_wp2_with (first
    | (go_at_call 50; refine (refCopyK_at (.node f xs) A c W (by omega) hf H1.out).mono ?_; go_must (rintro e w2 ⟨A4, c4, rfl, hN4, hb4⟩; simp only [Tm.fn, Tm.args] at hN4 ⊢))
    | fail)
  have hs2 := hb4.size
  have hI0 : Hid (RPIK w W (w2.alloc (.cells #[.slice none 0 0, .int .i64 f, .slice A4 xs.length c4] 45)) xs f 0 (.slice (some ⟨w2.heap.size, 0, none⟩) 1 1) [⟨[], .node f xs, none, 0, A4, c4⟩]) := by
    have hBa : Below w2.heap.size w2 (w2.alloc (.cells #[.slice none 0 0, .int .i64 f, .slice A4 xs.length c4] 45)) := (Below.refl _ _).alloc (Nat.le_refl _) _
    refine ⟨?_, by simp [visL, Pk.key], ⟨row_base (own_three w2 _ _ _ _) (by omega), fun x hx => ?_⟩⟩
    · exact ((hb4.mono (by omega)).trans (hBa.mono (by omega)))
    · simp only [List.mem_cons, List.not_mem_nil, or_false] at hx
      subst hx
      exact ⟨IntsN.nil_ _ _ _, hf, (hN4.keep fun g e => hBa.block g e.2).wide fun g e => ⟨by omega, by have := e.2; simp; omega, fun e2 => by injection e2 with e2; have e3 : w2.heap.size = g := e2; have := e.2; omega⟩, by simp⟩
  clear hN4
  go_loopw [3, 4] (fun s3 i wr => ∃ (k : Nat) (v : Value) (L : List Pk), k ≤ xs.length ∧ i = .int .i64 (k : Int) ∧ v = s3 ∧ Hid (RPIK w W wr xs f k v L)) (fun _ i _ => xs.length - (intOf i).toNat)
  case atStart => exact ⟨0, _, _, Nat.zero_le _, rfl, rfl, hI0⟩
  case round =>
    obtain ⟨k, v, L, hk, rfl, rfl, H⟩ := hrel
    obtain ⟨wo, rfl⟩ : ∃ wo, wo = wr := ⟨_, rfl⟩
    have hBr := H.out.blw
    by_cases hlt : k < xs.length
    · obtain ⟨u, hu⟩ : ∃ u, xs[k]? = some u := ⟨_, List.getElem?_eq_getElem hlt⟩
      have hBw : Below w.heap.size w wo := hB.trans (hBr.mono (by omega))
      have hrs : W.heap.size ≤ wo.heap.size := hBr.size
      obtain ⟨a0, a1, _, _⟩ := cells_two ((hBr.block w.heap.size (by omega)).trans q0)
      obtain ⟨bb, off, A1, c1, rfl, ha⟩ := HA.out.get hu
      have e0 := cell_on hBw ha.hb ha.c0
      have e1 := cell_on hBw ha.hb ha.c1
      have hs1 : Hid (Args wo wo.heap.size A1 u.args) := ha.sub.on hBw
      have hi64 := ha.hi
      have hmem := List.mem_of_getElem? hu
      have husz : u.size ≤ 1099511627776 := by have := size_mem hmem; simp only [Tm.size] at hsz; omega
      have hk64 : I64 (k : Int) := ⟨by omega, by omega⟩
      have Hu := Lib.hid hu
      clear hu ha
      go_wp2_with (first
        | (go_at_call 23
           go_must (
           refine (ih u hmem husz A1 c1 wo hi64 hs1.out).mono ?_
           rintro e w4 ⟨v4, L4, rfl, hL4, hR4, hb4⟩
           have hl4 : L4.length = u.size := by have := congrArg List.length hL4; rwa [vis_len, List.length_map] at this
           have hrow4 := hR4.row
           obtain ⟨g4, c4, hv4⟩ := row_some hrow4 (by have := size_pos u; omega)
           subst hv4
           have HR4 := Lib.hid hR4
           clear hR4 hrow4))
        | fail)
      have hJ0 : Hid (RPJK w W wo w4 w4 xs f k (.slice (some ⟨g4, 0, none⟩) L4.length c4) L4 0 v L) := by
        have hlt4 := row_lt HR4.out.row
        have hlv := row_lt H.out.row.row
        exact ⟨hBr.trans (hb4.mono (by omega)), by rw [H.out.key]; simp, (H.out.row.keep (fun g e => hb4.block g (hlv g e).2) (fun g e => hb4.block g e.2.1)).wide fun g e => ⟨e.1, by have := e.2.1; have := hb4.size; omega, e.2.2⟩, HR4.out, fun g e => .inl (hlv g e).2, Nat.le_refl _, hb4.size, hlt4⟩
      clear a0 a1 e0 e1
      go_loopw [3, 6] (fun s3 i' wx => ∃ (m : Nat) (v' : Value) (L' : List Pk), m ≤ L4.length ∧ i' = .int .i64 (m : Int) ∧ v' = s3 ∧ Hid (RPJK w W wo w4 wx xs f k (.slice (some ⟨g4, 0, none⟩) L4.length c4) L4 m v' L')) (fun _ i' _ => L4.length - (intOf i').toNat)
      case atStart => exact ⟨0, _, _, Nat.zero_le _, rfl, rfl, hJ0⟩
      case round =>
        obtain ⟨m, v', L', hm, rfl, rfl, HJ⟩ := hrel
        obtain ⟨wx, rfl⟩ : ∃ wx, wx = wr := ⟨_, rfl⟩
        have hL64 : L4.length ≤ 9223372036854775807 := by omega
        by_cases hml : m < L4.length
        · obtain ⟨x, hx⟩ : ∃ x, L4[m]? = some x := ⟨_, List.getElem?_eq_getElem hml⟩
          obtain ⟨g4', c4', e4, hog, hg4, y0, y1, y2, hfx⟩ := HJ.out.inn.get hx
          injection e4 with e4 _ e5
          injection e4 with e4
          injection e4 with e4 _ _
          subst e4
          subst e5
          have hxd := pk_depth hL4 (List.mem_of_getElem? hx)
          have hud := depth_le_size u
          have hroom := HJ.out.room Hu.out hL4 hml
          have hpx := hfx.pos
          have hxl : x.p.length ≤ 1099511627776 := by omega
          have hinB : ∀ g, Apart wo.heap.size (.slice (some ⟨g4, 0, none⟩) L4.length c4) w4 g → g < wx.heap.size := fun g e => Nat.lt_of_lt_of_le e.2.1 HJ.out.big
          have Hx := Lib.hid hx
          have Hpx := Lib.hid hpx
          have Hown0 := Lib.hid (own_one wx (.int .i64 (k : Int)) 3)
          have hBa : Below wx.heap.size wx (wx.alloc (.cells #[.int .i64 (k : Int)] 3)) := (Below.refl _ _).alloc (Nat.le_refl _) _
          clear hx hpx hfx hog
          go_wp2
          go_loopw [7, 8] (fun s7 j' wz => ∃ (j : Nat) (vp : Value), j ≤ x.p.length ∧ j' = .int .i64 (j : Int) ∧ vp = s7 ∧ Below wx.heap.size wx wz ∧ Hid (wz.ownsRow wx.heap.size 3 1 vp (j + 1) (((k : Int) :: x.p.take j).map (Value.int .i64)))) (fun _ j' _ => x.p.length - (intOf j').toNat)
          case atStart => exact ⟨0, _, Nat.zero_le _, rfl, rfl, hBa, by simpa using Hown0⟩
          case round =>
            obtain ⟨j, vp, hj, rfl, rfl, hBz, HP⟩ := hrel
            obtain ⟨wz, rfl⟩ : ∃ wz, wz = wr := ⟨_, rfl⟩
            have z0 := cell_on hBz hg4 y0
            have hp64 : x.p.length ≤ 9223372036854775807 := by omega
            by_cases hjl : j < x.p.length
            · obtain ⟨y, hy⟩ : ∃ y, x.p[j]? = some y := ⟨_, List.getElem?_eq_getElem hjl⟩
              obtain ⟨pb, po, epb, hpb, hpc⟩ := Hpx.out.ad (by omega)
              have z1 := cell_on hBz (hinB _ hpb) (hpc _ _ hy)
              rw [epb] at z0
              have htk : x.p.take (j + 1) = x.p.take j ++ [y] := by rw [List.take_add_one, hy]; rfl
              have Hy := Lib.hid htk
              have hbzs := hBz.size
              have hrl := row_lt HP.out
              clear hy hpc htk
              go_wp2_with (first
                | (at_builtin
                   go_must (
                   refine wpList_append_own _ rfl _ _ 43 rfl wx.heap.size 3 i1 (.int .i64 0) 1 8 Try.underlying43 hi1 hy0 hy1 hy2 rfl (by decide) _ (j + 1) _ rfl ((row_keep HP.out fun g e => Below.heap_alloc wz _ g (hrl g e).2)) ⟨wz.heap.size, 0, none⟩ 1 1 [.int .i64 y] rfl rfl (cell_one_new _ _ _) (by simp [Value.oneCell']) (by unfold maxLen; omega) (by omega) (by simp; omega) ?_
                   intro v2 w2' hown2 hgr2 _
                   have hB2 : Below wx.heap.size wx w2' := (hBz.alloc hbzs _).grown hgr2 (by simp; omega) fun g hg => (hrl g hg).1
                   have Hown2 := Lib.hid hown2
                   clear hgr2 hown2))
                | fail)
              go_roundw
              case rel => exact ⟨j + 1, _, by omega, by go_num, rfl, hB2, by rw [Hy.out]; simpa using Hown2⟩
              case measure => simp [intOf]; omega
            · obtain rfl : j = x.p.length := by omega
              obtain ⟨gp, cpp, evp⟩ := ownsRow_succ HP.out
              subst evp
              have HQ := Lib.hid (show wz.ownsRow wx.heap.size 3 1 (.slice (some ⟨gp, 0, none⟩) (x.p.length + 1) cpp) (x.p.length + 1) (((k : Int) :: x.p).map (Value.int .i64)) by simpa using HP.out)
              have w1' := cell_on hBz hg4 y1
              have w2' := cell_on hBz hg4 y2
              have hbzs := hBz.size
              have hrow := Lib.hid HJ.out.row.row
              have hrl := row_lt hrow.out
              have hwxs : w.heap.size + 1 ≤ wx.heap.size := by have := HJ.out.mid; have := HJ.out.big; omega
              go_wp2_with (first
                | (at_builtin
                   go_must (
                   refine wpList_append_own_at _ rfl _ _ 41 rfl (w.heap.size + 1) 45 i0 (.agg #[.slice none 0 0, .int .i64 0, .slice none 0 0]) 3 56 Try.underlying41 hi hz0 hz1 hz2 rfl (by decide) v' L'.length _ rfl (row_keep hrow.out fun g e => (Below.heap_alloc wz _ g (Nat.lt_of_lt_of_le (hrl g e).2 hbzs)).trans (hBz.block g (hrl g e).2)) ⟨wz.heap.size, 0, none⟩ 1 1 [.slice (some ⟨gp, 0, none⟩) (x.p.length + 1) cpp, .int .i64 x.t.fn, .slice x.A x.t.args.length x.c] rfl rfl (cells_new_three _ _ _ _ _) (by simp [Value.oneCell']) (by unfold maxLen; omega) (by omega) (by simp; omega) ?_
                   intro v5 w5 hown5 hgr5 _ hat5
                   have Hn5 := Lib.hid (HJ.out.next (x := x) (Ap := some ⟨gp, 0, none⟩) (cp := cpp) hWs hrs Hx.out hBz rfl HQ.out hk64 (by omega) hown5 hgr5 hat5)
                   clear hown5 hgr5 hat5))
                | fail)
              go_roundw
              case rel => exact ⟨m + 1, _, _, by omega, by go_num, rfl, Hn5⟩
              case measure => simp [intOf]; omega
        · obtain rfl : m = L4.length := by omega
          have hkey2 := HJ.out.key
          rw [List.take_length] at hkey2
          have Hnext : Hid (RPIK w W wx xs f (k + 1) v' L') := ⟨HJ.out.blw, by
            rw [hkey2, visL_take Hu.out]
            have e : (L4.map fun x => ((k : Int) :: x.p, x.t)) = vis ([] ++ [(k : Int)]) u := by
              rw [List.nil_append, vis_one, ← hL4, List.map_map]; rfl
            rw [e]; simp, HJ.out.row⟩
          clear hkey2
          go_wp2
          go_roundw
          case rel => exact ⟨k + 1, _, _, by omega, by go_num, rfl, Hnext⟩
          case measure => simp [intOf]; omega
    · obtain rfl : k = xs.length := by omega
      obtain ⟨a0, a1, _, _⟩ := cells_two ((hBr.block w.heap.size (by omega)).trans q0)
      have hrow := H.out.row
      have hkey := H.out.key
      rw [List.take_length] at hkey
      have hBw : Below w.heap.size w wo := hB.trans (hBr.mono (by omega))
      go_wp2
      go_ret
      exact ⟨_, L, rfl, by rw [hkey, vis_eq]; rfl, ⟨row_base hrow.row (by omega), fun x hx => (hrow.fx x hx).wide fun g e => ⟨by have := e.1; omega, e.2.1, e.2.2⟩⟩, hBw⟩

end Go.Proofs.Ytnmpeodngipfcaa

/- LpoSubterms, the law. -/

namespace Go.Proofs.Ytnmpeodngipfcaa

open Go.RowKit Go.Shelf Go.Maps
set_option maxRecDepth 100000

set_option maxHeartbeats 4000000 in
theorem lpoSubterms_of (sy : List Sm) (o : Odr) (t : Tm) (As P Q A : Option Addr) (n cs pc qc c : Nat) (w : World) (hS : Syms w w.heap.size As n sy) (hn : n * 32 ≤ 140737488351232) (hM : OdrM w w.heap.size o P Q) (hrk : o.prec.length ≤ 140737488351232) (ht : TmK w t A c) (hzt : t.size ≤ 1048576) :
    Calls Try.prog 10 #[.agg #[.slice As n cs], .agg #[.bool o.lpo, .slice P o.prec.length pc, .slice Q o.wts.length qc, .int .i64 o.var], .agg #[.int .i64 t.fn, .slice A t.args.length c]] w fun e w' => e = .returned (.bool true) ∧ Below w.heap.size w w' := by
  obtain ⟨W, hW⟩ : ∃ W, (((w.alloc (.cells #[.slice As n cs] 36)).alloc (.cells #[.bool o.lpo, .slice P o.prec.length pc, .slice Q o.wts.length qc, .int .i64 o.var] 24)).alloc (.cells #[.int .i64 t.fn, .slice A t.args.length c] 27)) = W := ⟨_, rfl⟩
  obtain ⟨hB, hX⟩ := box3_of hW
  have HW := Lib.hid hW
  have HX := Lib.hid hX
  have htW := ht.on hB
  have hMW := hM.on hB
  have hSW := hS.on hB
  have hb5 : Below W.heap.size W (W.alloc (.cells #[.int .i64 t.fn, .slice A t.args.length c] 27)) := (Below.refl _ _).alloc (Nat.le_refl _) _
  have HB5 := Lib.hid hb5
  have HG : Hid (Calls Try.prog 27 #[.slice (some ⟨W.heap.size, 0, none⟩) 1 1] (W.alloc (.cells #[.int .i64 t.fn, .slice A t.args.length c] 27)) fun e w' => e = .returned (.bool (decide (2000 < sizes [t]))) ∧ Below (W.alloc (.cells #[.int .i64 t.fn, .slice A t.args.length c] 27)).heap.size (W.alloc (.cells #[.int .i64 t.fn, .slice A t.args.length c] 27)) w') := Lib.hid (lpoGreat_any [t] (fun x hx => by simp at hx; subst hx; omega) (some ⟨W.heap.size, 0, none⟩) 1 (W.alloc (.cells #[.int .i64 t.fn, .slice A t.args.length c] 27)) (row_one htW (Below.refl _ _)))
  have HF : Hid (∀ w1, Below W.heap.size W w1 → Calls Try.prog 32 #[.agg #[.slice As n cs], .agg #[.bool o.lpo, .slice P o.prec.length pc, .slice Q o.wts.length qc, .int .i64 o.var], .slice (some ⟨w1.heap.size, 0, none⟩) 1 1] (w1.alloc (.cells #[.int .i64 t.fn, .slice A t.args.length c] 27)) fun e w' => e = .returned (.bool (fitsQ sy o [t])) ∧ Below w1.heap.size w1 w') := Lib.hid fun w1 hb => by
    have hb1 : Below w1.heap.size w1 (w1.alloc (.cells #[.int .i64 t.fn, .slice A t.args.length c] 27)) := (Below.refl _ _).alloc (Nat.le_refl _) _
    exact (lpoFits_any sy o [t] As P Q (some ⟨w1.heap.size, 0, none⟩) n cs pc qc 1 _ ((hSW.on hb).on hb1) hn ((hMW.on hb).on hb1) (fun x hx => by simp at hx; subst hx; omega) (row_one htW hb)).mono fun e w' ⟨he, hw⟩ => ⟨he, hb1.trans (hw.mono hb1.size)⟩
  have HPl : Hid (∀ w1, Below W.heap.size W w1 → Calls Try.prog 23 #[.agg #[.int .i64 t.fn, .slice A t.args.length c]] w1 (RPlacesPostK t w1)) := Lib.hid fun w1 hb => refPlacesK_any t (by omega) A c w1 (htW.on hb).i64 (htW.on hb).args.toA
  have Hwk := Lib.hid lpoWakes_any
  have HBB : Hid (∀ w1, Below W.heap.size W w1 → Below w.heap.size w w1) := Lib.hid fun w1 h => hB.trans (h.mono hB.size)
  obtain ⟨⟨x0, x1, x2, x3, x4⟩, x5, x6⟩ := hX W (Below.refl _ _)
  have HtW := Lib.hid htW
  have HMW := Lib.hid hMW
  clear hW hX hS hM ht htW hMW hSW hb5 hB
  cases hgr : decide (2000 < sizes [t]) with
  | true =>
    rw [hgr] at HG
    clear hgr
    go_enter Try.func10, Try.ntmps10
    go_upto_region 1 with fail
    rw [HW.out]
    go_wp2_with (first
      | (go_at_call 27; go_must ((with_reducible refine HG.out.mono ?_); rintro e w1 ⟨rfl, hb1⟩; have hbw1 := HB5.out.trans (hb1.mono HB5.out.size); obtain ⟨⟨y0, y1, y2, y3, y4⟩, y5, y6⟩ := HX.out w1 hbw1))
      | (go_at_call 28; go_must ((with_reducible refine (Hwk.out _).mono ?_); rintro e w9 ⟨rfl, hb9⟩))
      | fail)
    go_ret
    exact ⟨rfl, HBB.out _ (hbw1.trans (hb9.mono hbw1.size))⟩
  | false =>
    rw [hgr] at HG
    clear hgr
    cases hft : fitsQ sy o [t] with
    | false =>
      rw [hft] at HF
      clear hft
      go_enter Try.func10, Try.ntmps10
      go_upto_region 1 with fail
      rw [HW.out]
      go_wp2_with (first
        | (go_at_call 27; go_must ((with_reducible refine HG.out.mono ?_); rintro e w1 ⟨rfl, hb1⟩; have hbw1 := HB5.out.trans (hb1.mono HB5.out.size); obtain ⟨⟨y0, y1, y2, y3, y4⟩, y5, y6⟩ := HX.out w1 hbw1))
        | (go_at_call 32; go_must ((with_reducible refine (HF.out w1 hbw1).mono ?_); rintro e w2 ⟨rfl, hb2⟩; have hbw2 := hbw1.trans (hb2.mono hbw1.size); obtain ⟨⟨z0, z1, z2, z3, z4⟩, z5, z6⟩ := HX.out w2 hbw2))
        | (go_at_call 28; go_must ((with_reducible refine (Hwk.out _).mono ?_); rintro e w9 ⟨rfl, hb9⟩))
        | fail)
      go_ret
      exact ⟨rfl, HBB.out _ (hbw2.trans (hb9.mono hbw2.size))⟩
    | true =>
      rw [hft] at HF
      have hgd := fitsQ_gd hft
      have hK : AdmL o.prec (arL sy) := by
        unfold fitsQ at hft
        simp only [Bool.and_eq_true, decide_eq_true_eq] at hft
        exact chkO_admL hft.2.1
      have gt := hgd t (by simp)
      have HK := Lib.hid (And.intro hK gt)
      clear hft hgd hK gt
      go_enter Try.func10, Try.ntmps10
      go_upto_region 1 with fail
      rw [HW.out]
      go_wp2_with (first
        | (go_at_call 27; go_must ((with_reducible refine HG.out.mono ?_); rintro e w1 ⟨rfl, hb1⟩; have hbw1 := HB5.out.trans (hb1.mono HB5.out.size); obtain ⟨⟨y0, y1, y2, y3, y4⟩, y5, y6⟩ := HX.out w1 hbw1))
        | (go_at_call 32; go_must ((with_reducible refine (HF.out w1 hbw1).mono ?_); rintro e w2 ⟨rfl, hb2⟩; have hbw2 := hbw1.trans (hb2.mono hbw1.size); obtain ⟨⟨z0, z1, z2, z3, z4⟩, z5, z6⟩ := HX.out w2 hbw2))
        | (go_at_call 23; go_must ((with_reducible refine (HPl.out w2 hbw2).mono ?_); rintro e w3 ⟨v, L, rfl, hL, hRow, hb3⟩; have hbw3 := hbw2.trans (hb3.mono hbw2.size); obtain ⟨Av, cv, hv⟩ := row_slice hRow.row; subst hv))
        | fail)
      have hL0 : L.length = t.size := by
        have := congrArg List.length hL
        rwa [vis_len, List.length_map] at this
      have hts := size_pos t
      have HL := Lib.hid hL
      have HRow := Lib.hid hRow
      have hL64 : L.length ≤ 9223372036854775807 := by omega
      have hL1 : 1 ≤ L.length := by omega
      clear hL hRow hb3 hL0 hts x0 x1 x2 x3 x4 x5 x6 y0 y1 y2 y3 y4 y5 y6 z0 z1 z2 z3 z4 z5 z6
      go_loopw [8] (fun i wr => ∃ k : Nat, 1 ≤ k ∧ k ≤ L.length ∧ i = .int .i64 (k : Int) ∧ Below w3.heap.size w3 wr) (fun i _ => L.length - (intOf i).toNat)
      case atStart => exact ⟨1, Nat.le_refl _, hL1, rfl, Below.refl _ _⟩
      case round =>
        obtain ⟨k, hk1, hk, rfl, hB3⟩ := hrel
        have hBr := hbw3.trans (hB3.mono hbw3.size)
        by_cases hkl : k < L.length
        · obtain ⟨x, hx⟩ : ∃ x, L[k]? = some x := ⟨_, List.getElem?_eq_getElem hkl⟩
          have hRr := HRow.out.keep (w' := wr) (fun g e => hB3.block g (row_lt HRow.out.row g e).2) (fun g e => hB3.block g e.2.1)
          obtain ⟨g, c', hv, hog, hgl, c0, c1, c2, hfx⟩ := hRr.get hx
          injection hv with hA _ hc
          subst hA hc
          have hmem : (x.p, x.t) ∈ visL [] 0 t.args := by
            have h1 := congrArg (fun l => l[k]?) HL.out
            simp only [List.getElem?_map, hx, vis_eq, Option.map_some] at h1
            obtain ⟨k', rfl⟩ : ∃ k', k = k' + 1 := ⟨k - 1, by omega⟩
            rw [List.getElem?_cons_succ] at h1
            exact List.mem_of_getElem? h1.symm
          obtain ⟨hK, gt⟩ := HK.out
          have hab := lp_vis (pr := o.prec) t [] x.p x.t gt hmem
          have hmv : (x.p, x.t) ∈ vis [] t := by rw [vis_eq]; exact List.mem_cons_of_mem _ hmem
          have hxz := vis_size t [] x.p x.t hmv
          have hxk : TmK wr x.t x.A x.c := ⟨hfx.i64, hfx.args.wide fun g e => Nat.lt_of_lt_of_le e.2.1 hB3.size⟩
          have hgx := vis_gd t [] x.p x.t gt hmv
          have H1 : Hid (∀ y : Later wr.heap.size wr, Calls Try.prog 31 #[.agg #[.bool o.lpo, .slice P o.prec.length pc, .slice Q o.wts.length qc, .int .i64 o.var], .agg #[.int .i64 t.fn, .slice A t.args.length c], .agg #[.int .i64 x.t.fn, .slice x.A x.t.args.length x.c]] y.w fun e w' => e = .returned (.bool true) ∧ Below y.w.heap.size y.w w') := Lib.hid fun y => by
            have := lpoAbove_at (pc := pc) (qc := qc) hrk (HMW.out.on hBr) (HtW.out.on hBr) hxk (by omega) y.w y.h
            rwa [(cmpP_three hK gt hgx).2 hab] at this
          have hy : ∀ y : Later wr.heap.size wr, Below W.heap.size W y.w := fun y => hBr.trans (y.h.mono hBr.size)
          have m1 : ∀ y : Later wr.heap.size wr, y.w.cell? ⟨w.heap.size + 1, 0, none⟩ = some (.bool o.lpo) := fun y => (HX.out y.w (hy y)).so.o0
          have m2 : ∀ y : Later wr.heap.size wr, y.w.cell? ⟨w.heap.size + 1, 1, none⟩ = some (.slice P o.prec.length pc) := fun y => (HX.out y.w (hy y)).so.o1
          have m3 : ∀ y : Later wr.heap.size wr, y.w.cell? ⟨w.heap.size + 1, 2, none⟩ = some (.slice Q o.wts.length qc) := fun y => (HX.out y.w (hy y)).so.o2
          have m4 : ∀ y : Later wr.heap.size wr, y.w.cell? ⟨w.heap.size + 1, 3, none⟩ = some (.int .i64 o.var) := fun y => (HX.out y.w (hy y)).so.o3
          have m5 : ∀ y : Later wr.heap.size wr, y.w.cell? ⟨w.heap.size + 1 + 1, 0, none⟩ = some (.int .i64 t.fn) := fun y => (HX.out y.w (hy y)).t0
          have m6 : ∀ y : Later wr.heap.size wr, y.w.cell? ⟨w.heap.size + 1 + 1, 1, none⟩ = some (.slice A t.args.length c) := fun y => (HX.out y.w (hy y)).t1
          have m7 : ∀ y : Later wr.heap.size wr, y.w.cell? ⟨g, k * 3 + 1, none⟩ = some (.int .i64 x.t.fn) := fun y => cell_on y.h hgl c1
          have m8 : ∀ y : Later wr.heap.size wr, y.w.cell? ⟨g, k * 3 + 1 + 1, none⟩ = some (.slice x.A x.t.args.length x.c) := fun y => cell_on y.h hgl c2
          clear hy hx hRr hog c0 c1 c2 hfx hmem hab hmv hxz hxk hgx hK gt
          go_upto_region 7 with fail
          refine wp_region_later wr.heap.size wr (by kernel_rfl) (by kernel_rfl) (bl_drewN (Below.refl _ _) 1) ?_
          repeat (go_big_quiet_step (first | (go_at_call 31; with_reducible refine calls_later _ (Nat.le_refl _) (H1.out _)) | fail))
          refine wpQuiet_nil ?_
          rintro _ ⟨z, rfl⟩
          clear m1 m2 m3 m4 m5 m6 m7 m8
          go_wp2
          go_roundw
          case rel => exact ⟨k + 1, by omega, by omega, by go_num, hB3.trans (z.h.mono hB3.size)⟩
          case measure => simp [intOf]; omega
        · obtain rfl : k = L.length := by omega
          go_wp2_with (first
            | (go_at_call 28; go_must ((with_reducible refine (Hwk.out _).mono ?_); rintro e w9 ⟨rfl, hb9⟩))
            | fail)
          go_ret
          exact ⟨rfl, HBB.out _ (hBr.trans (hb9.mono hBr.size))⟩

end Go.Proofs.Ytnmpeodngipfcaa

