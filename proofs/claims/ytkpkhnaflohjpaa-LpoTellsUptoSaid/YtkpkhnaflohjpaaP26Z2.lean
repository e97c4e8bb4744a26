import Derived.Test.YtkpkhnaflohjpaaP26Z1
import Derived.Deep.RegionHeld3
import Derived.BigQuiet
/- clone, Move. -/

namespace Go.Proofs.Ytkpkhnaflohjpaa

open Go.RowKit Go.Shelf
set_option maxRecDepth 100000

mutual
theorem renT_id {σ : Type} (s : σ) : ∀ t : Tm, renT (fun (s : σ) v => (s, v)) s t = (s, t)
  | .node f xs => by
    have hF : renF (fun (s : σ) v => (s, v)) s f = (s, f) := by
      unfold renF
      split
      · simp only; rw [show -1 - (-1 - f) = f by omega]
      · rfl
    simp only [renT, hF, renL_id s xs]
theorem renL_id {σ : Type} (s : σ) : ∀ xs : List Tm, renL (fun (s : σ) v => (s, v)) s xs = (s, xs)
  | [] => by simp only [renL]
  | t :: ts => by simp only [renL, renT_id s t, renL_id s ts]
end

/-- A copy of t, in new memory. -/
def CopyPost (t : Tm) (w : World) (e : Ending) (w' : World) : Prop := ∃ A' c', e = .returned (.agg #[.int .i64 t.fn, .slice A' t.args.length c']) ∧ OwnT w' w.heap.size w'.heap.size A' t.args ∧ Below w.heap.size w w'

/-- A variable's number moved, where it may be. -/
def movI (b v : Int) : Int := if (0 < b ∧ v ≤ 2147483647 - b) ∨ (b ≤ 0 ∧ 0 ≤ v + b ∧ v + b ≤ 2147483647) then v + b else v

theorem movI_i64 {b v : Int} (hb : I64 b) (h0 : 0 ≤ v) (h1 : v ≤ 9223372036854775807) : I64 (movI b v) := by
  have hlo := hb.1
  have hhi := hb.2
  unfold movI
  split
  · exact ⟨by omega, by omega⟩
  · exact ⟨by omega, h1⟩

/-- The term with its variables moved. -/
def movT (b : Int) (t : Tm) : Tm := (renT (fun (s : Unit) v => (s, movI b v)) () t).2

def TermPost (t : Tm) (w : World) (e : Ending) (w' : World) : Prop := ∃ A' c', e = .returned (.agg #[.int .i64 t.fn, .slice A' t.args.length c']) ∧ I64 t.fn ∧ OwnT w' w.heap.size w'.heap.size A' t.args ∧ Below w.heap.size w w'

end Go.Proofs.Ytkpkhnaflohjpaa

/- A row of numbers, read; a call's contract in a round of a range. -/

namespace Go.Proofs.Ytkpkhnaflohjpaa

open Go.RowKit Go.Shelf
set_option maxRecDepth 100000

/-- A slice that holds the numbers. -/
def IntsV (w : World) (v : Value) (l : List Int) : Prop := ∃ A c, v = .slice A l.length c ∧ Ints w w.heap.size A l

/-- A row of the call's own, read. -/
theorem row_ints {w : World} {base : Nat} {v : Value} {l : List Int} (h : w.ownsRow base 3 1 v l.length (l.map (Value.int .i64))) (hl : l.length ≤ 9223372036854775807) (hi : ∀ x ∈ l, I64 x) : IntsV w v l := by
  rcases h.2 with ⟨rfl, h0⟩ | ⟨g, cap, cur, rfl, hb, hg, _⟩
  · exact ⟨none, 0, by rw [h0], hl, hi, fun hn => by omega⟩
  · refine ⟨_, _, rfl, hl, hi, fun hn => ⟨g, 0, rfl, (Array.getElem?_eq_some_iff.1 hg).1, fun i x hx => ?_⟩⟩
    have hlt := (List.getElem?_eq_some_iff.1 hx).1
    rw [Nat.zero_add, h.cellAt i (by simpa using hlt)]
    simp [hx]

/-- A call's contract, in a round of a range. -/
theorem calls_round {P : Program} {f : FuncId} {args : Array Value} {w : World} {R : Ending → World → Prop} (l m : Nat) (h : Calls P f args w R) : CallsIn (Fence.wide.inRound l) m P f args w R := (callsIn_wide (n := m)).2 h

end Go.Proofs.Ytkpkhnaflohjpaa

/- Rows of terms that grow, in plain words. -/

namespace Go.Proofs.Ytkpkhnaflohjpaa

open Go.RowKit Go.Shelf
set_option maxRecDepth 100000

/-- A term as a member of a row: where its own arguments lie. -/
structure Ti where
  t : Tm
  A : Option Addr
  c : Nat

def Ti.cells (x : Ti) : List Value := [.int .i64 x.t.fn, .slice x.A x.t.args.length x.c]

theorem ti_get (l : List Ti) (i r : Nat) (hr : r < 2) : (l.flatMap Ti.cells)[i * 2 + r]? = (l[i]?).bind fun x => x.cells[r]? := by
  induction l generalizing i with
  | nil => simp
  | cons x l ih =>
    have hlen : x.cells.length = 2 := rfl
    rw [List.flatMap_cons]
    cases i with
    | zero => rw [List.getElem?_append_left (by omega)]; simp
    | succ i =>
      rw [List.getElem?_append_right (by omega), hlen, show (i + 1) * 2 + r - 2 = i * 2 + r from by omega, ih]
      simp

theorem ti_len (l : List Ti) : (l.flatMap Ti.cells).length = l.length * 2 := by
  induction l with
  | nil => rfl
  | cons x l ih =>
    have hlen : x.cells.length = 2 := rfl
    rw [List.flatMap_cons, List.length_append, ih, hlen, List.length_cons]
    omega

theorem ti_one (l : List Ti) : ∀ u ∈ l.flatMap Ti.cells, u.oneCell' = true := by
  intro u hu
  obtain ⟨x, _, hx⟩ := List.mem_flatMap.1 hu
  simp only [Ti.cells, List.mem_cons, List.not_mem_nil, or_false] at hx
  rcases hx with rfl | rfl <;> rfl

/-- The slice v is the call's own; it holds the terms l, whose arguments lie in N's blocks. -/
structure RowT (w : World) (base : Nat) (v : Value) (l : List Ti) (N : Nat → Prop) : Prop where
  row : w.ownsRow base 27 2 v l.length (l.flatMap Ti.cells)
  i64 : ∀ x ∈ l, I64 x.t.fn
  sub : ∀ x ∈ l, ArgsN w N x.A x.t.args

section

variable {w w' : World} {base base' : Nat} {v : Value} {l : List Ti} {N M : Nat → Prop}

theorem RowT.nil_ (w : World) (base : Nat) (N : Nat → Prop) : RowT w base (.slice none 0 0) [] N :=
  ⟨World.ownsRow_nil w _ _ _, fun x hx => by simp at hx, fun x hx => by simp at hx⟩

theorem RowT.keep (h : RowT w base v l N) (hv : ∀ g, v.ownBlock = some g → w'.heap[g]? = w.heap[g]?) (hN : ∀ g, N g → w'.heap[g]? = w.heap[g]?) : RowT w' base v l N :=
  ⟨row_keep h.row hv, h.i64, fun x hx => (h.sub x hx).keep hN⟩

theorem RowT.wide (h : RowT w base v l N) (hk : ∀ g, N g → M g) : RowT w base v l M := ⟨h.row, h.i64, fun x hx => (h.sub x hx).wide hk⟩

theorem RowT.shape (h : RowT w base v l N) : ∃ A c, v = .slice A l.length c := by
  rcases h.row.2 with ⟨hv, h0⟩ | ⟨g, cap, cur, hv, _⟩
  · exact ⟨none, 0, by rw [hv, h0]⟩
  · exact ⟨_, cap, hv⟩

/-- The row, read. -/
theorem RowT.argsN (h : RowT w base v l N) (hl : l.length ≤ 9223372036854775807) (hv : ∀ g, v.ownBlock = some g → M g) (hN : ∀ g, N g → M g) : ∃ A c, v = .slice A l.length c ∧ ArgsN w M A (l.map Ti.t) := by
  rcases h.row.2 with ⟨rfl, h0⟩ | ⟨g, cap, cur, rfl, hb, hg, _⟩
  · obtain rfl : l = [] := List.eq_nil_of_length_eq_zero h0
    exact ⟨none, 0, rfl, .nil _⟩
  · refine ⟨_, _, rfl, .row g 0 _ (fun i => ((l[i]?).map Ti.A).getD none) (fun i => ((l[i]?).map Ti.c).getD 0) (hv g rfl) (by simpa using hl) (fun i t e => ?_) (fun i t e => ?_) (fun i t e => ?_) fun i t e => ?_⟩
    all_goals
      rw [List.getElem?_map] at e
      cases hx : l[i]? with
      | none => rw [hx] at e; cases e
      | some x =>
        rw [hx] at e
        injection e with e
        subst e
        have hlt := (List.getElem?_eq_some_iff.1 hx).1
        have hm := List.mem_of_getElem? hx
        have q0 := ti_get l i 0 (by omega)
        have q1 := ti_get l i 1 (by omega)
        have c0 := h.row.cellAt (i * 2) (by omega)
        have c1 := h.row.cellAt (i * 2 + 1) (by omega)
        rw [Nat.add_zero, hx] at q0
        rw [hx] at q1
        rw [q0] at c0
        rw [q1] at c1
        try simp only [Option.map_some, Option.getD_some]
        try rw [Nat.zero_add]
        first | exact h.i64 x hm | exact c0 | exact c1 | exact (h.sub x hm).wide hN

/-- One more. -/
theorem RowT.push {x : Ti} {v' : Value} (h : RowT w base v l N) (hrow : w'.ownsRow base 27 2 v' (l.length + 1) (l.flatMap Ti.cells ++ x.cells)) (hi : I64 x.t.fn) (hx : ArgsN w' M x.A x.t.args) (hk : ∀ g, N g → w'.heap[g]? = w.heap[g]?) (hNM : ∀ g, N g → M g) : RowT w' base v' (l ++ [x]) M := by
  refine ⟨?_, ?_, ?_⟩
  · rw [List.length_append, List.flatMap_append]
    simpa using hrow
  · intro y hy
    rcases List.mem_append.1 hy with hy | hy
    · exact h.i64 y hy
    · simp only [List.mem_cons, List.not_mem_nil, or_false] at hy
      subst hy; exact hi
  · intro y hy
    rcases List.mem_append.1 hy with hy | hy
    · exact ((h.sub y hy).keep hk).wide hNM
    · simp only [List.mem_cons, List.not_mem_nil, or_false] at hy
      subst hy; exact hx

end

/-- 'append' as one step of a region that draws its order; and the row lies where it lay, or in a new block. -/
theorem step_append_at {P : Program} {w : World} {ops : Array Oper} {o : Oper} {a : Act} {K : Act → World → Prop} {Q : Exit → Act → World → Prop} {E : Prop}
    (hg : o.guard = none) (s x : Operand) (t : TypeId) (hop : o.op = Op.call { callee := Callee.builtin Builtin.append, args := #[s, x], argTypes := #[t, t] })
    (base : Nat) (e : TypeId) (i : TypeInfo) (z : Value) (size bytes : Nat) (h1 : P.underlying t = some (.slice e)) (h2 : P.info? e = some i) (h3 : i.zero = some z) (h4 : i.size = size) (h5 : i.bytes = bytes) (h6 : z.cells.size = size) (h7 : 0 < size)
    (v : Value) (k : Nat) (xs : List Value) (hs : a.eval s = v) (hown : w.ownsRow base e size v k xs) (ad : Addr) (m c : Nat) (news : List Value) (hx : a.eval x = .slice (some ad) m c) (hn : news.length = m * size)
    (hc : ∀ j u, news[j]? = some u → w.cell? (ad.add j) = some u) (h1c : ∀ u ∈ news, u.oneCell' = true) (b1 : k + m ≤ maxLen) (b2 : (k + m) * bytes ≤ 140737488355328) (b3 : base ≤ w.heap.size)
    (hK : ∀ v' w', w'.ownsRow base e size v' (k + m) (xs ++ news) → w.grownBy w' v.ownBlock → (v'.ownBlock = v.ownBlock ∨ v'.ownBlock = some w.heap.size) → K (a.put o.dst v') w') :
    if Region.wanted o (yielded ops a.tmps) = true then Oper.wp P o a w K Q else E := by
  obtain ⟨v', w', hrun, r1, r2, _, r4⟩ := run_append_own_at (P := P) w base t o.type e i z size bytes h1 h2 h3 h4 h5 h6 h7 v k xs hown ad m c news hn hc h1c b1 b2 b3
  rw [if_pos (by simp [Region.wanted, hg])]
  unfold Oper.wp
  simp [execOp, hop, resolve, invoke, builtin, hs, hx, hrun, Result.andThen]
  exact hK _ _ r1 r2 r4

/-- The two cells of a block that was laid for one term. -/
theorem cells_new_two (w : World) (x y : Value) (t : TypeId) : ∀ j u, [x, y][j]? = some u → (w.alloc (.cells #[x, y] t)).cell? ((⟨w.heap.size, 0, none⟩ : Addr).add j) = some u := by
  intro j u hj
  match j, hj with
  | 0, hj => simp at hj; subst hj; simp [Addr.add]
  | 1, hj => simp at hj; subst hj; simp [Addr.add]
  | j + 2, hj => simp at hj

end Go.Proofs.Ytkpkhnaflohjpaa

/- Binds in memory; how two stand; which is itself. finder, at rows that rise; halve. halve: the first bind of a variable. finder$1: what a variable is bound to. put: what stands for the variables is put in, anew each time. put, at binds that rise. putter and Apply. -/

namespace Go.Proofs.Ytkpkhnaflohjpaa

open Go.RowKit Go.Shelf
set_option maxRecDepth 100000

/-- What stands for a variable, in plain words. -/
structure Bd where
  v : Int
  t : Tm

/-- The slice at A holds the binds; they, and their terms, lie in N's blocks. -/
structure Binds (w : World) (N : Nat → Prop) (A : Option Addr) (l : List Bd) : Prop where
  len : l.length ≤ 9223372036854775807
  ad : 0 < l.length → ∃ b off, A = some ⟨b, off, none⟩ ∧ N b ∧ ∀ (i : Nat) (x : Bd), l[i]? = some x → ∃ A' c', w.cell? ⟨b, off + i * 3, none⟩ = some (.int .i64 x.v) ∧ w.cell? ⟨b, off + i * 3 + 1, none⟩ = some (.int .i64 x.t.fn) ∧ w.cell? ⟨b, off + i * 3 + 2, none⟩ = some (.slice A' x.t.args.length c') ∧ I64 x.v ∧ I64 x.t.fn ∧ ArgsN w N A' x.t.args

section

variable {w w' : World} {N M : Nat → Prop} {A : Option Addr} {l : List Bd}

theorem Binds.keep (h : Binds w N A l) (hk : ∀ g, N g → w'.heap[g]? = w.heap[g]?) : Binds w' N A l :=
  ⟨h.len, fun hn => by
    obtain ⟨b, off, hA, hb, hc⟩ := h.ad hn
    refine ⟨b, off, hA, hb, fun i x hx => ?_⟩
    obtain ⟨A', c', h0, h1, h2, h3, h4, h5⟩ := hc i x hx
    exact ⟨A', c', (cell_of_heap (hk b hb)).trans h0, (cell_of_heap (hk b hb)).trans h1, (cell_of_heap (hk b hb)).trans h2, h3, h4, h5.keep hk⟩⟩

theorem Binds.wide (h : Binds w N A l) (hk : ∀ g, N g → M g) : Binds w M A l :=
  ⟨h.len, fun hn => by
    obtain ⟨b, off, hA, hb, hc⟩ := h.ad hn
    refine ⟨b, off, hA, hk b hb, fun i x hx => ?_⟩
    obtain ⟨A', c', h0, h1, h2, h3, h4, h5⟩ := hc i x hx
    exact ⟨A', c', h0, h1, h2, h3, h4, h5.wide hk⟩⟩

theorem Binds.nil_ (w : World) (N : Nat → Prop) (A : Option Addr) : Binds w N A [] := ⟨by simp, fun h => by simp at h⟩

/-- One of them. -/
structure BdAt (w : World) (N : Nat → Prop) (b off i : Nat) (x : Bd) (A' : Option Addr) (c' : Nat) : Prop where
  hb : N b
  c0 : w.cell? ⟨b, off + i * 3, none⟩ = some (.int .i64 x.v)
  c1 : w.cell? ⟨b, off + i * 3 + 1, none⟩ = some (.int .i64 x.t.fn)
  c2 : w.cell? ⟨b, off + i * 3 + 2, none⟩ = some (.slice A' x.t.args.length c')
  iv : I64 x.v
  it : I64 x.t.fn
  sub : ArgsN w N A' x.t.args

theorem Binds.get (h : Binds w N A l) {i : Nat} {x : Bd} (hx : l[i]? = some x) : ∃ b off A' c', A = some ⟨b, off, none⟩ ∧ BdAt w N b off i x A' c' := by
  have hlt := (List.getElem?_eq_some_iff.1 hx).1
  obtain ⟨b, off, hA, hb, hc⟩ := h.ad (by omega)
  obtain ⟨A', c', h0, h1, h2, h3, h4, h5⟩ := hc i x hx
  exact ⟨b, off, A', c', hA, hb, h0, h1, h2, h3, h4, h5⟩

end

theorem cells_three {W : World} {b : Nat} {x y z : Value} {t : TypeId} (h : W.heap[b]? = some (.cells #[x, y, z] t)) : W.cell? ⟨b, 0, none⟩ = some x ∧ W.cell? ⟨b, 1, none⟩ = some y ∧ W.cell? ⟨b, 2, none⟩ = some z ∧ W.frozen? ⟨b, 0, none⟩ = false ∧ W.frozen? ⟨b, 1, none⟩ = false ∧ W.frozen? ⟨b, 2, none⟩ = false := by
  refine ⟨?_, ?_, ?_, ?_, ?_, ?_⟩ <;> simp [World.cell?, World.frozen?, h]

/-- Does a bind bind a variable to itself? -/
def selfB (x : Bd) : Prop := x.t.fn = -1 - x.v ∧ x.t.args.length = 0

instance (x : Bd) : Decidable (selfB x) := inferInstanceAs (Decidable (_ ∧ _))

end Go.Proofs.Ytkpkhnaflohjpaa

namespace Go.Proofs.Ytkpkhnaflohjpaa

open Go.RowKit Go.Shelf
set_option maxRecDepth 100000

/-- Variables do not fall. -/
def Rise (l : List Bd) : Prop := ∀ (i j : Nat) (x y : Bd), i ≤ j → l[i]? = some x → l[j]? = some y → x.v ≤ y.v

end Go.Proofs.Ytkpkhnaflohjpaa

namespace Go.Proofs.Ytkpkhnaflohjpaa

open Go.RowKit Go.Shelf
set_option maxRecDepth 100000

/-- What a variable is bound to, by the first bind of it. -/
def findB (l : List Bd) (v : Int) : Option Bd := l.find? fun x => decide (x.v = v)

theorem findB_at {l : List Bd} {v : Int} {k : Nat} {x : Bd} (hx : l[k]? = some x) (hv : x.v = v) (hlow : ∀ (i : Nat) (y : Bd), i < k → l[i]? = some y → y.v < v) : findB l v = some x := by
  unfold findB
  rw [List.find?_eq_some_iff_getElem]
  obtain ⟨hlt, he⟩ := List.getElem?_eq_some_iff.1 hx
  refine ⟨by simpa using hv, k, hlt, he, fun j hj => ?_⟩
  have := hlow j _ hj (List.getElem?_eq_getElem (by omega))
  simp
  omega

theorem findB_none {l : List Bd} {v : Int} (h : ∀ (i : Nat) (y : Bd), l[i]? = some y → y.v ≠ v) : findB l v = none := by
  unfold findB
  rw [List.find?_eq_none]
  intro x hx
  obtain ⟨i, hi⟩ := List.mem_iff_getElem?.1 hx
  simpa using h i x hi

def HalvePost (l : List Bd) (v : Int) (N : Nat → Prop) (w : World) (e : Ending) (w' : World) : Prop := Below w.heap.size w w' ∧
  match findB l v with
  | none => e = .returned (.tuple #[.agg #[.int .i64 0, .int .i64 0, .slice none 0 0], .bool false])
  | some x => ∃ A' c', e = .returned (.tuple #[.agg #[.int .i64 x.v, .int .i64 x.t.fn, .slice A' x.t.args.length c'], .bool true]) ∧ I64 x.v ∧ I64 x.t.fn ∧ ArgsN w N A' x.t.args

structure HvI (l : List Bd) (v : Int) (lo hi : Nat) : Prop where
  le : lo ≤ hi
  len : hi ≤ l.length
  low : ∀ (i : Nat) (y : Bd), i < lo → l[i]? = some y → y.v < v
  high : ∀ (i : Nat) (y : Bd), hi ≤ i → l[i]? = some y → v ≤ y.v

theorem set3_three {W : World} {b : Nat} {x y z u v t : Value} {ty : TypeId} (h : W.heap[b]? = some (.cells #[x, y, z] ty)) : (((W.setCell ⟨b, 0, none⟩ u).setCell ⟨b, 1, none⟩ v).setCell ⟨b, 2, none⟩ t).heap[b]? = some (.cells #[u, v, t] ty) :=
  have h1 : (W.setCell ⟨b, 0, none⟩ u).heap[b]? = some (.cells #[u, y, z] ty) := heap_setCell_same W _ 0 _ _ _ h
  have h2 : ((W.setCell ⟨b, 0, none⟩ u).setCell ⟨b, 1, none⟩ v).heap[b]? = some (.cells #[u, v, z] ty) := heap_setCell_same _ _ 1 _ _ _ h1
  heap_setCell_same _ _ 2 _ _ _ h2

end Go.Proofs.Ytkpkhnaflohjpaa

namespace Go.Proofs.Ytkpkhnaflohjpaa

open Go.RowKit Go.Shelf
set_option maxRecDepth 100000

def FinderPost (l : List Bd) (v : Int) (w : World) (e : Ending) (w' : World) : Prop := Below w.heap.size w w' ∧
  match findB l v with
  | none => e = .returned (.tuple #[.agg #[.int .i64 0, .slice none 0 0], .bool false])
  | some x => ∃ A' c', e = .returned (.tuple #[.agg #[.int .i64 x.t.fn, .slice A' x.t.args.length c'], .bool true]) ∧ I64 x.t.fn ∧ Args w w.heap.size A' x.t.args

theorem alloc_old {W : World} {b : Nat} {x o : Obj} (h : W.heap[b]? = some x) : (W.alloc o).heap[b]? = some x :=
  (((Below.refl W.heap.size W).alloc (Nat.le_refl _) o).block _ (Array.getElem?_eq_some_iff.1 h).1).trans h

end Go.Proofs.Ytkpkhnaflohjpaa

namespace Go.Proofs.Ytkpkhnaflohjpaa

open Go.RowKit Go.Shelf
set_option maxRecDepth 100000

mutual
def appT (g : Int → Option Tm) : Tm → Tm
  | .node f xs => (if f < 0 then g (-1 - f) else none).getD (.node f (appL g xs))
def appL (g : Int → Option Tm) : List Tm → List Tm
  | [] => []
  | t :: ts => appT g t :: appL g ts
end

theorem appL_eq (g : Int → Option Tm) : ∀ xs : List Tm, appL g xs = xs.map (appT g)
  | [] => by simp only [appL, List.map_nil]
  | t :: ts => by simp only [appL, appL_eq g ts, List.map_cons]

/-- What is put in for a variable. -/
def bdT (l : List Bd) (v : Int) : Option Tm := (findB l v).map Bd.t

/-- A term of memory of its own. -/
def NewPost (t : Tm) (w : World) (e : Ending) (w' : World) : Prop :=
  ∃ A' c', e = .returned (.agg #[.int .i64 t.fn, .slice A' t.args.length c']) ∧ I64 t.fn ∧ OwnT w' w.heap.size w'.heap.size A' t.args ∧ Below w.heap.size w w'

end Go.Proofs.Ytkpkhnaflohjpaa

namespace Go.Proofs.Ytkpkhnaflohjpaa

open Go.RowKit Go.Shelf
set_option maxRecDepth 100000

theorem put_fin {y : Tm} {A3 : Option Addr} {c3 n : Nat} {w w1 w3 : World} (hb : Below w.heap.size w w1) (hk : Below w1.heap.size w1 w3) (hO : OwnT w3 w1.heap.size w3.heap.size A3 y.args) (hi : I64 y.fn) (hn1 : w.heap.size ≤ n) (hn2 : n < w1.heap.size) :
    NewPost y w (.returned (.agg #[.int .i64 y.fn, .slice A3 y.args.length c3])) ((w3.setCell ⟨n, 0, none⟩ (.int .i64 y.fn)).setCell ⟨n, 1, none⟩ (.slice A3 y.args.length c3)) := by
  have hoth : ∀ g, g ≠ n → ((w3.setCell ⟨n, 0, none⟩ (.int .i64 y.fn)).setCell ⟨n, 1, none⟩ (.slice A3 y.args.length c3)).heap[g]? = w3.heap[g]? := fun g e => (heap_setCell_other _ _ _ _ e).trans (heap_setCell_other _ _ _ _ e)
  have hs := hb.size
  exact ⟨A3, c3, rfl, hi, OwnT.wide (lo := w1.heap.size) (hi := w3.heap.size) (hO.keep fun g h1 _ => hoth g (by omega)) (by omega) (by simp), ((hb.trans (hk.mono hs)).setCell (by show _ ≤ n; omega) _).setCell (by show _ ≤ n; omega) _⟩

end Go.Proofs.Ytkpkhnaflohjpaa

namespace Go.Proofs.Ytkpkhnaflohjpaa

open Go.RowKit Go.Shelf
set_option maxRecDepth 100000

@[local go_sem] theorem run_store_func {P : Program} {w : World} {a : Addr} {m : Mode} (f : Fn) (ts cs : Array Value) : (store a (.func f ts cs) m).run P w = stored P w a (.func f ts cs) m := run_store P w a _ m rfl

end Go.Proofs.Ytkpkhnaflohjpaa

/- A region that draws its order, whose operations read, and whose calls may make memory: one walk, in the order of the text. -/

namespace Go.Proofs.Ytkpkhnaflohjpaa

open Go Go.RowKit

/-- A world in which all that lay below n in W lies as it lay. -/
structure Later (n : Nat) (W : World) where
  w : World
  h : Below n W w

instance (n : Nat) (W : World) : Nonempty (Later n W) := ⟨⟨W, Below.refl _ _⟩⟩

def Later.step {n : Nat} {W : World} (x : Later n W) {w' : World} (h : Below x.w.heap.size x.w w') (hn : n ≤ W.heap.size) : Later n W := ⟨w', x.h.trans (h.mono (Nat.le_trans hn x.h.size))⟩

theorem wp_region_later {P : Program} {id : Nat} {Q : Exit → Act → World → Prop} {a : Act} {w : World} {l : List Oper} (n : Nat) (W : World) (hm : P.follows .mixedOrders = true) (hB : Region.lexB .any l.toArray = true) (h0 : Below n W w.drew)
    (h : wpQuiet P l.toArray (fun w' => ∃ x : Later n W, w' = x.w) (fun a' => ∀ w', (∃ x : Later n W, w' = x.w) → Q .normal a' w') l a) : (Code.region id l.toArray true).wp P Q a w :=
  wp_region_quiet (C := fun w' => ∃ x : Later n W, w' = x.w) hm hB ⟨⟨_, h0⟩, rfl⟩ (by simpa using h)

/-- A call's contract, met in a later world. -/
theorem calls_later {P : Program} {f : FuncId} {args : Array Value} {n : Nat} {W : World} {v : Value} (x : Later n W) (hn : n ≤ W.heap.size) (h : Calls P f args x.w fun e w' => e = .returned v ∧ Below x.w.heap.size x.w w') :
    Calls P f args x.w fun e w' => e = .returned v ∧ ∃ y : Later n W, w' = y.w :=
  h.mono fun _ _ ⟨he, hb⟩ => ⟨he, x.step hb hn, rfl⟩

end Go.Proofs.Ytkpkhnaflohjpaa

/- Check. -/

namespace Go.Proofs.Ytkpkhnaflohjpaa

open Go.RowKit Go.Shelf
set_option maxRecDepth 100000

/-- Variables rise. -/
def RiseS (l : List Bd) : Prop := ∀ (i j : Nat) (x y : Bd), i < j → l[i]? = some x → l[j]? = some y → x.v < y.v

theorem RiseS.rise {l : List Bd} (h : RiseS l) : Rise l := fun i j x y hij hx hy => by
  rcases Nat.lt_or_ge i j with h1 | h1
  · exact Int.le_of_lt (h i j x y h1 hx hy)
  · obtain rfl : i = j := by omega
    rw [hx] at hy
    injection hy with hy
    rw [hy]
    exact Int.le_refl _

/-- Does it rise from lo on, and is no variable bound to itself? -/
def chkFrom (lo : Int) : List Bd → Bool
  | [] => true
  | x :: xs => decide (lo < x.v) && (!decide (selfB x) && chkFrom x.v xs)

def chkB (l : List Bd) : Bool := chkFrom (-1) l

/-- What Check tells. -/
def chkN (l : List Bd) : Int := if chkB l = true then 0 else 2

theorem chkN_yes {l : List Bd} (h : chkB l = true) : chkN l = 0 := by unfold chkN; rw [if_pos h]

theorem chkN_no {l : List Bd} (h : chkB l = false) : chkN l = 2 := by unfold chkN; rw [h]; rfl

/-- How far Check has come: lo is the last variable. -/
structure ChkI (l : List Bd) (k : Nat) (lo : Int) : Prop where
  ge : -1 ≤ lo
  first : k = 0 → lo = -1
  last : ∀ (m : Nat) (y : Bd), k = m + 1 → l[m]? = some y → y.v = lo
  rest : chkFrom lo (l.drop k) = chkB l

theorem ChkI.start (l : List Bd) : ChkI l 0 (-1) := ⟨Int.le_refl _, fun _ => rfl, fun m y h => by omega, rfl⟩

section

variable {l : List Bd} {k : Nat} {lo : Int} {x : Bd}

theorem ChkI.cons (h : ChkI l k lo) (hx : l[k]? = some x) : chkB l = (decide (lo < x.v) && (!decide (selfB x) && chkFrom x.v (l.drop (k + 1)))) := by
  obtain ⟨hlt, hx'⟩ := List.getElem?_eq_some_iff.1 hx
  rw [← h.rest, List.drop_eq_getElem_cons hlt, hx']
  rfl

theorem ChkI.low (h : ChkI l k lo) (hx : l[k]? = some x) (hn : ¬ lo < x.v) : chkB l = false := by
  rw [h.cons hx, decide_eq_false hn]
  rfl

theorem ChkI.self (h : ChkI l k lo) (hx : l[k]? = some x) (hn : selfB x) : chkB l = false := by
  rw [h.cons hx, decide_eq_true hn]
  simp

theorem ChkI.next (h : ChkI l k lo) (hx : l[k]? = some x) (h1 : lo < x.v) (hn : ¬ selfB x) : ChkI l (k + 1) x.v :=
  ⟨by have := h.ge; omega, fun e => by omega, fun m y e hy => by obtain rfl : m = k := by omega
                                                                 rw [hx] at hy; injection hy with hy; rw [hy], by rw [h.cons hx, decide_eq_true h1, decide_eq_false hn]; rfl⟩

theorem ChkI.done (h : ChkI l k lo) (hk : l.length ≤ k) : chkB l = true := by
  rw [← h.rest, List.drop_eq_nil_of_le hk]
  rfl

end

end Go.Proofs.Ytkpkhnaflohjpaa

/- kbo's each: a term and all that stands in it, till the function that is handed over says no. -/

namespace Go.Proofs.Ytkpkhnaflohjpaa

open Go.RowKit Go.Shelf
set_option maxRecDepth 100000

section

variable {σ : Type} (vs : σ → Tm → σ × Bool)

mutual
def evT : σ → Tm → σ × Bool
  | s, .node f xs => if (vs s (.node f xs)).2 then evL (vs s (.node f xs)).1 xs else ((vs s (.node f xs)).1, false)
def evL : σ → List Tm → σ × Bool
  | s, [] => (s, true)
  | s, t :: ts => if (evT s t).2 then evL (evT s t).1 ts else ((evT s t).1, false)
end

end

section

variable {σ : Type} (V : σ → Tm → Prop) (vs : σ → Tm → σ × Bool)

mutual
/-- All that is asked on the way may be asked. -/
def okT : σ → Tm → Prop
  | s, .node f xs => V s (.node f xs) ∧ ((vs s (.node f xs)).2 = true → okL (vs s (.node f xs)).1 xs)
def okL : σ → List Tm → Prop
  | _, [] => True
  | s, t :: ts => okT s t ∧ ((evT vs s t).2 = true → okL (evT vs s t).1 ts)
end

end

theorem okL_drop {σ : Type} {V : σ → Tm → Prop} {vs : σ → Tm → σ × Bool} {s : σ} {xs : List Tm} {k : Nat} {u : Tm} (h : xs[k]? = some u) (hk : okL V vs s (xs.drop k)) : okT V vs s u ∧ ((evT vs s u).2 = true → okL V vs (evT vs s u).1 (xs.drop (k + 1))) := by
  obtain ⟨h1, h2⟩ := List.getElem?_eq_some_iff.1 h
  rw [List.drop_eq_getElem_cons h1, h2, okL] at hk
  exact hk

theorem evL_drop {σ : Type} {vs : σ → Tm → σ × Bool} {s : σ} {xs : List Tm} {k : Nat} {u : Tm} (h : xs[k]? = some u) : evL vs s (xs.drop k) = if (evT vs s u).2 then evL vs (evT vs s u).1 (xs.drop (k + 1)) else ((evT vs s u).1, false) := by
  obtain ⟨h1, h2⟩ := List.getElem?_eq_some_iff.1 h
  rw [List.drop_eq_getElem_cons h1, h2, evL]

/-- What is asked of the function that is handed over. -/
structure VisC {σ : Type} (V : σ → Tm → Prop) (vs : σ → Tm → σ × Bool) (k : FuncId) (cv : Array Value) (C D N : Nat → Prop) (I : σ → World → Prop) (B0 : Nat) : Prop where
  ent : ∀ (args : Array Value) (w : World), (callFunc k args).run Try.prog w = .ok (.enter k args) w
  call : ∀ (s : σ) (t : Tm) (A : Option Addr) (c : Nat) (W : World), B0 ≤ W.heap.size → I s W → I64 t.fn → V s t → ArgsN W N A t.args → Calls Try.prog k (#[.agg #[.int .i64 t.fn, .slice A t.args.length c]] ++ cv) W fun e W' => e = .returned (.bool (vs s t).2) ∧ I (vs s t).1 W' ∧ KeepsC C W W'
  stay : ∀ s W W', I s W → Keeps D W W' → I s W'
  cb : ∀ g, C g → g < B0
  db : ∀ g, D g → g < B0
  nb : ∀ g, N g → g < B0
  nc : ∀ g, N g → ¬ C g

def VisPost {σ : Type} (C : Nat → Prop) (I : σ → World → Prop) (r : σ × Bool) (w : World) (e : Ending) (w' : World) : Prop := e = .returned (.bool r.2) ∧ I r.1 w' ∧ KeepsC C w w'

section

variable {σ : Type} {V : σ → Tm → Prop} {vs : σ → Tm → σ × Bool} {k : FuncId} {cv : Array Value} {C D N : Nat → Prop} {I : σ → World → Prop} {B0 : Nat}

@[local go_sem] theorem run_store_visit {P : Program} {w : World} {a : Addr} {m : Mode} (f : Fn) (ts cs : Array Value) : (store a (.func f ts cs) m).run P w = stored P w a (.func f ts cs) m := run_store P w a _ m rfl

end

end Go.Proofs.Ytkpkhnaflohjpaa

/- kbo: weights of tops, what an order knows, relations. -/

namespace Go.Proofs.Ytkpkhnaflohjpaa

open Go.RowKit Go.Shelf
set_option maxRecDepth 100000

/-- An order, in plain words. -/
structure Odr where
  lpo : Bool
  prec : List Int
  wts : List Int
  var : Int

structure OdrM (w : World) (B : Nat) (o : Odr) (P Q : Option Addr) : Prop where
  p : Ints w B P o.prec
  q : Ints w B Q o.wts
  v : I64 o.var

theorem OdrM.on {w w' : World} {o : Odr} {P Q : Option Addr} (h : OdrM w w.heap.size o P Q) (hb : Below w.heap.size w w') : OdrM w' w'.heap.size o P Q := ⟨h.p.on hb, h.q.on hb, h.v⟩

theorem Ints.get {w : World} {B : Nat} {A : Option Addr} {l : List Int} (h : Ints w B A l) {i : Nat} {x : Int} (hx : l[i]? = some x) : ∃ b off, A = some ⟨b, off, none⟩ ∧ b < B ∧ w.cell? ⟨b, off + i, none⟩ = some (.int .i64 x) := by
  have hlt := (List.getElem?_eq_some_iff.1 hx).1
  obtain ⟨b, off, hA, hb, hc⟩ := h.ad (by omega)
  exact ⟨b, off, hA, hb, hc i x hx⟩

/-- A weight as it counts. -/
def capI (n : Int) : Int := max 0 (min n 2147483647)

theorem capI_bd (n : Int) : 0 ≤ capI n ∧ capI n ≤ 2147483647 := by unfold capI; omega

theorem capI_64 (n : Int) : I64 (capI n) := ⟨by have := (capI_bd n).1; omega, by have := (capI_bd n).2; omega⟩

def wtI (o : Odr) (f : Int) : Int := capI (if f < 0 then o.var else o.wts.getD f.toNat 0)

theorem wtI_bd (o : Odr) (f : Int) : 0 ≤ wtI o f ∧ wtI o f ≤ 2147483647 := capI_bd _

/-- A relation the other way round. -/
def relT (r : Int) : Int := if r = 1 then 3 else if r = 3 then 1 else r

/-- What a comparison of numbers says. -/
def relC (c : Int) : Int := if c > 0 then 3 else if c < 0 then 1 else 2

/-- Does an order know a term's top? -/
def knowTop (o : Odr) (f : Int) (n : Nat) : Bool := if f < 0 then decide (n = 0) else decide (f < (o.prec.length : Int)) && decide (f < (o.wts.length : Int))

mutual
def knowT (o : Odr) : Tm → Bool
  | .node f xs => knowTop o f xs.length && knowL o xs
def knowL (o : Odr) : List Tm → Bool
  | [] => true
  | t :: ts => knowT o t && knowL o ts
end

theorem cells_four {W : World} {b : Nat} {x y z u : Value} {t : TypeId} (h : W.heap[b]? = some (.cells #[x, y, z, u] t)) : W.cell? ⟨b, 0, none⟩ = some x ∧ W.cell? ⟨b, 1, none⟩ = some y ∧ W.cell? ⟨b, 2, none⟩ = some z ∧ W.cell? ⟨b, 3, none⟩ = some u := by
  refine ⟨?_, ?_, ?_, ?_⟩ <;> simp [World.cell?, h]

def kvis (o : Odr) (s : Unit) (t : Tm) : Unit × Bool := (s, knowTop o t.fn t.args.length)

theorem ev_know (o : Odr) (t : Tm) : (evT (kvis o) () t).2 = knowT o t := by
  have key : ∀ xs : List Tm, (∀ t ∈ xs, (evT (kvis o) () t).2 = knowT o t) → (evL (kvis o) () xs).2 = knowL o xs := by
    intro xs
    induction xs with
    | nil => intro _; simp only [evL, knowL]
    | cons x xs ih =>
      intro h
      simp only [evL, knowL, ← h x (by simp)]
      split
      · rename_i hh
        rw [ih fun t ht => h t (by simp [ht]), hh, Bool.true_and]
      · rename_i hh
        rw [Bool.not_eq_true] at hh
        rw [hh, Bool.false_and]
  refine Tm.ind (P := fun t => (evT (kvis o) () t).2 = knowT o t) (fun f xs ih => ?_) t
  have e : (kvis o () (.node f xs)).2 = knowTop o f xs.length := rfl
  rw [evT, knowT, ← e]
  split
  · rename_i hh
    rw [hh, Bool.true_and]
    exact key xs ih
  · rename_i hh
    rw [Bool.not_eq_true] at hh
    rw [hh, Bool.false_and]

theorem ok_true {σ : Type} (vs : σ → Tm → σ × Bool) (t : Tm) : ∀ s, okT (fun _ _ => True) vs s t := by
  have key : ∀ xs : List Tm, (∀ t ∈ xs, ∀ s, okT (fun _ _ => True) vs s t) → ∀ s, okL (fun _ _ => True) vs s xs := by
    intro xs
    induction xs with
    | nil => intro _ s; simp only [okL]
    | cons x xs ih => intro h s; rw [okL]; exact ⟨h x (by simp) s, fun _ => ih (fun t ht => h t (by simp [ht])) _⟩
  refine Tm.ind (P := fun t => ∀ s, okT (fun _ _ => True) vs s t) (fun f xs ih s => ?_) t
  rw [okT]
  exact ⟨trivial, fun _ => key xs ih _⟩

end Go.Proofs.Ytkpkhnaflohjpaa

/- The document's own: ranks, highest (of a row of numbers). -/

namespace Go.Proofs.Ytkpkhnaflohjpaa

open Go.RowKit
set_option maxRecDepth 100000

/-- Is another one higher? -/
def overI (p : List Int) (i k : Nat) : Bool := decide (k ≠ i) && decide (p.getD i 0 < p.getD k 0)

def highB (p : List Int) (i : Nat) : Bool := (List.range p.length).all fun k => !overI p i k

theorem highB_no {p : List Int} {i k : Nat} (hk : k < p.length) (h : overI p i k = true) : highB p i = false := by
  unfold highB
  rw [List.all_eq_false]
  exact ⟨k, List.mem_range.2 hk, by rw [h]; decide⟩

theorem highB_yes {p : List Int} {i : Nat} (h : ∀ j, j < p.length → overI p i j = false) : highB p i = true := by
  unfold highB
  rw [List.all_eq_true]
  intro j hj
  rw [h j (List.mem_range.1 hj)]; rfl

theorem all_next {f : Nat → Bool} {k : Nat} (h : ∀ j, j < k → f j = false) (hk : f k = false) : ∀ j, j < k + 1 → f j = false := by
  intro j hj
  by_cases e : j = k
  · subst e; exact hk
  · exact h j (by omega)

theorem getD_of {p : List Int} {i : Nat} {x : Int} (h : p[i]? = some x) : p.getD i 0 = x := by rw [List.getD_eq_getElem?_getD, h]; rfl

theorem drewN_two (w : World) (a b : Nat) : (w.drewN a).drewN b = w.drewN (a + b) := by simp

/-- Is something wrong with number i? -/
def badR (p : List Int) (i : Nat) : Bool := (decide (0 < i) && decide (p.getD i 0 ≤ p.getD 0 0)) || (List.range i).any fun k => decide (p.getD i 0 = p.getD k 0)

def rankB (p : List Int) (n : Nat) : Bool := decide (p.length = n) && (List.range n).all fun i => !badR p i

theorem rankB_no {p : List Int} {n i : Nat} (hi : i < n) (h : badR p i = true) : rankB p n = false := by
  unfold rankB
  rw [Bool.and_eq_false_iff]; right
  rw [List.all_eq_false]
  exact ⟨i, List.mem_range.2 hi, by rw [h]; decide⟩

theorem rankB_yes {p : List Int} {n : Nat} (hl : p.length = n) (h : ∀ j, j < n → badR p j = false) : rankB p n = true := by
  unfold rankB
  rw [Bool.and_eq_true, List.all_eq_true]
  exact ⟨decide_eq_true hl, fun j hj => by rw [h j (List.mem_range.1 hj)]; rfl⟩

theorem badR_same {p : List Int} {i k : Nat} (hk : k < i) (h : p.getD i 0 = p.getD k 0) : badR p i = true := by
  unfold badR
  rw [Bool.or_eq_true]; right
  rw [List.any_eq_true]
  exact ⟨k, List.mem_range.2 hk, decide_eq_true h⟩

theorem badR_first {p : List Int} {i : Nat} (hk : 0 < i) (h : p.getD i 0 ≤ p.getD 0 0) : badR p i = true := by
  unfold badR
  rw [Bool.or_eq_true]; left
  simp [hk]; simpa using h

theorem badR_no {p : List Int} {i : Nat} (h0 : ¬ (0 < i ∧ p.getD i 0 ≤ p.getD 0 0)) (h : ∀ j, j < i → decide (p.getD i 0 = p.getD j 0) = false) : badR p i = false := by
  unfold badR
  rw [Bool.or_eq_false_iff, List.any_eq_false]
  refine ⟨?_, fun j hj => by rw [h j (List.mem_range.1 hj)]; decide⟩
  rw [← Bool.decide_and]
  exact decide_eq_false h0

end Go.Proofs.Ytkpkhnaflohjpaa

