import Derived.Test.YtnmpeodngipfcaaP22Z1
import Derived.Deep.RegionHeld3
import Derived.BigQuiet
/- Rows of terms that grow, in plain words. -/

namespace Go.Proofs.Ytnmpeodngipfcaa

open Go.RowKit Go.Shelf
set_option maxRecDepth 100000

/-- A term as a member of a row: where its own arguments lie. -/
structure Ti where
  t : Tm
  A : Option Addr
  c : Nat

def Ti.cells (x : Ti) : List Value := [.int .i64 x.t.fn, .slice x.A x.t.args.length x.c]

theorem ti_get (l : List Ti) (i r : Nat) (hr : r < 2) : (l.flatMap Ti.cells)[i * 2 + r]? = (l[i]?).bind fun x => x.cells[r]? := by
  induction l generalizing i with
  | nil => simp
  | cons x l ih =>
    have hlen : x.cells.length = 2 := rfl
    rw [List.flatMap_cons]
    cases i with
    | zero => rw [List.getElem?_append_left (by omega)]; simp
    | succ i =>
      rw [List.getElem?_append_right (by omega), hlen, show (i + 1) * 2 + r - 2 = i * 2 + r from by omega, ih]
      simp

theorem ti_len (l : List Ti) : (l.flatMap Ti.cells).length = l.length * 2 := by
  induction l with
  | nil => rfl
  | cons x l ih =>
    have hlen : x.cells.length = 2 := rfl
    rw [List.flatMap_cons, List.length_append, ih, hlen, List.length_cons]
    omega

theorem ti_one (l : List Ti) : ∀ u ∈ l.flatMap Ti.cells, u.oneCell' = true := by
  intro u hu
  obtain ⟨x, _, hx⟩ := List.mem_flatMap.1 hu
  simp only [Ti.cells, List.mem_cons, List.not_mem_nil, or_false] at hx
  rcases hx with rfl | rfl <;> rfl

/-- The slice v is the call's own; it holds the terms l, whose arguments lie in N's blocks. -/
structure RowT (w : World) (base : Nat) (v : Value) (l : List Ti) (N : Nat → Prop) : Prop where
  row : w.ownsRow base 27 2 v l.length (l.flatMap Ti.cells)
  i64 : ∀ x ∈ l, I64 x.t.fn
  sub : ∀ x ∈ l, ArgsN w N x.A x.t.args

section

variable {w w' : World} {base base' : Nat} {v : Value} {l : List Ti} {N M : Nat → Prop}

theorem RowT.nil_ (w : World) (base : Nat) (N : Nat → Prop) : RowT w base (.slice none 0 0) [] N :=
  ⟨World.ownsRow_nil w _ _ _, fun x hx => by simp at hx, fun x hx => by simp at hx⟩

theorem RowT.keep (h : RowT w base v l N) (hv : ∀ g, v.ownBlock = some g → w'.heap[g]? = w.heap[g]?) (hN : ∀ g, N g → w'.heap[g]? = w.heap[g]?) : RowT w' base v l N :=
  ⟨row_keep h.row hv, h.i64, fun x hx => (h.sub x hx).keep hN⟩

theorem RowT.wide (h : RowT w base v l N) (hk : ∀ g, N g → M g) : RowT w base v l M := ⟨h.row, h.i64, fun x hx => (h.sub x hx).wide hk⟩

theorem RowT.shape (h : RowT w base v l N) : ∃ A c, v = .slice A l.length c := by
  rcases h.row.2 with ⟨hv, h0⟩ | ⟨g, cap, cur, hv, _⟩
  · exact ⟨none, 0, by rw [hv, h0]⟩
  · exact ⟨_, cap, hv⟩

/-- The row, read. -/
theorem RowT.argsN (h : RowT w base v l N) (hl : l.length ≤ 9223372036854775807) (hv : ∀ g, v.ownBlock = some g → M g) (hN : ∀ g, N g → M g) : ∃ A c, v = .slice A l.length c ∧ ArgsN w M A (l.map Ti.t) := by
  rcases h.row.2 with ⟨rfl, h0⟩ | ⟨g, cap, cur, rfl, hb, hg, _⟩
  · obtain rfl : l = [] := List.eq_nil_of_length_eq_zero h0
    exact ⟨none, 0, rfl, .nil _⟩
  · refine ⟨_, _, rfl, .row g 0 _ (fun i => ((l[i]?).map Ti.A).getD none) (fun i => ((l[i]?).map Ti.c).getD 0) (hv g rfl) (by simpa using hl) (fun i t e => ?_) (fun i t e => ?_) (fun i t e => ?_) fun i t e => ?_⟩
    all_goals
      rw [List.getElem?_map] at e
      cases hx : l[i]? with
      | none => rw [hx] at e; cases e
      | some x =>
        rw [hx] at e
        injection e with e
        subst e
        have hlt := (List.getElem?_eq_some_iff.1 hx).1
        have hm := List.mem_of_getElem? hx
        have q0 := ti_get l i 0 (by omega)
        have q1 := ti_get l i 1 (by omega)
        have c0 := h.row.cellAt (i * 2) (by omega)
        have c1 := h.row.cellAt (i * 2 + 1) (by omega)
        rw [Nat.add_zero, hx] at q0
        rw [hx] at q1
        rw [q0] at c0
        rw [q1] at c1
        try simp only [Option.map_some, Option.getD_some]
        try rw [Nat.zero_add]
        first | exact h.i64 x hm | exact c0 | exact c1 | exact (h.sub x hm).wide hN

/-- One more. -/
theorem RowT.push {x : Ti} {v' : Value} (h : RowT w base v l N) (hrow : w'.ownsRow base 27 2 v' (l.length + 1) (l.flatMap Ti.cells ++ x.cells)) (hi : I64 x.t.fn) (hx : ArgsN w' M x.A x.t.args) (hk : ∀ g, N g → w'.heap[g]? = w.heap[g]?) (hNM : ∀ g, N g → M g) : RowT w' base v' (l ++ [x]) M := by
  refine ⟨?_, ?_, ?_⟩
  · rw [List.length_append, List.flatMap_append]
    simpa using hrow
  · intro y hy
    rcases List.mem_append.1 hy with hy | hy
    · exact h.i64 y hy
    · simp only [List.mem_cons, List.not_mem_nil, or_false] at hy
      subst hy; exact hi
  · intro y hy
    rcases List.mem_append.1 hy with hy | hy
    · exact ((h.sub y hy).keep hk).wide hNM
    · simp only [List.mem_cons, List.not_mem_nil, or_false] at hy
      subst hy; exact hx

end

/-- 'append' as one step of a region that draws its order; and the row lies where it lay, or in a new block. -/
theorem step_append_at {P : Program} {w : World} {ops : Array Oper} {o : Oper} {a : Act} {K : Act → World → Prop} {Q : Exit → Act → World → Prop} {E : Prop}
    (hg : o.guard = none) (s x : Operand) (t : TypeId) (hop : o.op = Op.call { callee := Callee.builtin Builtin.append, args := #[s, x], argTypes := #[t, t] })
    (base : Nat) (e : TypeId) (i : TypeInfo) (z : Value) (size bytes : Nat) (h1 : P.underlying t = some (.slice e)) (h2 : P.info? e = some i) (h3 : i.zero = some z) (h4 : i.size = size) (h5 : i.bytes = bytes) (h6 : z.cells.size = size) (h7 : 0 < size)
    (v : Value) (k : Nat) (xs : List Value) (hs : a.eval s = v) (hown : w.ownsRow base e size v k xs) (ad : Addr) (m c : Nat) (news : List Value) (hx : a.eval x = .slice (some ad) m c) (hn : news.length = m * size)
    (hc : ∀ j u, news[j]? = some u → w.cell? (ad.add j) = some u) (h1c : ∀ u ∈ news, u.oneCell' = true) (b1 : k + m ≤ maxLen) (b2 : (k + m) * bytes ≤ 140737488355328) (b3 : base ≤ w.heap.size)
    (hK : ∀ v' w', w'.ownsRow base e size v' (k + m) (xs ++ news) → w.grownBy w' v.ownBlock → (v'.ownBlock = v.ownBlock ∨ v'.ownBlock = some w.heap.size) → K (a.put o.dst v') w') :
    if Region.wanted o (yielded ops a.tmps) = true then Oper.wp P o a w K Q else E := by
  obtain ⟨v', w', hrun, r1, r2, _, r4⟩ := run_append_own_at (P := P) w base t o.type e i z size bytes h1 h2 h3 h4 h5 h6 h7 v k xs hown ad m c news hn hc h1c b1 b2 b3
  rw [if_pos (by simp [Region.wanted, hg])]
  unfold Oper.wp
  simp [execOp, hop, resolve, invoke, builtin, hs, hx, hrun, Result.andThen]
  exact hK _ _ r1 r2 r4

/-- The two cells of a block that was laid for one term. -/
theorem cells_new_two (w : World) (x y : Value) (t : TypeId) : ∀ j u, [x, y][j]? = some u → (w.alloc (.cells #[x, y] t)).cell? ((⟨w.heap.size, 0, none⟩ : Addr).add j) = some u := by
  intro j u hj
  match j, hj with
  | 0, hj => simp at hj; subst hj; simp [Addr.add]
  | 1, hj => simp at hj; subst hj; simp [Addr.add]
  | j + 2, hj => simp at hj

end Go.Proofs.Ytnmpeodngipfcaa

/- Binds in memory; how two stand; which is itself. finder, at rows that rise; halve. halve: the first bind of a variable. finder$1: what a variable is bound to. put: what stands for the variables is put in, anew each time. put, at binds that rise. putter and Apply. -/

namespace Go.Proofs.Ytnmpeodngipfcaa

open Go.RowKit Go.Shelf
set_option maxRecDepth 100000

/-- What stands for a variable, in plain words. -/
structure Bd where
  v : Int
  t : Tm

/-- The slice at A holds the binds; they, and their terms, lie in N's blocks. -/
structure Binds (w : World) (N : Nat → Prop) (A : Option Addr) (l : List Bd) : Prop where
  len : l.length ≤ 9223372036854775807
  ad : 0 < l.length → ∃ b off, A = some ⟨b, off, none⟩ ∧ N b ∧ ∀ (i : Nat) (x : Bd), l[i]? = some x → ∃ A' c', w.cell? ⟨b, off + i * 3, none⟩ = some (.int .i64 x.v) ∧ w.cell? ⟨b, off + i * 3 + 1, none⟩ = some (.int .i64 x.t.fn) ∧ w.cell? ⟨b, off + i * 3 + 2, none⟩ = some (.slice A' x.t.args.length c') ∧ I64 x.v ∧ I64 x.t.fn ∧ ArgsN w N A' x.t.args

section

variable {w w' : World} {N M : Nat → Prop} {A : Option Addr} {l : List Bd}

theorem Binds.keep (h : Binds w N A l) (hk : ∀ g, N g → w'.heap[g]? = w.heap[g]?) : Binds w' N A l :=
  ⟨h.len, fun hn => by
    obtain ⟨b, off, hA, hb, hc⟩ := h.ad hn
    refine ⟨b, off, hA, hb, fun i x hx => ?_⟩
    obtain ⟨A', c', h0, h1, h2, h3, h4, h5⟩ := hc i x hx
    exact ⟨A', c', (cell_of_heap (hk b hb)).trans h0, (cell_of_heap (hk b hb)).trans h1, (cell_of_heap (hk b hb)).trans h2, h3, h4, h5.keep hk⟩⟩

theorem Binds.wide (h : Binds w N A l) (hk : ∀ g, N g → M g) : Binds w M A l :=
  ⟨h.len, fun hn => by
    obtain ⟨b, off, hA, hb, hc⟩ := h.ad hn
    refine ⟨b, off, hA, hk b hb, fun i x hx => ?_⟩
    obtain ⟨A', c', h0, h1, h2, h3, h4, h5⟩ := hc i x hx
    exact ⟨A', c', h0, h1, h2, h3, h4, h5.wide hk⟩⟩

theorem Binds.nil_ (w : World) (N : Nat → Prop) (A : Option Addr) : Binds w N A [] := ⟨by simp, fun h => by simp at h⟩

/-- One of them. -/
structure BdAt (w : World) (N : Nat → Prop) (b off i : Nat) (x : Bd) (A' : Option Addr) (c' : Nat) : Prop where
  hb : N b
  c0 : w.cell? ⟨b, off + i * 3, none⟩ = some (.int .i64 x.v)
  c1 : w.cell? ⟨b, off + i * 3 + 1, none⟩ = some (.int .i64 x.t.fn)
  c2 : w.cell? ⟨b, off + i * 3 + 2, none⟩ = some (.slice A' x.t.args.length c')
  iv : I64 x.v
  it : I64 x.t.fn
  sub : ArgsN w N A' x.t.args

theorem Binds.get (h : Binds w N A l) {i : Nat} {x : Bd} (hx : l[i]? = some x) : ∃ b off A' c', A = some ⟨b, off, none⟩ ∧ BdAt w N b off i x A' c' := by
  have hlt := (List.getElem?_eq_some_iff.1 hx).1
  obtain ⟨b, off, hA, hb, hc⟩ := h.ad (by omega)
  obtain ⟨A', c', h0, h1, h2, h3, h4, h5⟩ := hc i x hx
  exact ⟨b, off, A', c', hA, hb, h0, h1, h2, h3, h4, h5⟩

end

theorem cells_three {W : World} {b : Nat} {x y z : Value} {t : TypeId} (h : W.heap[b]? = some (.cells #[x, y, z] t)) : W.cell? ⟨b, 0, none⟩ = some x ∧ W.cell? ⟨b, 1, none⟩ = some y ∧ W.cell? ⟨b, 2, none⟩ = some z ∧ W.frozen? ⟨b, 0, none⟩ = false ∧ W.frozen? ⟨b, 1, none⟩ = false ∧ W.frozen? ⟨b, 2, none⟩ = false := by
  refine ⟨?_, ?_, ?_, ?_, ?_, ?_⟩ <;> simp [World.cell?, World.frozen?, h]

/-- Does a bind bind a variable to itself? -/
def selfB (x : Bd) : Prop := x.t.fn = -1 - x.v ∧ x.t.args.length = 0

instance (x : Bd) : Decidable (selfB x) := inferInstanceAs (Decidable (_ ∧ _))

end Go.Proofs.Ytnmpeodngipfcaa

namespace Go.Proofs.Ytnmpeodngipfcaa

open Go.RowKit Go.Shelf
set_option maxRecDepth 100000

/-- Variables do not fall. -/
def Rise (l : List Bd) : Prop := ∀ (i j : Nat) (x y : Bd), i ≤ j → l[i]? = some x → l[j]? = some y → x.v ≤ y.v

end Go.Proofs.Ytnmpeodngipfcaa

namespace Go.Proofs.Ytnmpeodngipfcaa

open Go.RowKit Go.Shelf
set_option maxRecDepth 100000

/-- What a variable is bound to, by the first bind of it. -/
def findB (l : List Bd) (v : Int) : Option Bd := l.find? fun x => decide (x.v = v)

theorem findB_at {l : List Bd} {v : Int} {k : Nat} {x : Bd} (hx : l[k]? = some x) (hv : x.v = v) (hlow : ∀ (i : Nat) (y : Bd), i < k → l[i]? = some y → y.v < v) : findB l v = some x := by
  unfold findB
  rw [List.find?_eq_some_iff_getElem]
  obtain ⟨hlt, he⟩ := List.getElem?_eq_some_iff.1 hx
  refine ⟨by simpa using hv, k, hlt, he, fun j hj => ?_⟩
  have := hlow j _ hj (List.getElem?_eq_getElem (by omega))
  simp
  omega

theorem findB_none {l : List Bd} {v : Int} (h : ∀ (i : Nat) (y : Bd), l[i]? = some y → y.v ≠ v) : findB l v = none := by
  unfold findB
  rw [List.find?_eq_none]
  intro x hx
  obtain ⟨i, hi⟩ := List.mem_iff_getElem?.1 hx
  simpa using h i x hi

def HalvePost (l : List Bd) (v : Int) (N : Nat → Prop) (w : World) (e : Ending) (w' : World) : Prop := Below w.heap.size w w' ∧
  match findB l v with
  | none => e = .returned (.tuple #[.agg #[.int .i64 0, .int .i64 0, .slice none 0 0], .bool false])
  | some x => ∃ A' c', e = .returned (.tuple #[.agg #[.int .i64 x.v, .int .i64 x.t.fn, .slice A' x.t.args.length c'], .bool true]) ∧ I64 x.v ∧ I64 x.t.fn ∧ ArgsN w N A' x.t.args

structure HvI (l : List Bd) (v : Int) (lo hi : Nat) : Prop where
  le : lo ≤ hi
  len : hi ≤ l.length
  low : ∀ (i : Nat) (y : Bd), i < lo → l[i]? = some y → y.v < v
  high : ∀ (i : Nat) (y : Bd), hi ≤ i → l[i]? = some y → v ≤ y.v

theorem set3_three {W : World} {b : Nat} {x y z u v t : Value} {ty : TypeId} (h : W.heap[b]? = some (.cells #[x, y, z] ty)) : (((W.setCell ⟨b, 0, none⟩ u).setCell ⟨b, 1, none⟩ v).setCell ⟨b, 2, none⟩ t).heap[b]? = some (.cells #[u, v, t] ty) :=
  have h1 : (W.setCell ⟨b, 0, none⟩ u).heap[b]? = some (.cells #[u, y, z] ty) := heap_setCell_same W _ 0 _ _ _ h
  have h2 : ((W.setCell ⟨b, 0, none⟩ u).setCell ⟨b, 1, none⟩ v).heap[b]? = some (.cells #[u, v, z] ty) := heap_setCell_same _ _ 1 _ _ _ h1
  heap_setCell_same _ _ 2 _ _ _ h2

end Go.Proofs.Ytnmpeodngipfcaa

namespace Go.Proofs.Ytnmpeodngipfcaa

open Go.RowKit Go.Shelf
set_option maxRecDepth 100000

def FinderPost (l : List Bd) (v : Int) (w : World) (e : Ending) (w' : World) : Prop := Below w.heap.size w w' ∧
  match findB l v with
  | none => e = .returned (.tuple #[.agg #[.int .i64 0, .slice none 0 0], .bool false])
  | some x => ∃ A' c', e = .returned (.tuple #[.agg #[.int .i64 x.t.fn, .slice A' x.t.args.length c'], .bool true]) ∧ I64 x.t.fn ∧ Args w w.heap.size A' x.t.args

theorem alloc_old {W : World} {b : Nat} {x o : Obj} (h : W.heap[b]? = some x) : (W.alloc o).heap[b]? = some x :=
  (((Below.refl W.heap.size W).alloc (Nat.le_refl _) o).block _ (Array.getElem?_eq_some_iff.1 h).1).trans h

end Go.Proofs.Ytnmpeodngipfcaa

namespace Go.Proofs.Ytnmpeodngipfcaa

open Go.RowKit Go.Shelf
set_option maxRecDepth 100000

mutual
def appT (g : Int → Option Tm) : Tm → Tm
  | .node f xs => (if f < 0 then g (-1 - f) else none).getD (.node f (appL g xs))
def appL (g : Int → Option Tm) : List Tm → List Tm
  | [] => []
  | t :: ts => appT g t :: appL g ts
end

theorem appL_eq (g : Int → Option Tm) : ∀ xs : List Tm, appL g xs = xs.map (appT g)
  | [] => by simp only [appL, List.map_nil]
  | t :: ts => by simp only [appL, appL_eq g ts, List.map_cons]

/-- What is put in for a variable. -/
def bdT (l : List Bd) (v : Int) : Option Tm := (findB l v).map Bd.t

/-- A term of memory of its own. -/
def NewPost (t : Tm) (w : World) (e : Ending) (w' : World) : Prop :=
  ∃ A' c', e = .returned (.agg #[.int .i64 t.fn, .slice A' t.args.length c']) ∧ I64 t.fn ∧ OwnT w' w.heap.size w'.heap.size A' t.args ∧ Below w.heap.size w w'

end Go.Proofs.Ytnmpeodngipfcaa

namespace Go.Proofs.Ytnmpeodngipfcaa

open Go.RowKit Go.Shelf
set_option maxRecDepth 100000

theorem put_fin {y : Tm} {A3 : Option Addr} {c3 n : Nat} {w w1 w3 : World} (hb : Below w.heap.size w w1) (hk : Below w1.heap.size w1 w3) (hO : OwnT w3 w1.heap.size w3.heap.size A3 y.args) (hi : I64 y.fn) (hn1 : w.heap.size ≤ n) (hn2 : n < w1.heap.size) :
    NewPost y w (.returned (.agg #[.int .i64 y.fn, .slice A3 y.args.length c3])) ((w3.setCell ⟨n, 0, none⟩ (.int .i64 y.fn)).setCell ⟨n, 1, none⟩ (.slice A3 y.args.length c3)) := by
  have hoth : ∀ g, g ≠ n → ((w3.setCell ⟨n, 0, none⟩ (.int .i64 y.fn)).setCell ⟨n, 1, none⟩ (.slice A3 y.args.length c3)).heap[g]? = w3.heap[g]? := fun g e => (heap_setCell_other _ _ _ _ e).trans (heap_setCell_other _ _ _ _ e)
  have hs := hb.size
  exact ⟨A3, c3, rfl, hi, OwnT.wide (lo := w1.heap.size) (hi := w3.heap.size) (hO.keep fun g h1 _ => hoth g (by omega)) (by omega) (by simp), ((hb.trans (hk.mono hs)).setCell (by show _ ≤ n; omega) _).setCell (by show _ ≤ n; omega) _⟩

end Go.Proofs.Ytnmpeodngipfcaa

namespace Go.Proofs.Ytnmpeodngipfcaa

open Go.RowKit Go.Shelf
set_option maxRecDepth 100000

@[local go_sem] theorem run_store_func {P : Program} {w : World} {a : Addr} {m : Mode} (f : Fn) (ts cs : Array Value) : (store a (.func f ts cs) m).run P w = stored P w a (.func f ts cs) m := run_store P w a _ m rfl

end Go.Proofs.Ytnmpeodngipfcaa

/- A region that draws its order, whose operations read, and whose calls may make memory: one walk, in the order of the text. -/

namespace Go.Proofs.Ytnmpeodngipfcaa

open Go Go.RowKit

/-- A world in which all that lay below n in W lies as it lay. -/
structure Later (n : Nat) (W : World) where
  w : World
  h : Below n W w

instance (n : Nat) (W : World) : Nonempty (Later n W) := ⟨⟨W, Below.refl _ _⟩⟩

def Later.step {n : Nat} {W : World} (x : Later n W) {w' : World} (h : Below x.w.heap.size x.w w') (hn : n ≤ W.heap.size) : Later n W := ⟨w', x.h.trans (h.mono (Nat.le_trans hn x.h.size))⟩

theorem wp_region_later {P : Program} {id : Nat} {Q : Exit → Act → World → Prop} {a : Act} {w : World} {l : List Oper} (n : Nat) (W : World) (hm : P.follows .mixedOrders = true) (hB : Region.lexB .any l.toArray = true) (h0 : Below n W w.drew)
    (h : wpQuiet P l.toArray (fun w' => ∃ x : Later n W, w' = x.w) (fun a' => ∀ w', (∃ x : Later n W, w' = x.w) → Q .normal a' w') l a) : (Code.region id l.toArray true).wp P Q a w :=
  wp_region_quiet (C := fun w' => ∃ x : Later n W, w' = x.w) hm hB ⟨⟨_, h0⟩, rfl⟩ (by simpa using h)

/-- A call's contract, met in a later world. -/
theorem calls_later {P : Program} {f : FuncId} {args : Array Value} {n : Nat} {W : World} {v : Value} (x : Later n W) (hn : n ≤ W.heap.size) (h : Calls P f args x.w fun e w' => e = .returned v ∧ Below x.w.heap.size x.w w') :
    Calls P f args x.w fun e w' => e = .returned v ∧ ∃ y : Later n W, w' = y.w :=
  h.mono fun _ _ ⟨he, hb⟩ => ⟨he, x.step hb hn, rfl⟩

end Go.Proofs.Ytnmpeodngipfcaa

/- Check. -/

namespace Go.Proofs.Ytnmpeodngipfcaa

open Go.RowKit Go.Shelf
set_option maxRecDepth 100000

/-- Variables rise. -/
def RiseS (l : List Bd) : Prop := ∀ (i j : Nat) (x y : Bd), i < j → l[i]? = some x → l[j]? = some y → x.v < y.v

theorem RiseS.rise {l : List Bd} (h : RiseS l) : Rise l := fun i j x y hij hx hy => by
  rcases Nat.lt_or_ge i j with h1 | h1
  · exact Int.le_of_lt (h i j x y h1 hx hy)
  · obtain rfl : i = j := by omega
    rw [hx] at hy
    injection hy with hy
    rw [hy]
    exact Int.le_refl _

/-- Does it rise from lo on, and is no variable bound to itself? -/
def chkFrom (lo : Int) : List Bd → Bool
  | [] => true
  | x :: xs => decide (lo < x.v) && (!decide (selfB x) && chkFrom x.v xs)

def chkB (l : List Bd) : Bool := chkFrom (-1) l

/-- What Check tells. -/
def chkN (l : List Bd) : Int := if chkB l = true then 0 else 2

theorem chkN_yes {l : List Bd} (h : chkB l = true) : chkN l = 0 := by unfold chkN; rw [if_pos h]

theorem chkN_no {l : List Bd} (h : chkB l = false) : chkN l = 2 := by unfold chkN; rw [h]; rfl

/-- How far Check has come: lo is the last variable. -/
structure ChkI (l : List Bd) (k : Nat) (lo : Int) : Prop where
  ge : -1 ≤ lo
  first : k = 0 → lo = -1
  last : ∀ (m : Nat) (y : Bd), k = m + 1 → l[m]? = some y → y.v = lo
  rest : chkFrom lo (l.drop k) = chkB l

theorem ChkI.start (l : List Bd) : ChkI l 0 (-1) := ⟨Int.le_refl _, fun _ => rfl, fun m y h => by omega, rfl⟩

section

variable {l : List Bd} {k : Nat} {lo : Int} {x : Bd}

theorem ChkI.cons (h : ChkI l k lo) (hx : l[k]? = some x) : chkB l = (decide (lo < x.v) && (!decide (selfB x) && chkFrom x.v (l.drop (k + 1)))) := by
  obtain ⟨hlt, hx'⟩ := List.getElem?_eq_some_iff.1 hx
  rw [← h.rest, List.drop_eq_getElem_cons hlt, hx']
  rfl

theorem ChkI.low (h : ChkI l k lo) (hx : l[k]? = some x) (hn : ¬ lo < x.v) : chkB l = false := by
  rw [h.cons hx, decide_eq_false hn]
  rfl

theorem ChkI.self (h : ChkI l k lo) (hx : l[k]? = some x) (hn : selfB x) : chkB l = false := by
  rw [h.cons hx, decide_eq_true hn]
  simp

theorem ChkI.next (h : ChkI l k lo) (hx : l[k]? = some x) (h1 : lo < x.v) (hn : ¬ selfB x) : ChkI l (k + 1) x.v :=
  ⟨by have := h.ge; omega, fun e => by omega, fun m y e hy => by obtain rfl : m = k := by omega
                                                                 rw [hx] at hy; injection hy with hy; rw [hy], by rw [h.cons hx, decide_eq_true h1, decide_eq_false hn]; rfl⟩

theorem ChkI.done (h : ChkI l k lo) (hk : l.length ≤ k) : chkB l = true := by
  rw [← h.rest, List.drop_eq_nil_of_le hk]
  rfl

end

end Go.Proofs.Ytnmpeodngipfcaa

/- kbo's each: a term and all that stands in it, till the function that is handed over says no. -/

namespace Go.Proofs.Ytnmpeodngipfcaa

open Go.RowKit Go.Shelf
set_option maxRecDepth 100000

section

variable {σ : Type} (vs : σ → Tm → σ × Bool)

mutual
def evT : σ → Tm → σ × Bool
  | s, .node f xs => if (vs s (.node f xs)).2 then evL (vs s (.node f xs)).1 xs else ((vs s (.node f xs)).1, false)
def evL : σ → List Tm → σ × Bool
  | s, [] => (s, true)
  | s, t :: ts => if (evT s t).2 then evL (evT s t).1 ts else ((evT s t).1, false)
end

end

section

variable {σ : Type} (V : σ → Tm → Prop) (vs : σ → Tm → σ × Bool)

mutual
/-- All that is asked on the way may be asked. -/
def okT : σ → Tm → Prop
  | s, .node f xs => V s (.node f xs) ∧ ((vs s (.node f xs)).2 = true → okL (vs s (.node f xs)).1 xs)
def okL : σ → List Tm → Prop
  | _, [] => True
  | s, t :: ts => okT s t ∧ ((evT vs s t).2 = true → okL (evT vs s t).1 ts)
end

end

theorem okL_drop {σ : Type} {V : σ → Tm → Prop} {vs : σ → Tm → σ × Bool} {s : σ} {xs : List Tm} {k : Nat} {u : Tm} (h : xs[k]? = some u) (hk : okL V vs s (xs.drop k)) : okT V vs s u ∧ ((evT vs s u).2 = true → okL V vs (evT vs s u).1 (xs.drop (k + 1))) := by
  obtain ⟨h1, h2⟩ := List.getElem?_eq_some_iff.1 h
  rw [List.drop_eq_getElem_cons h1, h2, okL] at hk
  exact hk

theorem evL_drop {σ : Type} {vs : σ → Tm → σ × Bool} {s : σ} {xs : List Tm} {k : Nat} {u : Tm} (h : xs[k]? = some u) : evL vs s (xs.drop k) = if (evT vs s u).2 then evL vs (evT vs s u).1 (xs.drop (k + 1)) else ((evT vs s u).1, false) := by
  obtain ⟨h1, h2⟩ := List.getElem?_eq_some_iff.1 h
  rw [List.drop_eq_getElem_cons h1, h2, evL]

/-- What is asked of the function that is handed over. -/
structure VisC {σ : Type} (V : σ → Tm → Prop) (vs : σ → Tm → σ × Bool) (k : FuncId) (cv : Array Value) (C D N : Nat → Prop) (I : σ → World → Prop) (B0 : Nat) : Prop where
  ent : ∀ (args : Array Value) (w : World), (callFunc k args).run Try.prog w = .ok (.enter k args) w
  call : ∀ (s : σ) (t : Tm) (A : Option Addr) (c : Nat) (W : World), B0 ≤ W.heap.size → I s W → I64 t.fn → V s t → ArgsN W N A t.args → Calls Try.prog k (#[.agg #[.int .i64 t.fn, .slice A t.args.length c]] ++ cv) W fun e W' => e = .returned (.bool (vs s t).2) ∧ I (vs s t).1 W' ∧ KeepsC C W W'
  stay : ∀ s W W', I s W → Keeps D W W' → I s W'
  cb : ∀ g, C g → g < B0
  db : ∀ g, D g → g < B0
  nb : ∀ g, N g → g < B0
  nc : ∀ g, N g → ¬ C g

def VisPost {σ : Type} (C : Nat → Prop) (I : σ → World → Prop) (r : σ × Bool) (w : World) (e : Ending) (w' : World) : Prop := e = .returned (.bool r.2) ∧ I r.1 w' ∧ KeepsC C w w'

section

variable {σ : Type} {V : σ → Tm → Prop} {vs : σ → Tm → σ × Bool} {k : FuncId} {cv : Array Value} {C D N : Nat → Prop} {I : σ → World → Prop} {B0 : Nat}

def EachAt (V : σ → Tm → Prop) (vs : σ → Tm → σ × Bool) (k : FuncId) (cv : Array Value) (C N : Nat → Prop) (I : σ → World → Prop) (B0 vb wb : Nat) (t : Tm) : Prop :=
  ∀ (s : σ) (A : Option Addr) (c : Nat) (w : World), B0 ≤ w.heap.size → Boxed w vb 65 (.func (.func k) #[] cv) → Boxed w wb 65 (.func (.func 65) #[] #[.pointer (some ⟨vb, 0, none⟩), .pointer (some ⟨wb, 0, none⟩)]) →
    I s w → I64 t.fn → okT V vs s t → ArgsN w N A t.args →
    Calls Try.prog 65 #[.agg #[.int .i64 t.fn, .slice A t.args.length c], .pointer (some ⟨vb, 0, none⟩), .pointer (some ⟨wb, 0, none⟩)] w (VisPost C I (evT vs s t) w)

set_option maxHeartbeats 2000000 in
theorem each1_any (hN : VisC V vs k cv C D N I B0) (vb wb : Nat) (hvC : ¬ C vb) (hwC : ¬ C wb) (t : Tm) : EachAt V vs k cv C N I B0 vb wb t := by
  refine Tm.ind (P := EachAt V vs k cv C N I B0 vb wb) (fun f xs ih => ?_) t
  intro s A c w hB0 hvb hwb hs hf hV hA
  rw [okT] at hV
  obtain ⟨hV0, hVx⟩ := hV
  simp only [Tm.fn, Tm.args] at hf hA ⊢
  have hlen := hA.len
  have q0 := heap_alloc_new w (.cells #[.int .i64 f, .slice A xs.length c] 27)
  obtain ⟨W, hW⟩ : ∃ W, w.alloc (.cells #[.int .i64 f, .slice A xs.length c] 27) = W := ⟨_, rfl⟩
  have hB : Below w.heap.size w W := by rw [← hW]; exact (Below.refl _ _).alloc (Nat.le_refl _) _
  rw [hW] at q0
  have hWs : w.heap.size < W.heap.size := (Array.getElem?_eq_some_iff.1 q0).1
  have hnC : ∀ g, w.heap.size ≤ g → ¬ C g := fun g h e => by have := hN.cb _ e; omega
  have hnD : ∀ g, D g → g < w.heap.size := fun g e => by have := hN.db _ e; omega
  have hkW : KeepsC C w W := KeepsC.of_below hB
  obtain ⟨x0, x1, _, _⟩ := cells_two q0
  have hcv := Boxed.cell (show Boxed W vb _ _ from (hB.block _ hvb.lt).trans hvb)
  have H1 := Lib.hid (hN.call s (.node f xs) A c W (by omega) (hN.stay s w W hs ((Keeps.of_below hB).mono fun g e => hnD g e)) hf hV0 (hA.keep fun g e => hB.block g (by have := hN.nb g e; omega)))
  have hent := hN.ent
  have HW := Lib.hid hW
  have HN := Lib.hid hN
  have HA := Lib.hid hA
  have hev : evT vs s (.node f xs) = if (vs s (.node f xs)).2 then evL vs (vs s (.node f xs)).1 xs else ((vs s (.node f xs)).1, false) := by rw [evT]
  have Hev := Lib.hid hev
  obtain ⟨r0, hr0⟩ : ∃ r0, vs s (.node f xs) = r0 := ⟨_, rfl⟩
  have H1 : Hid (Calls Try.prog k (#[.agg #[.int .i64 f, .slice A xs.length c]] ++ cv) W fun e W' => e = .returned (.bool r0.2) ∧ I r0.1 W' ∧ KeepsC C W W') := by rw [← hr0]; exact H1
  rw [hr0] at Hev hVx
  clear hW hA hs hN hev hr0
  rcases hr : r0.2 with _ | _
  · have Hr := Lib.hid hr
    clear hr hVx
    go_enter Try.func65, Try.ntmps65
    go_upto_region 1 with fail
    rw [HW.out]
    go_wp2_with (first
      | ((with_reducible refine H1.out.mono ?_); go_must (rintro e w1 ⟨rfl, hI1, hk1⟩; rw [Hr.out]; have hI1 := Lib.hid hI1))
      | fail)
    go_ret
    exact ⟨by rw [Hev.out, Hr.out]; rfl, by rw [Hev.out, Hr.out]; exact hI1.out, hkW.trans hk1⟩
  · have Hr := Lib.hid hr
    have HV0 : Hid (okL V vs r0.1 (xs.drop 0)) := Lib.hid (hVx hr)
    clear hr hVx
    have Hev : Hid (evT vs s (.node f xs) = evL vs r0.1 xs) := Lib.hid (by rw [Hev.out, Hr.out]; rfl)
    have Hvb := Lib.hid hvb
    have Hwb := Lib.hid hwb
    clear hvb hwb
    go_enter Try.func65, Try.ntmps65
    go_upto_region 1 with fail
    rw [HW.out]
    go_wp2_with (first
      | ((with_reducible refine H1.out.mono ?_); go_must (rintro e w1 ⟨rfl, hI1, hk1⟩; rw [Hr.out]; have hI1 := Lib.hid hI1; obtain ⟨y0, y1, _, _⟩ := cells_two ((hk1.block hWs (hnC _ (Nat.le_refl _))).trans q0)))
      | fail)
    have hK1 := hkW.trans hk1
    have HE0 : Hid (evL vs r0.1 xs = evL vs r0.1 (xs.drop 0)) := Lib.hid rfl
    clear x0 x1 hcv
    go_loopw [14] (fun i wr => ∃ (j : Nat) (s' : σ), j ≤ xs.length ∧ i = .int .i64 (j : Int) ∧ KeepsC C w wr ∧ Hid (I s' wr) ∧ Hid (evL vs r0.1 xs = evL vs s' (xs.drop j)) ∧ Hid (okL V vs s' (xs.drop j))) (fun i _ => xs.length - (intOf i).toNat)
    case atStart => exact ⟨0, r0.1, Nat.zero_le _, rfl, hK1, hI1, HE0, HV0⟩
    case round =>
      obtain ⟨j, s', hj, rfl, hKr, HI, HE, HV⟩ := hrel
      by_cases hlt : j < xs.length
      · obtain ⟨u, hu⟩ : ∃ u, xs[j]? = some u := ⟨_, List.getElem?_eq_getElem hlt⟩
        obtain ⟨bb, off, A1, c1, rfl, ha⟩ := (HA.out.keep fun g e => hKr.block (by have := HN.out.nb g e; omega) (HN.out.nc g e)).get hu
        have e0 := ha.c0
        have e1 := ha.c1
        have hzr := hKr.size
        have r0' := heap_alloc_new wr (.cells #[.int .i64 u.fn, .slice A1 u.args.length c1] 27)
        obtain ⟨W1, hW1⟩ : ∃ W1, wr.alloc (.cells #[.int .i64 u.fn, .slice A1 u.args.length c1] 27) = W1 := ⟨_, rfl⟩
        have hB1 : Below wr.heap.size wr W1 := by rw [← hW1]; exact (Below.refl _ _).alloc (Nat.le_refl _) _
        rw [hW1] at r0'
        have hW1s : wr.heap.size < W1.heap.size := (Array.getElem?_eq_some_iff.1 r0').1
        obtain ⟨z0, z1, _, _⟩ := cells_two r0'
        have hKW1 : KeepsC C w W1 := hKr.trans (KeepsC.of_below hB1)
        have hvb1 : Boxed W1 vb 65 (.func (.func k) #[] cv) := (hKW1.block Hvb.out.lt hvC).trans Hvb.out
        have hwb1 : Boxed W1 wb 65 (.func (.func 65) #[] #[.pointer (some ⟨vb, 0, none⟩), .pointer (some ⟨wb, 0, none⟩)]) := (hKW1.block Hwb.out.lt hwC).trans Hwb.out
        have hcw := hwb1.cell
        have hmem := List.mem_of_getElem? hu
        obtain ⟨hVu, hVn⟩ := okL_drop hu HV.out
        have hcall := Lib.hid (ih u hmem s' A1 c1 W1 (by omega) hvb1 hwb1 (HN.out.stay s' wr W1 HI.out ((Keeps.of_below hB1).mono fun g e => by have := hnD g e; show g < wr.heap.size; omega)) ha.hi hVu (ha.sub.keep fun g e => hB1.block g (by have := HN.out.nb g e; omega)))
        have hd := evL_drop (vs := vs) (s := s') hu
        have HW1 := Lib.hid hW1
        obtain ⟨r1, hr1⟩ : ∃ r1, evT vs s' u = r1 := ⟨_, rfl⟩
        rw [hr1] at hcall hd hVn
        have HVn := Lib.hid hVn
        have Hd := Lib.hid hd
        clear hW1 ha hu hd hr1 hvb1 hwb1 hVu hVn
        rcases hr : r1.2 with _ | _
        · have Hr1 := Lib.hid hr
          clear hr
          go_upto_region 6 with fail
          rw [HW1.out]
          go_wp2_with (first
            | (go_at_call 65; (with_reducible refine hcall.out.mono ?_); go_must (rintro e w2 ⟨rfl, hI2, hk2⟩; rw [Hr1.out]; have hI2 := Lib.hid hI2))
            | fail)
          go_ret
          have hfin : evT vs s (.node f xs) = (r1.1, false) := by rw [Hev.out, HE.out, Hd.out, Hr1.out]; rfl
          exact ⟨ret_bool (by rw [hfin]), by rw [hfin]; exact hI2.out, hKW1.trans hk2⟩
        · have Hr1 := Lib.hid hr
          have HE2 : Hid (evL vs r0.1 xs = evL vs r1.1 (xs.drop (j + 1))) := Lib.hid (by rw [HE.out, Hd.out, hr]; rfl)
          have HV2 : Hid (okL V vs r1.1 (xs.drop (j + 1))) := Lib.hid (HVn.out hr)
          clear hr
          go_upto_region 6 with fail
          rw [HW1.out]
          go_wp2_with (first
            | (go_at_call 65; (with_reducible refine hcall.out.mono ?_); go_must (rintro e w2 ⟨rfl, hI2, hk2⟩; rw [Hr1.out]; have hI2 := Lib.hid hI2; have hK2 := hKW1.trans hk2))
            | fail)
          go_roundw
          case rel => exact ⟨j + 1, r1.1, by omega, by go_num, hK2, hI2, HE2, HV2⟩
          case measure => simp [intOf]; omega
      · obtain rfl : j = xs.length := by omega
        have hfin : Hid (evT vs s (.node f xs) = (s', true)) := Lib.hid (by rw [Hev.out, HE.out, List.drop_length, evL])
        go_wp2
        go_ret
        exact ⟨ret_bool (by rw [hfin.out]), by rw [hfin.out]; exact HI.out, hKr⟩

@[local go_sem] theorem run_store_visit {P : Program} {w : World} {a : Addr} {m : Mode} (f : Fn) (ts cs : Array Value) : (store a (.func f ts cs) m).run P w = stored P w a (.func f ts cs) m := run_store P w a _ m rfl

set_option maxHeartbeats 1000000 in
theorem each_any (hN : VisC V vs k cv C D N I B0) (t : Tm) (s : σ) (A : Option Addr) (c : Nat) (w : World) (hB0 : B0 ≤ w.heap.size) (hs : I s w) (hf : I64 t.fn) (hV : okT V vs s t) (hA : ArgsN w N A t.args) :
    Calls Try.prog 42 #[.agg #[.int .i64 t.fn, .slice A t.args.length c], .func (.func k) #[] cv] w (VisPost C I (evT vs s t) w) := by
  obtain ⟨q0, q1, q2⟩ := heap3 w (.cells #[.int .i64 t.fn, .slice A t.args.length c] 27) (.cells #[.func (.func k) #[] cv] 65) (.cells #[.func (.func 65) #[] #[.pointer (some ⟨w.heap.size + 1, 0, none⟩), .pointer (some ⟨w.heap.size + 1 + 1, 0, none⟩)]] 65)
  obtain ⟨W, hW⟩ : ∃ W, (((w.alloc (.cells #[.int .i64 t.fn, .slice A t.args.length c] 27)).alloc (.cells #[.func (.func k) #[] cv] 65)).alloc (.cells #[.func (.func 65) #[] #[.pointer (some ⟨w.heap.size + 1, 0, none⟩), .pointer (some ⟨w.heap.size + 1 + 1, 0, none⟩)]] 65)) = W := ⟨_, rfl⟩
  have hB : Below w.heap.size w W := by rw [← hW]; exact (((Below.refl _ _).alloc (Nat.le_refl _) _).alloc (by simp) _).alloc (by simp; omega) _
  rw [hW] at q0 q1 q2
  have hWs : w.heap.size + 1 + 1 < W.heap.size := (Array.getElem?_eq_some_iff.1 q2).1
  have hnC : ∀ g, w.heap.size ≤ g → ¬ C g := fun g h e => by have := hN.cb _ e; omega
  obtain ⟨x0, x1, _, _⟩ := cells_two q0
  have y0 := Boxed.cell (show Boxed W (w.heap.size + 1 + 1) _ _ from q2)
  have H1 := Lib.hid (each1_any hN (w.heap.size + 1) (w.heap.size + 1 + 1) (hnC _ (by omega)) (hnC _ (by omega)) t s A c W (by omega) q1 q2 (hN.stay s w W hs ((Keeps.of_below hB).mono fun g e => by have := hN.db _ e; show g < w.heap.size; omega)) hf hV (hA.keep fun g e => hB.block g (by have := hN.nb g e; omega)))
  have HW := Lib.hid hW
  clear hW hA hs hN
  go_enter Try.func42, Try.ntmps42
  go_upto_region 3 with fail
  rw [HW.out]
  go_wp2_with (first
    | (go_at_call 65; (with_reducible refine H1.out.mono ?_); go_must (rintro e w2 ⟨rfl, hI2, hk2⟩; have hI2 := Lib.hid hI2))
    | fail)
  go_ret
  exact ⟨rfl, hI2.out, (KeepsC.of_below hB).trans hk2⟩

end

end Go.Proofs.Ytnmpeodngipfcaa

/- kbo: weights of tops, what an order knows, relations. -/

namespace Go.Proofs.Ytnmpeodngipfcaa

open Go.RowKit Go.Shelf
set_option maxRecDepth 100000

/-- An order, in plain words. -/
structure Odr where
  lpo : Bool
  prec : List Int
  wts : List Int
  var : Int

structure OdrM (w : World) (B : Nat) (o : Odr) (P Q : Option Addr) : Prop where
  p : Ints w B P o.prec
  q : Ints w B Q o.wts
  v : I64 o.var

theorem OdrM.on {w w' : World} {o : Odr} {P Q : Option Addr} (h : OdrM w w.heap.size o P Q) (hb : Below w.heap.size w w') : OdrM w' w'.heap.size o P Q := ⟨h.p.on hb, h.q.on hb, h.v⟩

theorem Ints.get {w : World} {B : Nat} {A : Option Addr} {l : List Int} (h : Ints w B A l) {i : Nat} {x : Int} (hx : l[i]? = some x) : ∃ b off, A = some ⟨b, off, none⟩ ∧ b < B ∧ w.cell? ⟨b, off + i, none⟩ = some (.int .i64 x) := by
  have hlt := (List.getElem?_eq_some_iff.1 hx).1
  obtain ⟨b, off, hA, hb, hc⟩ := h.ad (by omega)
  exact ⟨b, off, hA, hb, hc i x hx⟩

/-- A weight as it counts. -/
def capI (n : Int) : Int := max 0 (min n 2147483647)

theorem capI_bd (n : Int) : 0 ≤ capI n ∧ capI n ≤ 2147483647 := by unfold capI; omega

theorem capI_64 (n : Int) : I64 (capI n) := ⟨by have := (capI_bd n).1; omega, by have := (capI_bd n).2; omega⟩

def wtI (o : Odr) (f : Int) : Int := capI (if f < 0 then o.var else o.wts.getD f.toNat 0)

theorem wtI_bd (o : Odr) (f : Int) : 0 ≤ wtI o f ∧ wtI o f ≤ 2147483647 := capI_bd _

theorem capped_any (n : Int) (w : World) : Calls Try.prog 45 #[.int .i64 n] w fun e w' => e = .returned (.int .i64 (capI n)) ∧ w' = w := by
  by_cases h1 : 2147483647 < n
  · go_enter Try.func45, Try.ntmps45
    go_wp2
    go_ret
    exact ⟨ret_int (by unfold capI; omega), rfl⟩
  · by_cases h2 : 0 < n
    · go_enter Try.func45, Try.ntmps45
      go_wp2
      go_ret
      exact ⟨ret_int (by unfold capI; omega), rfl⟩
    · go_enter Try.func45, Try.ntmps45
      go_wp2
      go_ret
      exact ⟨ret_int (by unfold capI; omega), rfl⟩

set_option maxHeartbeats 1000000 in
theorem kboWeight1_any (o : Odr) (t : Tm) (P Q A : Option Addr) (pc qc c : Nat) (w : World) (hM : OdrM w w.heap.size o P Q) (hk : t.fn < 0 ∨ t.fn < (o.wts.length : Int)) :
    Calls Try.prog 44 #[.agg #[.bool o.lpo, .slice P o.prec.length pc, .slice Q o.wts.length qc, .int .i64 o.var], .agg #[.int .i64 t.fn, .slice A t.args.length c]] w fun e w' => e = .returned (.int .i64 (wtI o t.fn)) ∧ Below w.heap.size w w' := by
  have hB : Below w.heap.size w ((w.alloc (.cells #[.bool o.lpo, .slice P o.prec.length pc, .slice Q o.wts.length qc, .int .i64 o.var] 24)).alloc (.cells #[.int .i64 t.fn, .slice A t.args.length c] 27)) := ((Below.refl _ _).alloc (Nat.le_refl _) _).alloc (by simp) _
  by_cases hneg : t.fn < 0
  · have hw := Lib.hid (show wtI o t.fn = capI o.var by unfold wtI; rw [if_pos hneg])
    go_enter Try.func44, Try.ntmps44
    go_wp2_with (first
      | (go_at_call 45; refine (capped_any _ _).mono ?_; go_must (rintro e w1 ⟨rfl, rfl⟩))
      | fail)
    go_ret
    exact ⟨by rw [hw.out]; rfl, hB⟩
  · obtain ⟨k, hk0⟩ : ∃ k : Nat, t.fn = (k : Int) := ⟨t.fn.toNat, by omega⟩
    rw [hk0] at hneg hk ⊢
    have hkl : k < o.wts.length := by omega
    obtain ⟨x, hx⟩ : ∃ x, o.wts[k]? = some x := ⟨_, List.getElem?_eq_getElem hkl⟩
    have hw := Lib.hid (show wtI o (k : Int) = capI x by unfold wtI; rw [if_neg hneg, List.getD_eq_getElem?_getD, show ((k : Int).toNat) = k from rfl, hx]; rfl)
    obtain ⟨b, off, rfl, hb, hc⟩ := hM.q.get hx
    rw [hk0] at hB
    have hkl' : (k : Int) < (o.wts.length : Int) := by omega
    have hc2 := cell_on hB hb hc
    go_enter Try.func44, Try.ntmps44
    go_wp2_with (first
      | (go_at_call 45; refine (capped_any _ _).mono ?_; go_must (rintro e w1 ⟨rfl, rfl⟩))
      | fail)
    go_ret
    exact ⟨by rw [hw.out]; rfl, hB⟩

/-- A relation the other way round. -/
def relT (r : Int) : Int := if r = 1 then 3 else if r = 3 then 1 else r

theorem turned_any (r : Int) (h0 : 0 ≤ r) (h3 : r ≤ 3) (w : World) : Calls Try.prog 84 #[.int .i64 r] w fun e w' => e = .returned (.int .i64 (relT r)) ∧ w' = w := by
  have hc : r = 0 ∨ r = 1 ∨ r = 2 ∨ r = 3 := by omega
  rcases hc with rfl | rfl | rfl | rfl
  · have hix : (Instr.index 122 (.agg #[.int .i64 0, .int .i64 3, .int .i64 2, .int .i64 1]) (.int .i64 0)).run Try.prog w = .ok (.int .i64 0) w := by kernel_rfl
    go_enter Try.func84, Try.ntmps84
    go_wp2
    go_ret
    exact ⟨rfl, rfl⟩
  · have hix : (Instr.index 122 (.agg #[.int .i64 0, .int .i64 3, .int .i64 2, .int .i64 1]) (.int .i64 1)).run Try.prog w = .ok (.int .i64 3) w := by kernel_rfl
    go_enter Try.func84, Try.ntmps84
    go_wp2
    go_ret
    exact ⟨rfl, rfl⟩
  · have hix : (Instr.index 122 (.agg #[.int .i64 0, .int .i64 3, .int .i64 2, .int .i64 1]) (.int .i64 2)).run Try.prog w = .ok (.int .i64 2) w := by kernel_rfl
    go_enter Try.func84, Try.ntmps84
    go_wp2
    go_ret
    exact ⟨rfl, rfl⟩
  · have hix : (Instr.index 122 (.agg #[.int .i64 0, .int .i64 3, .int .i64 2, .int .i64 1]) (.int .i64 3)).run Try.prog w = .ok (.int .i64 1) w := by kernel_rfl
    go_enter Try.func84, Try.ntmps84
    go_wp2
    go_ret
    exact ⟨rfl, rfl⟩

/-- What a comparison of numbers says. -/
def relC (c : Int) : Int := if c > 0 then 3 else if c < 0 then 1 else 2

theorem relation_pos (c : Int) (h : c ≥ 0) (w : World) : Calls Try.prog 64 #[.int .i64 c] w fun e w' => e = .returned (.int .i64 (relC c)) ∧ w' = w := by
  by_cases hp : c > 0
  · have hr := Lib.hid (show relC c = 3 by unfold relC; rw [if_pos hp])
    go_enter Try.func64, Try.ntmps64
    go_wp2
    go_ret
    exact ⟨by rw [hr.out]; rfl, rfl⟩
  · obtain rfl : c = 0 := by omega
    go_enter Try.func64, Try.ntmps64
    go_wp2
    go_ret
    exact ⟨rfl, rfl⟩

theorem relation_any (c : Int) (hlo : -9223372036854775807 ≤ c) (hhi : c ≤ 9223372036854775807) (w : World) : Calls Try.prog 64 #[.int .i64 c] w fun e w' => e = .returned (.int .i64 (relC c)) ∧ w' = w := by
  by_cases h : c ≥ 0
  · exact relation_pos c h w
  · have hr := Lib.hid (show relC c = 1 by unfold relC; rw [if_neg (by omega), if_pos (by omega)])
    have hr2 : relC (-c) = 3 := by unfold relC; rw [if_pos (by omega)]
    have h1 := Lib.hid (relation_pos (-c) (by omega) w)
    have h2 := Lib.hid (turned_any 3 (by omega) (by omega) w)
    rw [hr2] at h1
    have hn1 : ¬ c > 0 := by omega
    have hn2 : c < 0 := by omega
    clear hr2 h
    go_enter Try.func64, Try.ntmps64
    go_wp2_with (first
      | (go_at_call 64; (with_reducible refine h1.out.mono ?_); go_must (rintro e w1 ⟨rfl, rfl⟩))
      | (go_at_call 84; (with_reducible refine h2.out.mono ?_); go_must (rintro e w1 ⟨rfl, rfl⟩))
      | fail)
    go_ret
    exact ⟨by rw [hr.out]; rfl, rfl⟩

/-- Does an order know a term's top? -/
def knowTop (o : Odr) (f : Int) (n : Nat) : Bool := if f < 0 then decide (n = 0) else decide (f < (o.prec.length : Int)) && decide (f < (o.wts.length : Int))

mutual
def knowT (o : Odr) : Tm → Bool
  | .node f xs => knowTop o f xs.length && knowL o xs
def knowL (o : Odr) : List Tm → Bool
  | [] => true
  | t :: ts => knowT o t && knowL o ts
end

set_option maxHeartbeats 1000000 in
theorem knows1_any (o : Odr) (t : Tm) (P Q A : Option Addr) (pc qc c bo : Nat) (w : World) (hbo : w.heap[bo]? = some (.cells #[.bool o.lpo, .slice P o.prec.length pc, .slice Q o.wts.length qc, .int .i64 o.var] 24)) :
    Calls Try.prog 61 #[.agg #[.int .i64 t.fn, .slice A t.args.length c], .pointer (some ⟨bo, 0, none⟩)] w fun e w' => e = .returned (.bool (knowTop o t.fn t.args.length)) ∧ Below w.heap.size w w' := by
  have hlt := (Array.getElem?_eq_some_iff.1 hbo).1
  have hB : Below w.heap.size w (w.alloc (.cells #[.int .i64 t.fn, .slice A t.args.length c] 27)) := (Below.refl _ _).alloc (Nat.le_refl _) _
  have q0 := (hB.block bo hlt).trans hbo
  have c1 : (w.alloc (.cells #[.int .i64 t.fn, .slice A t.args.length c] 27)).cell? ⟨bo, 1, none⟩ = some (.slice P o.prec.length pc) := by simp only [World.cell?, q0]; rfl
  have c2 : (w.alloc (.cells #[.int .i64 t.fn, .slice A t.args.length c] 27)).cell? ⟨bo, 2, none⟩ = some (.slice Q o.wts.length qc) := by simp only [World.cell?, q0]; rfl
  clear q0 hbo
  by_cases hneg : t.fn < 0
  · have hk := Lib.hid (show knowTop o t.fn t.args.length = decide (t.args.length = 0) by unfold knowTop; rw [if_pos hneg])
    go_enter Try.func61, Try.ntmps61
    go_wp2
    go_ret
    exact ⟨ret_bool (by rw [hk.out, Bool.eq_iff_iff, beq_iff_eq, decide_eq_true_eq]; omega), hB⟩
  · by_cases h1 : t.fn < (o.prec.length : Int)
    · have hk := Lib.hid (show knowTop o t.fn t.args.length = decide (t.fn < (o.wts.length : Int)) by unfold knowTop; rw [if_neg hneg, decide_eq_true h1, Bool.true_and])
      go_enter Try.func61, Try.ntmps61
      go_wp2
      go_ret
      exact ⟨ret_bool (by rw [hk.out]), hB⟩
    · have hk := Lib.hid (show knowTop o t.fn t.args.length = false by unfold knowTop; rw [if_neg hneg, decide_eq_false h1, Bool.false_and])
      go_enter Try.func61, Try.ntmps61
      go_wp2
      go_ret
      exact ⟨ret_bool (by rw [hk.out]), hB⟩

theorem cells_four {W : World} {b : Nat} {x y z u : Value} {t : TypeId} (h : W.heap[b]? = some (.cells #[x, y, z, u] t)) : W.cell? ⟨b, 0, none⟩ = some x ∧ W.cell? ⟨b, 1, none⟩ = some y ∧ W.cell? ⟨b, 2, none⟩ = some z ∧ W.cell? ⟨b, 3, none⟩ = some u := by
  refine ⟨?_, ?_, ?_, ?_⟩ <;> simp [World.cell?, h]

def kvis (o : Odr) (s : Unit) (t : Tm) : Unit × Bool := (s, knowTop o t.fn t.args.length)

theorem knows1_vis (o : Odr) (P Q : Option Addr) (pc qc bo B0 : Nat) (hbo : bo < B0) :
    VisC (fun _ _ => True) (kvis o) 61 #[.pointer (some ⟨bo, 0, none⟩)] (fun _ => False) (· < B0) (· < B0)
      (fun _ W => W.heap[bo]? = some (.cells #[.bool o.lpo, .slice P o.prec.length pc, .slice Q o.wts.length qc, .int .i64 o.var] 24)) B0 where
  ent := enters_of Try.func61 (by kernel_rfl) rfl
  call := fun s t A c W hB0 hI hf _ hA => (knows1_any o t P Q A pc qc c bo W hI).mono fun e w' ⟨he, hb⟩ => ⟨he, (hb.block bo (Nat.lt_of_lt_of_le hbo hB0)).trans hI, KeepsC.of_below hb⟩
  stay := fun s W W' h hk => (hk.block bo hbo).trans h
  cb := fun g e => e.elim
  db := fun g e => e
  nb := fun g e => e
  nc := fun g _ e => e

theorem ev_know (o : Odr) (t : Tm) : (evT (kvis o) () t).2 = knowT o t := by
  have key : ∀ xs : List Tm, (∀ t ∈ xs, (evT (kvis o) () t).2 = knowT o t) → (evL (kvis o) () xs).2 = knowL o xs := by
    intro xs
    induction xs with
    | nil => intro _; simp only [evL, knowL]
    | cons x xs ih =>
      intro h
      simp only [evL, knowL, ← h x (by simp)]
      split
      · rename_i hh
        rw [ih fun t ht => h t (by simp [ht]), hh, Bool.true_and]
      · rename_i hh
        rw [Bool.not_eq_true] at hh
        rw [hh, Bool.false_and]
  refine Tm.ind (P := fun t => (evT (kvis o) () t).2 = knowT o t) (fun f xs ih => ?_) t
  have e : (kvis o () (.node f xs)).2 = knowTop o f xs.length := rfl
  rw [evT, knowT, ← e]
  split
  · rename_i hh
    rw [hh, Bool.true_and]
    exact key xs ih
  · rename_i hh
    rw [Bool.not_eq_true] at hh
    rw [hh, Bool.false_and]

theorem ok_true {σ : Type} (vs : σ → Tm → σ × Bool) (t : Tm) : ∀ s, okT (fun _ _ => True) vs s t := by
  have key : ∀ xs : List Tm, (∀ t ∈ xs, ∀ s, okT (fun _ _ => True) vs s t) → ∀ s, okL (fun _ _ => True) vs s xs := by
    intro xs
    induction xs with
    | nil => intro _ s; simp only [okL]
    | cons x xs ih => intro h s; rw [okL]; exact ⟨h x (by simp) s, fun _ => ih (fun t ht => h t (by simp [ht])) _⟩
  refine Tm.ind (P := fun t => ∀ s, okT (fun _ _ => True) vs s t) (fun f xs ih s => ?_) t
  rw [okT]
  exact ⟨trivial, fun _ => key xs ih _⟩

set_option maxHeartbeats 1000000 in
theorem kboKnows_any (o : Odr) (t : Tm) (P Q A : Option Addr) (pc qc c : Nat) (w : World) (hf : I64 t.fn) (hA : Args w w.heap.size A t.args) :
    Calls Try.prog 40 #[.agg #[.bool o.lpo, .slice P o.prec.length pc, .slice Q o.wts.length qc, .int .i64 o.var], .agg #[.int .i64 t.fn, .slice A t.args.length c]] w fun e w' => e = .returned (.bool (knowT o t)) ∧ Below w.heap.size w w' := by
  obtain ⟨q0, q1⟩ := heap2 w (.cells #[.bool o.lpo, .slice P o.prec.length pc, .slice Q o.wts.length qc, .int .i64 o.var] 24) (.cells #[.int .i64 t.fn, .slice A t.args.length c] 27)
  obtain ⟨W, hW⟩ : ∃ W, ((w.alloc (.cells #[.bool o.lpo, .slice P o.prec.length pc, .slice Q o.wts.length qc, .int .i64 o.var] 24)).alloc (.cells #[.int .i64 t.fn, .slice A t.args.length c] 27)) = W := ⟨_, rfl⟩
  have hB : Below w.heap.size w W := by rw [← hW]; exact ((Below.refl _ _).alloc (Nat.le_refl _) _).alloc (by simp) _
  rw [hW] at q0 q1
  have hWs : w.heap.size + 1 < W.heap.size := (Array.getElem?_eq_some_iff.1 q1).1
  obtain ⟨x0, x1, _, _⟩ := cells_two q1
  have H1 := Lib.hid (each_any (knows1_vis o P Q pc qc w.heap.size W.heap.size (by omega)) t () A c W (Nat.le_refl _) q0 hf (ok_true _ t ()) (hA.on hB).toN)
  have hev := Lib.hid (ev_know o t)
  have HW := Lib.hid hW
  clear hW hA q0 q1
  go_enter Try.func40, Try.ntmps40
  go_upto_region 1 with fail
  rw [HW.out]
  go_wp2_with (first
    | (go_at_call 42; (with_reducible refine H1.out.mono ?_); go_must (rintro e w1 ⟨rfl, _, hk1⟩))
    | fail)
  go_ret
  exact ⟨by rw [hev.out]; rfl, hB.trans (Keeps.below hk1 fun g hg => ⟨by omega, fun e => e⟩)⟩

end Go.Proofs.Ytnmpeodngipfcaa

/- The document's own: ranks, highest (of a row of numbers). -/

namespace Go.Proofs.Ytnmpeodngipfcaa

open Go.RowKit
set_option maxRecDepth 100000

/-- Is another one higher? -/
def overI (p : List Int) (i k : Nat) : Bool := decide (k ≠ i) && decide (p.getD i 0 < p.getD k 0)

def highB (p : List Int) (i : Nat) : Bool := (List.range p.length).all fun k => !overI p i k

theorem highB_no {p : List Int} {i k : Nat} (hk : k < p.length) (h : overI p i k = true) : highB p i = false := by
  unfold highB
  rw [List.all_eq_false]
  exact ⟨k, List.mem_range.2 hk, by rw [h]; decide⟩

theorem highB_yes {p : List Int} {i : Nat} (h : ∀ j, j < p.length → overI p i j = false) : highB p i = true := by
  unfold highB
  rw [List.all_eq_true]
  intro j hj
  rw [h j (List.mem_range.1 hj)]; rfl

theorem all_next {f : Nat → Bool} {k : Nat} (h : ∀ j, j < k → f j = false) (hk : f k = false) : ∀ j, j < k + 1 → f j = false := by
  intro j hj
  by_cases e : j = k
  · subst e; exact hk
  · exact h j (by omega)

theorem getD_of {p : List Int} {i : Nat} {x : Int} (h : p[i]? = some x) : p.getD i 0 = x := by rw [List.getD_eq_getElem?_getD, h]; rfl

theorem drewN_two (w : World) (a b : Nat) : (w.drewN a).drewN b = w.drewN (a + b) := by simp

set_option maxHeartbeats 1000000 in
theorem refHighest_any (p : List Int) (i : Nat) (hi : i < p.length) (A : Option Addr) (c : Nat) (w : World) (hA : Ints w w.heap.size A p) :
    Calls Try.prog 69 #[.slice A p.length c, .int .i64 (i : Int)] w fun e w' => e = .returned (.bool (highB p i)) ∧ Below w.heap.size w w' := by
  obtain ⟨y, hy⟩ : ∃ y, p[i]? = some y := ⟨_, List.getElem?_eq_getElem hi⟩
  obtain ⟨b, off, rfl, hb, hci⟩ := hA.get hy
  have HA := Lib.hid hA
  have Hy := Lib.hid hy
  have hlen := hA.len
  clear hA hy
  go_enter Try.func69, Try.ntmps69
  go_wp2
  go_loopw [5] (fun i' wr => ∃ k q : Nat, k ≤ p.length ∧ i' = .int .i64 (k : Int) ∧ wr = w.drewN q ∧ Hid (∀ j, j < k → overI p i j = false)) (fun i' _ => p.length - (intOf i').toNat)
  case atStart => exact ⟨0, 0, Nat.zero_le _, rfl, rfl, fun j h0 => absurd h0 (Nat.not_lt_zero _)⟩
  case round =>
    obtain ⟨k, q, hk, rfl, rfl, HB⟩ := hrel
    by_cases hlt : k < p.length
    · obtain ⟨x, hx⟩ : ∃ x, p[k]? = some x := ⟨_, List.getElem?_eq_getElem hlt⟩
      obtain ⟨b', off', hAA, _, hck⟩ := HA.out.get hx
      simp only [Option.some.injEq, Addr.mk.injEq, and_true] at hAA
      obtain ⟨hA1, hA2⟩ := hAA
      rw [← hA1, ← hA2] at hck
      have Hx := Lib.hid hx
      clear hx hA1 hA2
      by_cases hki : k = i
      · have hov := Lib.hid (show overI p i k = false by unfold overI; rw [hki]; simp)
        have Hki := Lib.hid hki
        have g1 : ((k : Int) != (i : Int)) = false := by rw [hki]; simp
        have g2 : (k != i) = false := by rw [hki]; simp
        clear hki
        go_wp2
        go_quiet (fail)
        go_wp2
        go_roundw
        case rel => exact ⟨k + 1, q + nq, by omega, by go_num, rfl, all_next HB.out hov.out⟩
        case measure => simp [intOf]; omega
      · have g1 : ((k : Int) != (i : Int)) = true := by simp; omega
        have g2 : (k != i) = true := by simpa using hki
        by_cases hgt : y < x
        · have hfin := Lib.hid (highB_no hlt (show overI p i k = true by unfold overI; rw [getD_of Hx.out, getD_of Hy.out]; simp [hki, hgt]))
          go_wp2
          go_quiet (fail)
          go_wp2
          go_ret
          exact ⟨ret_bool hfin.out.symm, bl_drewN (bl_drewN (Below.refl _ _) _) _⟩
        · have hov := Lib.hid (show overI p i k = false by unfold overI; rw [getD_of Hx.out, getD_of Hy.out]; simp [hgt])
          go_wp2
          go_quiet (fail)
          go_wp2
          go_roundw
          case rel => exact ⟨k + 1, q + nq, by omega, by go_num, rfl, all_next HB.out hov.out⟩
          case measure => simp [intOf]; omega
    · obtain rfl : k = p.length := by omega
      have hfin := Lib.hid (highB_yes HB.out)
      go_wp2
      go_ret
      exact ⟨ret_bool hfin.out.symm, bl_drewN (Below.refl _ _) _⟩

/-- Is something wrong with number i? -/
def badR (p : List Int) (i : Nat) : Bool := (decide (0 < i) && decide (p.getD i 0 ≤ p.getD 0 0)) || (List.range i).any fun k => decide (p.getD i 0 = p.getD k 0)

def rankB (p : List Int) (n : Nat) : Bool := decide (p.length = n) && (List.range n).all fun i => !badR p i

theorem rankB_no {p : List Int} {n i : Nat} (hi : i < n) (h : badR p i = true) : rankB p n = false := by
  unfold rankB
  rw [Bool.and_eq_false_iff]; right
  rw [List.all_eq_false]
  exact ⟨i, List.mem_range.2 hi, by rw [h]; decide⟩

theorem rankB_yes {p : List Int} {n : Nat} (hl : p.length = n) (h : ∀ j, j < n → badR p j = false) : rankB p n = true := by
  unfold rankB
  rw [Bool.and_eq_true, List.all_eq_true]
  exact ⟨decide_eq_true hl, fun j hj => by rw [h j (List.mem_range.1 hj)]; rfl⟩

theorem badR_same {p : List Int} {i k : Nat} (hk : k < i) (h : p.getD i 0 = p.getD k 0) : badR p i = true := by
  unfold badR
  rw [Bool.or_eq_true]; right
  rw [List.any_eq_true]
  exact ⟨k, List.mem_range.2 hk, decide_eq_true h⟩

theorem badR_first {p : List Int} {i : Nat} (hk : 0 < i) (h : p.getD i 0 ≤ p.getD 0 0) : badR p i = true := by
  unfold badR
  rw [Bool.or_eq_true]; left
  simp [hk]; simpa using h

theorem badR_no {p : List Int} {i : Nat} (h0 : ¬ (0 < i ∧ p.getD i 0 ≤ p.getD 0 0)) (h : ∀ j, j < i → decide (p.getD i 0 = p.getD j 0) = false) : badR p i = false := by
  unfold badR
  rw [Bool.or_eq_false_iff, List.any_eq_false]
  refine ⟨?_, fun j hj => by rw [h j (List.mem_range.1 hj)]; decide⟩
  rw [← Bool.decide_and]
  exact decide_eq_false h0

set_option maxHeartbeats 1000000 in
theorem refRanks_any (p : List Int) (n : Nat) (A : Option Addr) (c : Nat) (w : World) (hA : Ints w w.heap.size A p) :
    Calls Try.prog 68 #[.slice A p.length c, .int .i64 (n : Int)] w fun e w' => e = .returned (.bool (rankB p n)) ∧ Below w.heap.size w w' := by
  have hlen := hA.len
  by_cases hn : ¬ p.length = n
  · have g1 : ((p.length : Int) != (n : Int)) = true := by simp; omega
    have g2 : (p.length != n) = true := by simpa using hn
    have hfin := Lib.hid (show rankB p n = false by unfold rankB; rw [decide_eq_false hn]; rfl)
    clear hA
    go_enter Try.func68, Try.ntmps68
    go_wp2
    go_ret
    exact ⟨ret_bool hfin.out.symm, Below.refl _ _⟩
  · have hn := Decidable.not_not.1 hn
    subst hn
    have HA := Lib.hid hA
    clear hA
    go_enter Try.func68, Try.ntmps68
    go_wp2
    go_loopw [5] (fun i' wr => ∃ k q : Nat, k ≤ p.length ∧ i' = .int .i64 (k : Int) ∧ wr = w.drewN q ∧ Hid (∀ j, j < k → badR p j = false)) (fun i' _ => p.length - (intOf i').toNat)
    case atStart => exact ⟨0, 0, Nat.zero_le _, rfl, rfl, fun j h0 => absurd h0 (Nat.not_lt_zero _)⟩
    case round =>
      obtain ⟨k, q, hk, rfl, rfl, HB⟩ := hrel
      by_cases hlt : k < p.length
      · obtain ⟨x, hx⟩ : ∃ x, p[k]? = some x := ⟨_, List.getElem?_eq_getElem hlt⟩
        obtain ⟨z, hz⟩ : ∃ z, p[0]? = some z := ⟨_, List.getElem?_eq_getElem (by omega)⟩
        obtain ⟨b, off, rfl, _, hc⟩ := HA.out.ad (by omega)
        have hck := hc k x hx
        have hc0 := hc 0 z hz
        rw [Nat.add_zero] at hc0
        have Hc := Lib.hid hc
        have Hx := Lib.hid hx
        have Hz := Lib.hid hz
        clear hx hz hc
        by_cases hbad : 0 < k ∧ x ≤ z
        · obtain ⟨g0, g1⟩ := hbad
          have hfin := Lib.hid (rankB_no hlt (badR_first g0 (by rw [getD_of Hx.out, getD_of Hz.out]; exact g1)))
          go_wp2
          go_quiet (fail)
          go_wp2
          go_ret
          exact ⟨ret_bool hfin.out.symm, bl_drewN (bl_drewN (Below.refl _ _) _) _⟩
        · have Hbad : Hid (¬ (0 < k ∧ p.getD k 0 ≤ p.getD 0 0)) := Lib.hid (by rw [getD_of Hx.out, getD_of Hz.out]; exact hbad)
          by_cases hk0 : 0 < k
          · have hxz : ¬ x ≤ z := fun h => hbad ⟨hk0, h⟩
            clear hbad
            go_wp2
            go_quiet (fail)
            go_wp2
            go_loopw [6] (fun k' wx => ∃ m q2 : Nat, m ≤ k ∧ k' = .int .i64 (m : Int) ∧ wx = w.drewN q2 ∧ Hid (∀ j, j < m → decide (p.getD k 0 = p.getD j 0) = false)) (fun k' _ => k - (intOf k').toNat)
            case atStart => exact ⟨0, q + nq, Nat.zero_le _, rfl, drewN_two _ _ _, Lib.hid fun j h0 => absurd h0 (Nat.not_lt_zero _)⟩
            case round =>
              obtain ⟨m, q2, hm, rfl, rfl, HD⟩ := hrel
              by_cases hmk : m < k
              · obtain ⟨y, hy⟩ : ∃ y, p[m]? = some y := ⟨_, List.getElem?_eq_getElem (by omega)⟩
                have hcm := Hc.out m y hy
                have Hy := Lib.hid hy
                clear hy
                by_cases hxy : x = y
                · have hfin := Lib.hid (rankB_no hlt (badR_same hmk (by rw [getD_of Hx.out, getD_of Hy.out]; exact hxy)))
                  have g5 : (x == y) = true := by simpa using hxy
                  clear hxy
                  go_wp2
                  go_quiet (fail)
                  go_wp2
                  go_ret
                  exact ⟨ret_bool hfin.out.symm, bl_drewN (bl_drewN (Below.refl _ _) _) _⟩
                · have g5 : (x == y) = false := by simpa using hxy
                  have hfin := Lib.hid (show decide (p.getD k 0 = p.getD m 0) = false by rw [getD_of Hx.out, getD_of Hy.out]; simpa using hxy)
                  go_wp2
                  go_quiet (fail)
                  go_wp2
                  go_roundw
                  case rel => exact ⟨m + 1, q2 + nq, by omega, by go_num, rfl, Lib.hid (all_next HD.out hfin.out)⟩
                  case measure => simp [intOf]; omega
              · obtain rfl : m = k := by omega
                have hfin := Lib.hid (badR_no Hbad.out HD.out)
                go_wp2
                go_roundw
                case rel => exact ⟨m + 1, q2, by omega, by go_num, rfl, Lib.hid (all_next HB.out hfin.out)⟩
                case measure => simp [intOf]; omega
          · clear hbad
            go_wp2
            go_quiet (fail)
            go_wp2
            go_loopw [6] (fun k' wx => ∃ m q2 : Nat, m ≤ k ∧ k' = .int .i64 (m : Int) ∧ wx = w.drewN q2 ∧ Hid (∀ j, j < m → decide (p.getD k 0 = p.getD j 0) = false)) (fun k' _ => k - (intOf k').toNat)
            case atStart => exact ⟨0, q + nq, Nat.zero_le _, rfl, drewN_two _ _ _, Lib.hid fun j h0 => absurd h0 (Nat.not_lt_zero _)⟩
            case round =>
              obtain ⟨m, q2, hm, rfl, rfl, HD⟩ := hrel
              by_cases hmk : m < k
              · obtain ⟨y, hy⟩ : ∃ y, p[m]? = some y := ⟨_, List.getElem?_eq_getElem (by omega)⟩
                have hcm := Hc.out m y hy
                have Hy := Lib.hid hy
                clear hy
                by_cases hxy : x = y
                · have hfin := Lib.hid (rankB_no hlt (badR_same hmk (by rw [getD_of Hx.out, getD_of Hy.out]; exact hxy)))
                  have g5 : (x == y) = true := by simpa using hxy
                  clear hxy
                  go_wp2
                  go_quiet (fail)
                  go_wp2
                  go_ret
                  exact ⟨ret_bool hfin.out.symm, bl_drewN (bl_drewN (Below.refl _ _) _) _⟩
                · have g5 : (x == y) = false := by simpa using hxy
                  have hfin := Lib.hid (show decide (p.getD k 0 = p.getD m 0) = false by rw [getD_of Hx.out, getD_of Hy.out]; simpa using hxy)
                  go_wp2
                  go_quiet (fail)
                  go_wp2
                  go_roundw
                  case rel => exact ⟨m + 1, q2 + nq, by omega, by go_num, rfl, Lib.hid (all_next HD.out hfin.out)⟩
                  case measure => simp [intOf]; omega
              · obtain rfl : m = k := by omega
                have hfin := Lib.hid (badR_no Hbad.out HD.out)
                go_wp2
                go_roundw
                case rel => exact ⟨m + 1, q2, by omega, by go_num, rfl, Lib.hid (all_next HB.out hfin.out)⟩
                case measure => simp [intOf]; omega
      · obtain rfl : k = p.length := by omega
        have hfin := Lib.hid (rankB_yes rfl HB.out)
        go_wp2
        go_ret
        exact ⟨ret_bool hfin.out.symm, bl_drewN (Below.refl _ _) _⟩

end Go.Proofs.Ytnmpeodngipfcaa

