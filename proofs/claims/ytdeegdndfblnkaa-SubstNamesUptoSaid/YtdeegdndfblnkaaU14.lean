/- Rows of binds that grow, in plain words; what two substitutions do together, in plain words. -/
import Derived.Test.YtdeegdndfblnkaaU13
import Derived.Test.YtdeegdndfblnkaaE3
namespace Go.Proofs.Ytdeegdndfblnkaa
open Go.RowKit Go.Shelf
set_option maxRecDepth 100000

/-- A bind as a member of a row: where its term's arguments lie. -/
structure Bi where
  v : Int
  t : Tm
  A : Option Addr
  c : Nat
def Bi.bd (x : Bi) : Bd := ⟨x.v, x.t⟩
def Bi.cells (x : Bi) : List Value := [.int .i64 x.v, .int .i64 x.t.fn, .slice x.A x.t.args.length x.c]

theorem bi_get (l : List Bi) (i r : Nat) (hr : r < 3) : (l.flatMap Bi.cells)[i * 3 + r]? = (l[i]?).bind fun x => x.cells[r]? := by
  induction l generalizing i with
  | nil => simp
  | cons x l ih =>
    have hlen : x.cells.length = 3 := rfl
    rw [List.flatMap_cons]
    cases i with
    | zero => rw [List.getElem?_append_left (by omega)]; simp
    | succ i =>
      rw [List.getElem?_append_right (by omega), hlen, show (i + 1) * 3 + r - 3 = i * 3 + r from by omega, ih]
      simp
theorem bi_len (l : List Bi) : (l.flatMap Bi.cells).length = l.length * 3 := by
  induction l with
  | nil => rfl
  | cons x l ih =>
    have hlen : x.cells.length = 3 := rfl
    rw [List.flatMap_cons, List.length_append, ih, hlen, List.length_cons]
    omega

structure BiFx (w : World) (N : Nat → Prop) (x : Bi) : Prop where
  iv : I64 x.v
  it : I64 x.t.fn
  args : ArgsN w N x.A x.t.args
theorem BiFx.keep {w w' : World} {N : Nat → Prop} {x : Bi} (h : BiFx w N x) (hk : ∀ g, N g → w'.heap[g]? = w.heap[g]?) : BiFx w' N x := ⟨h.iv, h.it, h.args.keep hk⟩
theorem BiFx.wide {w : World} {N M : Nat → Prop} {x : Bi} (h : BiFx w N x) (hk : ∀ g, N g → M g) : BiFx w M x := ⟨h.iv, h.it, h.args.wide hk⟩

/-- The slice v is the call's own; it holds the binds l, whose terms lie in N's blocks. -/
structure RowB (w : World) (base : Nat) (v : Value) (l : List Bi) (N : Nat → Prop) : Prop where
  row : w.ownsRow base 77 3 v l.length (l.flatMap Bi.cells)
  fx : ∀ x ∈ l, BiFx w N x
section
variable {w w' : World} {base : Nat} {v : Value} {l : List Bi} {N M : Nat → Prop}
theorem RowB.nil_ (w : World) (base : Nat) (N : Nat → Prop) : RowB w base (.slice none 0 0) [] N := ⟨World.ownsRow_nil w _ _ _, fun x hx => by simp at hx⟩
theorem RowB.keep (h : RowB w base v l N) (hv : ∀ g, v.ownBlock = some g → w'.heap[g]? = w.heap[g]?) (hN : ∀ g, N g → w'.heap[g]? = w.heap[g]?) : RowB w' base v l N :=
  ⟨row_keep h.row hv, fun x hx => (h.fx x hx).keep hN⟩
theorem RowB.wide (h : RowB w base v l N) (hk : ∀ g, N g → M g) : RowB w base v l M := ⟨h.row, fun x hx => (h.fx x hx).wide hk⟩
/-- The row, read. -/
theorem RowB.binds (h : RowB w base v l N) (hl : l.length ≤ 9223372036854775807) (hv : ∀ g, v.ownBlock = some g → M g) (hN : ∀ g, N g → M g) : ∃ A c, v = .slice A l.length c ∧ Binds w M A (l.map Bi.bd) := by
  rcases h.row.2 with ⟨rfl, h0⟩ | ⟨g, cap, cur, rfl, hb, hg, _⟩
  · obtain rfl : l = [] := List.eq_nil_of_length_eq_zero h0
    exact ⟨none, 0, rfl, Binds.nil_ _ _ _⟩
  · refine ⟨_, _, rfl, by simpa using hl, fun hn => ⟨g, 0, rfl, hv g rfl, fun i y hy => ?_⟩⟩
    rw [List.getElem?_map] at hy
    cases hx : l[i]? with
    | none => rw [hx] at hy; cases hy
    | some x =>
      rw [hx] at hy
      injection hy with hy
      subst hy
      have hlt := (List.getElem?_eq_some_iff.1 hx).1
      have hm := h.fx x (List.mem_of_getElem? hx)
      have q0 := bi_get l i 0 (by omega)
      have q1 := bi_get l i 1 (by omega)
      have q2 := bi_get l i 2 (by omega)
      have c0 := h.row.cellAt (i * 3) (by omega)
      have c1 := h.row.cellAt (i * 3 + 1) (by omega)
      have c2 := h.row.cellAt (i * 3 + 2) (by omega)
      rw [Nat.add_zero, hx] at q0
      rw [hx] at q1 q2
      rw [q0] at c0
      rw [q1] at c1
      rw [q2] at c2
      rw [Nat.zero_add]
      exact ⟨x.A, x.c, c0, c1, c2, hm.iv, hm.it, hm.args.wide hN⟩
/-- One more. -/
theorem RowB.push {x : Bi} {v' : Value} (h : RowB w base v l N) (hrow : w'.ownsRow base 77 3 v' (l.length + 1) (l.flatMap Bi.cells ++ x.cells)) (hx : BiFx w' M x) (hk : ∀ g, N g → w'.heap[g]? = w.heap[g]?) (hNM : ∀ g, N g → M g) : RowB w' base v' (l ++ [x]) M := by
  refine ⟨?_, ?_⟩
  · rw [List.length_append, List.flatMap_append]
    simpa using hrow
  · intro y hy
    rcases List.mem_append.1 hy with hy | hy
    · exact ((h.fx y hy).keep hk).wide hNM
    · simp only [List.mem_cons, List.not_mem_nil, or_false] at hy
      subst hy; exact hx
end

/-- The three cells of a block that was laid for one bind. -/
theorem cells_new_bind (w : World) (x y z : Value) (t : TypeId) : ∀ j u, [x, y, z][j]? = some u → (w.alloc (.cells #[x, y, z] t)).cell? ((⟨w.heap.size, 0, none⟩ : Addr).add j) = some u := by
  intro j u hj
  match j, hj with
  | 0, hj => simp at hj; subst hj; simp [Addr.add]
  | 1, hj => simp at hj; subst hj; simp [Addr.add]
  | 2, hj => simp at hj; subst hj; simp [Addr.add]
  | j + 3, hj => simp at hj

/-- The first's binds, the second put into their terms. -/
def thenB (lb : List Bd) (x : Bd) : Bd := ⟨x.v, appT (bdT lb) x.t⟩
/-- Is a variable bound? -/
def hasB (l : List Bd) (v : Int) : Bool := (findB l v).isSome
/-- All binds of the two together, before they are sorted and cut. -/
def bothB (la lb : List Bd) : List Bd := la.map (thenB lb) ++ lb.filter fun x => !hasB la x.v
end Go.Proofs.Ytdeegdndfblnkaa
