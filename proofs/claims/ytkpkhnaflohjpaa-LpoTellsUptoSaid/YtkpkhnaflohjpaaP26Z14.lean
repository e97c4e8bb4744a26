import Derived.Test.YtkpkhnaflohjpaaP26Z13
import Derived.Test.YtkpkhnaflohjpaaP26Z5
import Derived.Deep.RegionLaw
import Derived.Test.YtkpkhnaflohjpaaP26Z2
import Derived.Test.YtkpkhnaflohjpaaP26Z7
import Derived.RegionTactic
import Derived.ChangeAlike
import Derived.Deep.DeepCutAuto
import Derived.Lib.BufferMore
import Derived.OwnWalk
import Derived.Test.YtkpkhnaflohjpaaP26Z1
import Derived.RangeFuncBox
import Derived.Laws.EntriesVeiled
/- The document's own Copy, again: its rows have room for what they hold. (gen_ek.py) -/

namespace Go.Proofs.Ytkpkhnaflohjpaa

open Go.RowKit Go.Shelf
set_option maxRecDepth 100000

/-- The slice v is the call's own; it holds the terms l, whose arguments lie in N's blocks. -/
structure RowTK (w : World) (base : Nat) (v : Value) (l : List Ti) (N : Nat → Prop) : Prop where
  row : w.ownsRow base 27 2 v l.length (l.flatMap Ti.cells)
  i64 : ∀ x ∈ l, I64 x.t.fn
  sub : ∀ x ∈ l, ArgsK w N x.A x.c x.t.args

section

variable {w w' : World} {base base' : Nat} {v : Value} {l : List Ti} {N M : Nat → Prop}

theorem RowTK.nil_ (w : World) (base : Nat) (N : Nat → Prop) : RowTK w base (.slice none 0 0) [] N :=
  ⟨World.ownsRow_nil w _ _ _, fun x hx => by simp at hx, fun x hx => by simp at hx⟩

theorem RowTK.keep (h : RowTK w base v l N) (hv : ∀ g, v.ownBlock = some g → w'.heap[g]? = w.heap[g]?) (hN : ∀ g, N g → w'.heap[g]? = w.heap[g]?) : RowTK w' base v l N :=
  ⟨row_keep h.row hv, h.i64, fun x hx => (h.sub x hx).keep hN⟩

theorem RowTK.wide (h : RowTK w base v l N) (hk : ∀ g, N g → M g) : RowTK w base v l M := ⟨h.row, h.i64, fun x hx => (h.sub x hx).wide hk⟩

theorem RowTK.shape (h : RowTK w base v l N) : ∃ A c, v = .slice A l.length c := by
  rcases h.row.2 with ⟨hv, h0⟩ | ⟨g, cap, cur, hv, _⟩
  · exact ⟨none, 0, by rw [hv, h0]⟩
  · exact ⟨_, cap, hv⟩

/-- The row, read. -/
theorem RowTK.argsK (h : RowTK w base v l N) (hl : l.length ≤ 9223372036854775807) (hv : ∀ g, v.ownBlock = some g → M g) (hN : ∀ g, N g → M g) : ∃ A c, v = .slice A l.length c ∧ ArgsK w M A c (l.map Ti.t) := by
  rcases h.row.2 with ⟨rfl, h0⟩ | ⟨g, cap, cur, rfl, hb, hg, hcap, _⟩
  · obtain rfl : l = [] := List.eq_nil_of_length_eq_zero h0
    exact ⟨none, 0, rfl, .nil _ _⟩
  · refine ⟨_, _, rfl, .row g 0 cap _ (fun i => ((l[i]?).map Ti.A).getD none) (fun i => ((l[i]?).map Ti.c).getD 0) (by simpa using hcap) (hv g rfl) (by simpa using hl) (fun i t e => ?_) (fun i t e => ?_) (fun i t e => ?_) fun i t e => ?_⟩
    all_goals
      rw [List.getElem?_map] at e
      cases hx : l[i]? with
      | none => rw [hx] at e; cases e
      | some x =>
        rw [hx] at e
        injection e with e
        subst e
        have hlt := (List.getElem?_eq_some_iff.1 hx).1
        have hm := List.mem_of_getElem? hx
        have q0 := ti_get l i 0 (by omega)
        have q1 := ti_get l i 1 (by omega)
        have c0 := h.row.cellAt (i * 2) (by omega)
        have c1 := h.row.cellAt (i * 2 + 1) (by omega)
        rw [Nat.add_zero, hx] at q0
        rw [hx] at q1
        rw [q0] at c0
        rw [q1] at c1
        try simp only [Option.map_some, Option.getD_some]
        try rw [Nat.zero_add]
        first | exact h.i64 x hm | exact c0 | exact c1 | exact (h.sub x hm).wide hN

/-- One more. -/
theorem RowTK.push {x : Ti} {v' : Value} (h : RowTK w base v l N) (hrow : w'.ownsRow base 27 2 v' (l.length + 1) (l.flatMap Ti.cells ++ x.cells)) (hi : I64 x.t.fn) (hx : ArgsK w' M x.A x.c x.t.args) (hk : ∀ g, N g → w'.heap[g]? = w.heap[g]?) (hNM : ∀ g, N g → M g) : RowTK w' base v' (l ++ [x]) M := by
  refine ⟨?_, ?_, ?_⟩
  · rw [List.length_append, List.flatMap_append]
    simpa using hrow
  · intro y hy
    rcases List.mem_append.1 hy with hy | hy
    · exact h.i64 y hy
    · simp only [List.mem_cons, List.not_mem_nil, or_false] at hy
      subst hy; exact hi
  · intro y hy
    rcases List.mem_append.1 hy with hy | hy
    · exact ((h.sub y hy).keep hk).wide hNM
    · simp only [List.mem_cons, List.not_mem_nil, or_false] at hy
      subst hy; exact hx

end

/-- A copy of t, in new memory: the row of its arguments is the call's own. -/
def RCopyPostK (t : Tm) (w : World) (e : Ending) (w' : World) : Prop := ∃ v l, e = .returned (.agg #[.int .i64 t.fn, v]) ∧ l.map Ti.t = t.args ∧ RowTK w' w.heap.size v l (Apart w.heap.size v w') ∧ Below w.heap.size w w'

/-- What the loop has laid: the box, its row. -/
structure RCopyIK (w wr : World) (f : Int) (xs : List Tm) (k : Nat) (v : Value) (l : List Ti) : Prop where
  box : wr.heap[w.heap.size + 2]? = some (.cells #[.int .i64 f, v] 27)
  key : l.map Ti.t = xs.take k
  row : RowTK wr (w.heap.size + 3) v l (Apart (w.heap.size + 3) v wr)

theorem RCopyIK.len {w wr : World} {f : Int} {xs : List Tm} {k : Nat} {v : Value} {l : List Ti} (h : RCopyIK w wr f xs k v l) (hk : k ≤ xs.length) : l.length = k := by
  have := congrArg List.length h.key
  simpa [Nat.min_eq_left hk] using this

theorem RowTK.base {w : World} {base base' : Nat} {v : Value} {l : List Ti} {N : Nat → Prop} (h : RowTK w base v l N) (hb : base' ≤ base) : RowTK w base' v l N := by
  refine ⟨⟨h.row.1, ?_⟩, h.i64, h.sub⟩
  rcases h.row.2 with h0 | ⟨g, cap, cur, hv, h1, hrest⟩
  · exact .inl h0
  · exact .inr ⟨g, cap, cur, hv, Nat.le_trans hb h1, hrest⟩

/-- One more: the copy of the next argument, its box, the row that has grown, the store. -/
theorem RCopyIK.next {w wr w4 w5 : World} {f : Int} {xs : List Tm} {k : Nat} {v v4 v5 : Value} {l l4 : List Ti} {u : Tm} {A4 : Option Addr} {c4 : Nat} {o : Obj} (h : RCopyIK w wr f xs k v l) (hu : xs[k]? = some u) (hi : I64 u.fn) (hl4 : l4.map Ti.t = u.args) (h64 : u.args.length ≤ 9223372036854775807) (hv4 : v4 = .slice A4 u.args.length c4)
    (hR4 : RowTK w4 wr.heap.size v4 l4 (Apart wr.heap.size v4 w4)) (hb4 : Below wr.heap.size wr w4) (hown : w5.ownsRow (w.heap.size + 3) 27 2 v5 (k + 1) (l.flatMap Ti.cells ++ (⟨u, A4, c4⟩ : Ti).cells))
    (hgr : (w4.alloc o).grownBy w5 v.ownBlock) (hat : v5.ownBlock = v.ownBlock ∨ v5.ownBlock = some (w4.alloc o).heap.size) :
    RCopyIK w (w5.setCell ⟨w.heap.size + 2, 1, none⟩ v5) f xs (k + 1) v5 (l ++ [⟨u, A4, c4⟩]) := by
  have hkl := (List.getElem?_eq_some_iff.1 hu).1
  have hlen := h.len (by omega)
  have hlt := row_lt h.row.row
  have hs4 := hb4.size
  have hs5 := hgr.size
  have hbs : w.heap.size + 2 < wr.heap.size := (Array.getElem?_eq_some_iff.1 h.box).1
  have hK : ∀ g, g < wr.heap.size → v.ownBlock ≠ some g → w5.heap[g]? = wr.heap[g]? := fun g h1 h2 => (hgr.block g (by simp; omega) (fun e => h2 e.symm)).trans ((Below.heap_alloc w4 o g (by omega)).trans (hb4.block g h1))
  have hK4 : ∀ g, g < w4.heap.size → v.ownBlock ≠ some g → w5.heap[g]? = w4.heap[g]? := fun g h1 h2 => (hgr.block g (by simp; omega) (fun e => h2 e.symm)).trans (Below.heap_alloc w4 o g h1)
  have hb2 : v.ownBlock ≠ some (w.heap.size + 2) := fun e => by have := (hlt _ e).1; omega
  have hbox5 := (hK _ hbs hb2).trans h.box
  obtain ⟨_, z1⟩ := set2_two (u := .int .i64 f) (v := v5) hbox5
  have hset : ∀ g, g ≠ w.heap.size + 2 → (w5.setCell ⟨w.heap.size + 2, 1, none⟩ v5).heap[g]? = w5.heap[g]? := fun g e => heap_setCell_other _ _ _ _ e
  have hlt5 := row_lt hown
  have hv5 : ∀ g, g < wr.heap.size → v.ownBlock ≠ some g → v5.ownBlock ≠ some g := fun g h1 h2 e => by
    rcases hat with h3 | h3
    · rw [h3] at e; exact h2 e
    · rw [h3] at e; injection e with e; simp at e; omega
  have hv54 : ∀ g, wr.heap.size ≤ g → g < w4.heap.size → v5.ownBlock ≠ some g := fun g h1 h2 e => by
    rcases hat with h3 | h3
    · rw [h3] at e; have := (hlt _ e).2; omega
    · rw [h3] at e; injection e with e; simp at e; omega
  have hsz5 : w4.heap.size + 1 ≤ w5.heap.size := by simpa using hs5
  refine ⟨?_, ?_, ?_⟩
  · exact heap_setCell_same w5 _ 1 _ _ _ hbox5
  · rw [List.map_append, h.key, List.take_add_one, hu]; rfl
  · refine RowTK.push (w := wr) (N := Apart (w.heap.size + 3) v wr) h.row ?_ hi ?_ (fun g hg => ?_) (fun g hg => ⟨hg.1, by have := hg.2.1; simp; omega, hv5 g hg.2.1 hg.2.2⟩)
    · rw [hlen]
      exact row_keep hown fun g e => hset g (by have := (hlt5 g e).1; omega)
    · have hl4l : l4.length ≤ 9223372036854775807 := by have := congrArg List.length hl4; simp at this; omega
      obtain ⟨A', c', e, hA⟩ := hR4.argsK (M := fun g => wr.heap.size ≤ g ∧ g < w4.heap.size) hl4l (fun g e => row_lt hR4.row g e) (fun g hg => ⟨hg.1, hg.2.1⟩)
      rw [hv4] at e
      injection e with e1 _ e3
      subst e1
      subst e3
      rw [hl4] at hA
      refine (hA.keep fun g hg => ?_).wide fun g hg => ⟨by omega, by simp; omega, hv54 g hg.1 hg.2⟩
      exact (hset g (by omega)).trans (hK4 g hg.2 fun e => by have := (hlt _ e).2; omega)
    · exact (hset g (by have := hg.1; omega)).trans (hK g hg.2.1 hg.2.2)

end Go.Proofs.Ytkpkhnaflohjpaa

/- Rows of places that grow, in plain words; the places of a term, place by place. -/

namespace Go.Proofs.Ytkpkhnaflohjpaa

open Go.RowKit Go.Shelf
set_option maxRecDepth 100000

theorem vis_pre (t : Tm) : ∀ q p : List Int, vis (q ++ p) t = (vis p t).map fun y => (q ++ y.1, y.2) := by
  refine Tm.ind (P := fun t => ∀ q p : List Int, vis (q ++ p) t = (vis p t).map fun y => (q ++ y.1, y.2)) (fun f xs ih => ?_) t
  intro q p
  have key : ∀ (ys : List Tm) (i : Nat), (∀ u ∈ ys, ∀ q p : List Int, vis (q ++ p) u = (vis p u).map fun y => (q ++ y.1, y.2)) → visL (q ++ p) i ys = (visL p i ys).map fun y => (q ++ y.1, y.2) := by
    intro ys
    induction ys with
    | nil => intro i _; simp [visL]
    | cons y ys ihy =>
      intro i h
      simp only [visL, List.map_append]
      rw [ihy (i + 1) fun u hu => h u (by simp [hu]), List.append_assoc, h y (by simp) q (p ++ [(i : Int)])]
  simp only [vis, List.map_cons]
  rw [key xs 0 ih]

theorem vis_one (t : Tm) (k : Int) : vis [k] t = (vis [] t).map fun y => (k :: y.1, y.2) := by
  have := vis_pre t [k] []
  simpa using this

/-- The slice at A holds the numbers; it lies in N's blocks. -/
structure IntsN (w : World) (N : Nat → Prop) (A : Option Addr) (l : List Int) : Prop where
  len : l.length ≤ 9223372036854775807
  i64 : ∀ x ∈ l, I64 x
  ad : 0 < l.length → ∃ b off, A = some ⟨b, off, none⟩ ∧ N b ∧ ∀ (i : Nat) (x : Int), l[i]? = some x → w.cell? ⟨b, off + i, none⟩ = some (.int .i64 x)

section

variable {w w' : World} {N M : Nat → Prop} {B : Nat} {A : Option Addr} {l : List Int}

theorem IntsN.keep (h : IntsN w N A l) (hk : ∀ g, N g → w'.heap[g]? = w.heap[g]?) : IntsN w' N A l :=
  ⟨h.len, h.i64, fun hn => by
    obtain ⟨b, off, hA, hb, hc⟩ := h.ad hn
    exact ⟨b, off, hA, hb, fun i x hi => (cell_of_heap (hk b hb)).trans (hc i x hi)⟩⟩

theorem IntsN.wide (h : IntsN w N A l) (hk : ∀ g, N g → M g) : IntsN w M A l :=
  ⟨h.len, h.i64, fun hn => by
    obtain ⟨b, off, hA, hb, hc⟩ := h.ad hn
    exact ⟨b, off, hA, hk b hb, hc⟩⟩

theorem IntsN.ints (h : IntsN w N A l) (hN : ∀ g, N g → g < B) : Ints w B A l :=
  ⟨h.len, h.i64, fun hn => by
    obtain ⟨b, off, hA, hb, hc⟩ := h.ad hn
    exact ⟨b, off, hA, hN b hb, hc⟩⟩

theorem IntsN.nil_ (w : World) (N : Nat → Prop) (A : Option Addr) : IntsN w N A [] := ⟨by simp, by simp, fun h => by simp at h⟩

theorem row_intsN {base : Nat} {v : Value} (h : w.ownsRow base 3 1 v l.length (l.map (Value.int .i64))) (hl : l.length ≤ 9223372036854775807) (hi : ∀ x ∈ l, I64 x) (hv : ∀ g, v.ownBlock = some g → N g) : ∃ A c, v = .slice A l.length c ∧ IntsN w N A l := by
  rcases h.2 with ⟨rfl, h0⟩ | ⟨g, cap, cur, rfl, hb, hg, _⟩
  · exact ⟨none, 0, by rw [h0], hl, hi, fun hn => by omega⟩
  · refine ⟨_, _, rfl, hl, hi, fun hn => ⟨g, 0, rfl, hv g rfl, fun i x hx => ?_⟩⟩
    have hlt := (List.getElem?_eq_some_iff.1 hx).1
    rw [Nat.zero_add, h.cellAt i (by simpa using hlt)]
    simp [hx]

end

/-- A place and what stands there, as a member of a row. -/
structure Pk where
  p : List Int
  t : Tm
  Ap : Option Addr
  cp : Nat
  A : Option Addr
  c : Nat

def Pk.key (x : Pk) : List Int × Tm := (x.p, x.t)

def Pk.cells (x : Pk) : List Value := [.slice x.Ap x.p.length x.cp, .int .i64 x.t.fn, .slice x.A x.t.args.length x.c]

structure PkFx (w : World) (N : Nat → Prop) (x : Pk) : Prop where
  pos : IntsN w N x.Ap x.p
  i64 : I64 x.t.fn
  args : ArgsN w N x.A x.t.args

theorem PkFx.keep {w w' : World} {N : Nat → Prop} {x : Pk} (h : PkFx w N x) (hk : ∀ g, N g → w'.heap[g]? = w.heap[g]?) : PkFx w' N x := ⟨h.pos.keep hk, h.i64, h.args.keep hk⟩

theorem PkFx.wide {w : World} {N M : Nat → Prop} {x : Pk} (h : PkFx w N x) (hk : ∀ g, N g → M g) : PkFx w M x := ⟨h.pos.wide hk, h.i64, h.args.wide hk⟩

theorem pk_get (l : List Pk) (i r : Nat) (hr : r < 3) : (l.flatMap Pk.cells)[i * 3 + r]? = (l[i]?).bind fun x => x.cells[r]? := by
  induction l generalizing i with
  | nil => simp
  | cons x l ih =>
    have hlen : x.cells.length = 3 := rfl
    rw [List.flatMap_cons]
    cases i with
    | zero => rw [List.getElem?_append_left (by omega)]; simp
    | succ i =>
      rw [List.getElem?_append_right (by omega), hlen, show (i + 1) * 3 + r - 3 = i * 3 + r from by omega, ih]
      simp

theorem pk_len (l : List Pk) : (l.flatMap Pk.cells).length = l.length * 3 := by
  induction l with
  | nil => rfl
  | cons x l ih =>
    have hlen : x.cells.length = 3 := rfl
    rw [List.flatMap_cons, List.length_append, ih, hlen, List.length_cons]
    omega

theorem pk_one (l : List Pk) : ∀ u ∈ l.flatMap Pk.cells, u.oneCell' = true := by
  intro u hu
  obtain ⟨x, _, hx⟩ := List.mem_flatMap.1 hu
  simp only [Pk.cells, List.mem_cons, List.not_mem_nil, or_false] at hx
  rcases hx with rfl | rfl | rfl <;> rfl

section

variable {w w' : World} {base : Nat} {v : Value} {l : List Pk} {N M : Nat → Prop}

end

end Go.Proofs.Ytkpkhnaflohjpaa

/- The document's own answers: At, Put. -/

namespace Go.Proofs.Ytkpkhnaflohjpaa

open Go.RowKit Go.Shelf
set_option maxRecDepth 100000

/-- What stands at the place; the zero term, if there is none. -/
def RAtPost (t : Tm) (p : List Int) (w : World) (e : Ending) (w' : World) : Prop := ∃ A' c', e = .returned (.tuple #[.agg #[.int .i64 (atT t p).fn, .slice A' (atT t p).args.length c'], .bool (subT t p).isSome]) ∧ I64 (atT t p).fn ∧ Args w' w'.heap.size A' (atT t p).args ∧ Below w.heap.size w w'

/-- Where the loop stands: what is still to be gone down, in the box. -/
structure RAtI (w wr : World) (t : Tm) (p : List Int) (k : Nat) (s : Tm) (As : Option Addr) (cs : Nat) : Prop where
  box : wr.heap[w.heap.size]? = some (.cells #[.int .i64 s.fn, .slice As s.args.length cs] 27)
  res : wr.heap[w.heap.size + 1]? = some (.cells #[.int .i64 0, .slice none 0 0] 27)
  blw : Below w.heap.size w wr
  i64 : I64 s.fn
  args : Args w w.heap.size As s.args
  size : s.size ≤ 4398046511104
  key : subT t p = subT s (p.drop k)

theorem RAtI.next {w wr : World} {t s u : Tm} {p : List Int} {k cs cu n : Nat} {As Au : Option Addr} (h : RAtI w wr t p k s As cs) (hi : I64 u.fn) (hA : Args w w.heap.size Au u.args) (hs : u.size ≤ 4398046511104) (hk : subT t p = subT u (p.drop (k + 1))) :
    RAtI w (((wr.drewN n).setCell ⟨w.heap.size, 0, none⟩ (.int .i64 u.fn)).setCell ⟨w.heap.size, 1, none⟩ (.slice Au u.args.length cu)) t p (k + 1) u Au cu := by
  have hb : (wr.drewN n).heap[w.heap.size]? = some (.cells #[.int .i64 s.fn, .slice As s.args.length cs] 27) := h.box
  refine ⟨(set2_two hb).2, ?_, ((bl_drewN h.blw n).setCell (Nat.le_refl _) _).setCell (Nat.le_refl _) _, hi, hA, hs, hk⟩
  exact (heap_setCell_other _ _ _ _ (by show w.heap.size + 1 ≠ w.heap.size; omega)).trans ((heap_setCell_other _ _ _ _ (by show w.heap.size + 1 ≠ w.heap.size; omega)).trans h.res)

end Go.Proofs.Ytkpkhnaflohjpaa

/- Put. -/

namespace Go.Proofs.Ytkpkhnaflohjpaa

open Go.RowKit
set_option maxRecDepth 100000

def PutPost (t : Tm) (p : List Int) (s : Tm) (w : World) (e : Ending) (w' : World) : Prop := Below w.heap.size w w' ∧
  match subT t p with
  | none => e = .returned (.tuple #[.agg #[.int .i64 0, .slice none 0 0], .bool false])
  | some _ => ∃ A' c', e = .returned (.tuple #[.agg #[.int .i64 (putT t p s).fn, .slice A' (putT t p s).args.length c'], .bool true]) ∧ I64 (putT t p s).fn ∧ Args w' w'.heap.size A' (putT t p s).args

theorem put_fr {w w' : World} {p : List Int} {h b' o' : Nat} {t : Tm} {A : Option Addr} {c lo hi : Nat} (hP : PathA w.drew p h 0 t b' o') (hc : w.drew.cell? ⟨h, 0 + 1, none⟩ = some (.slice A t.args.length c)) (hO : OwnT w.drew lo hi A t.args)
    (hfz : ∀ b, b = h → w.frozen? ⟨b, 0, none⟩ = false ∧ w.frozen? ⟨b, 1, none⟩ = false) (hk : w'.heap[b']? = w.heap[b']?) : w'.frozen? ⟨b', o', none⟩ = false ∧ w'.frozen? ⟨b', o' + 1, none⟩ = false := by
  rw [frozen_of_heap hk, frozen_of_heap hk]
  rcases path_in hP hc hO with ⟨_, rfl, rfl⟩ | ⟨_, _, h1, h2⟩
  · exact hfz _ rfl
  · exact ⟨h1, h2⟩

theorem put_ne {w : World} {p : List Int} {h b' o' : Nat} {t : Tm} {A : Option Addr} {c lo hi : Nat} (hP : PathA w p h 0 t b' o') (hc : w.cell? ⟨h, 0 + 1, none⟩ = some (.slice A t.args.length c)) (hO : OwnT w lo hi A t.args) (hlo : h + 2 < lo) : h ≤ b' ∧ h + 1 ≠ b' ∧ h + 1 + 1 ≠ b' := by
  rcases path_in hP hc hO with ⟨_, rfl, rfl⟩ | ⟨_, _, h1, h2⟩ <;> omega

end Go.Proofs.Ytkpkhnaflohjpaa

/- The document's own answer: Put. -/

namespace Go.Proofs.Ytkpkhnaflohjpaa

open Go.RowKit Go.Shelf
set_option maxRecDepth 100000

theorem ti_set : ∀ (l : List Ti) (i : Nat) (x : Ti), i < l.length → ((l.flatMap Ti.cells).set (i * 2) (.int .i64 x.t.fn)).set (i * 2 + 1) (.slice x.A x.t.args.length x.c) = (l.set i x).flatMap Ti.cells
  | [], i, x, h => by simp at h
  | y :: l, 0, x, _ => by simp [Ti.cells]
  | y :: l, i + 1, x, h => by
    have ih := ti_set l i x (by simpa using h)
    rw [List.set_cons_succ, List.flatMap_cons, List.flatMap_cons, ← ih]
    simp [Ti.cells, Nat.add_mul]

/-- Another term is laid at a place of the row. -/
theorem RowT.put {w : World} {base g cap n i : Nat} {l : List Ti} {x : Ti} {N M : Nat → Prop} (h : RowT w base (.slice (some ⟨g, 0, none⟩) n cap) l N) (hn : l.length = n) (hi : i < l.length) (hx : I64 x.t.fn) (hg : ∀ k, N k → k ≠ g ∧ M k) (hxa : ArgsN w (fun k => k ≠ g ∧ M k) x.A x.t.args) :
    RowT ((w.setCell ⟨g, i * 2, none⟩ (.int .i64 x.t.fn)).setCell ⟨g, i * 2 + 1, none⟩ (.slice x.A x.t.args.length x.c)) base (.slice (some ⟨g, 0, none⟩) n cap) (l.set i x) M := by
  subst hn
  have h1 := (h.row.stored (i * 2) (.int .i64 x.t.fn)).1
  have h2 := (h1.stored (i * 2 + 1) (.slice x.A x.t.args.length x.c)).1
  rw [ti_set l i x hi] at h2
  have hk : ∀ k, k ≠ g → ((w.setCell ⟨g, i * 2, none⟩ (.int .i64 x.t.fn)).setCell ⟨g, i * 2 + 1, none⟩ (.slice x.A x.t.args.length x.c)).heap[k]? = w.heap[k]? := fun k e => (heap_setCell_other _ _ _ _ e).trans (heap_setCell_other _ _ _ _ e)
  refine ⟨by rw [List.length_set]; exact h2, fun y hy => ?_, fun y hy => ?_⟩
  · rcases List.mem_or_eq_of_mem_set hy with hy | rfl
    · exact h.i64 y hy
    · exact hx
  · rcases List.mem_or_eq_of_mem_set hy with hy | rfl
    · exact ((h.sub y hy).keep fun k e => hk k (hg k e).1).wide fun k e => (hg k e).2
    · exact (hxa.keep fun k e => hk k e.1).wide fun k e => e.2

theorem row_some {W : World} {base n : Nat} {e : TypeId} {size : Nat} {v : Value} {vs : List Value} (h : W.ownsRow base e size v n vs) (hn : 0 < n) : ∃ g c, v = .slice (some ⟨g, 0, none⟩) n c := by
  rcases h.2 with ⟨_, h0⟩ | ⟨g, cap, cur, hv, _⟩
  · omega
  · exact ⟨g, cap, hv⟩

/-- The term with s at the place; the zero term, if the place is not there. -/
def putO (t : Tm) (p : List Int) (s : Tm) : Tm := if (subT t p).isSome then putT t p s else .node 0 []

def RPutPost (t : Tm) (p : List Int) (s : Tm) (w : World) (e : Ending) (w' : World) : Prop := ∃ A' c', e = .returned (.tuple #[.agg #[.int .i64 (putO t p s).fn, .slice A' (putO t p s).args.length c'], .bool (subT t p).isSome]) ∧ I64 (putO t p s).fn ∧ ArgsN w' (fun g => w.heap.size ≤ g ∧ g < w'.heap.size) A' (putO t p s).args ∧ Below w.heap.size w w'

/-- What the inner call has left. -/
structure RPutMid (w W : World) (o : Tm) (bb : Nat) (wx : World) : Prop where
  blw : Below W.heap.size W wx
  lo : W.heap.size ≤ bb
  i64 : I64 o.fn
  xb : ∃ Ax cx, wx.heap[bb]? = some (.cells #[.int .i64 o.fn, .slice Ax o.args.length cx] 27) ∧ ArgsN wx (fun g => W.heap.size ≤ g ∧ g < wx.heap.size) Ax o.args

theorem putO_nil (t s : Tm) : putO t [] s = s := by simp [putO, subT, putT]

end Go.Proofs.Ytkpkhnaflohjpaa

/- Places. -/

namespace Go.Proofs.Ytkpkhnaflohjpaa

open Go.RowKit Go.Shelf
attribute [local go_sem] Oper.semAt_some
set_option maxRecDepth 100000

end Go.Proofs.Ytkpkhnaflohjpaa

/- walk; Size. -/

namespace Go.Proofs.Ytkpkhnaflohjpaa

open Go.RowKit Go.Shelf
attribute [local go_sem] Oper.semAt_some
set_option maxRecDepth 100000

end Go.Proofs.Ytkpkhnaflohjpaa

