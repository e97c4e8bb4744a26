import Derived.Test.YtglfjmbclimeeaaP35Z1
import Derived.Deep.RegionLaw
/- The document's own answer: Copy. -/

namespace Go.Proofs.Ytglfjmbclimeeaa

open Go.RowKit Go.Shelf
set_option maxRecDepth 100000

/-- What lies apart since a world, but for the row of v itself. -/
def Apart (lo : Nat) (v : Value) (w : World) (g : Nat) : Prop := lo ≤ g ∧ g < w.heap.size ∧ v.ownBlock ≠ some g

/-- A copy of t, in new memory: the row of its arguments is the call's own. -/
def RCopyPost (t : Tm) (w : World) (e : Ending) (w' : World) : Prop := ∃ v l, e = .returned (.agg #[.int .i64 t.fn, v]) ∧ l.map Ti.t = t.args ∧ RowT w' w.heap.size v l (Apart w.heap.size v w') ∧ Below w.heap.size w w'

def RCopyAt (t : Tm) : Prop := t.size ≤ 4398046511104 → ∀ (A : Option Addr) (c : Nat) (w : World), I64 t.fn → Args w w.heap.size A t.args → Calls Try.prog 43 #[.agg #[.int .i64 t.fn, .slice A t.args.length c]] w (RCopyPost t w)

/-- What the loop has laid: the box, its row. -/
structure RCopyI (w wr : World) (f : Int) (xs : List Tm) (k : Nat) (v : Value) (l : List Ti) : Prop where
  box : wr.heap[w.heap.size + 2]? = some (.cells #[.int .i64 f, v] 31)
  key : l.map Ti.t = xs.take k
  row : RowT wr (w.heap.size + 3) v l (Apart (w.heap.size + 3) v wr)

theorem RCopyI.len {w wr : World} {f : Int} {xs : List Tm} {k : Nat} {v : Value} {l : List Ti} (h : RCopyI w wr f xs k v l) (hk : k ≤ xs.length) : l.length = k := by
  have := congrArg List.length h.key
  simpa [Nat.min_eq_left hk] using this

theorem row_own {W : World} {base n : Nat} {e : TypeId} {size : Nat} {v : Value} {vs : List Value} (h : W.ownsRow base e size v n vs) : ∃ A c, v = .slice A n c := by
  rcases h.2 with ⟨hv, h0⟩ | ⟨g, cap, cur, hv, _⟩
  · exact ⟨none, 0, by rw [hv, h0]⟩
  · exact ⟨_, cap, hv⟩

theorem RowT.base {w : World} {base base' : Nat} {v : Value} {l : List Ti} {N : Nat → Prop} (h : RowT w base v l N) (hb : base' ≤ base) : RowT w base' v l N := by
  refine ⟨⟨h.row.1, ?_⟩, h.i64, h.sub⟩
  rcases h.row.2 with h0 | ⟨g, cap, cur, hv, h1, hrest⟩
  · exact .inl h0
  · exact .inr ⟨g, cap, cur, hv, Nat.le_trans hb h1, hrest⟩

/-- One more: the copy of the next argument, its box, the row that has grown, the store. -/
theorem RCopyI.next {w wr w4 w5 : World} {f : Int} {xs : List Tm} {k : Nat} {v v4 v5 : Value} {l l4 : List Ti} {u : Tm} {A4 : Option Addr} {c4 : Nat} {o : Obj} (h : RCopyI w wr f xs k v l) (hu : xs[k]? = some u) (hi : I64 u.fn) (hl4 : l4.map Ti.t = u.args) (h64 : u.args.length ≤ 9223372036854775807) (hv4 : v4 = .slice A4 u.args.length c4)
    (hR4 : RowT w4 wr.heap.size v4 l4 (Apart wr.heap.size v4 w4)) (hb4 : Below wr.heap.size wr w4) (hown : w5.ownsRow (w.heap.size + 3) 31 2 v5 (k + 1) (l.flatMap Ti.cells ++ (⟨u, A4, c4⟩ : Ti).cells))
    (hgr : (w4.alloc o).grownBy w5 v.ownBlock) (hat : v5.ownBlock = v.ownBlock ∨ v5.ownBlock = some (w4.alloc o).heap.size) :
    RCopyI w (w5.setCell ⟨w.heap.size + 2, 1, none⟩ v5) f xs (k + 1) v5 (l ++ [⟨u, A4, c4⟩]) := by
  have hkl := (List.getElem?_eq_some_iff.1 hu).1
  have hlen := h.len (by omega)
  have hlt := row_lt h.row.row
  have hs4 := hb4.size
  have hs5 := hgr.size
  have hbs : w.heap.size + 2 < wr.heap.size := (Array.getElem?_eq_some_iff.1 h.box).1
  have hK : ∀ g, g < wr.heap.size → v.ownBlock ≠ some g → w5.heap[g]? = wr.heap[g]? := fun g h1 h2 => (hgr.block g (by simp; omega) (fun e => h2 e.symm)).trans ((Below.heap_alloc w4 o g (by omega)).trans (hb4.block g h1))
  have hK4 : ∀ g, g < w4.heap.size → v.ownBlock ≠ some g → w5.heap[g]? = w4.heap[g]? := fun g h1 h2 => (hgr.block g (by simp; omega) (fun e => h2 e.symm)).trans (Below.heap_alloc w4 o g h1)
  have hb2 : v.ownBlock ≠ some (w.heap.size + 2) := fun e => by have := (hlt _ e).1; omega
  have hbox5 := (hK _ hbs hb2).trans h.box
  obtain ⟨_, z1⟩ := set2_two (u := .int .i64 f) (v := v5) hbox5
  have hset : ∀ g, g ≠ w.heap.size + 2 → (w5.setCell ⟨w.heap.size + 2, 1, none⟩ v5).heap[g]? = w5.heap[g]? := fun g e => heap_setCell_other _ _ _ _ e
  have hlt5 := row_lt hown
  have hv5 : ∀ g, g < wr.heap.size → v.ownBlock ≠ some g → v5.ownBlock ≠ some g := fun g h1 h2 e => by
    rcases hat with h3 | h3
    · rw [h3] at e; exact h2 e
    · rw [h3] at e; injection e with e; simp at e; omega
  have hv54 : ∀ g, wr.heap.size ≤ g → g < w4.heap.size → v5.ownBlock ≠ some g := fun g h1 h2 e => by
    rcases hat with h3 | h3
    · rw [h3] at e; have := (hlt _ e).2; omega
    · rw [h3] at e; injection e with e; simp at e; omega
  have hsz5 : w4.heap.size + 1 ≤ w5.heap.size := by simpa using hs5
  refine ⟨?_, ?_, ?_⟩
  · exact heap_setCell_same w5 _ 1 _ _ _ hbox5
  · rw [List.map_append, h.key, List.take_add_one, hu]; rfl
  · refine RowT.push (w := wr) (N := Apart (w.heap.size + 3) v wr) h.row ?_ hi ?_ (fun g hg => ?_) (fun g hg => ⟨hg.1, by have := hg.2.1; simp; omega, hv5 g hg.2.1 hg.2.2⟩)
    · rw [hlen]
      exact row_keep hown fun g e => hset g (by have := (hlt5 g e).1; omega)
    · have hl4l : l4.length ≤ 9223372036854775807 := by have := congrArg List.length hl4; simp at this; omega
      obtain ⟨A', c', e, hA⟩ := hR4.argsN (M := fun g => wr.heap.size ≤ g ∧ g < w4.heap.size) hl4l (fun g e => row_lt hR4.row g e) (fun g hg => ⟨hg.1, hg.2.1⟩)
      rw [hv4] at e
      injection e with e1 _ _
      subst e1
      rw [hl4] at hA
      refine (hA.keep fun g hg => ?_).wide fun g hg => ⟨by omega, by simp; omega, hv54 g hg.1 hg.2⟩
      exact (hset g (by omega)).trans (hK4 g hg.2 fun e => by have := (hlt _ e).2; omega)
    · exact (hset g (by have := hg.1; omega)).trans (hK g hg.2.1 hg.2.2)

set_option maxHeartbeats 2000000 in
theorem refCopy_any (t : Tm) : RCopyAt t := by
  refine Tm.ind (P := RCopyAt) (fun f xs ih => ?_) t
  intro hsz A c w hf hA
  simp only [Tm.fn, Tm.args] at hf hA ⊢
  have hlen : xs.length ≤ 4398046511104 := by have := sizes_len xs; simp only [Tm.size] at hsz; omega
  obtain ⟨i0, hi, hz0, hz1, hz2⟩ := info_parts info_term
  obtain ⟨q0, q1, q2⟩ := heap3 w (.cells #[.int .i64 f, .slice A xs.length c] 31) (.cells #[.int .i64 0, .slice none 0 0] 31) (.cells #[.int .i64 f, .slice none 0 0] 31)
  obtain ⟨W, hW⟩ : ∃ W, (((w.alloc (.cells #[.int .i64 f, .slice A xs.length c] 31)).alloc (.cells #[.int .i64 0, .slice none 0 0] 31)).alloc (.cells #[.int .i64 f, .slice none 0 0] 31)) = W := ⟨_, rfl⟩
  have hB : Below w.heap.size w W := by rw [← hW]; exact (((Below.refl _ _).alloc (Nat.le_refl _) _).alloc (by simp) _).alloc (by simp; omega) _
  rw [hW] at q0 q1 q2
  have hWs : w.heap.size + 2 < W.heap.size := (Array.getElem?_eq_some_iff.1 q2).1
  have hI0 : RCopyI w W f xs 0 (.slice none 0 0) [] := ⟨q2, by simp, RowT.nil_ _ _ _⟩
  have HI0 := Lib.hid hI0
  have HA := Lib.hid hA
  have HW := Lib.hid hW
  clear hW hA q2 hI0
  go_enter Try.func43, Try.ntmps43
  go_wp2
  rw [HW.out]
  go_loopw [4] (fun i wr => ∃ (k : Nat) (v : Value) (l : List Ti), k ≤ xs.length ∧ i = .int .i64 (k : Int) ∧ Below (w.heap.size + 2) W wr ∧ Hid (RCopyI w wr f xs k v l)) (fun i _ => xs.length - (intOf i).toNat)
  case atStart => exact ⟨0, _, [], Nat.zero_le _, rfl, Below.refl _ _, HI0⟩
  case round =>
    obtain ⟨k, v, l, hk, rfl, hBr, H⟩ := hrel
    have hbx := H.out.box
    have hbs : w.heap.size + 2 < wr.heap.size := (Array.getElem?_eq_some_iff.1 hbx).1
    obtain ⟨a0, a1, _, _⟩ := cells_two ((hBr.block _ (by omega)).trans q0)
    obtain ⟨c0, c1, g0, g1⟩ := cells_two hbx
    have hBw : Below w.heap.size w wr := hB.trans (hBr.mono (by omega))
    by_cases hlt : k < xs.length
    · obtain ⟨u, hu⟩ : ∃ u, xs[k]? = some u := ⟨_, List.getElem?_eq_getElem hlt⟩
      obtain ⟨bb, off, A1, c1', rfl, ha⟩ := HA.out.get hu
      have hbw := ha.hb
      have e0 := cell_on hBw hbw ha.c0
      have e1 := cell_on hBw hbw ha.c1
      have hbb : bb < wr.heap.size := by omega
      have hs1 : Hid (Args wr.drew wr.drew.heap.size A1 u.args) := (ha.sub.on hBw).drewN 1
      have hi64 := ha.hi
      have hmem := List.mem_of_getElem? hu
      have hszt : u.size ≤ 4398046511104 := by have := size_mem hmem; simp only [Tm.size] at hsz; omega
      have hul : u.args.length ≤ 9223372036854775807 := ha.sub.len
      have Hu := Lib.hid hu
      have hrow := H.out.row.row
      have hll := H.out.len hk
      rw [hll] at hrow
      obtain ⟨Av, cv, hv⟩ := row_own hrow
      subst hv
      have hrl := row_lt hrow
      have Hrow := Lib.hid hrow
      have hSS : ∀ w', Below wr.heap.size wr w' → w'.cell? ⟨w.heap.size + 2, 1, none⟩ = some (.slice Av k cv) ∧ w'.cell? ⟨w.heap.size, 1, none⟩ = some (.slice (some ⟨bb, off, none⟩) xs.length c) ∧ w'.cell? ⟨bb, off + k * 2, none⟩ = some (.int .i64 u.fn) ∧ w'.cell? ⟨bb, off + k * 2 + 1, none⟩ = some (.slice A1 u.args.length c1') := fun w' h => ⟨cell_on h hbs c1, cell_on h (by omega) a1, cell_on h hbb e0, cell_on h hbb e1⟩
      have hne : ∀ g, g < w.heap.size + 3 → (Value.slice Av k cv).ownBlock ≠ some g := fun g h e => by have := (hrl g e).1; omega
      have hBX : ∀ w' : World, (∀ g, g < wr.heap.size → (Value.slice Av k cv).ownBlock ≠ some g → w'.heap[g]? = wr.heap[g]?) → w'.cell? ⟨w.heap.size + 2, 1, none⟩ = some (.slice Av k cv) ∧ w'.frozen? ⟨w.heap.size + 2, 1, none⟩ = false := fun w' h => ⟨(cell_of_heap (h _ hbs (hne _ (by omega)))).trans c1, (frozen_of_heap (h _ hbs (hne _ (by omega)))).trans g1⟩
      clear hu ha hrow
      go_wp2
      go_region_law
        (first
          | (go_simp
             go_at_call 43
             refine (ih u hmem hszt A1 c1' wr.drew hi64 hs1.out).mono ?_
             rintro e w4 ⟨v4, l4, rfl, hl4, hR4, hb4⟩
             have hB4 : Below wr.heap.size wr w4 := ⟨hb4.os, hb4.tape, hb4.output, hb4.size, hb4.block⟩
             obtain ⟨A4, c4, hv4⟩ := row_own hR4.row
             have hl4l : l4.length = u.args.length := by rw [← hl4, List.length_map]
             rw [hl4l] at hv4
             have HR4 := Lib.hid hR4
             obtain ⟨k4, _, _, _⟩ := hSS _ hB4
             obtain ⟨k4', _, _, _⟩ := hSS _ (hB4.alloc hB4.size (.cells #[.int .i64 u.fn, .slice A4 u.args.length c4] 31))
             subst hv4
             clear hR4
             dsimp only)
          | (refine step_append_at rfl (.tmp 16) (.tmp 23) 29 rfl (w.heap.size + 3) 31 i0 (.agg #[.int .i64 0, .slice none 0 0]) 2 32 Try.underlying29 hi hz0 hz1 hz2 rfl (by decide) (.slice Av k cv) k _ (by simp [Act.eval]) (row_keep Hrow.out fun g e => (Below.heap_alloc w4 _ g (Nat.lt_of_lt_of_le (hrl g e).2 hB4.size)).trans (hB4.block g (hrl g e).2)) ⟨w4.heap.size, 0, none⟩ 1 1 [.int .i64 u.fn, .slice A4 u.args.length c4] (by simp [Act.eval]) rfl (cells_new_two _ _ _ _) (by simp [Value.oneCell']) (by unfold maxLen; omega) (by omega) (by have := hB4.size; simp; omega) ?_
             intro v5 w5 hown5 hgr5 hat5
             have hK5 : ∀ g, g < wr.heap.size → (Value.slice Av k cv).ownBlock ≠ some g → w5.heap[g]? = wr.heap[g]? := fun g h1 h2 => (hgr5.block g (by have := hB4.size; simp; omega) (fun e => h2 e.symm)).trans ((Below.heap_alloc w4 _ g (by have := hB4.size; omega)).trans (hB4.block g h1))
             obtain ⟨k1, kf⟩ := hBX w5 hK5
             obtain ⟨g5, cap5, hv5⟩ := ownsRow_succ hown5
             have Hown5 := Lib.hid hown5
             have Hgr5 := Lib.hid hgr5
             have Hat5 := Lib.hid hat5
             subst hv5
             clear hown5 hgr5 hat5 hK5)
          | fail)
      all_goals
        have hst := H.out.next Hu.out hi64 hl4 hul rfl HR4.out hB4 Hown5.out Hgr5.out Hat5.out
        have hBe : Below (w.heap.size + 2) W w5 := ((hBr.trans (hB4.mono (by omega))).alloc (by have := hB4.size; omega) _).grown Hgr5.out (by have := hB4.size; simp; omega) (fun g e => by have := (hrl g e).1; omega)
        go_wp2
        go_roundw
        case rel => exact ⟨k + 1, _, _, by omega, by go_num, hBe.setCell (Nat.le_refl _) _, hst⟩
        case measure => simp [intOf]; omega
    · obtain rfl : k = xs.length := by omega
      have hrow := H.out.row.row
      have hll := H.out.len hk
      rw [hll] at hrow
      obtain ⟨Av, cv, hv⟩ := row_own hrow
      subst hv
      have hkey := Lib.hid H.out.key
      have HR := Lib.hid H.out.row
      obtain ⟨b0, b1, bg0, bg1⟩ := cells_two ((hBr.block _ (by omega)).trans q1)
      clear hrow
      go_wp2
      have z1 : (wr.setCell ⟨w.heap.size + 1, 0, none⟩ (.int .i64 f)).heap[w.heap.size + 1]? = some (.cells #[.int .i64 f, .slice none 0 0] 31) := heap_setCell_same wr _ 0 _ _ _ ((hBr.block _ (by omega)).trans q1)
      have z2 : ((wr.setCell ⟨w.heap.size + 1, 0, none⟩ (.int .i64 f)).setCell ⟨w.heap.size + 1, 1, none⟩ (.slice Av xs.length cv)).heap[w.heap.size + 1]? = some (.cells #[.int .i64 f, .slice Av xs.length cv] 31) := heap_setCell_same _ _ 1 _ _ _ z1
      have p0 := (cells_two z1).1
      have p1 := (cells_two z2).2.1
      have hoth : ∀ g, g ≠ w.heap.size + 1 → ((wr.setCell ⟨w.heap.size + 1, 0, none⟩ (.int .i64 f)).setCell ⟨w.heap.size + 1, 1, none⟩ (.slice Av xs.length cv)).heap[g]? = wr.heap[g]? := fun g e => (heap_setCell_other _ _ _ _ e).trans (heap_setCell_other _ _ _ _ e)
      refine bodyPost_ret (v := .agg #[.int .i64 f, .slice Av xs.length cv]) (by simp [results, Try.results43, go_sem, p0, p1]) rfl ⟨_, l, rfl, by rw [hkey.out, List.take_length]; rfl, ?_, ?_⟩
      · have hk3 := (HR.out.keep (fun g e => hoth g (by have := (row_lt HR.out.row g e).1; omega)) (fun g e => hoth g (by have := e.1; omega))).base (base' := w.heap.size) (by omega)
        exact hk3.wide fun g e => show Apart _ _ _ g from ⟨by have := e.1; omega, by have := e.2.1; simpa using this, e.2.2⟩
      · exact (hBw.setCell (by show _ ≤ w.heap.size + 1; omega) _).setCell (by show _ ≤ w.heap.size + 1; omega) _

end Go.Proofs.Ytglfjmbclimeeaa

/- Rows of binds that grow, in plain words; what two substitutions do together, in plain words. -/

namespace Go.Proofs.Ytglfjmbclimeeaa

open Go.RowKit Go.Shelf
set_option maxRecDepth 100000

/-- A bind as a member of a row: where its term's arguments lie. -/
structure Bi where
  v : Int
  t : Tm
  A : Option Addr
  c : Nat

def Bi.bd (x : Bi) : Bd := ⟨x.v, x.t⟩

def Bi.cells (x : Bi) : List Value := [.int .i64 x.v, .int .i64 x.t.fn, .slice x.A x.t.args.length x.c]

theorem bi_get (l : List Bi) (i r : Nat) (hr : r < 3) : (l.flatMap Bi.cells)[i * 3 + r]? = (l[i]?).bind fun x => x.cells[r]? := by
  induction l generalizing i with
  | nil => simp
  | cons x l ih =>
    have hlen : x.cells.length = 3 := rfl
    rw [List.flatMap_cons]
    cases i with
    | zero => rw [List.getElem?_append_left (by omega)]; simp
    | succ i =>
      rw [List.getElem?_append_right (by omega), hlen, show (i + 1) * 3 + r - 3 = i * 3 + r from by omega, ih]
      simp

theorem bi_len (l : List Bi) : (l.flatMap Bi.cells).length = l.length * 3 := by
  induction l with
  | nil => rfl
  | cons x l ih =>
    have hlen : x.cells.length = 3 := rfl
    rw [List.flatMap_cons, List.length_append, ih, hlen, List.length_cons]
    omega

structure BiFx (w : World) (N : Nat → Prop) (x : Bi) : Prop where
  iv : I64 x.v
  it : I64 x.t.fn
  args : ArgsN w N x.A x.t.args

theorem BiFx.keep {w w' : World} {N : Nat → Prop} {x : Bi} (h : BiFx w N x) (hk : ∀ g, N g → w'.heap[g]? = w.heap[g]?) : BiFx w' N x := ⟨h.iv, h.it, h.args.keep hk⟩

theorem BiFx.wide {w : World} {N M : Nat → Prop} {x : Bi} (h : BiFx w N x) (hk : ∀ g, N g → M g) : BiFx w M x := ⟨h.iv, h.it, h.args.wide hk⟩

/-- The slice v is the call's own; it holds the binds l, whose terms lie in N's blocks. -/
structure RowB (w : World) (base : Nat) (v : Value) (l : List Bi) (N : Nat → Prop) : Prop where
  row : w.ownsRow base 51 3 v l.length (l.flatMap Bi.cells)
  fx : ∀ x ∈ l, BiFx w N x

section

variable {w w' : World} {base : Nat} {v : Value} {l : List Bi} {N M : Nat → Prop}

theorem RowB.nil_ (w : World) (base : Nat) (N : Nat → Prop) : RowB w base (.slice none 0 0) [] N := ⟨World.ownsRow_nil w _ _ _, fun x hx => by simp at hx⟩

theorem RowB.keep (h : RowB w base v l N) (hv : ∀ g, v.ownBlock = some g → w'.heap[g]? = w.heap[g]?) (hN : ∀ g, N g → w'.heap[g]? = w.heap[g]?) : RowB w' base v l N :=
  ⟨row_keep h.row hv, fun x hx => (h.fx x hx).keep hN⟩

theorem RowB.wide (h : RowB w base v l N) (hk : ∀ g, N g → M g) : RowB w base v l M := ⟨h.row, fun x hx => (h.fx x hx).wide hk⟩

/-- The row, read. -/
theorem RowB.binds (h : RowB w base v l N) (hl : l.length ≤ 9223372036854775807) (hv : ∀ g, v.ownBlock = some g → M g) (hN : ∀ g, N g → M g) : ∃ A c, v = .slice A l.length c ∧ Binds w M A (l.map Bi.bd) := by
  rcases h.row.2 with ⟨rfl, h0⟩ | ⟨g, cap, cur, rfl, hb, hg, _⟩
  · obtain rfl : l = [] := List.eq_nil_of_length_eq_zero h0
    exact ⟨none, 0, rfl, Binds.nil_ _ _ _⟩
  · refine ⟨_, _, rfl, by simpa using hl, fun hn => ⟨g, 0, rfl, hv g rfl, fun i y hy => ?_⟩⟩
    rw [List.getElem?_map] at hy
    cases hx : l[i]? with
    | none => rw [hx] at hy; cases hy
    | some x =>
      rw [hx] at hy
      injection hy with hy
      subst hy
      have hlt := (List.getElem?_eq_some_iff.1 hx).1
      have hm := h.fx x (List.mem_of_getElem? hx)
      have q0 := bi_get l i 0 (by omega)
      have q1 := bi_get l i 1 (by omega)
      have q2 := bi_get l i 2 (by omega)
      have c0 := h.row.cellAt (i * 3) (by omega)
      have c1 := h.row.cellAt (i * 3 + 1) (by omega)
      have c2 := h.row.cellAt (i * 3 + 2) (by omega)
      rw [Nat.add_zero, hx] at q0
      rw [hx] at q1 q2
      rw [q0] at c0
      rw [q1] at c1
      rw [q2] at c2
      rw [Nat.zero_add]
      exact ⟨x.A, x.c, c0, c1, c2, hm.iv, hm.it, hm.args.wide hN⟩

/-- One more. -/
theorem RowB.push {x : Bi} {v' : Value} (h : RowB w base v l N) (hrow : w'.ownsRow base 51 3 v' (l.length + 1) (l.flatMap Bi.cells ++ x.cells)) (hx : BiFx w' M x) (hk : ∀ g, N g → w'.heap[g]? = w.heap[g]?) (hNM : ∀ g, N g → M g) : RowB w' base v' (l ++ [x]) M := by
  refine ⟨?_, ?_⟩
  · rw [List.length_append, List.flatMap_append]
    simpa using hrow
  · intro y hy
    rcases List.mem_append.1 hy with hy | hy
    · exact ((h.fx y hy).keep hk).wide hNM
    · simp only [List.mem_cons, List.not_mem_nil, or_false] at hy
      subst hy; exact hx

end

/-- The three cells of a block that was laid for one bind. -/
theorem cells_new_bind (w : World) (x y z : Value) (t : TypeId) : ∀ j u, [x, y, z][j]? = some u → (w.alloc (.cells #[x, y, z] t)).cell? ((⟨w.heap.size, 0, none⟩ : Addr).add j) = some u := by
  intro j u hj
  match j, hj with
  | 0, hj => simp at hj; subst hj; simp [Addr.add]
  | 1, hj => simp at hj; subst hj; simp [Addr.add]
  | 2, hj => simp at hj; subst hj; simp [Addr.add]
  | j + 3, hj => simp at hj

/-- The first's binds, the second put into their terms. -/
def thenB (lb : List Bd) (x : Bd) : Bd := ⟨x.v, appT (bdT lb) x.t⟩

/-- Is a variable bound? -/
def hasB (l : List Bd) (v : Int) : Bool := (findB l v).isSome

/-- All binds of the two together, before they are sorted and cut. -/
def bothB (la lb : List Bd) : List Bd := la.map (thenB lb) ++ lb.filter fun x => !hasB la x.v

end Go.Proofs.Ytglfjmbclimeeaa

/- Compose: both rows of binds, one behind the other. -/

namespace Go.Proofs.Ytglfjmbclimeeaa

open Go.RowKit Go.Shelf
set_option maxRecDepth 100000

theorem chkFrom_all : ∀ (l : List Bd) (lo : Int), chkFrom lo l = true → ∀ x ∈ l, lo < x.v ∧ ¬ selfB x
  | [], _, _, x, hx => by simp at hx
  | y :: ys, lo, h, x, hx => by
    simp only [chkFrom, Bool.and_eq_true, decide_eq_true_eq, Bool.not_eq_true', decide_eq_false_iff_not] at h
    obtain ⟨h1, h2, h3⟩ := h
    rcases List.mem_cons.1 hx with rfl | hx
    · exact ⟨h1, h2⟩
    · have := chkFrom_all ys y.v h3 x hx
      exact ⟨by omega, this.2⟩

theorem chkFrom_rise : ∀ (l : List Bd) (lo : Int), chkFrom lo l = true → l.Pairwise fun x y => x.v < y.v
  | [], _, _ => .nil
  | y :: ys, lo, h => by
    simp only [chkFrom, Bool.and_eq_true, decide_eq_true_eq, Bool.not_eq_true', decide_eq_false_iff_not] at h
    exact .cons (fun x hx => (chkFrom_all ys y.v h.2.2 x hx).1) (chkFrom_rise ys y.v h.2.2)

theorem pairwise_rise {l : List Bd} (h : l.Pairwise fun x y => x.v < y.v) : Rise l := by
  intro i j x y hij hx hy
  obtain ⟨hi, rfl⟩ := List.getElem?_eq_some_iff.1 hx
  obtain ⟨hj, rfl⟩ := List.getElem?_eq_some_iff.1 hy
  rcases Nat.lt_or_eq_of_le hij with e | e
  · exact Int.le_of_lt (List.pairwise_iff_getElem.1 h i j hi hj e)
  · subst e; exact Int.le_refl _

theorem chkB_rise {l : List Bd} (h : chkB l = true) : Rise l := pairwise_rise (chkFrom_rise l (-1) h)

/-- What the two loops have laid: a row of its own, which begins at n0 or behind. -/
structure CmpI (n0 : Nat) (wr : World) (L : List Bd) (v : Value) (l : List Bi) : Prop where
  key : l.map Bi.bd = L
  row : RowB wr n0 v l (Apart n0 v wr)

theorem CmpI.len {n0 : Nat} {wr : World} {L : List Bd} {v : Value} {l : List Bi} (h : CmpI n0 wr L v l) : l.length = L.length := by
  rw [← h.key, List.length_map]

/-- One more: its box, the new term, the bind's box, the row that has grown. -/
theorem CmpI.next {n0 k : Nat} {wr w4 w5 : World} {L : List Bd} {v v5 : Value} {l : List Bi} {x : Bd} {A4 : Option Addr} {c4 : Nat} {o : Obj} (h : CmpI n0 wr L v l) (hk : L.length = k) (hn : n0 ≤ wr.heap.size) (hv : I64 x.v) (hi : I64 x.t.fn)
    (hO : OwnT w4 wr.heap.size w4.heap.size A4 x.t.args) (hb4 : Below wr.heap.size wr w4) (hown : w5.ownsRow n0 51 3 v5 (k + 1) (l.flatMap Bi.cells ++ (⟨x.v, x.t, A4, c4⟩ : Bi).cells))
    (hgr : (w4.alloc o).grownBy w5 v.ownBlock) (hat : v5.ownBlock = v.ownBlock ∨ v5.ownBlock = some (w4.alloc o).heap.size) : CmpI n0 w5 (L ++ [x]) v5 (l ++ [⟨x.v, x.t, A4, c4⟩]) := by
  have hlt := row_lt h.row.row
  have hs4 := hb4.size
  have hs5 := hgr.size
  have hK : ∀ g, g < wr.heap.size → v.ownBlock ≠ some g → w5.heap[g]? = wr.heap[g]? := fun g h1 h2 => (hgr.block g (by simp; omega) (fun e => h2 e.symm)).trans ((Below.heap_alloc w4 o g (by omega)).trans (hb4.block g h1))
  have hK4 : ∀ g, g < w4.heap.size → v.ownBlock ≠ some g → w5.heap[g]? = w4.heap[g]? := fun g h1 h2 => (hgr.block g (by simp; omega) (fun e => h2 e.symm)).trans (Below.heap_alloc w4 o g h1)
  have hv5 : ∀ g, g < wr.heap.size → v.ownBlock ≠ some g → v5.ownBlock ≠ some g := fun g h1 h2 e => by
    rcases hat with h3 | h3
    · rw [h3] at e; exact h2 e
    · rw [h3] at e; injection e with e; simp at e; omega
  have hv54 : ∀ g, wr.heap.size ≤ g → g < w4.heap.size → v5.ownBlock ≠ some g := fun g h1 h2 e => by
    rcases hat with h3 | h3
    · rw [h3] at e; have := (hlt _ e).2; omega
    · rw [h3] at e; injection e with e; simp at e; omega
  have hsz5 : w4.heap.size + 1 ≤ w5.heap.size := by simpa using hs5
  refine ⟨?_, ?_⟩
  · rw [List.map_append, h.key]; rfl
  · refine RowB.push (w := wr) (N := Apart n0 v wr) h.row ?_ ⟨hv, hi, ?_⟩ (fun g hg => hK g hg.2.1 hg.2.2) (fun g hg => ⟨hg.1, by have := hg.2.1; omega, hv5 g hg.2.1 hg.2.2⟩)
    · rw [h.len, hk]; exact hown
    · refine (hO.argsN.keep fun g hg => ?_).wide fun g hg => ⟨by omega, by omega, hv54 g hg.1 hg.2⟩
      exact hK4 g hg.2 fun e => by have := (hlt _ e).2; omega

/-- The bounds on two substitutions. -/
structure CmpC (l l' : List Bd) : Prop where
  len : l.length ≤ 1048576
  len' : l'.length ≤ 1048576
  small : ∀ x ∈ l, x.t.size ≤ 4398046511104
  small' : ∀ x ∈ l', x.t.size ≤ 4398046511104

end Go.Proofs.Ytglfjmbclimeeaa

/- The order of terms as such is an order: plain words. -/

namespace Go.Proofs.Ytglfjmbclimeeaa

/-- Argument by argument, then by how many. -/
def cmpX : List Tm → List Tm → Int
  | [], [] => 0
  | [], _ :: _ => -1
  | _ :: _, [] => 1
  | x :: xs, y :: ys => if cmpT x y ≠ 0 then cmpT x y else cmpX xs ys

theorem cmpX_eq : ∀ xs ys : List Tm, cmpX xs ys = if cmpL xs ys ≠ 0 then cmpL xs ys else numI xs.length ys.length
  | [], [] => by simp [cmpX, cmpL, numI]
  | [], y :: ys => by simp [cmpX, cmpL, numI]
  | x :: xs, [] => by simp [cmpX, cmpL, numI]; omega
  | x :: xs, y :: ys => by
    by_cases h : cmpT x y = 0
    · simp only [cmpX, cmpL, h, ne_eq, not_true_eq_false, if_false]
      rw [cmpX_eq xs ys]
      have : numI (x :: xs).length (y :: ys).length = numI xs.length ys.length := by
        unfold numI
        simp only [List.length_cons]
        by_cases h1 : (xs.length : Int) < ys.length
        · rw [if_pos h1, if_pos (by omega)]
        · rw [if_neg h1, if_neg (by omega)]
          by_cases h2 : (ys.length : Int) < xs.length
          · rw [if_pos h2, if_pos (by omega)]
          · rw [if_neg h2, if_neg (by omega)]
      rw [this]
    · simp only [cmpX, cmpL, ne_eq, h, not_false_eq_true, if_true]

theorem cmpT_x (f g : Int) (xs ys : List Tm) : cmpT (.node f xs) (.node g ys) = if headI f g ≠ 0 then headI f g else cmpX xs ys := by
  rw [cmpX_eq]
  exact cmpT_eq _ _

theorem head_anti (f g : Int) : headI g f = - headI f g := by
  unfold headI
  by_cases h : f = g
  · subst h; simp
  · rw [if_neg h, if_neg (fun e => h e.symm)]
    by_cases h1 : f < 0 ∧ g < 0
    · rw [if_pos h1, if_pos ⟨h1.2, h1.1⟩]
      by_cases h2 : g < f
      · rw [if_pos h2, if_neg (by omega)]; rfl
      · rw [if_neg h2, if_pos (by omega)]
    · rw [if_neg h1, if_neg (fun e => h1 ⟨e.2, e.1⟩)]
      by_cases h2 : f < g
      · rw [if_pos h2, if_neg (by omega)]; rfl
      · rw [if_neg h2, if_pos (by omega)]

theorem head_zero {f g : Int} (h : headI f g = 0) : f = g := by
  unfold headI at h
  split at h
  · assumption
  · split at h
    · split at h <;> omega
    · split at h <;> omega

theorem head_lt {f g : Int} : headI f g < 0 ↔ (f < 0 ∧ g < 0 ∧ g < f) ∨ (¬ (f < 0 ∧ g < 0) ∧ f < g) := by
  unfold headI
  by_cases h : f = g
  · subst h
    simp
  · rw [if_neg h]
    by_cases h1 : f < 0 ∧ g < 0
    · rw [if_pos h1]
      by_cases h2 : g < f
      · rw [if_pos h2]; omega
      · rw [if_neg h2]; omega
    · rw [if_neg h1]
      by_cases h2 : f < g
      · rw [if_pos h2]; omega
      · rw [if_neg h2]; omega

theorem head_trans {f g k : Int} (h1 : headI f g < 0) (h2 : headI g k < 0) : headI f k < 0 := by
  rw [head_lt] at *
  omega

theorem head_range (f g : Int) : -1 ≤ headI f g ∧ headI f g ≤ 1 := by
  unfold headI
  split
  · omega
  · split <;> split <;> omega

theorem cmp_anti (t : Tm) : ∀ u, cmpT u t = - cmpT t u := by
  refine Tm.ind (P := fun t => ∀ u, cmpT u t = - cmpT t u) (fun f xs ih u => ?_) t
  obtain ⟨g, ys⟩ := u
  rw [cmpT_x, cmpT_x, head_anti f g]
  have key : ∀ xs : List Tm, (∀ t ∈ xs, ∀ u, cmpT u t = - cmpT t u) → ∀ ys, cmpX ys xs = - cmpX xs ys := by
    intro xs
    induction xs with
    | nil => intro _ ys; cases ys <;> simp [cmpX]
    | cons x xs ihx =>
      intro h ys
      cases ys with
      | nil => simp [cmpX]
      | cons y ys =>
        simp only [cmpX]
        rw [h x (by simp) y, ihx (fun t ht => h t (by simp [ht])) ys]
        by_cases e : cmpT x y = 0
        · simp [e]
        · rw [if_pos (by omega), if_pos e]
  by_cases e : headI f g = 0
  · rw [if_neg (by simp [e]), if_neg (by simp [e]), key xs ih ys]
  · rw [if_pos (by omega), if_pos e]

theorem cmp_zero (t : Tm) : ∀ u, cmpT t u = 0 → t = u := by
  refine Tm.ind (P := fun t => ∀ u, cmpT t u = 0 → t = u) (fun f xs ih u h => ?_) t
  obtain ⟨g, ys⟩ := u
  rw [cmpT_x] at h
  have key : ∀ xs : List Tm, (∀ t ∈ xs, ∀ u, cmpT t u = 0 → t = u) → ∀ ys, cmpX xs ys = 0 → xs = ys := by
    intro xs
    induction xs with
    | nil => intro _ ys h; cases ys <;> simp [cmpX] at h ⊢
    | cons x xs ihx =>
      intro hh ys h
      cases ys with
      | nil => simp [cmpX] at h
      | cons y ys =>
        simp only [cmpX] at h
        by_cases e : cmpT x y = 0
        · rw [if_neg (by simp [e])] at h
          rw [hh x (by simp) y e, ihx (fun t ht => hh t (by simp [ht])) ys h]
        · rw [if_pos e] at h; exact absurd h e
  by_cases e : headI f g = 0
  · rw [if_neg (by simp [e])] at h
    rw [head_zero e, key xs ih ys h]
  · rw [if_pos e] at h; exact absurd h e

theorem cmp_refl (t : Tm) : cmpT t t = 0 := by have := cmp_anti t t; omega

theorem cmp_zero_iff {t u : Tm} : cmpT t u = 0 ↔ t = u := ⟨cmp_zero t u, fun h => by subst h; exact cmp_refl t⟩

theorem cmp_trans (t : Tm) : ∀ u v, cmpT t u < 0 → cmpT u v < 0 → cmpT t v < 0 := by
  refine Tm.ind (P := fun t => ∀ u v, cmpT t u < 0 → cmpT u v < 0 → cmpT t v < 0) (fun f xs ih u v h1 h2 => ?_) t
  obtain ⟨g, ys⟩ := u
  obtain ⟨k, zs⟩ := v
  rw [cmpT_x] at h1 h2 ⊢
  have key : ∀ xs : List Tm, (∀ t ∈ xs, ∀ u v, cmpT t u < 0 → cmpT u v < 0 → cmpT t v < 0) → ∀ ys zs, cmpX xs ys < 0 → cmpX ys zs < 0 → cmpX xs zs < 0 := by
    intro xs
    induction xs with
    | nil =>
      intro _ ys zs a b
      cases zs with
      | nil => cases ys <;> simp [cmpX] at a b
      | cons => simp [cmpX]
    | cons x xs ihx =>
      intro hh ys zs a b
      cases ys with
      | nil => simp [cmpX] at a
      | cons y ys =>
        cases zs with
        | nil => simp [cmpX] at b
        | cons z zs =>
          simp only [cmpX] at a b ⊢
          by_cases e1 : cmpT x y = 0
          · rw [if_neg (by simp [e1])] at a
            have := cmp_zero x y e1
            subst this
            by_cases e2 : cmpT x z = 0
            · rw [if_neg (by simp [e2])] at b ⊢
              exact ihx (fun t ht => hh t (by simp [ht])) ys zs a b
            · rw [if_pos e2] at b ⊢; exact b
          · rw [if_pos e1] at a
            by_cases e2 : cmpT y z = 0
            · have := cmp_zero y z e2
              subst this
              rw [if_pos e1]; exact a
            · rw [if_pos e2] at b
              have h3 := hh x (by simp) y z a b
              rw [if_pos (by omega)]; exact h3
  by_cases e1 : headI f g = 0
  · rw [if_neg (by simp [e1])] at h1
    have := head_zero e1
    subst this
    by_cases e2 : headI f k = 0
    · rw [if_neg (by simp [e2])] at h2 ⊢
      exact key xs ih ys zs h1 h2
    · rw [if_pos e2] at h2 ⊢; exact h2
  · rw [if_pos e1] at h1
    by_cases e2 : headI g k = 0
    · have := head_zero e2
      subst this
      rw [if_pos e1]; exact h1
    · rw [if_pos e2] at h2
      have h3 := head_trans h1 h2
      rw [if_pos (by omega)]; exact h3

theorem cmp_range (t : Tm) : ∀ u, -1 ≤ cmpT t u ∧ cmpT t u ≤ 1 := by
  refine Tm.ind (P := fun t => ∀ u, -1 ≤ cmpT t u ∧ cmpT t u ≤ 1) (fun f xs ih u => ?_) t
  obtain ⟨g, ys⟩ := u
  rw [cmpT_x]
  have key : ∀ xs : List Tm, (∀ t ∈ xs, ∀ u, -1 ≤ cmpT t u ∧ cmpT t u ≤ 1) → ∀ ys, -1 ≤ cmpX xs ys ∧ cmpX xs ys ≤ 1 := by
    intro xs
    induction xs with
    | nil => intro _ ys; cases ys <;> simp [cmpX]
    | cons x xs ihx =>
      intro hh ys
      cases ys with
      | nil => simp [cmpX]
      | cons y ys =>
        simp only [cmpX]
        split
        · exact hh x (by simp) y
        · exact ihx (fun t ht => hh t (by simp [ht])) ys
  split
  · exact head_range f g
  · exact key xs ih ys

theorem cmp_law {a b c : Tm} (hx : cmpT a b ≤ 0) (hy : cmpT b c ≤ 0) : cmpT a c ≤ 0 ∧ (cmpT a b < 0 → cmpT a c < 0) := by
  by_cases e1 : cmpT a b = 0
  · have := cmp_zero a b e1
    subst this
    exact ⟨hy, fun h => by omega⟩
  · by_cases e2 : cmpT b c = 0
    · have := cmp_zero b c e2
      subst this
      exact ⟨hx, fun h => h⟩
    · have := cmp_trans a b c (by omega) (by omega)
      exact ⟨by omega, fun _ => this⟩

end Go.Proofs.Ytglfjmbclimeeaa

/- Compare, Same. -/

namespace Go.Proofs.Ytglfjmbclimeeaa

open Go.RowKit
set_option maxRecDepth 100000

/-- What Compare does at this term, whatever the other one. -/
def CmpAt (t : Tm) : Prop := ∀ (u : Tm) (A A2 : Option Addr) (c c2 : Nat) (w : World), I64 t.fn → I64 u.fn → Args w w.heap.size A t.args → Args w w.heap.size A2 u.args →
  Calls Try.prog 93 #[.agg #[.int .i64 t.fn, .slice A t.args.length c], .agg #[.int .i64 u.fn, .slice A2 u.args.length c2]] w fun e w' => e = .returned (.int .i64 (cmpT t u)) ∧ Below w.heap.size w w'

set_option maxHeartbeats 1000000 in
theorem arguments_any (f g : Int) (xs ys : List Tm) (A A2 : Option Addr) (c c2 k : Nat) (a b : Tm) (w : World) (ih : CmpAt a) (hx : xs[k]? = some a) (hy : ys[k]? = some b) (hA : Args w w.heap.size A xs) (hA2 : Args w w.heap.size A2 ys) :
    Calls Try.prog 109 #[.agg #[.int .i64 f, .slice A xs.length c, .int .i64 g, .slice A2 ys.length c2], .int .i64 (k : Int)] w fun e w' => e = .returned (.int .i64 (cmpT a b)) ∧ Below w.heap.size w w' := by
  have hk1 : k < xs.length := (List.getElem?_eq_some_iff.1 hx).1
  have hk2 : k < ys.length := (List.getElem?_eq_some_iff.1 hy).1
  obtain ⟨bb, off, A', c', rfl, h1⟩ := hA.get hx
  obtain ⟨bb2, off2, A2', c2', rfl, h2⟩ := hA2.get hy
  have hl1 := hA.len
  have hl2 := hA2.len
  have hBW : Below w.heap.size w (w.alloc (.cells #[.int .i64 f, .slice (some ⟨bb, off, none⟩) xs.length c, .int .i64 g, .slice (some ⟨bb2, off2, none⟩) ys.length c2] 131)) := (Below.refl _ _).alloc (Nat.le_refl _) _
  go_enter Try.func109, Try.ntmps109
  go_wp2
  obtain ⟨W, hW⟩ : ∃ W, w.alloc (.cells #[.int .i64 f, .slice (some ⟨bb, off, none⟩) xs.length c, .int .i64 g, .slice (some ⟨bb2, off2, none⟩) ys.length c2] 131) = W := ⟨_, rfl⟩
  rw [hW] at hBW
  have hz : w.heap.size < W.heap.size := by rw [← hW]; clear hW hBW; simp
  have x0 : W.cell? ⟨w.heap.size, 1, none⟩ = some (.slice (some ⟨bb, off, none⟩) xs.length c) := by rw [← hW]; clear hW hBW; go_simp
  have x1 : W.cell? ⟨w.heap.size, 3, none⟩ = some (.slice (some ⟨bb2, off2, none⟩) ys.length c2) := by rw [← hW]; clear hW hBW; go_simp
  rw [hW]
  clear hW
  have a0 := cell_on hBW h1.hb h1.c0
  have a1 := cell_on hBW h1.hb h1.c1
  have b0 := cell_on hBW h2.hb h2.c0
  have b1 := cell_on hBW h2.hb h2.c1
  have s1 := Lib.hid ((h1.sub.blw hBW).more hBW.size)
  have s2 := Lib.hid ((h2.sub.blw hBW).more hBW.size)
  have Hx := Lib.hid (And.intro hx hy)
  have i1 := h1.hi
  have i2 := h2.hi
  have q1 : bb < W.heap.size := Nat.lt_of_lt_of_le h1.hb hBW.size
  have q2 : bb2 < W.heap.size := Nat.lt_of_lt_of_le h2.hb hBW.size
  clear hx hy h1 h2 hA hA2
  go_region_held3 (fun w' => w'.cell? ⟨w.heap.size, 1, none⟩ = some (.slice (some ⟨bb, off, none⟩) xs.length c) ∧ w'.cell? ⟨w.heap.size, 3, none⟩ = some (.slice (some ⟨bb2, off2, none⟩) ys.length c2) ∧ w'.cell? ⟨bb, off + k * 2, none⟩ = some (.int .i64 a.fn) ∧ w'.cell? ⟨bb, off + k * 2 + 1, none⟩ = some (.slice A' a.args.length c') ∧ w'.cell? ⟨bb2, off2 + k * 2, none⟩ = some (.int .i64 b.fn) ∧ w'.cell? ⟨bb2, off2 + k * 2 + 1, none⟩ = some (.slice A2' b.args.length c2'))
    (first | exact ⟨x0, x1, a0, a1, b0, b1⟩ | exact ⟨cell_on hB1 hz x0, cell_on hB1 hz x1, cell_on hB1 q1 a0, cell_on hB1 q1 a1, cell_on hB1 q2 b0, cell_on hB1 q2 b1⟩)
    (first
      | (go_at_call 93; refine (ih b A' A2' c' c2' W.drew i1 i2 (s1.out.drewN 1) (s2.out.drewN 1)).mono ?_; rintro e w1 ⟨rfl, hb1⟩; have hB1 : Below W.heap.size W w1 := ⟨hb1.os, hb1.tape, hb1.output, hb1.size, hb1.block⟩))
  go_wp2
  go_ret
  exact ⟨rfl, hBW.trans (hB1.mono (Nat.le_of_lt hz))⟩

set_option maxHeartbeats 1000000 in
theorem first_any (f g : Int) (xs ys : List Tm) (A A2 : Option Addr) (c c2 n : Nat) (w : World) (ih : ∀ a ∈ xs, CmpAt a) (hn1 : n ≤ xs.length) (hn2 : n ≤ ys.length) (hn : n = xs.length ∨ n = ys.length) (hA : Args w w.heap.size A xs) (hA2 : Args w w.heap.size A2 ys) :
    Calls Try.prog 108 #[.int .i64 (n : Int), .func (.func 109) #[.agg #[.int .i64 f, .slice A xs.length c, .int .i64 g, .slice A2 ys.length c2]] #[]] w fun e w' => e = .returned (.int .i64 (cmpL xs ys)) ∧ Below w.heap.size w w' := by
  have hl1 := hA.len
  have hl2 := hA2.len
  go_enter Try.func108, Try.ntmps108
  go_wp2
  go_loopw [8] (fun i wr => ∃ k : Nat, k ≤ n ∧ i = .int .i64 (k : Int) ∧ Below w.heap.size w wr ∧ Hid (∀ (j : Nat) (x y : Tm), j < k → xs[j]? = some x → ys[j]? = some y → cmpT x y = 0)) (fun i _ => n - (intOf i).toNat)
  case atStart => exact ⟨0, Nat.zero_le _, rfl, Below.refl _ _, fun j x y h => by omega⟩
  case round =>
    obtain ⟨k, hk, rfl, hBr, H⟩ := hrel
    by_cases hlt : k < n
    · obtain ⟨a, ha⟩ : ∃ a, xs[k]? = some a := ⟨_, List.getElem?_eq_getElem (by omega)⟩
      obtain ⟨b, hb⟩ : ∃ b, ys[k]? = some b := ⟨_, List.getElem?_eq_getElem (by omega)⟩
      have hC := Lib.hid (And.intro (hA.on hBr) (hA2.on hBr))
      have Hab := Lib.hid (And.intro ha hb)
      have hia := ih a (List.mem_of_getElem? ha)
      clear ha hb
      by_cases h0 : cmpT a b = 0
      · go_wp2_with (first | (go_at_call 109; refine (arguments_any f g xs ys A A2 c c2 k a b wr hia Hab.out.1 Hab.out.2 hC.out.1 hC.out.2).mono ?_; rintro e w1 ⟨rfl, hb1⟩; rw [h0]) | fail)
        refine ⟨⟨k + 1, by omega, by go_num, hBr.trans (hb1.mono hBr.size), fun j x y hj hx hy => ?_⟩, ?_⟩
        · by_cases e : j = k
          · subst e
            obtain ⟨e1, e2⟩ := Hab.out
            rw [hx] at e1; rw [hy] at e2
            cases e1; cases e2
            exact h0
          · exact H.out j x y (by omega) hx hy
        · simp [intOf]; omega
      · have hh := Lib.hid (cmpL_hit Hab.out.1 Hab.out.2 H.out h0)
        go_wp2_with (first | (go_at_call 109; refine (arguments_any f g xs ys A A2 c c2 k a b wr hia Hab.out.1 Hab.out.2 hC.out.1 hC.out.2).mono ?_; rintro e w1 ⟨rfl, hb1⟩) | fail)
        go_ret
        exact ⟨ret_int hh.out.symm, hBr.trans (hb1.mono hBr.size)⟩
    · have hke : k = n := by omega
      have hh := Lib.hid (cmpL_miss (xs := xs) (bs := ys) fun j x y hx hy => H.out j x y (by have h1 := (List.getElem?_eq_some_iff.1 hx).1; have h2 := (List.getElem?_eq_some_iff.1 hy).1; omega) hx hy)
      go_wp2
      go_ret
      exact ⟨ret_int hh.out.symm, hBr⟩

end Go.Proofs.Ytglfjmbclimeeaa

/- Compare, Same. -/

namespace Go.Proofs.Ytglfjmbclimeeaa

open Go.RowKit
set_option maxRecDepth 100000

theorem cmpT_h {f g : Int} {xs ys : List Tm} (h : ¬ headI f g = 0) : cmpT (.node f xs) (.node g ys) = headI f g := (cmpT_eq _ _).trans (if_pos h)

theorem cmpT_c {f g : Int} {xs ys : List Tm} (h : headI f g = 0) (h1 : ¬ cmpL xs ys = 0) : cmpT (.node f xs) (.node g ys) = cmpL xs ys := (cmpT_eq _ _).trans ((if_neg (fun e => e h)).trans (if_pos h1))

theorem cmpT_n {f g : Int} {xs ys : List Tm} (h : headI f g = 0) (h1 : cmpL xs ys = 0) : cmpT (.node f xs) (.node g ys) = numI xs.length ys.length := (cmpT_eq _ _).trans ((if_neg (fun e => e h)).trans (if_neg (fun e => e h1)))

set_option maxHeartbeats 2000000 in
theorem Compare_any (t : Tm) : CmpAt t := by
  refine Tm.ind (P := CmpAt) (fun f xs ih => ?_) t
  intro u A A2 c c2 w hf0 hg hA hA2
  obtain ⟨g, ys⟩ := u
  simp only [Tm.fn, Tm.args] at hf0 hg hA hA2 ⊢
  have hl1 := hA.len
  have hl2 := hA2.len
  obtain ⟨W, hW⟩ : ∃ W, (((w.alloc (.cells #[.int .i64 f, .slice A xs.length c] 31)).alloc (.cells #[.int .i64 g, .slice A2 ys.length c2] 31)).alloc (.cells #[.int .i64 f, .slice A xs.length c, .int .i64 g, .slice A2 ys.length c2] 131)) = W := ⟨_, rfl⟩
  have hWB : Below w.heap.size w W := by rw [← hW]; exact (((Below.refl _ _).alloc (Nat.le_refl _) _).alloc (by simp) _).alloc (by simp; omega) _
  have hS : ∀ w', Below W.heap.size W w' → w'.cell? ⟨w.heap.size, 1, none⟩ = some (.slice A xs.length c) ∧ w'.cell? ⟨w.heap.size + 1, 1, none⟩ = some (.slice A2 ys.length c2) ∧ w'.cell? ⟨w.heap.size + 1 + 1, 0, none⟩ = some (.int .i64 f) ∧ w'.cell? ⟨w.heap.size + 1 + 1, 1, none⟩ = some (.slice A xs.length c) ∧ w'.cell? ⟨w.heap.size + 1 + 1, 2, none⟩ = some (.int .i64 g) ∧ w'.cell? ⟨w.heap.size + 1 + 1, 3, none⟩ = some (.slice A2 ys.length c2) := by
    intro w' h
    refine ⟨cell_on h ?_ ?_, cell_on h ?_ ?_, cell_on h ?_ ?_, cell_on h ?_ ?_, cell_on h ?_ ?_, cell_on h ?_ ?_⟩ <;> (rw [← hW]; clear hW hWB h; first | (go_simp; done) | (simp; omega) | simp)
  have hA' := Lib.hid (hA.on hWB)
  have hA2' := Lib.hid (hA2.on hWB)
  have HW := Lib.hid hW
  clear hW
  have hSB : ∀ w1 w2, Below W.heap.size W w1 → Below w1.heap.size w1 w2 → Below W.heap.size W w2 := fun _ _ h1 h2 => bl_step h1 h2
  have hsz : w.heap.size ≤ W.heap.size := hWB.size
  have hfst := fun w1 (hb1 : Below W.heap.size W w1) => (fun (hle : ys.length < xs.length) => first_any f g xs ys A A2 c c2 ys.length w1 ih (Nat.le_of_lt hle) (Nat.le_refl _) (.inr rfl) (hA'.out.on hb1) (hA2'.out.on hb1))
  have hfst' := fun w1 (hb1 : Below W.heap.size W w1) => (fun (hle : ¬ ys.length < xs.length) => first_any f g xs ys A A2 c c2 xs.length w1 ih (Nat.le_refl _) (Nat.le_of_not_lt hle) (.inl rfl) (hA'.out.on hb1) (hA2'.out.on hb1))
  have hfst := Lib.hid hfst
  have hfst' := Lib.hid hfst'
  by_cases h0 : headI f g = 0
  · by_cases h1 : cmpL xs ys = 0
    · have hf := Lib.hid (cmpT_n h0 h1 : cmpT (.node f xs) (.node g ys) = numI xs.length ys.length)
      go_enter Try.func93, Try.ntmps93
      go_wp2_with (first
        | (go_at_call 107; rw [HW.out]; refine (heads_any f g _ _ W hf0 hg).mono ?_; rintro e w1 ⟨rfl, hb1⟩; rw [h0]; obtain ⟨x0, x1, x2, x3, x4, x5⟩ := hS _ hb1)
        | (go_at_call 108; (first | (have hle : ys.length < xs.length := (by assumption); refine (hfst.out w1 hb1 hle).mono ?_) | (have hle : ¬ ys.length < xs.length := (by assumption); refine (hfst'.out w1 hb1 hle).mono ?_)); rintro e w2 ⟨rfl, hb2⟩; rw [h1]; have hB2 := hSB _ _ hb1 hb2; obtain ⟨y0, y1, y2, y3, y4, y5⟩ := hS _ hB2)
        | (go_at_call 78; refine (cmpNum_any _ _ _).mono ?_; rintro e w3 ⟨rfl, hb3⟩; have hB3 := hSB _ _ hB2 hb3)
        | fail)
      all_goals
        go_ret
        exact ⟨ret_int hf.out.symm, hWB.trans (hB3.mono hsz)⟩
    · have hf := Lib.hid (cmpT_c h0 h1 : cmpT (.node f xs) (.node g ys) = cmpL xs ys)
      go_enter Try.func93, Try.ntmps93
      go_wp2_with (first
        | (go_at_call 107; rw [HW.out]; refine (heads_any f g _ _ W hf0 hg).mono ?_; rintro e w1 ⟨rfl, hb1⟩; rw [h0]; obtain ⟨x0, x1, x2, x3, x4, x5⟩ := hS _ hb1)
        | (go_at_call 108; (first | (have hle : ys.length < xs.length := (by assumption); refine (hfst.out w1 hb1 hle).mono ?_) | (have hle : ¬ ys.length < xs.length := (by assumption); refine (hfst'.out w1 hb1 hle).mono ?_)); rintro e w2 ⟨rfl, hb2⟩; have hB2 := hSB _ _ hb1 hb2)
        | fail)
      all_goals
        go_ret
        exact ⟨ret_int hf.out.symm, hWB.trans (hB2.mono hsz)⟩
  · have hf := Lib.hid (cmpT_h h0 : cmpT (.node f xs) (.node g ys) = headI f g)
    go_enter Try.func93, Try.ntmps93
    go_wp2_with (first
      | (go_at_call 107; rw [HW.out]; refine (heads_any f g _ _ W hf0 hg).mono ?_; rintro e w1 ⟨rfl, hb1⟩)
      | fail)
    go_ret
    exact ⟨ret_int hf.out.symm, hWB.trans (hb1.mono hsz)⟩

set_option maxHeartbeats 400000 in
theorem termSame_any (t u : Tm) (A A2 : Option Addr) (c c2 : Nat) (w : World) (hf : I64 t.fn) (hg : I64 u.fn) (hA : Args w w.heap.size A t.args) (hA2 : Args w w.heap.size A2 u.args) :
    Calls Try.prog 85 #[.agg #[.int .i64 t.fn, .slice A t.args.length c], .agg #[.int .i64 u.fn, .slice A2 u.args.length c2]] w fun e w' => e = .returned (.bool (decide (cmpT t u = 0))) ∧ Below w.heap.size w w' := by
  have hWB : Below w.heap.size w ((w.alloc (.cells #[.int .i64 t.fn, .slice A t.args.length c] 31)).alloc (.cells #[.int .i64 u.fn, .slice A2 u.args.length c2] 31)) := ((Below.refl _ _).alloc (Nat.le_refl _) _).alloc (by simp) _
  go_enter Try.func85, Try.ntmps85
  go_wp2_with (first
    | (go_at_call 93; refine (Compare_any t u A A2 c c2 _ hf hg (hA.on hWB) (hA2.on hWB)).mono ?_; rintro e w1 ⟨rfl, hb1⟩; have hB1 := bl_step hWB hb1)
    | fail)
  go_ret
  exact ⟨rfl, hB1⟩

end Go.Proofs.Ytglfjmbclimeeaa

/- The document's own answers: Size, Depth, low, over, Small. -/

namespace Go.Proofs.Ytglfjmbclimeeaa

open Go.RowKit
set_option maxRecDepth 100000

theorem sizes_snoc : ∀ (xs : List Tm) (u : Tm), sizes (xs ++ [u]) = sizes xs + u.size
  | [], u => by simp [sizes]
  | x :: xs, u => by simp only [List.cons_append, sizes, sizes_snoc xs u]; omega

theorem depths_snoc : ∀ (xs : List Tm) (u : Tm), depths (xs ++ [u]) = max (depths xs) u.depth
  | [], u => by simp [depths]
  | x :: xs, u => by simp only [List.cons_append, depths, depths_snoc xs u]; omega

theorem sizes_take {xs : List Tm} {k : Nat} {u : Tm} (h : xs[k]? = some u) : sizes (xs.take (k + 1)) = sizes (xs.take k) + u.size := by
  rw [List.take_add_one, h]; exact sizes_snoc _ _

theorem depths_take {xs : List Tm} {k : Nat} {u : Tm} (h : xs[k]? = some u) : depths (xs.take (k + 1)) = max (depths (xs.take k)) u.depth := by
  rw [List.take_add_one, h]; exact depths_snoc _ _

theorem sizes_le (xs : List Tm) (k : Nat) : sizes (xs.take k) ≤ sizes xs := by
  have key : ∀ (ys zs : List Tm), sizes zs ≤ sizes (zs ++ ys) := by
    intro ys zs
    induction zs with
    | nil => simp [sizes]
    | cons z zs ih => simp only [List.cons_append, sizes]; omega
  have := key (xs.drop k) (xs.take k)
  rwa [List.take_append_drop] at this

theorem depth_le_size (t : Tm) : t.depth ≤ t.size := by
  refine Tm.ind (P := fun t => t.depth ≤ t.size) (fun f xs ih => ?_) t
  simp only [Tm.depth, Tm.size]
  have key : ∀ ys : List Tm, (∀ t ∈ ys, t.depth ≤ t.size) → depths ys ≤ sizes ys := by
    intro ys
    induction ys with
    | nil => intro _; simp [depths]
    | cons y ys ihy =>
      intro h
      have h1 := h y (by simp)
      have h2 := ihy fun t ht => h t (by simp [ht])
      simp only [depths, sizes]
      omega
  have := key xs ih
  omega

theorem depths_le (xs : List Tm) (k : Nat) : depths (xs.take k) ≤ depths xs := by
  have key : ∀ (ys zs : List Tm), depths zs ≤ depths (zs ++ ys) := by
    intro ys zs
    induction zs with
    | nil => simp [depths]
    | cons z zs ih => simp only [List.cons_append, depths]; omega
  have := key (xs.drop k) (xs.take k)
  rwa [List.take_append_drop] at this

/-- The box of a term that is a parameter, and what stays of it. -/
theorem box_term {w W : World} {f : Int} {A : Option Addr} {n c : Nat} (hW : w.alloc (.cells #[.int .i64 f, .slice A n c] 31) = W) : Below w.heap.size w W ∧ w.heap.size < W.heap.size ∧ ∀ w', Below W.heap.size W w' → w'.cell? ⟨w.heap.size, 0, none⟩ = some (.int .i64 f) ∧ w'.cell? ⟨w.heap.size, 1, none⟩ = some (.slice A n c) := by
  have hb : W.heap[w.heap.size]? = some (.cells #[.int .i64 f, .slice A n c] 31) := by rw [← hW]; exact heap_alloc_new w _
  have hlt := (Array.getElem?_eq_some_iff.1 hb).1
  refine ⟨by rw [← hW]; exact (Below.refl _ _).alloc (Nat.le_refl _) _, hlt, fun w' h => ?_⟩
  obtain ⟨h0, h1, _, _⟩ := cells_two ((h.block _ hlt).trans hb)
  exact ⟨h0, h1⟩

def RSize (t : Tm) : Prop := t.size ≤ 4611686018427387904 → ∀ (A : Option Addr) (c : Nat) (w : World), I64 t.fn → Args w w.heap.size A t.args →
  Calls Try.prog 44 #[.agg #[.int .i64 t.fn, .slice A t.args.length c]] w fun e w' => e = .returned (.int .i64 (t.size : Int)) ∧ Below w.heap.size w w'

set_option maxHeartbeats 1000000 in
theorem refSize_any (t : Tm) : RSize t := by
  refine Tm.ind (P := RSize) (fun f xs ih => ?_) t
  intro hsz A c w hf hA
  simp only [Tm.fn, Tm.args] at hf hA ⊢
  have hlen := hA.len
  obtain ⟨W, hW⟩ : ∃ W, w.alloc (.cells #[.int .i64 f, .slice A xs.length c] 31) = W := ⟨_, rfl⟩
  obtain ⟨hB, hlt, hS⟩ := box_term hW
  have HW := Lib.hid hW
  have hszs : sizes xs + 1 ≤ 4611686018427387904 := by simpa only [Tm.size] using hsz
  clear hW
  go_enter Try.func44, Try.ntmps44
  go_upto_region 1 with fail
  rw [HW.out]
  go_wp2
  go_loopw [3, 4] (fun n i wr => ∃ k : Nat, k ≤ xs.length ∧ i = .int .i64 (k : Int) ∧ n = .int .i64 ((sizes (xs.take k) + 1 : Nat) : Int) ∧ Below W.heap.size W wr) (fun _ i _ => xs.length - (intOf i).toNat)
  case atStart => exact ⟨0, Nat.zero_le _, rfl, by simp [sizes], Below.refl _ _⟩
  case round =>
    obtain ⟨k, hk, rfl, rfl, hBr⟩ := hrel
    obtain ⟨_, x1⟩ := hS _ hBr
    have hsk := sizes_le xs k
    by_cases hkl : k < xs.length
    · obtain ⟨u, hu⟩ : ∃ u, xs[k]? = some u := ⟨_, List.getElem?_eq_getElem hkl⟩
      obtain ⟨bb, off, A1, c1, rfl, ha⟩ := (hA.on (hB.trans (hBr.mono hB.size))).get hu
      have e0 := ha.c0
      have e1 := ha.c1
      have hmem := List.mem_of_getElem? hu
      have hsu := size_mem hmem
      have hst := Lib.hid (sizes_take hu)
      have hsk1 := sizes_le xs (k + 1)
      have hst' := sizes_take hu
      have hsub := Lib.hid ha.sub
      have hu64 := ha.hi
      clear hu ha
      go_wp2_with (first
        | (go_at_call 44
           go_must (
           refine (ih u hmem (by omega) A1 c1 wr hu64 hsub.out).mono ?_
           rintro e w2 ⟨rfl, hb2⟩))
        | fail)
      refine ⟨⟨k + 1, by omega, by go_num, ?_, hBr.trans (hb2.mono hBr.size)⟩, by simp [intOf]; omega⟩
      rw [hst']
      go_num
    · obtain rfl : k = xs.length := by omega
      go_wp2
      go_ret
      exact ⟨by rw [List.take_length]; rfl, hB.trans (hBr.mono hB.size)⟩

def RDepth (t : Tm) : Prop := t.depth ≤ 4611686018427387904 → ∀ (A : Option Addr) (c : Nat) (w : World), I64 t.fn → Args w w.heap.size A t.args →
  Calls Try.prog 45 #[.agg #[.int .i64 t.fn, .slice A t.args.length c]] w fun e w' => e = .returned (.int .i64 (t.depth : Int)) ∧ Below w.heap.size w w'

set_option maxHeartbeats 1000000 in
theorem refDepth_any (t : Tm) : RDepth t := by
  refine Tm.ind (P := RDepth) (fun f xs ih => ?_) t
  intro hsz A c w hf hA
  simp only [Tm.fn, Tm.args] at hf hA ⊢
  have hlen := hA.len
  obtain ⟨W, hW⟩ : ∃ W, w.alloc (.cells #[.int .i64 f, .slice A xs.length c] 31) = W := ⟨_, rfl⟩
  obtain ⟨hB, hlt, hS⟩ := box_term hW
  have HW := Lib.hid hW
  have hszs : depths xs + 1 ≤ 4611686018427387904 := by simpa only [Tm.depth] using hsz
  clear hW
  go_enter Try.func45, Try.ntmps45
  go_upto_region 1 with fail
  rw [HW.out]
  go_wp2
  go_loopw [3, 4] (fun n i wr => ∃ k : Nat, k ≤ xs.length ∧ i = .int .i64 (k : Int) ∧ n = .int .i64 ((depths (xs.take k) : Nat) : Int) ∧ Below W.heap.size W wr) (fun _ i _ => xs.length - (intOf i).toNat)
  case atStart => exact ⟨0, Nat.zero_le _, rfl, by simp [depths], Below.refl _ _⟩
  case round =>
    obtain ⟨k, hk, rfl, rfl, hBr⟩ := hrel
    obtain ⟨_, x1⟩ := hS _ hBr
    have hsk := depths_le xs k
    by_cases hkl : k < xs.length
    · obtain ⟨u, hu⟩ : ∃ u, xs[k]? = some u := ⟨_, List.getElem?_eq_getElem hkl⟩
      obtain ⟨bb, off, A1, c1, rfl, ha⟩ := (hA.on (hB.trans (hBr.mono hB.size))).get hu
      have e0 := ha.c0
      have e1 := ha.c1
      have hmem := List.mem_of_getElem? hu
      have hsu := depth_mem hmem
      have hst' := depths_take hu
      have hsub := Lib.hid ha.sub
      have hu64 := ha.hi
      clear hu ha
      go_wp2_with (first
        | (go_at_call 45
           go_must (
           refine (ih u hmem (by omega) A1 c1 wr hu64 hsub.out).mono ?_
           rintro e w2 ⟨rfl, hb2⟩))
        | fail)
      all_goals
        refine ⟨⟨k + 1, by omega, by go_num, ?_, hBr.trans (hb2.mono hBr.size)⟩, by simp [intOf]; omega⟩
        rw [hst']
        congr 1
        omega
    · obtain rfl : k = xs.length := by omega
      go_wp2
      go_ret
      exact ⟨by rw [List.take_length]; rfl, hB.trans (hBr.mono hB.size)⟩

end Go.Proofs.Ytglfjmbclimeeaa

/- The document's own answers: Compare, Same. -/

namespace Go.Proofs.Ytglfjmbclimeeaa

open Go.RowKit
set_option maxRecDepth 100000

def RCmp (t : Tm) : Prop := ∀ (u : Tm) (A A2 : Option Addr) (c c2 : Nat) (w : World), I64 t.fn → I64 u.fn → Args w w.heap.size A t.args → Args w w.heap.size A2 u.args →
  Calls Try.prog 48 #[.agg #[.int .i64 t.fn, .slice A t.args.length c], .agg #[.int .i64 u.fn, .slice A2 u.args.length c2]] w fun e w' => e = .returned (.int .i64 (cmpT t u)) ∧ Below w.heap.size w w'

theorem head_ne {f g : Int} (h : f ≠ g) : headI f g = if f < 0 ∧ g < 0 then (if g < f then -1 else 1) else if f < g then -1 else 1 := by unfold headI; rw [if_neg h]

theorem head_nz {f g : Int} (h : f ≠ g) : ¬ headI f g = 0 := by
  rw [head_ne h]
  split
  · split <;> omega
  · split <;> omega

set_option maxHeartbeats 2000000 in
theorem ref2Cmp_any (t : Tm) : RCmp t := by
  refine Tm.ind (P := RCmp) (fun f xs ih => ?_) t
  intro u A A2 c c2 w hf hg hA hA2
  obtain ⟨g, ys⟩ := u
  simp only [Tm.fn, Tm.args] at hf hg hA hA2 ⊢
  have hl1 := hA.len
  have hl2 := hA2.len
  obtain ⟨p0, p1⟩ := heap2 w (.cells #[.int .i64 f, .slice A xs.length c] 31) (.cells #[.int .i64 g, .slice A2 ys.length c2] 31)
  obtain ⟨W, hW⟩ : ∃ W, ((w.alloc (.cells #[.int .i64 f, .slice A xs.length c] 31)).alloc (.cells #[.int .i64 g, .slice A2 ys.length c2] 31)) = W := ⟨_, rfl⟩
  have hB : Below w.heap.size w W := by rw [← hW]; exact ((Below.refl _ _).alloc (Nat.le_refl _) _).alloc (by simp) _
  rw [hW] at p0 p1
  have hWs : w.heap.size + 1 < W.heap.size := (Array.getElem?_eq_some_iff.1 p1).1
  have HW := Lib.hid hW
  have hA' := Lib.hid (hA.on hB)
  have hA2' := Lib.hid (hA2.on hB)
  have hSS : ∀ w', Below W.heap.size W w' → w'.cell? ⟨w.heap.size, 0, none⟩ = some (.int .i64 f) ∧ w'.cell? ⟨w.heap.size, 1, none⟩ = some (.slice A xs.length c) ∧ w'.cell? ⟨w.heap.size + 1, 0, none⟩ = some (.int .i64 g) ∧ w'.cell? ⟨w.heap.size + 1, 1, none⟩ = some (.slice A2 ys.length c2) := fun w' h =>
    ⟨(cells_two ((h.block _ (by omega)).trans p0)).1, (cells_two ((h.block _ (by omega)).trans p0)).2.1, (cells_two ((h.block _ hWs).trans p1)).1, (cells_two ((h.block _ hWs).trans p1)).2.1⟩
  obtain ⟨x0, x1, x2, x3⟩ := hSS W (Below.refl _ _)
  clear hW hA hA2 p0 p1
  by_cases hfg : f = g
  · subst hfg
    have hh : headI f f = 0 := by unfold headI; rw [if_pos rfl]
    go_enter Try.func48, Try.ntmps48
    go_upto_region 1 with fail
    rw [HW.out]
    go_wp2
    clear x0 x1 x2 x3
    go_loopw [5] (fun i wr => ∃ k : Nat, k ≤ xs.length ∧ k ≤ ys.length ∧ i = .int .i64 (k : Int) ∧ Below W.heap.size W wr ∧ Hid (∀ (j : Nat) (x y : Tm), j < k → xs[j]? = some x → ys[j]? = some y → cmpT x y = 0)) (fun i _ => xs.length - (intOf i).toNat)
    case atStart => exact ⟨0, Nat.zero_le _, Nat.zero_le _, rfl, Below.refl _ _, fun j x y h => by omega⟩
    case round =>
      obtain ⟨k, hk, hk2, rfl, hBr, H⟩ := hrel
      obtain ⟨_, x1, _, x3⟩ := hSS _ hBr
      by_cases hkl : k < xs.length ∧ k < ys.length
      · obtain ⟨hkx, hky⟩ := hkl
        obtain ⟨a, ha⟩ : ∃ a, xs[k]? = some a := ⟨_, List.getElem?_eq_getElem hkx⟩
        obtain ⟨b, hb⟩ : ∃ b, ys[k]? = some b := ⟨_, List.getElem?_eq_getElem hky⟩
        obtain ⟨bb, off, A', c', rfl, h1⟩ := (hA'.out.on hBr).get ha
        obtain ⟨bb2, off2, A2', c2', rfl, h2⟩ := (hA2'.out.on hBr).get hb
        have a0 := h1.c0
        have a1 := h1.c1
        have b0 := h2.c0
        have b1 := h2.c1
        have q1 := h1.hb
        have q2 := h2.hb
        have i1 := h1.hi
        have i2 := h2.hi
        have s1 : Hid (Args wr.drew wr.drew.heap.size A' a.args) := h1.sub.drewN 1
        have s2 : Hid (Args wr.drew wr.drew.heap.size A2' b.args) := h2.sub.drewN 1
        have Hab := Lib.hid (And.intro ha hb)
        have hia := ih a (List.mem_of_getElem? ha)
        clear ha hb h1 h2
        by_cases h0 : cmpT a b = 0
        · go_wp2
          go_region_held3 (fun w' => w'.cell? ⟨w.heap.size, 1, none⟩ = some (.slice (some ⟨bb, off, none⟩) xs.length c) ∧ w'.cell? ⟨w.heap.size + 1, 1, none⟩ = some (.slice (some ⟨bb2, off2, none⟩) ys.length c2) ∧ w'.cell? ⟨bb, off + k * 2, none⟩ = some (.int .i64 a.fn) ∧ w'.cell? ⟨bb, off + k * 2 + 1, none⟩ = some (.slice A' a.args.length c') ∧ w'.cell? ⟨bb2, off2 + k * 2, none⟩ = some (.int .i64 b.fn) ∧ w'.cell? ⟨bb2, off2 + k * 2 + 1, none⟩ = some (.slice A2' b.args.length c2'))
            (first | exact ⟨x1, x3, a0, a1, b0, b1⟩ | exact ⟨(hSS _ hB1).2.1, (hSS _ hB1).2.2.2, cell_on hb1 q1 a0, cell_on hb1 q1 a1, cell_on hb1 q2 b0, cell_on hb1 q2 b1⟩ | fail)
            (first
              | (go_at_call 48; refine (hia b A' A2' c' c2' wr.drew i1 i2 s1.out s2.out).mono ?_; rintro e w1 ⟨rfl, hb1'⟩; have hb1 : Below wr.heap.size wr w1 := ⟨hb1'.os, hb1'.tape, hb1'.output, hb1'.size, hb1'.block⟩; have hB1 := bl_step hBr hb1; rw [h0])
              | fail)
          go_wp2
          go_roundw
          case rel =>
            refine ⟨k + 1, by omega, by omega, by go_num, hB1, fun j x y hj hx hy => ?_⟩
            by_cases e : j = k
            · subst e
              obtain ⟨e1, e2⟩ := Hab.out
              rw [hx] at e1; rw [hy] at e2
              cases e1; cases e2
              exact h0
            · exact H.out j x y (by omega) hx hy
          case measure => simp [intOf]; omega
        · have hcl := cmpL_hit Hab.out.1 Hab.out.2 H.out h0
          have hh2 := Lib.hid (show cmpT (.node f xs) (.node f ys) = cmpT a b by rw [cmpT_c hh (by rw [hcl]; exact h0), hcl])
          clear hcl
          go_wp2
          go_region_held3 (fun w' => w'.cell? ⟨w.heap.size, 1, none⟩ = some (.slice (some ⟨bb, off, none⟩) xs.length c) ∧ w'.cell? ⟨w.heap.size + 1, 1, none⟩ = some (.slice (some ⟨bb2, off2, none⟩) ys.length c2) ∧ w'.cell? ⟨bb, off + k * 2, none⟩ = some (.int .i64 a.fn) ∧ w'.cell? ⟨bb, off + k * 2 + 1, none⟩ = some (.slice A' a.args.length c') ∧ w'.cell? ⟨bb2, off2 + k * 2, none⟩ = some (.int .i64 b.fn) ∧ w'.cell? ⟨bb2, off2 + k * 2 + 1, none⟩ = some (.slice A2' b.args.length c2'))
            (first | exact ⟨x1, x3, a0, a1, b0, b1⟩ | exact ⟨(hSS _ hB1).2.1, (hSS _ hB1).2.2.2, cell_on hb1 q1 a0, cell_on hb1 q1 a1, cell_on hb1 q2 b0, cell_on hb1 q2 b1⟩ | fail)
            (first
              | (go_at_call 48; refine (hia b A' A2' c' c2' wr.drew i1 i2 s1.out s2.out).mono ?_; rintro e w1 ⟨rfl, hb1'⟩; have hb1 : Below wr.heap.size wr w1 := ⟨hb1'.os, hb1'.tape, hb1'.output, hb1'.size, hb1'.block⟩; have hB1 := bl_step hBr hb1)
              | fail)
          go_wp2
          go_ret
          exact ⟨ret_int hh2.out.symm, hB.trans (hB1.mono hB.size)⟩
      · have hcl : cmpL xs ys = 0 := cmpL_miss fun j x y hx hy => H.out j x y (by have h1 := (List.getElem?_eq_some_iff.1 hx).1; have h2 := (List.getElem?_eq_some_iff.1 hy).1; omega) hx hy
        have hh2 := Lib.hid (cmpT_n hh hcl : cmpT (.node f xs) (.node f ys) = numI xs.length ys.length)
        clear hcl
        rcases Nat.lt_trichotomy xs.length ys.length with h | h | h
        · have e : numI xs.length ys.length = -1 := by unfold numI; rw [if_pos (by omega)]
          have e := Lib.hid e
          go_wp2
          go_ret
          exact ⟨ret_int (by rw [hh2.out, e.out]), hB.trans (hBr.mono hB.size)⟩
        · have e : numI xs.length ys.length = 0 := by unfold numI; rw [if_neg (by omega), if_neg (by omega)]
          have e := Lib.hid e
          go_wp2
          go_ret
          exact ⟨ret_int (by rw [hh2.out, e.out]), hB.trans (hBr.mono hB.size)⟩
        · have e : numI xs.length ys.length = 1 := by unfold numI; rw [if_neg (by omega), if_pos (by omega)]
          have e := Lib.hid e
          go_wp2
          go_ret
          exact ⟨ret_int (by rw [hh2.out, e.out]), hB.trans (hBr.mono hB.size)⟩
  · have hh := Lib.hid ((cmpT_h (head_nz hfg) : cmpT (.node f xs) (.node g ys) = headI f g).trans (head_ne hfg))
    by_cases h1 : f < 0 ∧ g < 0
    · obtain ⟨h1, h2⟩ := h1
      by_cases h3 : g < f
      all_goals
        go_enter Try.func48, Try.ntmps48
        go_upto_region 1 with fail
        rw [HW.out]
        go_wp2
        go_ret
        exact ⟨ret_int (by rw [hh.out, if_pos ⟨h1, h2⟩]; first | rw [if_pos (by omega)] | rw [if_neg (by omega)]), hB⟩
    · by_cases h2 : f < 0
      · have h3 : ¬ g < 0 := fun e => h1 ⟨h2, e⟩
        have h4 : f < g := by omega
        go_enter Try.func48, Try.ntmps48
        go_upto_region 1 with fail
        rw [HW.out]
        go_wp2
        go_ret
        exact ⟨ret_int (by rw [hh.out, if_neg h1, if_pos h4]), hB⟩
      · by_cases h4 : f < g
        all_goals
          go_enter Try.func48, Try.ntmps48
          go_upto_region 1 with fail
          rw [HW.out]
          go_wp2
          go_ret
          exact ⟨ret_int (by rw [hh.out, if_neg h1]; first | rw [if_pos (by omega)] | rw [if_neg (by omega)]), hB⟩

theorem ref2Cmp_at (t u : Tm) (A A2 : Option Addr) (c c2 : Nat) (w : World) (hf : I64 t.fn) (hg : I64 u.fn) (hA : Args w w.heap.size A t.args) (hA2 : Args w w.heap.size A2 u.args) :
    Calls Try.prog 48 #[.agg #[.int .i64 t.fn, .slice A t.args.length c], .agg #[.int .i64 u.fn, .slice A2 u.args.length c2]] w fun e w' => e = .returned (.int .i64 (cmpT t u)) ∧ Below w.heap.size w w' :=
  ref2Cmp_any t u A A2 c c2 w hf hg hA hA2

theorem ref2Same_any' (t u : Tm) (A A2 : Option Addr) (c c2 : Nat) (w : World) (hf : I64 t.fn) (hg : I64 u.fn) (hA : Args w w.heap.size A t.args) (hA2 : Args w w.heap.size A2 u.args) :
    Calls Try.prog 27 #[.agg #[.int .i64 t.fn, .slice A t.args.length c], .agg #[.int .i64 u.fn, .slice A2 u.args.length c2]] w fun e w' => e = .returned (.bool (decide (cmpT t u = 0))) ∧ Below w.heap.size w w' := by
  have hWB : Below w.heap.size w ((w.alloc (.cells #[.int .i64 t.fn, .slice A t.args.length c] 31)).alloc (.cells #[.int .i64 u.fn, .slice A2 u.args.length c2] 31)) := ((Below.refl _ _).alloc (Nat.le_refl _) _).alloc (by simp) _
  go_enter Try.func27, Try.ntmps27
  go_wp2_with (first
    | (go_at_call 48; refine (ref2Cmp_at t u A A2 c c2 _ hf hg (hA.on hWB) (hA2.on hWB)).mono ?_; rintro e w1 ⟨rfl, hb1⟩; have hB1 := bl_step hWB hb1)
    | fail)
  go_ret
  exact ⟨rfl, hB1⟩

end Go.Proofs.Ytglfjmbclimeeaa

