import Derived.Test.YtbchignbndgigaaP20Z1
import Derived.Test.YtbchignbndgigaaP17Z7
import Derived.Deep.RegionLaw
import Derived.Test.YtbchignbndgigaaP17Z1
import Derived.Test.YtbchignbndgigaaP17Z2
import Derived.RegionTactic
import Derived.ChangeAlike
import Derived.Deep.DeepCutAuto
import Derived.Lib.BufferMore
import Derived.OwnWalk
/- The document's own Copy, again: its rows have room for what they hold. (gen_ek.py) -/

namespace Go.Proofs.Ytbchignbndgigaa

open Go.RowKit Go.Shelf
set_option maxRecDepth 100000

/-- The slice v is the call's own; it holds the terms l, whose arguments lie in N's blocks. -/
structure RowTK (w : World) (base : Nat) (v : Value) (l : List Ti) (N : Nat → Prop) : Prop where
  row : w.ownsRow base 27 2 v l.length (l.flatMap Ti.cells)
  i64 : ∀ x ∈ l, I64 x.t.fn
  sub : ∀ x ∈ l, ArgsK w N x.A x.c x.t.args

section

variable {w w' : World} {base base' : Nat} {v : Value} {l : List Ti} {N M : Nat → Prop}

theorem RowTK.nil_ (w : World) (base : Nat) (N : Nat → Prop) : RowTK w base (.slice none 0 0) [] N :=
  ⟨World.ownsRow_nil w _ _ _, fun x hx => by simp at hx, fun x hx => by simp at hx⟩

theorem RowTK.keep (h : RowTK w base v l N) (hv : ∀ g, v.ownBlock = some g → w'.heap[g]? = w.heap[g]?) (hN : ∀ g, N g → w'.heap[g]? = w.heap[g]?) : RowTK w' base v l N :=
  ⟨row_keep h.row hv, h.i64, fun x hx => (h.sub x hx).keep hN⟩

theorem RowTK.wide (h : RowTK w base v l N) (hk : ∀ g, N g → M g) : RowTK w base v l M := ⟨h.row, h.i64, fun x hx => (h.sub x hx).wide hk⟩

theorem RowTK.shape (h : RowTK w base v l N) : ∃ A c, v = .slice A l.length c := by
  rcases h.row.2 with ⟨hv, h0⟩ | ⟨g, cap, cur, hv, _⟩
  · exact ⟨none, 0, by rw [hv, h0]⟩
  · exact ⟨_, cap, hv⟩

/-- The row, read. -/
theorem RowTK.argsK (h : RowTK w base v l N) (hl : l.length ≤ 9223372036854775807) (hv : ∀ g, v.ownBlock = some g → M g) (hN : ∀ g, N g → M g) : ∃ A c, v = .slice A l.length c ∧ ArgsK w M A c (l.map Ti.t) := by
  rcases h.row.2 with ⟨rfl, h0⟩ | ⟨g, cap, cur, rfl, hb, hg, hcap, _⟩
  · obtain rfl : l = [] := List.eq_nil_of_length_eq_zero h0
    exact ⟨none, 0, rfl, .nil _ _⟩
  · refine ⟨_, _, rfl, .row g 0 cap _ (fun i => ((l[i]?).map Ti.A).getD none) (fun i => ((l[i]?).map Ti.c).getD 0) (by simpa using hcap) (hv g rfl) (by simpa using hl) (fun i t e => ?_) (fun i t e => ?_) (fun i t e => ?_) fun i t e => ?_⟩
    all_goals
      rw [List.getElem?_map] at e
      cases hx : l[i]? with
      | none => rw [hx] at e; cases e
      | some x =>
        rw [hx] at e
        injection e with e
        subst e
        have hlt := (List.getElem?_eq_some_iff.1 hx).1
        have hm := List.mem_of_getElem? hx
        have q0 := ti_get l i 0 (by omega)
        have q1 := ti_get l i 1 (by omega)
        have c0 := h.row.cellAt (i * 2) (by omega)
        have c1 := h.row.cellAt (i * 2 + 1) (by omega)
        rw [Nat.add_zero, hx] at q0
        rw [hx] at q1
        rw [q0] at c0
        rw [q1] at c1
        try simp only [Option.map_some, Option.getD_some]
        try rw [Nat.zero_add]
        first | exact h.i64 x hm | exact c0 | exact c1 | exact (h.sub x hm).wide hN

/-- One more. -/
theorem RowTK.push {x : Ti} {v' : Value} (h : RowTK w base v l N) (hrow : w'.ownsRow base 27 2 v' (l.length + 1) (l.flatMap Ti.cells ++ x.cells)) (hi : I64 x.t.fn) (hx : ArgsK w' M x.A x.c x.t.args) (hk : ∀ g, N g → w'.heap[g]? = w.heap[g]?) (hNM : ∀ g, N g → M g) : RowTK w' base v' (l ++ [x]) M := by
  refine ⟨?_, ?_, ?_⟩
  · rw [List.length_append, List.flatMap_append]
    simpa using hrow
  · intro y hy
    rcases List.mem_append.1 hy with hy | hy
    · exact h.i64 y hy
    · simp only [List.mem_cons, List.not_mem_nil, or_false] at hy
      subst hy; exact hi
  · intro y hy
    rcases List.mem_append.1 hy with hy | hy
    · exact ((h.sub y hy).keep hk).wide hNM
    · simp only [List.mem_cons, List.not_mem_nil, or_false] at hy
      subst hy; exact hx

end

/-- A copy of t, in new memory: the row of its arguments is the call's own. -/
def RCopyPostK (t : Tm) (w : World) (e : Ending) (w' : World) : Prop := ∃ v l, e = .returned (.agg #[.int .i64 t.fn, v]) ∧ l.map Ti.t = t.args ∧ RowTK w' w.heap.size v l (Apart w.heap.size v w') ∧ Below w.heap.size w w'

def RCopyAtK (t : Tm) : Prop := t.size ≤ 4398046511104 → ∀ (A : Option Addr) (c : Nat) (w : World), I64 t.fn → Args w w.heap.size A t.args → Calls Try.prog 50 #[.agg #[.int .i64 t.fn, .slice A t.args.length c]] w (RCopyPostK t w)

/-- What the loop has laid: the box, its row. -/
structure RCopyIK (w wr : World) (f : Int) (xs : List Tm) (k : Nat) (v : Value) (l : List Ti) : Prop where
  box : wr.heap[w.heap.size + 2]? = some (.cells #[.int .i64 f, v] 27)
  key : l.map Ti.t = xs.take k
  row : RowTK wr (w.heap.size + 3) v l (Apart (w.heap.size + 3) v wr)

theorem RCopyIK.len {w wr : World} {f : Int} {xs : List Tm} {k : Nat} {v : Value} {l : List Ti} (h : RCopyIK w wr f xs k v l) (hk : k ≤ xs.length) : l.length = k := by
  have := congrArg List.length h.key
  simpa [Nat.min_eq_left hk] using this

theorem RowTK.base {w : World} {base base' : Nat} {v : Value} {l : List Ti} {N : Nat → Prop} (h : RowTK w base v l N) (hb : base' ≤ base) : RowTK w base' v l N := by
  refine ⟨⟨h.row.1, ?_⟩, h.i64, h.sub⟩
  rcases h.row.2 with h0 | ⟨g, cap, cur, hv, h1, hrest⟩
  · exact .inl h0
  · exact .inr ⟨g, cap, cur, hv, Nat.le_trans hb h1, hrest⟩

/-- One more: the copy of the next argument, its box, the row that has grown, the store. -/
theorem RCopyIK.next {w wr w4 w5 : World} {f : Int} {xs : List Tm} {k : Nat} {v v4 v5 : Value} {l l4 : List Ti} {u : Tm} {A4 : Option Addr} {c4 : Nat} {o : Obj} (h : RCopyIK w wr f xs k v l) (hu : xs[k]? = some u) (hi : I64 u.fn) (hl4 : l4.map Ti.t = u.args) (h64 : u.args.length ≤ 9223372036854775807) (hv4 : v4 = .slice A4 u.args.length c4)
    (hR4 : RowTK w4 wr.heap.size v4 l4 (Apart wr.heap.size v4 w4)) (hb4 : Below wr.heap.size wr w4) (hown : w5.ownsRow (w.heap.size + 3) 27 2 v5 (k + 1) (l.flatMap Ti.cells ++ (⟨u, A4, c4⟩ : Ti).cells))
    (hgr : (w4.alloc o).grownBy w5 v.ownBlock) (hat : v5.ownBlock = v.ownBlock ∨ v5.ownBlock = some (w4.alloc o).heap.size) :
    RCopyIK w (w5.setCell ⟨w.heap.size + 2, 1, none⟩ v5) f xs (k + 1) v5 (l ++ [⟨u, A4, c4⟩]) := by
  have hkl := (List.getElem?_eq_some_iff.1 hu).1
  have hlen := h.len (by omega)
  have hlt := row_lt h.row.row
  have hs4 := hb4.size
  have hs5 := hgr.size
  have hbs : w.heap.size + 2 < wr.heap.size := (Array.getElem?_eq_some_iff.1 h.box).1
  have hK : ∀ g, g < wr.heap.size → v.ownBlock ≠ some g → w5.heap[g]? = wr.heap[g]? := fun g h1 h2 => (hgr.block g (by simp; omega) (fun e => h2 e.symm)).trans ((Below.heap_alloc w4 o g (by omega)).trans (hb4.block g h1))
  have hK4 : ∀ g, g < w4.heap.size → v.ownBlock ≠ some g → w5.heap[g]? = w4.heap[g]? := fun g h1 h2 => (hgr.block g (by simp; omega) (fun e => h2 e.symm)).trans (Below.heap_alloc w4 o g h1)
  have hb2 : v.ownBlock ≠ some (w.heap.size + 2) := fun e => by have := (hlt _ e).1; omega
  have hbox5 := (hK _ hbs hb2).trans h.box
  obtain ⟨_, z1⟩ := set2_two (u := .int .i64 f) (v := v5) hbox5
  have hset : ∀ g, g ≠ w.heap.size + 2 → (w5.setCell ⟨w.heap.size + 2, 1, none⟩ v5).heap[g]? = w5.heap[g]? := fun g e => heap_setCell_other _ _ _ _ e
  have hlt5 := row_lt hown
  have hv5 : ∀ g, g < wr.heap.size → v.ownBlock ≠ some g → v5.ownBlock ≠ some g := fun g h1 h2 e => by
    rcases hat with h3 | h3
    · rw [h3] at e; exact h2 e
    · rw [h3] at e; injection e with e; simp at e; omega
  have hv54 : ∀ g, wr.heap.size ≤ g → g < w4.heap.size → v5.ownBlock ≠ some g := fun g h1 h2 e => by
    rcases hat with h3 | h3
    · rw [h3] at e; have := (hlt _ e).2; omega
    · rw [h3] at e; injection e with e; simp at e; omega
  have hsz5 : w4.heap.size + 1 ≤ w5.heap.size := by simpa using hs5
  refine ⟨?_, ?_, ?_⟩
  · exact heap_setCell_same w5 _ 1 _ _ _ hbox5
  · rw [List.map_append, h.key, List.take_add_one, hu]; rfl
  · refine RowTK.push (w := wr) (N := Apart (w.heap.size + 3) v wr) h.row ?_ hi ?_ (fun g hg => ?_) (fun g hg => ⟨hg.1, by have := hg.2.1; simp; omega, hv5 g hg.2.1 hg.2.2⟩)
    · rw [hlen]
      exact row_keep hown fun g e => hset g (by have := (hlt5 g e).1; omega)
    · have hl4l : l4.length ≤ 9223372036854775807 := by have := congrArg List.length hl4; simp at this; omega
      obtain ⟨A', c', e, hA⟩ := hR4.argsK (M := fun g => wr.heap.size ≤ g ∧ g < w4.heap.size) hl4l (fun g e => row_lt hR4.row g e) (fun g hg => ⟨hg.1, hg.2.1⟩)
      rw [hv4] at e
      injection e with e1 _ e3
      subst e1
      subst e3
      rw [hl4] at hA
      refine (hA.keep fun g hg => ?_).wide fun g hg => ⟨by omega, by simp; omega, hv54 g hg.1 hg.2⟩
      exact (hset g (by omega)).trans (hK4 g hg.2 fun e => by have := (hlt _ e).2; omega)
    · exact (hset g (by have := hg.1; omega)).trans (hK g hg.2.1 hg.2.2)

set_option maxHeartbeats 2000000 in
theorem refCopyK_any (t : Tm) : RCopyAtK t := by
  refine Tm.ind (P := RCopyAtK) (fun f xs ih => ?_) t
  intro hsz A c w hf hA
  simp only [Tm.fn, Tm.args] at hf hA ⊢
  have hlen : xs.length ≤ 4398046511104 := by have := sizes_len xs; simp only [Tm.size] at hsz; omega
  obtain ⟨i0, hi, hz0, hz1, hz2⟩ := info_parts info_term
  obtain ⟨q0, q1, q2⟩ := heap3 w (.cells #[.int .i64 f, .slice A xs.length c] 27) (.cells #[.int .i64 0, .slice none 0 0] 27) (.cells #[.int .i64 f, .slice none 0 0] 27)
  obtain ⟨W, hW⟩ : ∃ W, (((w.alloc (.cells #[.int .i64 f, .slice A xs.length c] 27)).alloc (.cells #[.int .i64 0, .slice none 0 0] 27)).alloc (.cells #[.int .i64 f, .slice none 0 0] 27)) = W := ⟨_, rfl⟩
  have hB : Below w.heap.size w W := by rw [← hW]; exact (((Below.refl _ _).alloc (Nat.le_refl _) _).alloc (by simp) _).alloc (by simp; omega) _
  rw [hW] at q0 q1 q2
  have hWs : w.heap.size + 2 < W.heap.size := (Array.getElem?_eq_some_iff.1 q2).1
  have hI0 : RCopyIK w W f xs 0 (.slice none 0 0) [] := ⟨q2, by simp, RowTK.nil_ _ _ _⟩
  have HI0 := Lib.hid hI0
  have HA := Lib.hid hA
  have HW := Lib.hid hW
  clear hW hA q2 hI0
  go_enter Try.func50, Try.ntmps50
  go_wp2
  rw [HW.out]
  go_loopw [4] (fun i wr => ∃ (k : Nat) (v : Value) (l : List Ti), k ≤ xs.length ∧ i = .int .i64 (k : Int) ∧ Below (w.heap.size + 2) W wr ∧ Hid (RCopyIK w wr f xs k v l)) (fun i _ => xs.length - (intOf i).toNat)
  case atStart => exact ⟨0, _, [], Nat.zero_le _, rfl, Below.refl _ _, HI0⟩
  case round =>
    obtain ⟨k, v, l, hk, rfl, hBr, H⟩ := hrel
    have hbx := H.out.box
    have hbs : w.heap.size + 2 < wr.heap.size := (Array.getElem?_eq_some_iff.1 hbx).1
    obtain ⟨a0, a1, _, _⟩ := cells_two ((hBr.block _ (by omega)).trans q0)
    obtain ⟨c0, c1, g0, g1⟩ := cells_two hbx
    have hBw : Below w.heap.size w wr := hB.trans (hBr.mono (by omega))
    by_cases hlt : k < xs.length
    · obtain ⟨u, hu⟩ : ∃ u, xs[k]? = some u := ⟨_, List.getElem?_eq_getElem hlt⟩
      obtain ⟨bb, off, A1, c1', rfl, ha⟩ := HA.out.get hu
      have hbw := ha.hb
      have e0 := cell_on hBw hbw ha.c0
      have e1 := cell_on hBw hbw ha.c1
      have hbb : bb < wr.heap.size := by omega
      have hs1 : Hid (Args wr.drew wr.drew.heap.size A1 u.args) := (ha.sub.on hBw).drewN 1
      have hi64 := ha.hi
      have hmem := List.mem_of_getElem? hu
      have hszt : u.size ≤ 4398046511104 := by have := size_mem hmem; simp only [Tm.size] at hsz; omega
      have hul : u.args.length ≤ 9223372036854775807 := ha.sub.len
      have Hu := Lib.hid hu
      have hrow := H.out.row.row
      have hll := H.out.len hk
      rw [hll] at hrow
      obtain ⟨Av, cv, hv⟩ := row_own hrow
      subst hv
      have hrl := row_lt hrow
      have Hrow := Lib.hid hrow
      have hSS : ∀ w', Below wr.heap.size wr w' → w'.cell? ⟨w.heap.size + 2, 1, none⟩ = some (.slice Av k cv) ∧ w'.cell? ⟨w.heap.size, 1, none⟩ = some (.slice (some ⟨bb, off, none⟩) xs.length c) ∧ w'.cell? ⟨bb, off + k * 2, none⟩ = some (.int .i64 u.fn) ∧ w'.cell? ⟨bb, off + k * 2 + 1, none⟩ = some (.slice A1 u.args.length c1') := fun w' h => ⟨cell_on h hbs c1, cell_on h (by omega) a1, cell_on h hbb e0, cell_on h hbb e1⟩
      have hne : ∀ g, g < w.heap.size + 3 → (Value.slice Av k cv).ownBlock ≠ some g := fun g h e => by have := (hrl g e).1; omega
      have hBX : ∀ w' : World, (∀ g, g < wr.heap.size → (Value.slice Av k cv).ownBlock ≠ some g → w'.heap[g]? = wr.heap[g]?) → w'.cell? ⟨w.heap.size + 2, 1, none⟩ = some (.slice Av k cv) ∧ w'.frozen? ⟨w.heap.size + 2, 1, none⟩ = false := fun w' h => ⟨(cell_of_heap (h _ hbs (hne _ (by omega)))).trans c1, (frozen_of_heap (h _ hbs (hne _ (by omega)))).trans g1⟩
      clear hu ha hrow
      go_wp2
      go_region_law
        (first
          | (go_simp
             go_at_call 50
             refine (ih u hmem hszt A1 c1' wr.drew hi64 hs1.out).mono ?_
             rintro e w4 ⟨v4, l4, rfl, hl4, hR4, hb4⟩
             have hB4 : Below wr.heap.size wr w4 := ⟨hb4.os, hb4.tape, hb4.output, hb4.size, hb4.block⟩
             obtain ⟨A4, c4, hv4⟩ := row_own hR4.row
             have hl4l : l4.length = u.args.length := by rw [← hl4, List.length_map]
             rw [hl4l] at hv4
             have HR4 := Lib.hid hR4
             obtain ⟨k4, _, _, _⟩ := hSS _ hB4
             obtain ⟨k4', _, _, _⟩ := hSS _ (hB4.alloc hB4.size (.cells #[.int .i64 u.fn, .slice A4 u.args.length c4] 27))
             subst hv4
             clear hR4
             dsimp only)
          | (refine step_append_at rfl (.tmp 16) (.tmp 23) 25 rfl (w.heap.size + 3) 27 i0 (.agg #[.int .i64 0, .slice none 0 0]) 2 32 Try.underlying25 hi hz0 hz1 hz2 rfl (by decide) (.slice Av k cv) k _ (by simp [Act.eval]) (row_keep Hrow.out fun g e => (Below.heap_alloc w4 _ g (Nat.lt_of_lt_of_le (hrl g e).2 hB4.size)).trans (hB4.block g (hrl g e).2)) ⟨w4.heap.size, 0, none⟩ 1 1 [.int .i64 u.fn, .slice A4 u.args.length c4] (by simp [Act.eval]) rfl (cells_new_two _ _ _ _) (by simp [Value.oneCell']) (by unfold maxLen; omega) (by omega) (by have := hB4.size; simp; omega) ?_
             intro v5 w5 hown5 hgr5 hat5
             have hK5 : ∀ g, g < wr.heap.size → (Value.slice Av k cv).ownBlock ≠ some g → w5.heap[g]? = wr.heap[g]? := fun g h1 h2 => (hgr5.block g (by have := hB4.size; simp; omega) (fun e => h2 e.symm)).trans ((Below.heap_alloc w4 _ g (by have := hB4.size; omega)).trans (hB4.block g h1))
             obtain ⟨k1, kf⟩ := hBX w5 hK5
             obtain ⟨g5, cap5, hv5⟩ := ownsRow_succ hown5
             have Hown5 := Lib.hid hown5
             have Hgr5 := Lib.hid hgr5
             have Hat5 := Lib.hid hat5
             subst hv5
             clear hown5 hgr5 hat5 hK5)
          | fail)
      all_goals
        have hst := H.out.next Hu.out hi64 hl4 hul rfl HR4.out hB4 Hown5.out Hgr5.out Hat5.out
        have hBe : Below (w.heap.size + 2) W w5 := ((hBr.trans (hB4.mono (by omega))).alloc (by have := hB4.size; omega) _).grown Hgr5.out (by have := hB4.size; simp; omega) (fun g e => by have := (hrl g e).1; omega)
        go_wp2
        go_roundw
        case rel => exact ⟨k + 1, _, _, by omega, by go_num, hBe.setCell (Nat.le_refl _) _, hst⟩
        case measure => simp [intOf]; omega
    · obtain rfl : k = xs.length := by omega
      have hrow := H.out.row.row
      have hll := H.out.len hk
      rw [hll] at hrow
      obtain ⟨Av, cv, hv⟩ := row_own hrow
      subst hv
      have hkey := Lib.hid H.out.key
      have HR := Lib.hid H.out.row
      obtain ⟨b0, b1, bg0, bg1⟩ := cells_two ((hBr.block _ (by omega)).trans q1)
      clear hrow
      go_wp2
      have z1 : (wr.setCell ⟨w.heap.size + 1, 0, none⟩ (.int .i64 f)).heap[w.heap.size + 1]? = some (.cells #[.int .i64 f, .slice none 0 0] 27) := heap_setCell_same wr _ 0 _ _ _ ((hBr.block _ (by omega)).trans q1)
      have z2 : ((wr.setCell ⟨w.heap.size + 1, 0, none⟩ (.int .i64 f)).setCell ⟨w.heap.size + 1, 1, none⟩ (.slice Av xs.length cv)).heap[w.heap.size + 1]? = some (.cells #[.int .i64 f, .slice Av xs.length cv] 27) := heap_setCell_same _ _ 1 _ _ _ z1
      have p0 := (cells_two z1).1
      have p1 := (cells_two z2).2.1
      have hoth : ∀ g, g ≠ w.heap.size + 1 → ((wr.setCell ⟨w.heap.size + 1, 0, none⟩ (.int .i64 f)).setCell ⟨w.heap.size + 1, 1, none⟩ (.slice Av xs.length cv)).heap[g]? = wr.heap[g]? := fun g e => (heap_setCell_other _ _ _ _ e).trans (heap_setCell_other _ _ _ _ e)
      refine bodyPost_ret (v := .agg #[.int .i64 f, .slice Av xs.length cv]) (by simp [results, Try.results50, go_sem, p0, p1]) rfl ⟨_, l, rfl, by rw [hkey.out, List.take_length]; rfl, ?_, ?_⟩
      · have hk3 := (HR.out.keep (fun g e => hoth g (by have := (row_lt HR.out.row g e).1; omega)) (fun g e => hoth g (by have := e.1; omega))).base (base' := w.heap.size) (by omega)
        exact hk3.wide fun g e => show Apart _ _ _ g from ⟨by have := e.1; omega, by have := e.2.1; simpa using this, e.2.2⟩
      · exact (hBw.setCell (by show _ ≤ w.heap.size + 1; omega) _).setCell (by show _ ≤ w.heap.size + 1; omega) _

theorem refCopyK_at (t : Tm) (A : Option Addr) (c : Nat) (w : World) (hsz : t.size ≤ 4398046511104) (hf : I64 t.fn) (hA : Args w w.heap.size A t.args) :
    Calls Try.prog 50 #[.agg #[.int .i64 t.fn, .slice A t.args.length c]] w fun e w' => ∃ A' c', e = .returned (.agg #[.int .i64 t.fn, .slice A' t.args.length c']) ∧ ArgsK w' (fun g => w.heap.size ≤ g ∧ g < w'.heap.size) A' c' t.args ∧ Below w.heap.size w w' := by
  refine (refCopyK_any t hsz A c w hf hA).mono ?_
  rintro e w' ⟨v, l, rfl, hl, hR, hb⟩
  have hlen : l.length = t.args.length := by rw [← hl, List.length_map]
  obtain ⟨A', c', rfl, hN⟩ := hR.argsK (M := fun g => w.heap.size ≤ g ∧ g < w'.heap.size) (by rw [hlen]; exact hA.len) (fun g e => row_lt hR.row g e) (fun g hg => ⟨hg.1, hg.2.1⟩)
  rw [hl] at hN
  exact ⟨A', c', by rw [hlen], hN, hb⟩

end Go.Proofs.Ytbchignbndgigaa

/- Rows of places that grow, in plain words; the places of a term, place by place. -/

namespace Go.Proofs.Ytbchignbndgigaa

open Go.RowKit Go.Shelf
set_option maxRecDepth 100000

theorem vis_pre (t : Tm) : ∀ q p : List Int, vis (q ++ p) t = (vis p t).map fun y => (q ++ y.1, y.2) := by
  refine Tm.ind (P := fun t => ∀ q p : List Int, vis (q ++ p) t = (vis p t).map fun y => (q ++ y.1, y.2)) (fun f xs ih => ?_) t
  intro q p
  have key : ∀ (ys : List Tm) (i : Nat), (∀ u ∈ ys, ∀ q p : List Int, vis (q ++ p) u = (vis p u).map fun y => (q ++ y.1, y.2)) → visL (q ++ p) i ys = (visL p i ys).map fun y => (q ++ y.1, y.2) := by
    intro ys
    induction ys with
    | nil => intro i _; simp [visL]
    | cons y ys ihy =>
      intro i h
      simp only [visL, List.map_append]
      rw [ihy (i + 1) fun u hu => h u (by simp [hu]), List.append_assoc, h y (by simp) q (p ++ [(i : Int)])]
  simp only [vis, List.map_cons]
  rw [key xs 0 ih]

theorem vis_one (t : Tm) (k : Int) : vis [k] t = (vis [] t).map fun y => (k :: y.1, y.2) := by
  have := vis_pre t [k] []
  simpa using this

/-- The slice at A holds the numbers; it lies in N's blocks. -/
structure IntsN (w : World) (N : Nat → Prop) (A : Option Addr) (l : List Int) : Prop where
  len : l.length ≤ 9223372036854775807
  i64 : ∀ x ∈ l, I64 x
  ad : 0 < l.length → ∃ b off, A = some ⟨b, off, none⟩ ∧ N b ∧ ∀ (i : Nat) (x : Int), l[i]? = some x → w.cell? ⟨b, off + i, none⟩ = some (.int .i64 x)

section

variable {w w' : World} {N M : Nat → Prop} {B : Nat} {A : Option Addr} {l : List Int}

theorem IntsN.keep (h : IntsN w N A l) (hk : ∀ g, N g → w'.heap[g]? = w.heap[g]?) : IntsN w' N A l :=
  ⟨h.len, h.i64, fun hn => by
    obtain ⟨b, off, hA, hb, hc⟩ := h.ad hn
    exact ⟨b, off, hA, hb, fun i x hi => (cell_of_heap (hk b hb)).trans (hc i x hi)⟩⟩

theorem IntsN.wide (h : IntsN w N A l) (hk : ∀ g, N g → M g) : IntsN w M A l :=
  ⟨h.len, h.i64, fun hn => by
    obtain ⟨b, off, hA, hb, hc⟩ := h.ad hn
    exact ⟨b, off, hA, hk b hb, hc⟩⟩

theorem IntsN.ints (h : IntsN w N A l) (hN : ∀ g, N g → g < B) : Ints w B A l :=
  ⟨h.len, h.i64, fun hn => by
    obtain ⟨b, off, hA, hb, hc⟩ := h.ad hn
    exact ⟨b, off, hA, hN b hb, hc⟩⟩

theorem IntsN.nil_ (w : World) (N : Nat → Prop) (A : Option Addr) : IntsN w N A [] := ⟨by simp, by simp, fun h => by simp at h⟩

theorem row_intsN {base : Nat} {v : Value} (h : w.ownsRow base 3 1 v l.length (l.map (Value.int .i64))) (hl : l.length ≤ 9223372036854775807) (hi : ∀ x ∈ l, I64 x) (hv : ∀ g, v.ownBlock = some g → N g) : ∃ A c, v = .slice A l.length c ∧ IntsN w N A l := by
  rcases h.2 with ⟨rfl, h0⟩ | ⟨g, cap, cur, rfl, hb, hg, _⟩
  · exact ⟨none, 0, by rw [h0], hl, hi, fun hn => by omega⟩
  · refine ⟨_, _, rfl, hl, hi, fun hn => ⟨g, 0, rfl, hv g rfl, fun i x hx => ?_⟩⟩
    have hlt := (List.getElem?_eq_some_iff.1 hx).1
    rw [Nat.zero_add, h.cellAt i (by simpa using hlt)]
    simp [hx]

end

/-- A place and what stands there, as a member of a row. -/
structure Pk where
  p : List Int
  t : Tm
  Ap : Option Addr
  cp : Nat
  A : Option Addr
  c : Nat

def Pk.key (x : Pk) : List Int × Tm := (x.p, x.t)

def Pk.cells (x : Pk) : List Value := [.slice x.Ap x.p.length x.cp, .int .i64 x.t.fn, .slice x.A x.t.args.length x.c]

structure PkFx (w : World) (N : Nat → Prop) (x : Pk) : Prop where
  pos : IntsN w N x.Ap x.p
  i64 : I64 x.t.fn
  args : ArgsN w N x.A x.t.args

theorem PkFx.keep {w w' : World} {N : Nat → Prop} {x : Pk} (h : PkFx w N x) (hk : ∀ g, N g → w'.heap[g]? = w.heap[g]?) : PkFx w' N x := ⟨h.pos.keep hk, h.i64, h.args.keep hk⟩

theorem PkFx.wide {w : World} {N M : Nat → Prop} {x : Pk} (h : PkFx w N x) (hk : ∀ g, N g → M g) : PkFx w M x := ⟨h.pos.wide hk, h.i64, h.args.wide hk⟩

theorem pk_get (l : List Pk) (i r : Nat) (hr : r < 3) : (l.flatMap Pk.cells)[i * 3 + r]? = (l[i]?).bind fun x => x.cells[r]? := by
  induction l generalizing i with
  | nil => simp
  | cons x l ih =>
    have hlen : x.cells.length = 3 := rfl
    rw [List.flatMap_cons]
    cases i with
    | zero => rw [List.getElem?_append_left (by omega)]; simp
    | succ i =>
      rw [List.getElem?_append_right (by omega), hlen, show (i + 1) * 3 + r - 3 = i * 3 + r from by omega, ih]
      simp

theorem pk_len (l : List Pk) : (l.flatMap Pk.cells).length = l.length * 3 := by
  induction l with
  | nil => rfl
  | cons x l ih =>
    have hlen : x.cells.length = 3 := rfl
    rw [List.flatMap_cons, List.length_append, ih, hlen, List.length_cons]
    omega

theorem pk_one (l : List Pk) : ∀ u ∈ l.flatMap Pk.cells, u.oneCell' = true := by
  intro u hu
  obtain ⟨x, _, hx⟩ := List.mem_flatMap.1 hu
  simp only [Pk.cells, List.mem_cons, List.not_mem_nil, or_false] at hx
  rcases hx with rfl | rfl | rfl <;> rfl

/-- The slice v is the call's own; it holds the places l, whose numbers and terms lie in N's blocks. -/
structure RowP (w : World) (base : Nat) (v : Value) (l : List Pk) (N : Nat → Prop) : Prop where
  row : w.ownsRow base 45 3 v l.length (l.flatMap Pk.cells)
  fx : ∀ x ∈ l, PkFx w N x

section

variable {w w' : World} {base : Nat} {v : Value} {l : List Pk} {N M : Nat → Prop}

theorem RowP.keep (h : RowP w base v l N) (hv : ∀ g, v.ownBlock = some g → w'.heap[g]? = w.heap[g]?) (hN : ∀ g, N g → w'.heap[g]? = w.heap[g]?) : RowP w' base v l N :=
  ⟨row_keep h.row hv, fun x hx => (h.fx x hx).keep hN⟩

theorem RowP.wide (h : RowP w base v l N) (hk : ∀ g, N g → M g) : RowP w base v l M := ⟨h.row, fun x hx => (h.fx x hx).wide hk⟩

theorem RowP.shape (h : RowP w base v l N) : ∃ A c, v = .slice A l.length c := by
  rcases h.row.2 with ⟨hv, h0⟩ | ⟨g, cap, cur, hv, _⟩
  · exact ⟨none, 0, by rw [hv, h0]⟩
  · exact ⟨_, cap, hv⟩

/-- One of the places, read. -/
theorem RowP.get (h : RowP w base v l N) {i : Nat} {x : Pk} (hx : l[i]? = some x) : ∃ g c, v = .slice (some ⟨g, 0, none⟩) l.length c ∧ v.ownBlock = some g ∧ g < w.heap.size ∧ w.cell? ⟨g, i * 3, none⟩ = some (.slice x.Ap x.p.length x.cp) ∧ w.cell? ⟨g, i * 3 + 1, none⟩ = some (.int .i64 x.t.fn) ∧ w.cell? ⟨g, i * 3 + 2, none⟩ = some (.slice x.A x.t.args.length x.c) ∧ PkFx w N x := by
  have hlt := (List.getElem?_eq_some_iff.1 hx).1
  rcases h.row.2 with ⟨_, h0⟩ | ⟨g, cap, cur, rfl, hb, hg, _⟩
  · omega
  · refine ⟨g, cap, rfl, rfl, (Array.getElem?_eq_some_iff.1 hg).1, ?_, ?_, ?_, h.fx x (List.mem_of_getElem? hx)⟩
    · have hq := pk_get l i 0 (by omega)
      rw [Nat.add_zero, hx] at hq
      rw [h.row.cellAt (i * 3) (by omega), hq]
      rfl
    · have hq := pk_get l i 1 (by omega)
      rw [hx] at hq
      rw [h.row.cellAt (i * 3 + 1) (by omega), hq]
      rfl
    · have hq := pk_get l i 2 (by omega)
      rw [hx] at hq
      rw [h.row.cellAt (i * 3 + 2) (by omega), hq]
      rfl

/-- One more. -/
theorem RowP.push {x : Pk} {v' : Value} (h : RowP w base v l N) (hrow : w'.ownsRow base 45 3 v' (l.length + 1) (l.flatMap Pk.cells ++ x.cells)) (hx : PkFx w' M x) (hk : ∀ g, N g → w'.heap[g]? = w.heap[g]?) (hNM : ∀ g, N g → M g) : RowP w' base v' (l ++ [x]) M := by
  refine ⟨?_, ?_⟩
  · rw [List.length_append, List.flatMap_append]
    simpa using hrow
  · intro y hy
    rcases List.mem_append.1 hy with hy | hy
    · exact ((h.fx y hy).keep hk).wide hNM
    · simp only [List.mem_cons, List.not_mem_nil, or_false] at hy
      subst hy; exact hx

end

end Go.Proofs.Ytbchignbndgigaa

/- The document's own answers: At, Put. -/

namespace Go.Proofs.Ytbchignbndgigaa

open Go.RowKit Go.Shelf
set_option maxRecDepth 100000

theorem refCopy_at (t : Tm) (A : Option Addr) (c : Nat) (w : World) (hsz : t.size ≤ 4398046511104) (hf : I64 t.fn) (hA : Args w w.heap.size A t.args) :
    Calls Try.prog 50 #[.agg #[.int .i64 t.fn, .slice A t.args.length c]] w fun e w' => ∃ A' c', e = .returned (.agg #[.int .i64 t.fn, .slice A' t.args.length c']) ∧ ArgsN w' (fun g => w.heap.size ≤ g ∧ g < w'.heap.size) A' t.args ∧ Below w.heap.size w w' := by
  refine (refCopy_any t hsz A c w hf hA).mono ?_
  rintro e w' ⟨v, l, rfl, hl, hR, hb⟩
  have hlen : l.length = t.args.length := by rw [← hl, List.length_map]
  obtain ⟨A', c', rfl, hN⟩ := hR.argsN (M := fun g => w.heap.size ≤ g ∧ g < w'.heap.size) (by rw [hlen]; exact hA.len) (fun g e => row_lt hR.row g e) (fun g hg => ⟨hg.1, hg.2.1⟩)
  rw [hl] at hN
  exact ⟨A', c', by rw [hlen], hN, hb⟩

/-- What stands at the place; the zero term, if there is none. -/
def RAtPost (t : Tm) (p : List Int) (w : World) (e : Ending) (w' : World) : Prop := ∃ A' c', e = .returned (.tuple #[.agg #[.int .i64 (atT t p).fn, .slice A' (atT t p).args.length c'], .bool (subT t p).isSome]) ∧ I64 (atT t p).fn ∧ Args w' w'.heap.size A' (atT t p).args ∧ Below w.heap.size w w'

/-- Where the loop stands: what is still to be gone down, in the box. -/
structure RAtI (w wr : World) (t : Tm) (p : List Int) (k : Nat) (s : Tm) (As : Option Addr) (cs : Nat) : Prop where
  box : wr.heap[w.heap.size]? = some (.cells #[.int .i64 s.fn, .slice As s.args.length cs] 27)
  res : wr.heap[w.heap.size + 1]? = some (.cells #[.int .i64 0, .slice none 0 0] 27)
  blw : Below w.heap.size w wr
  i64 : I64 s.fn
  args : Args w w.heap.size As s.args
  size : s.size ≤ 4398046511104
  key : subT t p = subT s (p.drop k)

theorem RAtI.next {w wr : World} {t s u : Tm} {p : List Int} {k cs cu n : Nat} {As Au : Option Addr} (h : RAtI w wr t p k s As cs) (hi : I64 u.fn) (hA : Args w w.heap.size Au u.args) (hs : u.size ≤ 4398046511104) (hk : subT t p = subT u (p.drop (k + 1))) :
    RAtI w (((wr.drewN n).setCell ⟨w.heap.size, 0, none⟩ (.int .i64 u.fn)).setCell ⟨w.heap.size, 1, none⟩ (.slice Au u.args.length cu)) t p (k + 1) u Au cu := by
  have hb : (wr.drewN n).heap[w.heap.size]? = some (.cells #[.int .i64 s.fn, .slice As s.args.length cs] 27) := h.box
  refine ⟨(set2_two hb).2, ?_, ((bl_drewN h.blw n).setCell (Nat.le_refl _) _).setCell (Nat.le_refl _) _, hi, hA, hs, hk⟩
  exact (heap_setCell_other _ _ _ _ (by show w.heap.size + 1 ≠ w.heap.size; omega)).trans ((heap_setCell_other _ _ _ _ (by show w.heap.size + 1 ≠ w.heap.size; omega)).trans h.res)

end Go.Proofs.Ytbchignbndgigaa

/- Put. -/

namespace Go.Proofs.Ytbchignbndgigaa

open Go.RowKit
set_option maxRecDepth 100000

def PutPost (t : Tm) (p : List Int) (s : Tm) (w : World) (e : Ending) (w' : World) : Prop := Below w.heap.size w w' ∧
  match subT t p with
  | none => e = .returned (.tuple #[.agg #[.int .i64 0, .slice none 0 0], .bool false])
  | some _ => ∃ A' c', e = .returned (.tuple #[.agg #[.int .i64 (putT t p s).fn, .slice A' (putT t p s).args.length c'], .bool true]) ∧ I64 (putT t p s).fn ∧ Args w' w'.heap.size A' (putT t p s).args

theorem put_fr {w w' : World} {p : List Int} {h b' o' : Nat} {t : Tm} {A : Option Addr} {c lo hi : Nat} (hP : PathA w.drew p h 0 t b' o') (hc : w.drew.cell? ⟨h, 0 + 1, none⟩ = some (.slice A t.args.length c)) (hO : OwnT w.drew lo hi A t.args)
    (hfz : ∀ b, b = h → w.frozen? ⟨b, 0, none⟩ = false ∧ w.frozen? ⟨b, 1, none⟩ = false) (hk : w'.heap[b']? = w.heap[b']?) : w'.frozen? ⟨b', o', none⟩ = false ∧ w'.frozen? ⟨b', o' + 1, none⟩ = false := by
  rw [frozen_of_heap hk, frozen_of_heap hk]
  rcases path_in hP hc hO with ⟨_, rfl, rfl⟩ | ⟨_, _, h1, h2⟩
  · exact hfz _ rfl
  · exact ⟨h1, h2⟩

theorem put_ne {w : World} {p : List Int} {h b' o' : Nat} {t : Tm} {A : Option Addr} {c lo hi : Nat} (hP : PathA w p h 0 t b' o') (hc : w.cell? ⟨h, 0 + 1, none⟩ = some (.slice A t.args.length c)) (hO : OwnT w lo hi A t.args) (hlo : h + 2 < lo) : h ≤ b' ∧ h + 1 ≠ b' ∧ h + 1 + 1 ≠ b' := by
  rcases path_in hP hc hO with ⟨_, rfl, rfl⟩ | ⟨_, _, h1, h2⟩ <;> omega

end Go.Proofs.Ytbchignbndgigaa

/- The document's own answer: Put. -/

namespace Go.Proofs.Ytbchignbndgigaa

open Go.RowKit Go.Shelf
set_option maxRecDepth 100000

theorem ti_set : ∀ (l : List Ti) (i : Nat) (x : Ti), i < l.length → ((l.flatMap Ti.cells).set (i * 2) (.int .i64 x.t.fn)).set (i * 2 + 1) (.slice x.A x.t.args.length x.c) = (l.set i x).flatMap Ti.cells
  | [], i, x, h => by simp at h
  | y :: l, 0, x, _ => by simp [Ti.cells]
  | y :: l, i + 1, x, h => by
    have ih := ti_set l i x (by simpa using h)
    rw [List.set_cons_succ, List.flatMap_cons, List.flatMap_cons, ← ih]
    simp [Ti.cells, Nat.add_mul]

/-- Another term is laid at a place of the row. -/
theorem RowT.put {w : World} {base g cap n i : Nat} {l : List Ti} {x : Ti} {N M : Nat → Prop} (h : RowT w base (.slice (some ⟨g, 0, none⟩) n cap) l N) (hn : l.length = n) (hi : i < l.length) (hx : I64 x.t.fn) (hg : ∀ k, N k → k ≠ g ∧ M k) (hxa : ArgsN w (fun k => k ≠ g ∧ M k) x.A x.t.args) :
    RowT ((w.setCell ⟨g, i * 2, none⟩ (.int .i64 x.t.fn)).setCell ⟨g, i * 2 + 1, none⟩ (.slice x.A x.t.args.length x.c)) base (.slice (some ⟨g, 0, none⟩) n cap) (l.set i x) M := by
  subst hn
  have h1 := (h.row.stored (i * 2) (.int .i64 x.t.fn)).1
  have h2 := (h1.stored (i * 2 + 1) (.slice x.A x.t.args.length x.c)).1
  rw [ti_set l i x hi] at h2
  have hk : ∀ k, k ≠ g → ((w.setCell ⟨g, i * 2, none⟩ (.int .i64 x.t.fn)).setCell ⟨g, i * 2 + 1, none⟩ (.slice x.A x.t.args.length x.c)).heap[k]? = w.heap[k]? := fun k e => (heap_setCell_other _ _ _ _ e).trans (heap_setCell_other _ _ _ _ e)
  refine ⟨by rw [List.length_set]; exact h2, fun y hy => ?_, fun y hy => ?_⟩
  · rcases List.mem_or_eq_of_mem_set hy with hy | rfl
    · exact h.i64 y hy
    · exact hx
  · rcases List.mem_or_eq_of_mem_set hy with hy | rfl
    · exact ((h.sub y hy).keep fun k e => hk k (hg k e).1).wide fun k e => (hg k e).2
    · exact (hxa.keep fun k e => hk k e.1).wide fun k e => e.2

theorem row_some {W : World} {base n : Nat} {e : TypeId} {size : Nat} {v : Value} {vs : List Value} (h : W.ownsRow base e size v n vs) (hn : 0 < n) : ∃ g c, v = .slice (some ⟨g, 0, none⟩) n c := by
  rcases h.2 with ⟨_, h0⟩ | ⟨g, cap, cur, hv, _⟩
  · omega
  · exact ⟨g, cap, hv⟩

/-- The term with s at the place; the zero term, if the place is not there. -/
def putO (t : Tm) (p : List Int) (s : Tm) : Tm := if (subT t p).isSome then putT t p s else .node 0 []

def RPutPost (t : Tm) (p : List Int) (s : Tm) (w : World) (e : Ending) (w' : World) : Prop := ∃ A' c', e = .returned (.tuple #[.agg #[.int .i64 (putO t p s).fn, .slice A' (putO t p s).args.length c'], .bool (subT t p).isSome]) ∧ I64 (putO t p s).fn ∧ ArgsN w' (fun g => w.heap.size ≤ g ∧ g < w'.heap.size) A' (putO t p s).args ∧ Below w.heap.size w w'

def RPutAt (p : List Int) : Prop := ∀ (t s : Tm) (A : Option Addr) (c : Nat) (Ap : Option Addr) (cp : Nat) (As : Option Addr) (cs : Nat) (w : World), t.size ≤ 4398046511104 → s.size ≤ 4398046511104 → I64 t.fn → I64 s.fn → Args w w.heap.size A t.args → Ints w w.heap.size Ap p → p.length ≤ cp → cp ≤ 9223372036854775807 → Args w w.heap.size As s.args →
  Calls Try.prog 26 #[.agg #[.int .i64 t.fn, .slice A t.args.length c], .slice Ap p.length cp, .agg #[.int .i64 s.fn, .slice As s.args.length cs]] w (RPutPost t p s w)

/-- What the inner call has left. -/
structure RPutMid (w W : World) (o : Tm) (bb : Nat) (wx : World) : Prop where
  blw : Below W.heap.size W wx
  lo : W.heap.size ≤ bb
  i64 : I64 o.fn
  xb : ∃ Ax cx, wx.heap[bb]? = some (.cells #[.int .i64 o.fn, .slice Ax o.args.length cx] 27) ∧ ArgsN wx (fun g => W.heap.size ≤ g ∧ g < wx.heap.size) Ax o.args

theorem putO_nil (t s : Tm) : putO t [] s = s := by simp [putO, subT, putT]

set_option maxHeartbeats 2000000 in
theorem refPut_any (p : List Int) : RPutAt p := by
  induction p with
  | nil =>
    intro t s A c Ap cp As cs w hsz hss hi his hA hp hcp hcp2 hAs
    obtain ⟨q0, q1, q2⟩ := heap3 w (.cells #[.int .i64 t.fn, .slice A t.args.length c] 27) (.cells #[.int .i64 s.fn, .slice As s.args.length cs] 27) (.cells #[.int .i64 0, .slice none 0 0] 27)
    obtain ⟨W, hW⟩ : ∃ W, (((w.alloc (.cells #[.int .i64 t.fn, .slice A t.args.length c] 27)).alloc (.cells #[.int .i64 s.fn, .slice As s.args.length cs] 27)).alloc (.cells #[.int .i64 0, .slice none 0 0] 27)) = W := ⟨_, rfl⟩
    have hB : Below w.heap.size w W := by rw [← hW]; exact (((Below.refl _ _).alloc (Nat.le_refl _) _).alloc (by simp) _).alloc (by simp; omega) _
    rw [hW] at q0 q1 q2
    have hWs : w.heap.size + 1 + 1 < W.heap.size := (Array.getElem?_eq_some_iff.1 q2).1
    have HAs := Lib.hid (hAs.on hB)
    have HW := Lib.hid hW
    obtain ⟨a0, a1, _, _⟩ := cells_two q1
    clear hW hA hAs hp
    simp only [List.length_nil] at hcp ⊢
    go_enter Try.func26, Try.ntmps26
    go_upto_region 1 with fail
    rw [HW.out]
    go_wp2_with (first
      | (go_at_call 50; refine (refCopy_at s As cs W hss his HAs.out).mono ?_; go_must (rintro e w2 ⟨A4, c4, rfl, hN4, hb4⟩; have y2 := (hb4.block _ hWs).trans q2; obtain ⟨d0, d1, k0, k1⟩ := cells_two y2))
      | fail)
    obtain ⟨z0, z1⟩ := set2_two (u := .int .i64 s.fn) (v := .slice A4 s.args.length c4) y2
    have p0 := (cells_two z0).1
    have p1 := (cells_two z1).2.1
    have hw2 : W.heap.size ≤ w2.heap.size := hb4.size
    refine bodyPost_ret (v := .tuple #[.agg #[.int .i64 s.fn, .slice A4 s.args.length c4], .bool true]) (by simp [results, Try.results26, go_sem, p0, p1]) rfl ⟨A4, c4, by rw [putO_nil]; rfl, by rw [putO_nil]; exact his, ?_, ?_⟩
    · rw [putO_nil]
      refine (hN4.keep fun g hg => ?_).wide fun g hg => ⟨by omega, by simpa using hg.2⟩
      exact (heap_setCell_other _ _ _ _ (by show g ≠ w.heap.size + 1 + 1; omega)).trans (heap_setCell_other _ _ _ _ (by show g ≠ w.heap.size + 1 + 1; omega))
    · exact ((hB.trans (hb4.mono (by omega))).setCell (by show _ ≤ w.heap.size + 1 + 1; omega) _).setCell (by show _ ≤ w.heap.size + 1 + 1; omega) _
  | cons i p ih =>
    intro t s A c Ap cp As cs w hsz hss hi his hA hp hcp hcp2 hAs
    obtain ⟨q0, q1, q2⟩ := heap3 w (.cells #[.int .i64 t.fn, .slice A t.args.length c] 27) (.cells #[.int .i64 s.fn, .slice As s.args.length cs] 27) (.cells #[.int .i64 0, .slice none 0 0] 27)
    obtain ⟨W, hW⟩ : ∃ W, (((w.alloc (.cells #[.int .i64 t.fn, .slice A t.args.length c] 27)).alloc (.cells #[.int .i64 s.fn, .slice As s.args.length cs] 27)).alloc (.cells #[.int .i64 0, .slice none 0 0] 27)) = W := ⟨_, rfl⟩
    have hB : Below w.heap.size w W := by rw [← hW]; exact (((Below.refl _ _).alloc (Nat.le_refl _) _).alloc (by simp) _).alloc (by simp; omega) _
    rw [hW] at q0 q1 q2
    have hWs : w.heap.size + 1 + 1 < W.heap.size := (Array.getElem?_eq_some_iff.1 q2).1
    have HAs := Lib.hid hAs
    have HA := Lib.hid hA
    have HW := Lib.hid hW
    have hal := hA.len
    have hpl := hp.len
    obtain ⟨pb, po, rfl, hpb, hpc⟩ := hp.ad (by simp)
    have hp64 := hp.i64
    have Hpc := Lib.hid hpc
    have pp0 := cell_on hB hpb (hpc 0 i rfl)
    rw [Nat.add_zero] at pp0
    obtain ⟨a0, a1, _, _⟩ := cells_two q0
    obtain ⟨s0, s1, _, _⟩ := cells_two q1
    clear hW hA hAs hp hpc
    simp only [List.length_cons] at hcp hpl ⊢
    have hne : ¬ ((p.length : Int) + 1 = 0) := by omega
    by_cases hin : 0 ≤ i ∧ i < t.args.length
    · obtain ⟨h0, h1⟩ := hin
      obtain ⟨j, rfl⟩ : ∃ j : Nat, i = (j : Int) := ⟨i.toNat, by omega⟩
      obtain ⟨u, hu⟩ : ∃ u, t.args[j]? = some u := ⟨_, List.getElem?_eq_getElem (by omega)⟩
      obtain ⟨ub, uo, Au, cu, rfl, ha⟩ := HA.out.get hu
      have e0 := cell_on hB ha.hb ha.c0
      have e1 := cell_on hB ha.hb ha.c1
      have hub := ha.hb
      have d1 : decide ((j : Int) < 0) = false := decide_eq_false (by omega)
      have d2 : decide ((t.args.length : Int) ≤ (j : Int)) = false := decide_eq_false (by omega)
      have hj : j < t.args.length := by omega
      have hu3 : u.size ≤ 4398046511104 ∧ I64 u.fn ∧ Args w w.heap.size Au u.args := ⟨by have := size_mem (List.mem_of_getElem? hu); cases t with | node f xs => simp only [Tm.size, Tm.args] at this hsz; omega, ha.hi, ha.sub⟩
      have hsub := Lib.hid (show subT t ((j : Int) :: p) = subT u p from sub_step h0 h1 (by simpa using hu))
      have Hu := Lib.hid hu
      clear hu ha
      go_enter Try.func26, Try.ntmps26
      go_upto_region 1 with fail
      rw [HW.out]
      go_wp2
      go_quiet (fail)
      go_upto_region 5 with fail
      obtain ⟨Wd, hWd⟩ : ∃ Wd, W.drewN nq = Wd := ⟨_, rfl⟩
      have hBd : Below W.heap.size W Wd := by rw [← hWd]; exact bl_drewN (Below.refl _ _) nq
      have hds : Wd.heap.size = W.heap.size := by rw [← hWd]; rfl
      rw [hWd]
      have HWd := Lib.hid hWd
      clear hWd
      have hS0 : ∀ w', Below W.heap.size W w' → w'.cell? ⟨w.heap.size, 1, none⟩ = some (.slice (some ⟨ub, uo, none⟩) t.args.length c) ∧ w'.cell? ⟨ub, uo + j * 2, none⟩ = some (.int .i64 u.fn) ∧ w'.cell? ⟨ub, uo + j * 2 + 1, none⟩ = some (.slice Au u.args.length cu) ∧ w'.cell? ⟨pb, po, none⟩ = some (.int .i64 (j : Int)) ∧ w'.cell? ⟨w.heap.size + 1, 0, none⟩ = some (.int .i64 s.fn) ∧ w'.cell? ⟨w.heap.size + 1, 1, none⟩ = some (.slice As s.args.length cs) := fun w' h =>
        ⟨cell_on h (by omega) a1, cell_on h (by omega) e0, cell_on h (by omega) e1, cell_on h (by omega) pp0, cell_on h (by omega) s0, cell_on h (by omega) s1⟩
      clear a0 a1 e0 e1 pp0 s0 s1
      have hle : (1 : Int) ≤ (p.length : Int) + 1 := by omega
      obtain ⟨Aq, hAq⟩ : ∃ Aq, (if cp = 1 then some (⟨pb, po, none⟩ : Addr) else some ⟨pb, po + 1, none⟩) = Aq := ⟨_, rfl⟩
      have hq : Ints w w.heap.size Aq p := by
        refine ⟨by omega, fun x hx => hp64 x (by simp [hx]), fun hn => ⟨pb, po + 1, ?_, hpb, fun i x hx => ?_⟩⟩
        · rw [← hAq, if_neg (by omega)]
        · have := Hpc.out (i + 1) x (by simpa using hx)
          rwa [show po + 1 + i = po + (i + 1) from by omega]
      have Hq := Lib.hid hq
      clear hq
      have hWl : w.heap.size ≤ W.heap.size := by omega
      have hD : Below W.heap.size W Wd.drew := hBd.drew
      have hDa : Below W.heap.size W (Wd.alloc (.cells #[.int .i64 0, .slice none 0 0] 27)).drew := (hBd.alloc (by omega) _).drew
      have hya : (Wd.alloc (.cells #[.int .i64 0, .slice none 0 0] 27)).drew.heap[W.heap.size]? = some (.cells #[.int .i64 0, .slice none 0 0] 27) := by rw [← hds]; exact heap_alloc_new Wd _
      obtain ⟨a1, e0, e1, pp0, s0, s1⟩ := hS0 Wd hBd
      go_cut [8, 9] (fun s8 s9 wx => ∃ bb : Nat, s8 = .pointer (some ⟨bb, 0, none⟩) ∧ s9 = .bool (subT u p).isSome ∧ RPutMid w W (putO u p s) bb wx)
      case first =>
        go_region_held3 (fun w' => w'.cell? ⟨w.heap.size, 1, none⟩ = some (.slice (some ⟨ub, uo, none⟩) t.args.length c) ∧ w'.cell? ⟨ub, uo + j * 2, none⟩ = some (.int .i64 u.fn) ∧ w'.cell? ⟨ub, uo + j * 2 + 1, none⟩ = some (.slice Au u.args.length cu) ∧ w'.cell? ⟨pb, po, none⟩ = some (.int .i64 (j : Int)) ∧ w'.cell? ⟨w.heap.size + 1, 0, none⟩ = some (.int .i64 s.fn) ∧ w'.cell? ⟨w.heap.size + 1, 1, none⟩ = some (.slice As s.args.length cs))
          (first | exact ⟨a1, e0, e1, pp0, s0, s1⟩ | exact hS0 _ hB4 | exact hS0 _ (hB4.alloc hB4.size _) | exact hS0 _ hDa | exact hS0 _ ((hB4.setCell (Nat.le_refl _) _).setCell (Nat.le_refl _) _) | fail)
          (first
            | (go_at_call 26
               refine (ih u s Au cu Aq (cp - 1) As cs Wd.drew hu3.1 hss hu3.2.1 his (hu3.2.2.on (hB.trans (hD.mono hWl))) (Hq.out.on (hB.trans (hD.mono hWl))) (by omega) (by omega) (HAs.out.on (hB.trans (hD.mono hWl)))).mono ?_
               rintro e w4 ⟨Ax, cx, rfl, hix, hAx, hb4⟩
               have hB4 : Below W.heap.size W w4 := hD.trans (hb4.mono (by show W.heap.size ≤ Wd.heap.size; omega)))
            | (go_at_call 26
               refine (ih u s Au cu Aq (cp - 1) As cs (Wd.alloc _).drew hu3.1 hss hu3.2.1 his (hu3.2.2.on (hB.trans (hDa.mono hWl))) (Hq.out.on (hB.trans (hDa.mono hWl))) (by omega) (by omega) (HAs.out.on (hB.trans (hDa.mono hWl)))).mono ?_
               rintro e w4 ⟨Ax, cx, rfl, hix, hAx, hb4⟩
               have hB4 : Below W.heap.size W w4 := hDa.trans (hb4.mono (by simp; omega))
               have y4 : w4.heap[W.heap.size]? = some (.cells #[.int .i64 0, .slice none 0 0] 27) := (hb4.block _ (by simp; omega)).trans hya
               obtain ⟨m0, m1, fm0, fm1⟩ := cells_two y4)
            | fail)
        all_goals (go_wp2_with fail; go_meet)
        · have hBa : Below w4.heap.size w4 (w4.alloc (.cells #[.int .i64 (putO u p s).fn, .slice Ax (putO u p s).args.length cx] 27)) := (Below.refl _ _).alloc (Nat.le_refl _) _
          refine ⟨w4.heap.size, rfl, rfl, hB4.alloc hB4.size _, hB4.size, hix, Ax, cx, heap_alloc_new _ _, (hAx.keep fun g hg => hBa.block g hg.2).wide fun g hg => ⟨?_, ?_⟩⟩
          · have h1 : Wd.heap.size ≤ g := hg.1
            omega
          · have := hg.2
            simp
            omega
        · refine ⟨W.heap.size, rfl, rfl, (hB4.setCell (Nat.le_refl _) _).setCell (Nat.le_refl _) _, Nat.le_refl _, hix, Ax, cx, (set2_two y4).2, (hAx.keep fun g hg => ?_).wide fun g hg => ⟨?_, ?_⟩⟩
          · have h1 := hg.1
            simp at h1
            exact (heap_setCell_other _ _ _ _ (by show g ≠ W.heap.size; omega)).trans (heap_setCell_other _ _ _ _ (by show g ≠ W.heap.size; omega))
          · have h1 := hg.1
            simp at h1
            omega
          · simpa using hg.2
      case rest =>
        obtain ⟨bb, rfl, rfl, ⟨hBx, hlo, hio, Ax, cx, hxb, hAx⟩⟩ := hcut
        have hBxs := hBx.size
        have tx := (hBx.block _ (by omega)).trans q0
        have rx := (hBx.block _ hWs).trans q2
        obtain ⟨a0, a1, _, _⟩ := cells_two tx
        obtain ⟨b0, b1, g0, g1⟩ := cells_two rx
        have hBw := hB.trans (hBx.mono hWl)
        by_cases hso : (subT u p).isSome = true
        · have Hss := Lib.hid (show (subT t ((j : Int) :: p)).isSome = true by rw [hsub.out]; exact hso)
          have hpu : putO u p s = putT u p s := by unfold putO; rw [if_pos hso]
          have Hp := Lib.hid (show putO t ((j : Int) :: p) s = .node t.fn (t.args.set j (putO u p s)) by
            have e : putT t ((j : Int) :: p) s = .node t.fn (t.args.set j (putT u p s)) := by simp only [putT, Int.toNat_natCast, Hu.out]
            rw [hpu, ← e]
            unfold putO
            rw [if_pos Hss.out])
          have hAt := Lib.hid (HA.out.on hBw)
          have hbbl : bb < _ := (Array.getElem?_eq_some_iff.1 hxb).1
          obtain ⟨x0, x1, _, _⟩ := cells_two hxb
          have pp1 := (hS0 _ hBx).2.2.2.1
          clear hpu
          go_upto_region 9 with (first
            | (go_at_call 50
               refine (refCopy_any t hsz _ c _ hi hAt.out).mono ?_
               rintro e w5 ⟨v5, l5, rfl, hl5, hR5, hb5⟩
               have hl5n : l5.length = t.args.length := by rw [← hl5, List.length_map]
               have hrow5 := hR5.row
               rw [hl5n] at hrow5
               obtain ⟨g5, c5, hv5⟩ := row_some hrow5 (by omega)
               subst hv5
               have hg5 := row_lt hrow5 g5 rfl
               have hfl : (l5.flatMap Ti.cells).length = t.args.length * 2 := by rw [ti_len, hl5n]
               have r0 := (hrow5.cellAt (j * 2) (by omega)).trans (List.getElem?_eq_getElem (by omega))
               have r1 := (hrow5.cellAt (j * 2 + 1) (by omega)).trans (List.getElem?_eq_getElem (by omega))
               have fr0 := hrow5.frozenAt (j * 2)
               have fr1 := hrow5.frozenAt (j * 2 + 1)
               have HR5 := Lib.hid hR5
               clear hR5)
            | fail)
          obtain ⟨W6, hW6⟩ : ∃ W6, w5.alloc (.cells #[.int .i64 t.fn, .slice (some ⟨g5, 0, none⟩) t.args.length c5] 27) = W6 := ⟨_, rfl⟩
          have hb6 : Below w5.heap.size w5 W6 := by rw [← hW6]; exact (Below.refl _ _).alloc (Nat.le_refl _) _
          have o6 : W6.heap[w5.heap.size]? = some (.cells #[.int .i64 t.fn, .slice (some ⟨g5, 0, none⟩) t.args.length c5] 27) := by rw [← hW6]; exact heap_alloc_new _ _
          rw [hW6]
          clear hW6
          have hs5 := hb5.size
          have hs6 := (Array.getElem?_eq_some_iff.1 o6).1
          have hb56 := bl_step hb5 hb6
          have pp6 := cell_on hb56 (by omega) pp1
          have xx0 := cell_on hb56 hbbl x0
          have xx1 := cell_on hb56 hbbl x1
          have rr0 := cell_on hb6 hg5.2 r0
          have rr1 := cell_on hb6 hg5.2 r1
          have ff0 := frozen_on hb6 hg5.2 fr0
          have ff1 := frozen_on hb6 hg5.2 fr1
          have r6 := (hb56.block _ (by omega)).trans rx
          obtain ⟨o0, o1, _, _⟩ := cells_two o6
          clear r0 r1 fr0 fr1 x0 x1 pp1 a0 a1 b0 b1 g0 g1
          have HR6 := HR5.out.keep (w' := W6) (fun g e => hb6.block g (row_lt HR5.out.row g e).2) (fun g e => hb6.block g e.2.1)
          have HR7 := HR6.put (x := ⟨putO u p s, Ax, cx⟩) (i := j) (M := fun g => W.heap.size ≤ g ∧ g < W6.heap.size) hl5n (by omega) hio (fun k e => ⟨fun e2 => e.2.2 (by rw [e2]; rfl), by have := e.1; omega, by have := e.2.1; omega⟩)
            ((hAx.keep fun g e => hb56.block g e.2).wide fun g e => ⟨by have := e.2; omega, e.1, by have := e.2; omega⟩)
          have HR7 := Lib.hid HR7
          clear HR6
          go_region
          obtain ⟨W7, hW7⟩ : ∃ W7, ((W6.setCell ⟨g5, j * 2, none⟩ (.int .i64 (putO u p s).fn)).setCell ⟨g5, j * 2 + 1, none⟩ (.slice Ax (putO u p s).args.length cx)).drew = W7 := ⟨_, rfl⟩
          have hk7 : ∀ g, g ≠ g5 → W7.heap[g]? = W6.heap[g]? := fun g e => by rw [← hW7]; exact (heap_setCell_other _ _ _ _ e).trans (heap_setCell_other _ _ _ _ e)
          have hsz7 : W7.heap.size = W6.heap.size := by rw [← hW7]; simp
          have HR8 : RowT W7 wc.heap.size (.slice (some ⟨g5, 0, none⟩) t.args.length c5) (l5.set j ⟨putO u p s, Ax, cx⟩) (fun g => W.heap.size ≤ g ∧ g < W6.heap.size) := by rw [← hW7]; exact HR7.out.keep (fun _ _ => rfl) (fun _ _ => rfl)
          have hB7 : Below w.heap.size w W7 := by rw [← hW7]; exact (((hBw.trans (hb56.mono (by omega))).setCell (by show _ ≤ g5; omega) _).setCell (by show _ ≤ g5; omega) _).drew
          rw [hW7]
          clear hW7
          have o7 := (hk7 _ (by omega)).trans o6
          have r7 := (hk7 _ (by omega)).trans r6
          obtain ⟨y0, y1, _, _⟩ := cells_two o7
          obtain ⟨b0, b1, g0, g1⟩ := cells_two r7
          have HR8 := Lib.hid HR8
          go_wp2
          obtain ⟨z0, z1⟩ := set2_two (u := .int .i64 t.fn) (v := .slice (some ⟨g5, 0, none⟩) t.args.length c5) r7
          have p0 := (cells_two z0).1
          have p1 := (cells_two z1).2.1
          have hlx : (l5.set j ⟨putO u p s, Ax, cx⟩).length = t.args.length := by rw [List.length_set, hl5n]
          obtain ⟨A8, c8, e8, hN8⟩ := HR8.out.argsN (M := fun g => W.heap.size ≤ g ∧ g < W6.heap.size) (by omega) (fun g e => by have := row_lt HR8.out.row g e; omega) (fun g e => e)
          rw [List.map_set, hl5] at hN8
          injection e8 with e8 _ _
          subst e8
          refine bodyPost_ret (v := .tuple #[.agg #[.int .i64 t.fn, .slice (some ⟨g5, 0, none⟩) t.args.length c5], .bool true]) (by simp [results, Try.results26, go_sem, p0, p1]) rfl ⟨some ⟨g5, 0, none⟩, c5, by rw [Hp.out, Hss.out]; simp [Tm.fn, Tm.args], by rw [Hp.out]; exact hi, ?_, ?_⟩
          · rw [Hp.out]
            refine (hN8.keep fun g hg => ?_).wide fun g hg => ⟨by omega, by have := hg.2; simp; omega⟩
            exact (heap_setCell_other _ _ _ _ (by show g ≠ w.heap.size + 1 + 1; omega)).trans (heap_setCell_other _ _ _ _ (by show g ≠ w.heap.size + 1 + 1; omega))
          · exact (hB7.setCell (by show _ ≤ w.heap.size + 1 + 1; omega) _).setCell (by show _ ≤ w.heap.size + 1 + 1; omega) _
        · have hso : (subT u p).isSome = false := by simpa using hso
          have Hn := Lib.hid (show subT t ((j : Int) :: p) = none by rw [hsub.out]; simpa using hso)
          have Hp := Lib.hid (show putO t ((j : Int) :: p) s = .node 0 [] by unfold putO; rw [Hn.out]; rfl)
          go_wp2
          obtain ⟨z0, z1⟩ := set2_two (u := .int .i64 0) (v := .slice none 0 0) rx
          have p0 := (cells_two z0).1
          have p1 := (cells_two z1).2.1
          refine bodyPost_ret (v := .tuple #[.agg #[.int .i64 0, .slice none 0 0], .bool false]) (by simp [results, Try.results26, go_sem, p0, p1]) rfl ⟨none, 0, by rw [Hp.out, Hn.out]; rfl, by rw [Hp.out]; exact ⟨by decide, by decide⟩, by rw [Hp.out]; exact .nil _, ?_⟩
          exact (hBw.setCell (by show _ ≤ w.heap.size + 1 + 1; omega) _).setCell (by show _ ≤ w.heap.size + 1 + 1; omega) _
    · have Hn := Lib.hid (show subT t (i :: p) = none from sub_none (by omega))
      have Hp := Lib.hid (show putO t (i :: p) s = .node 0 [] by unfold putO; rw [Hn.out]; rfl)
      obtain ⟨b0, b1, g0, g1⟩ := cells_two q2
      by_cases hi0 : i < 0
      · have d1 : decide (i < 0) = true := decide_eq_true hi0
        go_enter Try.func26, Try.ntmps26
        go_upto_region 1 with fail
        rw [HW.out]
        go_wp2
        go_quiet (fail)
        go_wp2
        have r2 : (W.drewN nq).heap[w.heap.size + 1 + 1]? = _ := q2
        obtain ⟨z0, z1⟩ := set2_two (u := .int .i64 0) (v := .slice none 0 0) r2
        have p0 := (cells_two z0).1
        have p1 := (cells_two z1).2.1
        refine bodyPost_ret (v := .tuple #[.agg #[.int .i64 0, .slice none 0 0], .bool false]) (by simp [results, Try.results26, go_sem, p0, p1]) rfl ⟨none, 0, by rw [Hp.out, Hn.out]; rfl, by rw [Hp.out]; exact ⟨by decide, by decide⟩, by rw [Hp.out]; exact .nil _, ?_⟩
        exact ((bl_drewN hB nq).setCell (by show _ ≤ w.heap.size + 1 + 1; omega) _).setCell (by show _ ≤ w.heap.size + 1 + 1; omega) _
      · have d1 : decide (i < 0) = false := decide_eq_false hi0
        have d2 : (t.args.length : Int) ≤ i := by omega
        have d3 : decide ((t.args.length : Int) ≤ i) = true := decide_eq_true d2
        go_enter Try.func26, Try.ntmps26
        go_upto_region 1 with fail
        rw [HW.out]
        go_wp2
        go_quiet (fail)
        go_wp2
        have r2 : (W.drewN nq).heap[w.heap.size + 1 + 1]? = _ := q2
        obtain ⟨z0, z1⟩ := set2_two (u := .int .i64 0) (v := .slice none 0 0) r2
        have p0 := (cells_two z0).1
        have p1 := (cells_two z1).2.1
        refine bodyPost_ret (v := .tuple #[.agg #[.int .i64 0, .slice none 0 0], .bool false]) (by simp [results, Try.results26, go_sem, p0, p1]) rfl ⟨none, 0, by rw [Hp.out, Hn.out]; rfl, by rw [Hp.out]; exact ⟨by decide, by decide⟩, by rw [Hp.out]; exact .nil _, ?_⟩
        exact ((bl_drewN hB nq).setCell (by show _ ≤ w.heap.size + 1 + 1; omega) _).setCell (by show _ ≤ w.heap.size + 1 + 1; omega) _

end Go.Proofs.Ytbchignbndgigaa

/- Places. -/

namespace Go.Proofs.Ytbchignbndgigaa

open Go.RowKit Go.Shelf
attribute [local go_sem] Oper.semAt_some
set_option maxRecDepth 100000

end Go.Proofs.Ytbchignbndgigaa

/- A range over a function whose iterator ranges over a function itself; Places' iterator. -/

namespace Go.Proofs.Ytbchignbndgigaa

open Go Go.RowKit Go.Shelf
attribute [local go_sem] Oper.semAt_some
set_option maxRecDepth 100000

section

variable {F : Fence} {n : Nat} {P : Program} {α : Type}

/-- An iterator's contract, where what is left behind a stop abides as well. -/
def SeqD (F : Fence) (n : Nat) (P : Program) (gf : Nat) (lb : Array Value) (encs : α → Array Value) (Fx : α → World → Prop) (N : Nat → Prop) (S Sp : List α → Prop) (w : World) : Prop :=
  ∀ (l : Nat) (C : World → Nat → Prop) (J Jx : List α → World → Prop) (W : World), Below w.heap.size w W → FrameC C J → BoundC C J → FrameC C Jx →
    (∀ m pre x W1, J pre W1 → Sp (pre ++ [x]) → Fx x W1 → YieldAt F m P l (encs x) W1 fun e W' =>
      (e = .returned (.bool true) ∧ J (pre ++ [x]) W' ∧ Stp N C W1 W') ∨ (e = .returned (.bool false) ∧ Jx (pre ++ [x]) W' ∧ Stp N C W1 W')) →
    J [] W →
    CallsIn F n P gf (#[.func (.yield l) #[] #[]] ++ lb) W fun e W' => (∃ v, e = .returned v) ∧ ((∃ xs, S xs ∧ J xs W') ∨ (∃ pre, Sp pre ∧ Jx pre W'))

theorem range_lawD {g : Operand} {ps : Array Tmp} {assign body : Code} {Q : Exit → Act → World → Prop} {a : Act} {w : World}
    (hro : F.round = none) (hd : F.depth = none) {gf : Nat} {lb : Array Value} (hg : a.eval g = .func (.func gf) #[] lb) (hFg : F.fn gf) (eg : ∀ args w, (callFunc gf args).run P w = .ok (.enter gf args) w)
    {encs : α → Array Value} {Fx : α → World → Prop} {N : Nat → Prop} {S Sp : List α → Prop} {w0 : World} (hseq : ∀ m, SeqD F m P gf lb encs Fx N S Sp w0) (hb0 : Below w0.heap.size w0 w) (hps : ∀ x, (encs x).size = ps.size) (hN : ∀ g, N g → g < w.heap.size)
    (C : World → Nat → Prop) (I : List α → World → Prop) (Ix : Code → List α → World → Prop) (hI : FrameC C I) (hbd : BoundC C I) (hIx : ∀ c, FrameC C (Ix c))
    (h0 : I [] w) (Ax : List α → α → Act → World → Prop)
    (hAx : ∀ pre x a' W l r o, Ax pre x a' W → w.heap.size ≤ l → W.heap[l]? = some (.loop r) → ¬ C W l → (∀ g, C (W.putObj l o) g → C W g) ∧ Ax pre x a' (W.putObj l o))
    (hassign : ∀ (l m : Nat) (pre : List α) (x : α) (W : World) (K : Act → World → Prop), I pre W → Sp (pre ++ [x]) → Fx x W → (∀ a' W', Stp N C W W' → Ax pre x a' W' → K a' W') →
      assign.wpIn (F.inRound l) m P (Exit.then K (fun _ _ _ => False)) { tmps := (ps.zip (encs x)).foldl (fun t (p, v) => t.setIfInBounds p v) a.tmps, defers := [] } W)
    (hbody : ∀ (l m : Nat) (pre : List α) (x : α) (a' : Act) (W : World), Sp (pre ++ [x]) → Ax pre x a' W → body.wpIn (F.inRound l) m P (bodyC N C I Ix (pre ++ [x]) W) a' W)
    (hdone : ∀ (D : Nat) (xs : List α) (W : World), w.heap.size ≤ D → S xs → I xs W → ¬ C W D → W.heap[D]? = some (.deferred (some [])) → Q .normal { a with defers := { target := .collected D, args := #[] } :: a.defers } W)
    (hstop : ∀ (D : Nat) (c : Code) (pre : List α) (W : World), w.heap.size ≤ D → Sp pre → Ix c pre W → ¬ C W D → W.heap[D]? = some (.deferred (some [])) → c.wpIn F n P Q { a with defers := { target := .collected D, args := #[] } :: a.defers } W) :
    (Code.rangeFunc g ps assign body).wpIn F n P Q a w := by
  refine wpIn_rangeFunc fun fn hfn => ?_
  rw [hro]
  have hdd : ∀ k : Nat, F.depth.isSome = true → 1 ≤ k := fun k h => by rw [hd] at h; cases h
  -- the two blocks that the statement lays: for the rounds' deferred calls (d); the loop's record (l)
  obtain ⟨d, hd0⟩ : ∃ d, d = w.heap.size := ⟨_, rfl⟩
  obtain ⟨rec, hrec⟩ : ∃ rec : LoopState → Option Code → Loop, rec = fun st pe => { state := st, pending := pe, fn, tmps := a.tmps, params := ps, assign, body, defers := w.heap.size } := ⟨_, rfl⟩
  obtain ⟨W1, hW1⟩ : ∃ W1, (w.alloc (.deferred (some []))).alloc (.loop (rec .ready none)) = W1 := ⟨_, rfl⟩
  have hl1 : W1.heap[d + 1]? = some (.loop (rec .ready none)) := by
    rw [← hW1, hd0, show w.heap.size + 1 = (w.alloc (.deferred (some []))).heap.size by simp]; exact World.alloc_heap_new _ _
  have hk1 : W1.heap[d]? = some (.deferred (some [])) := by rw [← hW1, hd0]; exact (Below.heap_alloc _ _ _ (by simp)).trans (World.alloc_heap_new w _)
  have hBw : Below w.heap.size w W1 := by rw [← hW1]; exact ((Below.refl _ w).alloc (Nat.le_refl _) _).alloc (by simp) _
  have hIw := hI [] w W1 h0 ((Keeps.of_below hBw).mono fun g e => hbd [] w h0 g e)
  have hbw : ∀ g, C W1 g → g < w.heap.size := fun g e => hbd [] w h0 g (hIw.2 g e)
  have hNd : ∀ g, N g → g < d := fun g e => by rw [hd0]; exact hN g e
  -- what the rounds speak of, with the two blocks
  let CJ : World → Nat → Prop := fun W g => C W g ∨ g = d + 1 ∨ g = d
  let J : List α → World → Prop := fun pre W => I pre W ∧ (W.heap[d + 1]? = some (.loop (rec .ready none)) ∧ W.heap[d]? = some (.deferred (some []))) ∧ ¬ C W (d + 1) ∧ ¬ C W d
  let Jx : List α → World → Prop := fun pre W => ∃ c, Ix c pre W ∧ (W.heap[d + 1]? = some (.loop (rec .done (some c))) ∧ W.heap[d]? = some (.deferred (some []))) ∧ ¬ C W (d + 1) ∧ ¬ C W d
  have hJF : FrameC CJ J := by
    rintro s A B ⟨h1, ⟨h2, h3⟩, h4, h5⟩ hk
    have hi := hI s A B h1 (hk.mono fun g e => .inl e)
    exact ⟨⟨hi.1, ⟨(hk.block _ (.inr (.inl rfl))).trans h2, (hk.block _ (.inr (.inr rfl))).trans h3⟩, fun e => h4 (hi.2 _ e), fun e => h5 (hi.2 _ e)⟩, fun g e => e.elim (fun e => .inl (hi.2 g e)) .inr⟩
  have hJxF : FrameC CJ Jx := by
    rintro s A B ⟨cd, h1, ⟨h2, h3⟩, h4, h5⟩ hk
    have hi := hIx cd s A B h1 (hk.mono fun g e => .inl e)
    exact ⟨⟨cd, hi.1, ⟨(hk.block _ (.inr (.inl rfl))).trans h2, (hk.block _ (.inr (.inr rfl))).trans h3⟩, fun e => h4 (hi.2 _ e), fun e => h5 (hi.2 _ e)⟩, fun g e => e.elim (fun e => .inl (hi.2 g e)) .inr⟩
  have hJB : BoundC CJ J := by
    rintro s A ⟨h1, ⟨h2, h3⟩, _, _⟩ g (e | rfl | rfl)
    · exact hbd s A h1 g e
    · exact (Array.getElem?_eq_some_iff.1 h2).1
    · exact (Array.getElem?_eq_some_iff.1 h3).1
  refine ⟨d + 1, [{ target := .collected d, args := #[] }], W1, { target := .fn (.func gf) lb, args := #[.func (.yield (d + 1)) #[] #[]] }, W1, gf, #[.func (.yield (d + 1)) #[] #[]] ++ lb, W1, ?_, ?_, ?_, ?_, fun h => hdd _ h, ?_⟩
  · rw [← hW1, hrec, hd0]; exact run_enterLoop_outer _ _ _ _ _
  · simp only [resolve, hg]
    simp [go_sem]
  · intro f' hf'; simp [Target.leads] at hf'; subst hf'; exact hFg
  · simp [invoke, go_sem, eg]
  · refine (hseq _ (d + 1) CJ J Jx W1 (hb0.trans (hBw.mono hb0.size)) hJF hJB hJxF ?_ ⟨hIw.1, ⟨hl1, hk1⟩, fun e => ?_, fun e => ?_⟩).mono ?_
    · -- one round
      rintro m pre x W ⟨hi, ⟨hl, hk⟩, hnl, hnd⟩ hsp hfx
      have hy := run_yield (P := P) (args := encs x) hl (by rw [hrec]; exact hps x)
      rw [hrec] at hy
      refine ⟨fn, _, assign, body, hy, roundIn_of_wpIn hfn (hassign _ m pre x W _ hi hsp hfx ?_)⟩
      clear hy
      intro a' Wa hst hax
      have hlW : d + 1 < W.heap.size := (Array.getElem?_eq_some_iff.1 hl).1
      have hla : Wa.heap[d + 1]? = some (.loop (rec .ready none)) := (hst.keeps.block _ (.inr ⟨hlW, hnl⟩)).trans hl
      have hka : Wa.heap[d]? = some (.deferred (some [])) := (hst.keeps.block _ (.inr ⟨by omega, hnd⟩)).trans hk
      have hnla : ¬ C Wa (d + 1) := fun e => (hst.grows _ e).elim hnl (fun e => by omega)
      have hnda : ¬ C Wa d := fun e => (hst.grows _ e).elim hnd (fun e => by omega)
      have hla1 : d + 1 < Wa.heap.size := (Array.getElem?_eq_some_iff.1 hla).1
      refine ⟨_, run_beginRound hla (by rw [hrec]), ?_⟩
      obtain ⟨hgr, hax2⟩ := hAx pre x a' Wa (d + 1) _ (.loop { rec .ready none with state := .busy }) hax (by omega) hla hnla
      obtain ⟨Wb, hWb⟩ : ∃ Wb, Wa.putObj (d + 1) (.loop { rec .ready none with state := .busy }) = Wb := ⟨_, rfl⟩
      have hlb : Wb.heap[d + 1]? = some (.loop { rec .ready none with state := .busy }) := by rw [← hWb]; exact World.putObj_heap_same hla1
      have hkb : Wb.heap[d]? = some (.deferred (some [])) := by rw [← hWb]; exact (World.putObj_heap_other (by omega)).trans hka
      have hKab : Keeps (· ≠ d + 1) Wa Wb := by rw [← hWb]; exact Keeps.put _ _ _
      rw [hWb] at hgr hax2 ⊢
      have hnlb : ¬ C Wb (d + 1) := fun e => hnla (hgr _ e)
      have hndb : ¬ C Wb d := fun e => hnda (hgr _ e)
      refine wpIn_mono (hbody _ m pre x a' Wb hsp hax2) ?_
      have hszb : Wa.heap.size ≤ Wb.heap.size := hKab.size
      have fin : ∀ (jump : Option Code) (W3 : World), Stp N C Wb W3 →
          (Instr.endRound (d + 1) jump).run P W3 = .ok (.bool jump.isNone) (W3.putObj (d + 1) (.loop (rec (if jump.isNone then .ready else .done) jump))) ∧
          (W3.putObj (d + 1) (.loop (rec (if jump.isNone then .ready else .done) jump))).heap[d + 1]? = some (.loop (rec (if jump.isNone then .ready else .done) jump)) ∧
          (W3.putObj (d + 1) (.loop (rec (if jump.isNone then .ready else .done) jump))).heap[d]? = some (.deferred (some [])) ∧ ¬ C W3 (d + 1) ∧ ¬ C W3 d := fun jump W3 h3 => by
        have hl3 : W3.heap[d + 1]? = some (.loop { rec .ready none with state := .busy }) := (h3.keeps.block _ (.inr ⟨by omega, hnlb⟩)).trans hlb
        have hk3 : W3.heap[d]? = some (.deferred (some [])) := (h3.keeps.block _ (.inr ⟨by omega, hndb⟩)).trans hkb
        have := run_endRound (P := P) jump hl3
        rw [hrec] at this ⊢
        exact ⟨this, World.putObj_heap_same (Array.getElem?_eq_some_iff.1 hl3).1, (World.putObj_heap_other (by omega)).trans hk3, fun e => (h3.grows _ e).elim hnlb (fun e => by omega), fun e => (h3.grows _ e).elim hndb (fun e => by omega)⟩
      have stp4 : ∀ (o : Obj) (W3 : World), Stp N C Wb W3 → (∀ g, C (W3.putObj (d + 1) o) g → C W3 g) → Stp N CJ W (W3.putObj (d + 1) o) := fun o W3 h3 hg4 => by
        refine ⟨?_, ?_⟩
        · refine (hst.keeps.mono fun g hg => ?_).trans ((hKab.mono fun g hg => ?_).trans ((h3.keeps.mono fun g hg => ?_).trans ((Keeps.put W3 (d + 1) _).mono fun g hg => ?_)))
          · exact hg.elim .inl fun hg => .inr ⟨hg.1, fun e => hg.2 (.inl e)⟩
          · exact hg.elim (fun e => by have := hNd _ e; omega) fun hg e => hg.2 (.inr (.inl e))
          · exact hg.elim .inl fun hg => .inr ⟨by have := hst.keeps.size; omega, fun e => (hst.grows g (hgr g e)).elim (fun e => hg.2 (.inl e)) (fun e => by omega)⟩
          · exact hg.elim (fun e => by have := hNd _ e; omega) fun hg e => hg.2 (.inr (.inl e))
        · rintro g (e | e)
          · rcases h3.grows g (hg4 g e) with e | e
            · rcases hst.grows g (hgr g e) with e | e
              · exact .inl (.inl e)
              · exact .inr e
            · exact .inr (Nat.le_trans hst.keeps.size (Nat.le_trans hszb e))
          · exact .inl (.inr e)
      rintro e a3 W3 hp
      cases e with
      | normal =>
        obtain ⟨hi3, h3⟩ := hp
        obtain ⟨hr, hl4, hk4, hn4, hm4⟩ := fin none W3 h3
        obtain ⟨hi4, hg4⟩ := hI _ W3 _ hi3 ((Keeps.put W3 (d + 1) (.loop (rec (if (none : Option Code).isNone then .ready else .done) none))).mono fun g e he => hn4 (he ▸ e))
        exact ⟨_, _, hr, .inl ⟨rfl, ⟨hi4, ⟨hl4, hk4⟩, fun e => hn4 (hg4 _ e), fun e => hm4 (hg4 _ e)⟩, stp4 _ W3 h3 hg4⟩⟩
      | ret =>
        obtain ⟨hi3, h3⟩ := hp
        obtain ⟨hr, hl4, hk4, hn4, hm4⟩ := fin (some .ret) W3 h3
        have hK4 := (Keeps.put W3 (d + 1) (.loop (rec (if (some Code.ret).isNone then .ready else .done) (some .ret)))).mono (T := C W3) fun g e he => hn4 (he ▸ e)
        exact ⟨_, _, hr, .inr ⟨rfl, ⟨.ret, (hIx _ _ W3 _ hi3 hK4).1, ⟨hl4, hk4⟩, fun e => hn4 ((hIx _ _ W3 _ hi3 hK4).2 _ e), fun e => hm4 ((hIx _ _ W3 _ hi3 hK4).2 _ e)⟩, stp4 _ W3 h3 (hIx _ _ W3 _ hi3 hK4).2⟩⟩
      | exit id =>
        obtain ⟨hi3, h3⟩ := hp
        obtain ⟨hr, hl4, hk4, hn4, hm4⟩ := fin (some (.exit id)) W3 h3
        have hK4 := (Keeps.put W3 (d + 1) (.loop (rec (if (some (Code.exit id)).isNone then .ready else .done) (some (.exit id))))).mono (T := C W3) fun g e he => hn4 (he ▸ e)
        exact ⟨_, _, hr, .inr ⟨rfl, ⟨.exit id, (hIx _ _ W3 _ hi3 hK4).1, ⟨hl4, hk4⟩, fun e => hn4 ((hIx _ _ W3 _ hi3 hK4).2 _ e), fun e => hm4 ((hIx _ _ W3 _ hi3 hK4).2 _ e)⟩, stp4 _ W3 h3 (hIx _ _ W3 _ hi3 hK4).2⟩⟩
      | goto t =>
        obtain ⟨hi3, h3⟩ := hp
        obtain ⟨hr, hl4, hk4, hn4, hm4⟩ := fin (some (.goto t)) W3 h3
        have hK4 := (Keeps.put W3 (d + 1) (.loop (rec (if (some (Code.goto t)).isNone then .ready else .done) (some (.goto t))))).mono (T := C W3) fun g e he => hn4 (he ▸ e)
        exact ⟨_, _, hr, .inr ⟨rfl, ⟨.goto t, (hIx _ _ W3 _ hi3 hK4).1, ⟨hl4, hk4⟩, fun e => hn4 ((hIx _ _ W3 _ hi3 hK4).2 _ e), fun e => hm4 ((hIx _ _ W3 _ hi3 hK4).2 _ e)⟩, stp4 _ W3 h3 (hIx _ _ W3 _ hi3 hK4).2⟩⟩
      | panic ch => exact hp.elim
      | outgrown => exact hp.elim
    · have := hbw _ e; omega
    · have := hbw _ e; omega
    · -- behind the iterator
      rintro e W2 ⟨⟨v, rfl⟩, (⟨xs, hS, hi, ⟨hl, hk⟩, hnl, hnd⟩ | ⟨pre, hSp, c, hi, ⟨hl, hk⟩, hnl, hnd⟩)⟩
      · refine ⟨none, _, by have := run_endLoop (P := P) hl (by rw [hrec]; simp); rw [hrec] at this; exact this, hdone d xs _ (by omega) hS ?_ (fun e => hnd ((hI xs W2 _ hi ((Keeps.put W2 (d + 1) _).mono fun g e he => hnl (he ▸ e))).2 _ e)) ((World.putObj_heap_other (by omega)).trans hk)⟩
        exact (hI xs W2 _ hi ((Keeps.put W2 (d + 1) _).mono fun g e he => hnl (he ▸ e))).1
      · refine ⟨some c, _, by have := run_endLoop (P := P) hl (by rw [hrec]; simp); rw [hrec] at this; exact this, hstop d c pre _ (by omega) hSp ?_ (fun e => hnd ((hIx c pre W2 _ hi ((Keeps.put W2 (d + 1) _).mono fun g e he => hnl (he ▸ e))).2 _ e)) ((World.putObj_heap_other (by omega)).trans hk)⟩
        exact (hIx c pre W2 _ hi ((Keeps.put W2 (d + 1) _).mono fun g e he => hnl (he ▸ e))).1

theorem SeqC.toD {gf : Nat} {lb : Array Value} {encs : α → Array Value} {Fx : α → World → Prop} {N : Nat → Prop} {S Sp : List α → Prop} {w : World} (h : SeqC F n P gf lb encs Fx N S Sp w) : SeqD F n P gf lb encs Fx N S Sp w := by
  intro l C J Jx W hW hJ hB _ hY h0
  refine h l C J Jx W hW hJ hB (fun m pre x W1 h1 h2 h3 => ?_) h0
  obtain ⟨fn, tm, asg, bd, h4, h5⟩ := hY m pre x W1 h1 h2 h3
  exact ⟨fn, tm, asg, bd, h4, h5.mono fun e W' hh => hh.imp id fun hh => ⟨hh.1, hh.2.1⟩⟩

end

/-- A yield's contract, in a round of another range. -/
theorem round_round {P : Program} {l f : Nat} {tmps : Array Value} {assign body : Code} {w : World} {R : Ending → World → Prop} (l' m : Nat) {m' : Nat} (h : RoundIn Fence.wide m' P l f tmps assign body w R) : RoundIn (Fence.wide.inRound l') m P l f tmps assign body w R := by
  refine ⟨trivial, fun c cs hr => ?_⟩
  exact h.2 c cs (fun d hd => by cases hd)

/-- What stands at a place that a walk goes over. -/
theorem vis_sub (t : Tm) : ∀ p q u, (q, u) ∈ vis p t → ∃ r, q = p ++ r ∧ subT t r = some u := by
  refine Tm.ind (P := fun t => ∀ p q u, (q, u) ∈ vis p t → ∃ r, q = p ++ r ∧ subT t r = some u) (fun f xs ih p q u h => ?_) t
  have key : ∀ (ys zs : List Tm), xs = zs ++ ys → (q, u) ∈ visL p zs.length ys → ∃ r, q = p ++ r ∧ subT (.node f xs) r = some u := by
    intro ys
    induction ys with
    | nil => intro zs _ h; simp [visL] at h
    | cons y ys ihy =>
      intro zs hz h
      simp only [visL, List.mem_append] at h
      rcases h with h | h
      · have hy : y ∈ xs := by rw [hz]; simp
        obtain ⟨r, rfl, hr⟩ := ih y hy _ _ _ h
        refine ⟨(zs.length : Int) :: r, by simp, ?_⟩
        have hget : xs[zs.length]? = some y := by rw [hz]; simp
        have hlt := (List.getElem?_eq_some_iff.1 hget).1
        rw [sub_step (t := .node f xs) (i := (zs.length : Int)) (u := y) (by omega) (by show _ < ((xs.length : Nat) : Int); omega) (by simpa [Tm.args] using hget)]
        exact hr
      · exact ihy (zs ++ [y]) (by rw [hz]; simp) (by simpa using h)
  simp only [vis, List.mem_cons] at h
  rcases h with h | h
  · injection h with h1 h2
    exact ⟨[], by simp [h1], by simp [subT, h2]⟩
  · exact key xs [] rfl h

theorem key_sub {t : Tm} {pre : List Vis} {x : Vis} (h : (pre ++ [x]).map Vis.key <+: vis [] t) : subT t x.pos = some x.t ∧ x.pos.length + 1 ≤ t.depth ∧ x.t.size ≤ t.size := by
  have hm := pre_mem h
  obtain ⟨r, hr, hs⟩ := vis_sub t [] x.pos x.t hm
  rw [List.nil_append] at hr
  have hmax := maxP_mem hm
  rw [maxP_vis] at hmax
  subst hr
  refine ⟨hs, ?_, sub_size hs⟩
  simp only [Vis.key, List.length_nil] at hmax
  omega

/-- A row that is there stays, whatever is laid besides. -/
theorem args_up {w w' : World} {B B' : Nat} {A : Option Addr} {xs : List Tm} (h : Args w B A xs) (hk : ∀ b o v, w.cell? ⟨b, o, none⟩ = some v → w'.cell? ⟨b, o, none⟩ = some v) (hB : B ≤ B') : Args w' B' A xs := by
  induction h with
  | nil A => exact .nil A
  | row b off xs A' c' hb hlen hi h0 h1 _ ih => exact .row b off xs A' c' (by omega) hlen hi (fun i t e => hk _ _ _ (h0 i t e)) (fun i t e => hk _ _ _ (h1 i t e)) ih

theorem ints_up {w w' : World} {B B' : Nat} {A : Option Addr} {l : List Int} (h : Ints w B A l) (hk : ∀ b o v, w.cell? ⟨b, o, none⟩ = some v → w'.cell? ⟨b, o, none⟩ = some v) (hB : B ≤ B') : Ints w' B' A l :=
  ⟨h.len, h.i64, fun hn => by
    obtain ⟨b, off, hA, hlt, hc⟩ := h.ad hn
    exact ⟨b, off, hA, by omega, fun i x hi => hk _ _ _ (hc i x hi)⟩⟩

theorem cell_put {W : World} {l : Nat} {r : Loop} {o : Obj} (hl : W.heap[l]? = some (.loop r)) : ∀ b i v, W.cell? ⟨b, i, none⟩ = some v → (W.putObj l o).cell? ⟨b, i, none⟩ = some v := by
  intro b i v h
  have hne : b ≠ l := fun e => by
    subst e
    simp only [World.cell?, hl] at h
    cases h
  rw [cell_of_heap (World.putObj_heap_other hne)]
  exact h

theorem pl_step {N : Nat → Prop} {C : World → Nat → Prop} {by' : Nat} {Wx w3 w4 : World} (hB : Below Wx.heap.size Wx w3) (hC : ∀ g, C w3 g → C Wx g) (hst : Stp N C w3 w4) (hN : ∀ g, N g → g < Wx.heap.size) : Stp N (fun W g => C W g ∨ g = by') Wx w4 := by
  refine ⟨((Keeps.of_below hB).mono fun g e => e.elim (hN g) (fun e => e.1)).trans (hst.keeps.mono fun g e => e.imp id fun e => ⟨Nat.lt_of_lt_of_le e.1 hB.size, fun h => e.2 (.inl (hC g h))⟩), fun g e => ?_⟩
  rcases e with e | e
  · rcases hst.grows g e with e | e
    · exact .inl (.inl (hC g e))
    · exact .inr (Nat.le_trans hB.size e)
  · exact .inl (.inr e)

/-- What Places hands over: laid since, apart from all that was. -/
structure VisFxL (lo : Nat) (x : Vis) (W : World) : Prop where
  fx : VisFx x W
  plo : ∀ b off, x.A = some ⟨b, off, none⟩ → lo ≤ b
  alo : ArgsN W (fun g => lo ≤ g ∧ g < W.heap.size) x.A' x.t.args

theorem argsN_up {w w' : World} {N M : Nat → Prop} {A : Option Addr} {xs : List Tm} (h : ArgsN w N A xs) (hk : ∀ b o v, w.cell? ⟨b, o, none⟩ = some v → w'.cell? ⟨b, o, none⟩ = some v) (hB : ∀ g, N g → M g) : ArgsN w' M A xs := by
  induction h with
  | nil A => exact .nil A
  | row b off xs A' c' hb hlen hi h0 h1 _ ih => exact .row b off xs A' c' (hB b hb) hlen hi (fun i t e => hk _ _ _ (h0 i t e)) (fun i t e => hk _ _ _ (h1 i t e)) ih

theorem VisFxL.put {lo : Nat} {x : Vis} {W : World} {l : Nat} {r : Loop} {o : Obj} (h : VisFxL lo x W) (hl : W.heap[l]? = some (.loop r)) : VisFxL lo x (W.putObj l o) :=
  ⟨⟨ints_up h.fx.pos (cell_put hl) (by simp), h.fx.i64, args_up h.fx.args (cell_put hl) (by simp)⟩, h.plo, argsN_up h.alo (cell_put hl) (by simp)⟩

theorem VisFxL.on {lo : Nat} {x : Vis} {W W' : World} (h : VisFxL lo x W) (hb : Below W.heap.size W W') : VisFxL lo x W' :=
  ⟨⟨h.fx.pos.on hb, h.fx.i64, h.fx.args.on hb⟩, h.plo, (h.alo.keep fun g e => hb.block g e.2).wide fun _ e => ⟨e.1, Nat.lt_of_lt_of_le e.2 hb.size⟩⟩

/-- A store below leaves it alone. -/
theorem VisFxL.set {lo : Nat} {x : Vis} {W : World} {p : Addr} {v : Value} (h : VisFxL lo x W) (hp : p.block < lo) : VisFxL lo x (W.setCell p v) := by
  have hk : ∀ g, lo ≤ g → (W.setCell p v).heap[g]? = W.heap[g]? := fun _ e => heap_setCell_other _ _ _ _ (by omega)
  have ha := h.alo.keep (w' := W.setCell p v) fun g e => hk g e.1
  refine ⟨⟨⟨h.fx.pos.len, h.fx.pos.i64, fun hn => ?_⟩, h.fx.i64, ha.args fun _ e => by simpa using e.2⟩, h.plo, ha.wide fun _ e => ⟨e.1, by simpa using e.2⟩⟩
  obtain ⟨b, off, e, hb, hc⟩ := h.fx.pos.ad hn
  exact ⟨b, off, e, by simpa using hb, fun i y hy => (cell_of_heap (hk b (h.plo b off e))).trans (hc i y hy)⟩

theorem yield_or {e : Ending} {X Y : Prop} (h : (e = .returned (.bool true) ∧ X) ∨ (e = .returned (.bool false) ∧ Y)) : ∃ b, e = .returned (.bool b) ∧ ((b = true ∧ X) ∨ (b = false ∧ Y)) := by
  rcases h with ⟨h, x⟩ | ⟨h, y⟩
  · exact ⟨true, h, .inl ⟨rfl, x⟩⟩
  · exact ⟨false, h, .inr ⟨rfl, y⟩⟩

end Go.Proofs.Ytbchignbndgigaa

/- The document's own answer: Places. -/

namespace Go.Proofs.Ytbchignbndgigaa

open Go.RowKit Go.Shelf
set_option maxRecDepth 100000

theorem info_place : (Try.prog.info? 45).map (fun i => (i.zero, i.size, i.bytes)) = some (some (.agg #[.slice none 0 0, .int .i64 0, .slice none 0 0]), 3, 56) := by kernel_rfl

/-- One place more, behind an append. -/
theorem RowP.grow {w2 w3 w5 : World} {lo : Nat} {v v5 : Value} {L : List Pk} {x : Pk} {o : Obj} (h : RowP w2 lo v L (Apart lo v w2)) (hb : Below w2.heap.size w2 w3) (hx : PkFx w3 (Apart lo v w3) x)
    (hown : w5.ownsRow lo 45 3 v5 (L.length + 1) (L.flatMap Pk.cells ++ x.cells)) (hgr : (w3.alloc o).grownBy w5 v.ownBlock) (hat : v5.ownBlock = v.ownBlock ∨ v5.ownBlock = some (w3.alloc o).heap.size) :
    RowP w5 lo v5 (L ++ [x]) (Apart lo v5 w5) := by
  have hlt := row_lt h.row
  have hs3 := hb.size
  have hs5 := hgr.size
  simp at hs5
  have hK : ∀ g, g < w3.heap.size → v.ownBlock ≠ some g → w5.heap[g]? = w3.heap[g]? := fun g h1 h2 => (hgr.block g (by simp; omega) (fun e => h2 e.symm)).trans (Below.heap_alloc w3 o g h1)
  have hNM : ∀ g, Apart lo v w3 g → Apart lo v5 w5 g := fun g e => ⟨e.1, by have := e.2.1; omega, fun e2 => by
    rcases hat with h3 | h3
    · rw [h3] at e2; exact e.2.2 e2
    · rw [h3] at e2; injection e2 with e2; simp at e2; have := e.2.1; omega⟩
  have h3 : RowP w3 lo v L (Apart lo v w3) := (h.keep (fun g e => hb.block g (hlt g e).2) (fun g e => hb.block g e.2.1)).wide fun g e => ⟨e.1, by have := e.2.1; omega, e.2.2⟩
  exact h3.push hown ((hx.keep fun g e => hK g e.2.1 e.2.2).wide hNM) (fun g e => hK g e.2.1 e.2.2) hNM

theorem own_three (w : World) (x y z : Value) (t : TypeId) : (w.alloc (.cells #[x, y, z] t)).ownsRow w.heap.size t 3 (.slice (some ⟨w.heap.size, 0, none⟩) 1 1) 1 [x, y, z] :=
  ⟨rfl, .inr ⟨w.heap.size, 1, #[x, y, z], rfl, Nat.le_refl _, heap_alloc_new w _, Nat.le_refl _, by decide, rfl, rfl⟩⟩

theorem own_one (w : World) (x : Value) (t : TypeId) : (w.alloc (.cells #[x] t)).ownsRow w.heap.size t 1 (.slice (some ⟨w.heap.size, 0, none⟩) 1 1) 1 [x] :=
  ⟨rfl, .inr ⟨w.heap.size, 1, #[x], rfl, Nat.le_refl _, heap_alloc_new w _, Nat.le_refl _, by decide, rfl, rfl⟩⟩

theorem cells_new_three (w : World) (x y z : Value) (t : TypeId) : ∀ j u, [x, y, z][j]? = some u → (w.alloc (.cells #[x, y, z] t)).cell? ((⟨w.heap.size, 0, none⟩ : Addr).add j) = some u := by
  intro j u hj
  match j, hj with
  | 0, hj => simp at hj; subst hj; simp [Addr.add]
  | 1, hj => simp at hj; subst hj; simp [Addr.add]
  | 2, hj => simp at hj; subst hj; simp [Addr.add]
  | j + 3, hj => simp at hj

theorem row_base {W : World} {base base' n : Nat} {e : TypeId} {size : Nat} {v : Value} {vs : List Value} (h : W.ownsRow base e size v n vs) (hb : base' ≤ base) : W.ownsRow base' e size v n vs := by
  refine ⟨h.1, ?_⟩
  rcases h.2 with h0 | ⟨g, cap, cur, hv, h1, hrest⟩
  · exact .inl h0
  · exact .inr ⟨g, cap, cur, hv, Nat.le_trans hb h1, hrest⟩

def RPlacesPost (t : Tm) (w : World) (e : Ending) (w' : World) : Prop := ∃ v L, e = .returned v ∧ L.map Pk.key = vis [] t ∧ RowP w' w.heap.size v L (Apart w.heap.size v w') ∧ Below w.heap.size w w'

def RPlacesAt (t : Tm) : Prop := t.size ≤ 1099511627776 → ∀ (A : Option Addr) (c : Nat) (w : World), I64 t.fn → Args w w.heap.size A t.args → Calls Try.prog 23 #[.agg #[.int .i64 t.fn, .slice A t.args.length c]] w (RPlacesPost t w)

/-- What the outer loop has laid. -/
structure RPI (w W wr : World) (xs : List Tm) (f : Int) (k : Nat) (v : Value) (L : List Pk) : Prop where
  blw : Below (w.heap.size + 1) W wr
  key : L.map Pk.key = ([], .node f xs) :: visL [] 0 (xs.take k)
  row : RowP wr (w.heap.size + 1) v L (Apart (w.heap.size + 1) v wr)

/-- What the inner loop has laid; the argument's places lie there still. -/
structure RPJ (w W wr w4 wx : World) (xs : List Tm) (f : Int) (k : Nat) (v4 : Value) (L4 : List Pk) (m : Nat) (v : Value) (L : List Pk) : Prop where
  blw : Below (w.heap.size + 1) W wx
  key : L.map Pk.key = (([], .node f xs) :: visL [] 0 (xs.take k)) ++ (L4.take m).map fun x => ((k : Int) :: x.p, x.t)
  row : RowP wx (w.heap.size + 1) v L (Apart (w.heap.size + 1) v wx)
  inn : RowP wx wr.heap.size v4 L4 (Apart wr.heap.size v4 w4)
  off : ∀ g, v.ownBlock = some g → g < wr.heap.size ∨ w4.heap.size ≤ g
  big : w4.heap.size ≤ wx.heap.size
  mid : wr.heap.size ≤ w4.heap.size
  inn4 : ∀ g, v4.ownBlock = some g → wr.heap.size ≤ g ∧ g < w4.heap.size

theorem vis_room {f : Int} {xs : List Tm} {k : Nat} {u : Tm} (h : xs[k]? = some u) : (visL [] 0 (xs.take k)).length + u.size + 1 ≤ (Tm.node f xs).size := by
  have h1 := (visL_pre [] xs (k + 1)).length_le
  rw [visL_take h, List.length_append, vis_len] at h1
  have h2 := congrArg List.length (vis_eq [] (Tm.node f xs))
  rw [vis_len] at h2
  simp only [List.length_cons, Tm.args] at h2
  omega

theorem RPJ.room {w W wr w4 wx : World} {xs : List Tm} {f : Int} {k m : Nat} {v4 v : Value} {L4 L : List Pk} {u : Tm} (h : RPJ w W wr w4 wx xs f k v4 L4 m v L) (hu : xs[k]? = some u) (h4 : L4.map Pk.key = vis [] u) (hm : m < L4.length) : L.length + 1 ≤ (Tm.node f xs).size := by
  have h1 := vis_room (f := f) hu
  have h2 := congrArg List.length h.key
  have h3 := congrArg List.length h4
  rw [vis_len, List.length_map] at h3
  rw [List.length_map, List.length_append, List.length_map, List.length_take] at h2
  simp only [List.length_cons] at h2
  omega

theorem pk_depth {L : List Pk} {u : Tm} {x : Pk} (h4 : L.map Pk.key = vis [] u) (hx : x ∈ L) : x.p.length + 1 ≤ u.depth := by
  have hm : x.key ∈ vis [] u := by rw [← h4]; exact List.mem_map_of_mem hx
  have := maxP_mem hm
  rw [maxP_vis] at this
  simp only [Pk.key, List.length_nil] at this
  omega

/-- The next place of the argument, at the row's end. -/
theorem RPJ.next {w W wr w4 wx wz w5 : World} {xs : List Tm} {f : Int} {k m : Nat} {v4 v v5 vp : Value} {L4 L : List Pk} {x : Pk} {o : Obj} {Ap : Option Addr} {cp : Nat} (h : RPJ w W wr w4 wx xs f k v4 L4 m v L) (hWs : W.heap.size = w.heap.size + 1) (hrs : W.heap.size ≤ wr.heap.size) (hx : L4[m]? = some x) (hb : Below wx.heap.size wx wz)
    (hvp : vp = .slice Ap (x.p.length + 1) cp) (hp : wz.ownsRow wx.heap.size 3 1 vp (x.p.length + 1) (((k : Int) :: x.p).map (Value.int .i64))) (hk : I64 (k : Int)) (hxl : x.p.length + 1 ≤ 9223372036854775807)
    (hown : w5.ownsRow (w.heap.size + 1) 45 3 v5 (L.length + 1) (L.flatMap Pk.cells ++ (⟨(k : Int) :: x.p, x.t, Ap, cp, x.A, x.c⟩ : Pk).cells)) (hgr : (wz.alloc o).grownBy w5 v.ownBlock) (hat : v5.ownBlock = v.ownBlock ∨ v5.ownBlock = some (wz.alloc o).heap.size) :
    RPJ w W wr w4 w5 xs f k v4 L4 (m + 1) v5 (L ++ [⟨(k : Int) :: x.p, x.t, Ap, cp, x.A, x.c⟩]) := by
  have hlt := row_lt h.row.row
  have hzs := hb.size
  have h5s := hgr.size
  simp at h5s
  have hbig := h.big
  have hmid := h.mid
  have hfx := h.inn.fx x (List.mem_of_getElem? hx)
  have h4l := row_lt h.inn.row
  have hvv := h.off
  have hK : ∀ g, g < wx.heap.size → v.ownBlock ≠ some g → w5.heap[g]? = wx.heap[g]? := fun g h1 h2 => (hgr.block g (by simp; omega) (fun e => h2 e.symm)).trans ((Below.heap_alloc wz o g (by omega)).trans (hb.block g h1))
  have hin : ∀ g, wr.heap.size ≤ g → g < w4.heap.size → v.ownBlock ≠ some g := fun g h1 h2 e => by have := hvv g e; omega
  refine ⟨?_, ?_, ?_, ?_, ?_, by omega, hmid, h.inn4⟩
  · exact ((h.blw.trans (hb.mono (by omega))).alloc (by omega) _).grown hgr (by simp; omega) fun g e => (hlt g e).1
  · rw [List.map_append, h.key, List.take_add_one, hx, List.map_append, List.append_assoc]; rfl
  · refine h.row.grow hb ⟨?_, hfx.i64, ?_⟩ hown hgr hat
    · have hl : ((k : Int) :: x.p).length = x.p.length + 1 := rfl
      obtain ⟨A2, c2, e, hI⟩ := row_intsN (N := Apart (w.heap.size + 1) v wz) (l := (k : Int) :: x.p) (by rw [hl]; exact hp) (by rw [hl]; exact hxl) (fun y hy => by
        rcases List.mem_cons.1 hy with rfl | hy
        · exact hk
        · exact hfx.pos.i64 y hy) (fun g e => ⟨by have := (row_lt hp g e).1; omega, (row_lt hp g e).2, fun e2 => by have := (row_lt hp g e).1; have := (hlt g e2).2; omega⟩)
      rw [hvp] at e
      injection e with e1 _ e3
      subst e1; subst e3
      exact hI
    · exact (hfx.args.keep fun g e => hb.block g (by have := e.2.1; omega)).wide fun g e => ⟨by have := e.1; omega, by have := e.2.1; omega, hin g e.1 e.2.1⟩
  · exact h.inn.keep (fun g e => hK g (by have := h.inn4 g e; omega) (hin g (h.inn4 g e).1 (h.inn4 g e).2)) (fun g e => hK g (by have := e.2.1; omega) (hin g e.1 e.2.1))
  · intro g e
    rcases hat with h3 | h3
    · rw [h3] at e; exact hvv g e
    · rw [h3] at e; injection e with e; simp at e; right; omega

set_option maxHeartbeats 4000000 in
theorem refPlaces_any (t : Tm) : RPlacesAt t := by
  refine Tm.ind (P := RPlacesAt) (fun f xs ih => ?_) t
  intro hsz A c w hf hA
  simp only [Tm.fn, Tm.args] at hf hA ⊢
  obtain ⟨i0, hi, hz0, hz1, hz2⟩ := info_parts info_place
  obtain ⟨i1, hi1, hy0, hy1, hy2⟩ := info_parts infoInt
  obtain ⟨W, hW⟩ : ∃ W, w.alloc (.cells #[.int .i64 f, .slice A xs.length c] 27) = W := ⟨_, rfl⟩
  have hB : Below w.heap.size w W := by rw [← hW]; exact (Below.refl _ _).alloc (Nat.le_refl _) _
  have q0 : W.heap[w.heap.size]? = some (.cells #[.int .i64 f, .slice A xs.length c] 27) := by rw [← hW]; exact heap_alloc_new _ _
  have hWs : W.heap.size = w.heap.size + 1 := by rw [← hW]; simp
  obtain ⟨a0, a1, _, _⟩ := cells_two q0
  have HW := Lib.hid hW
  have HA := Lib.hid hA
  have hl64 := hA.len
  have H1 := Lib.hid (hA.on hB)
  clear hW hA
  go_enter Try.func23, Try.ntmps23
  go_upto_region 1 with fail
  rw [HW.out]
  go_wp2_with (first
    | (go_at_call 50; refine (refCopy_at (.node f xs) A c W (by omega) hf H1.out).mono ?_; go_must (rintro e w2 ⟨A4, c4, rfl, hN4, hb4⟩; simp only [Tm.fn, Tm.args] at hN4 ⊢))
    | fail)
  have hs2 := hb4.size
  have hI0 : Hid (RPI w W (w2.alloc (.cells #[.slice none 0 0, .int .i64 f, .slice A4 xs.length c4] 45)) xs f 0 (.slice (some ⟨w2.heap.size, 0, none⟩) 1 1) [⟨[], .node f xs, none, 0, A4, c4⟩]) := by
    have hBa : Below w2.heap.size w2 (w2.alloc (.cells #[.slice none 0 0, .int .i64 f, .slice A4 xs.length c4] 45)) := (Below.refl _ _).alloc (Nat.le_refl _) _
    refine ⟨?_, by simp [visL, Pk.key], ⟨row_base (own_three w2 _ _ _ _) (by omega), fun x hx => ?_⟩⟩
    · exact ((hb4.mono (by omega)).trans (hBa.mono (by omega)))
    · simp only [List.mem_cons, List.not_mem_nil, or_false] at hx
      subst hx
      exact ⟨IntsN.nil_ _ _ _, hf, (hN4.keep fun g e => hBa.block g e.2).wide fun g e => ⟨by omega, by have := e.2; simp; omega, fun e2 => by injection e2 with e2; have e3 : w2.heap.size = g := e2; have := e.2; omega⟩⟩
  clear hN4
  go_loopw [3, 4] (fun s3 i wr => ∃ (k : Nat) (v : Value) (L : List Pk), k ≤ xs.length ∧ i = .int .i64 (k : Int) ∧ v = s3 ∧ Hid (RPI w W wr xs f k v L)) (fun _ i _ => xs.length - (intOf i).toNat)
  case atStart => exact ⟨0, _, _, Nat.zero_le _, rfl, rfl, hI0⟩
  case round =>
    obtain ⟨k, v, L, hk, rfl, rfl, H⟩ := hrel
    obtain ⟨wo, rfl⟩ : ∃ wo, wo = wr := ⟨_, rfl⟩
    have hBr := H.out.blw
    by_cases hlt : k < xs.length
    · obtain ⟨u, hu⟩ : ∃ u, xs[k]? = some u := ⟨_, List.getElem?_eq_getElem hlt⟩
      have hBw : Below w.heap.size w wo := hB.trans (hBr.mono (by omega))
      have hrs : W.heap.size ≤ wo.heap.size := hBr.size
      obtain ⟨a0, a1, _, _⟩ := cells_two ((hBr.block w.heap.size (by omega)).trans q0)
      obtain ⟨bb, off, A1, c1, rfl, ha⟩ := HA.out.get hu
      have e0 := cell_on hBw ha.hb ha.c0
      have e1 := cell_on hBw ha.hb ha.c1
      have hs1 : Hid (Args wo wo.heap.size A1 u.args) := ha.sub.on hBw
      have hi64 := ha.hi
      have hmem := List.mem_of_getElem? hu
      have husz : u.size ≤ 1099511627776 := by have := size_mem hmem; simp only [Tm.size] at hsz; omega
      have hk64 : I64 (k : Int) := ⟨by omega, by omega⟩
      have Hu := Lib.hid hu
      clear hu ha
      go_wp2_with (first
        | (go_at_call 23
           go_must (
           refine (ih u hmem husz A1 c1 wo hi64 hs1.out).mono ?_
           rintro e w4 ⟨v4, L4, rfl, hL4, hR4, hb4⟩
           have hl4 : L4.length = u.size := by have := congrArg List.length hL4; rwa [vis_len, List.length_map] at this
           have hrow4 := hR4.row
           obtain ⟨g4, c4, hv4⟩ := row_some hrow4 (by have := size_pos u; omega)
           subst hv4
           have HR4 := Lib.hid hR4
           clear hR4 hrow4))
        | fail)
      have hJ0 : Hid (RPJ w W wo w4 w4 xs f k (.slice (some ⟨g4, 0, none⟩) L4.length c4) L4 0 v L) := by
        have hlt4 := row_lt HR4.out.row
        have hlv := row_lt H.out.row.row
        exact ⟨hBr.trans (hb4.mono (by omega)), by rw [H.out.key]; simp, (H.out.row.keep (fun g e => hb4.block g (hlv g e).2) (fun g e => hb4.block g e.2.1)).wide fun g e => ⟨e.1, by have := e.2.1; have := hb4.size; omega, e.2.2⟩, HR4.out, fun g e => .inl (hlv g e).2, Nat.le_refl _, hb4.size, hlt4⟩
      clear a0 a1 e0 e1
      go_loopw [3, 6] (fun s3 i' wx => ∃ (m : Nat) (v' : Value) (L' : List Pk), m ≤ L4.length ∧ i' = .int .i64 (m : Int) ∧ v' = s3 ∧ Hid (RPJ w W wo w4 wx xs f k (.slice (some ⟨g4, 0, none⟩) L4.length c4) L4 m v' L')) (fun _ i' _ => L4.length - (intOf i').toNat)
      case atStart => exact ⟨0, _, _, Nat.zero_le _, rfl, rfl, hJ0⟩
      case round =>
        obtain ⟨m, v', L', hm, rfl, rfl, HJ⟩ := hrel
        obtain ⟨wx, rfl⟩ : ∃ wx, wx = wr := ⟨_, rfl⟩
        have hL64 : L4.length ≤ 9223372036854775807 := by omega
        by_cases hml : m < L4.length
        · obtain ⟨x, hx⟩ : ∃ x, L4[m]? = some x := ⟨_, List.getElem?_eq_getElem hml⟩
          obtain ⟨g4', c4', e4, hog, hg4, y0, y1, y2, hfx⟩ := HJ.out.inn.get hx
          injection e4 with e4 _ e5
          injection e4 with e4
          injection e4 with e4 _ _
          subst e4
          subst e5
          have hxd := pk_depth hL4 (List.mem_of_getElem? hx)
          have hud := depth_le_size u
          have hroom := HJ.out.room Hu.out hL4 hml
          have hpx := hfx.pos
          have hxl : x.p.length ≤ 1099511627776 := by omega
          have hinB : ∀ g, Apart wo.heap.size (.slice (some ⟨g4, 0, none⟩) L4.length c4) w4 g → g < wx.heap.size := fun g e => Nat.lt_of_lt_of_le e.2.1 HJ.out.big
          have Hx := Lib.hid hx
          have Hpx := Lib.hid hpx
          have Hown0 := Lib.hid (own_one wx (.int .i64 (k : Int)) 3)
          have hBa : Below wx.heap.size wx (wx.alloc (.cells #[.int .i64 (k : Int)] 3)) := (Below.refl _ _).alloc (Nat.le_refl _) _
          clear hx hpx hfx hog
          go_wp2
          go_loopw [7, 8] (fun s7 j' wz => ∃ (j : Nat) (vp : Value), j ≤ x.p.length ∧ j' = .int .i64 (j : Int) ∧ vp = s7 ∧ Below wx.heap.size wx wz ∧ Hid (wz.ownsRow wx.heap.size 3 1 vp (j + 1) (((k : Int) :: x.p.take j).map (Value.int .i64)))) (fun _ j' _ => x.p.length - (intOf j').toNat)
          case atStart => exact ⟨0, _, Nat.zero_le _, rfl, rfl, hBa, by simpa using Hown0⟩
          case round =>
            obtain ⟨j, vp, hj, rfl, rfl, hBz, HP⟩ := hrel
            obtain ⟨wz, rfl⟩ : ∃ wz, wz = wr := ⟨_, rfl⟩
            have z0 := cell_on hBz hg4 y0
            have hp64 : x.p.length ≤ 9223372036854775807 := by omega
            by_cases hjl : j < x.p.length
            · obtain ⟨y, hy⟩ : ∃ y, x.p[j]? = some y := ⟨_, List.getElem?_eq_getElem hjl⟩
              obtain ⟨pb, po, epb, hpb, hpc⟩ := Hpx.out.ad (by omega)
              have z1 := cell_on hBz (hinB _ hpb) (hpc _ _ hy)
              rw [epb] at z0
              have htk : x.p.take (j + 1) = x.p.take j ++ [y] := by rw [List.take_add_one, hy]; rfl
              have Hy := Lib.hid htk
              have hbzs := hBz.size
              have hrl := row_lt HP.out
              clear hy hpc htk
              go_wp2_with (first
                | (at_builtin
                   go_must (
                   refine wpList_append_own _ rfl _ _ 43 rfl wx.heap.size 3 i1 (.int .i64 0) 1 8 Try.underlying43 hi1 hy0 hy1 hy2 rfl (by decide) _ (j + 1) _ rfl ((row_keep HP.out fun g e => Below.heap_alloc wz _ g (hrl g e).2)) ⟨wz.heap.size, 0, none⟩ 1 1 [.int .i64 y] rfl rfl (cell_one_new _ _ _) (by simp [Value.oneCell']) (by unfold maxLen; omega) (by omega) (by simp; omega) ?_
                   intro v2 w2' hown2 hgr2 _
                   have hB2 : Below wx.heap.size wx w2' := (hBz.alloc hbzs _).grown hgr2 (by simp; omega) fun g hg => (hrl g hg).1
                   have Hown2 := Lib.hid hown2
                   clear hgr2 hown2))
                | fail)
              go_roundw
              case rel => exact ⟨j + 1, _, by omega, by go_num, rfl, hB2, by rw [Hy.out]; simpa using Hown2⟩
              case measure => simp [intOf]; omega
            · obtain rfl : j = x.p.length := by omega
              obtain ⟨gp, cpp, evp⟩ := ownsRow_succ HP.out
              subst evp
              have HQ := Lib.hid (show wz.ownsRow wx.heap.size 3 1 (.slice (some ⟨gp, 0, none⟩) (x.p.length + 1) cpp) (x.p.length + 1) (((k : Int) :: x.p).map (Value.int .i64)) by simpa using HP.out)
              have w1' := cell_on hBz hg4 y1
              have w2' := cell_on hBz hg4 y2
              have hbzs := hBz.size
              have hrow := Lib.hid HJ.out.row.row
              have hrl := row_lt hrow.out
              have hwxs : w.heap.size + 1 ≤ wx.heap.size := by have := HJ.out.mid; have := HJ.out.big; omega
              go_wp2_with (first
                | (at_builtin
                   go_must (
                   refine wpList_append_own_at _ rfl _ _ 41 rfl (w.heap.size + 1) 45 i0 (.agg #[.slice none 0 0, .int .i64 0, .slice none 0 0]) 3 56 Try.underlying41 hi hz0 hz1 hz2 rfl (by decide) v' L'.length _ rfl (row_keep hrow.out fun g e => (Below.heap_alloc wz _ g (Nat.lt_of_lt_of_le (hrl g e).2 hbzs)).trans (hBz.block g (hrl g e).2)) ⟨wz.heap.size, 0, none⟩ 1 1 [.slice (some ⟨gp, 0, none⟩) (x.p.length + 1) cpp, .int .i64 x.t.fn, .slice x.A x.t.args.length x.c] rfl rfl (cells_new_three _ _ _ _ _) (by simp [Value.oneCell']) (by unfold maxLen; omega) (by omega) (by simp; omega) ?_
                   intro v5 w5 hown5 hgr5 _ hat5
                   have Hn5 := Lib.hid (HJ.out.next (x := x) (Ap := some ⟨gp, 0, none⟩) (cp := cpp) hWs hrs Hx.out hBz rfl HQ.out hk64 (by omega) hown5 hgr5 hat5)
                   clear hown5 hgr5 hat5))
                | fail)
              go_roundw
              case rel => exact ⟨m + 1, _, _, by omega, by go_num, rfl, Hn5⟩
              case measure => simp [intOf]; omega
        · obtain rfl : m = L4.length := by omega
          have hkey2 := HJ.out.key
          rw [List.take_length] at hkey2
          have Hnext : Hid (RPI w W wx xs f (k + 1) v' L') := ⟨HJ.out.blw, by
            rw [hkey2, visL_take Hu.out]
            have e : (L4.map fun x => ((k : Int) :: x.p, x.t)) = vis ([] ++ [(k : Int)]) u := by
              rw [List.nil_append, vis_one, ← hL4, List.map_map]; rfl
            rw [e]; simp, HJ.out.row⟩
          clear hkey2
          go_wp2
          go_roundw
          case rel => exact ⟨k + 1, _, _, by omega, by go_num, rfl, Hnext⟩
          case measure => simp [intOf]; omega
    · obtain rfl : k = xs.length := by omega
      obtain ⟨a0, a1, _, _⟩ := cells_two ((hBr.block w.heap.size (by omega)).trans q0)
      have hrow := H.out.row
      have hkey := H.out.key
      rw [List.take_length] at hkey
      have hBw : Below w.heap.size w wo := hB.trans (hBr.mono (by omega))
      go_wp2
      go_ret
      exact ⟨_, L, rfl, by rw [hkey, vis_eq]; rfl, ⟨row_base hrow.row (by omega), fun x hx => (hrow.fx x hx).wide fun g e => ⟨by have := e.1; omega, e.2.1, e.2.2⟩⟩, hBw⟩

end Go.Proofs.Ytbchignbndgigaa

