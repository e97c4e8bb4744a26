import Derived.Test.YtnmpeodngipfcaaP24Z1
import Derived.Test.YtnmpeodngipfcaaP22Z5
import Derived.Deep.RegionLaw
import Derived.Test.YtnmpeodngipfcaaP22Z2
import Derived.Test.YtnmpeodngipfcaaP22Z7
import Derived.RegionTactic
import Derived.ChangeAlike
import Derived.Deep.DeepCutAuto
import Derived.Test.YtnmpeodngipfcaaP22Z1
import Derived.Lib.BufferMore
import Derived.OwnWalk
import Derived.RangeFuncBox
import Derived.Laws.EntriesVeiled
/- The document's own Copy, again: its rows have room for what they hold. (gen_ek.py) -/

namespace Go.Proofs.Ytnmpeodngipfcaa

open Go.RowKit Go.Shelf
set_option maxRecDepth 100000

/-- The slice v is the call's own; it holds the terms l, whose arguments lie in N's blocks. -/
structure RowTK (w : World) (base : Nat) (v : Value) (l : List Ti) (N : Nat → Prop) : Prop where
  row : w.ownsRow base 27 2 v l.length (l.flatMap Ti.cells)
  i64 : ∀ x ∈ l, I64 x.t.fn
  sub : ∀ x ∈ l, ArgsK w N x.A x.c x.t.args

section

variable {w w' : World} {base base' : Nat} {v : Value} {l : List Ti} {N M : Nat → Prop}

theorem RowTK.nil_ (w : World) (base : Nat) (N : Nat → Prop) : RowTK w base (.slice none 0 0) [] N :=
  ⟨World.ownsRow_nil w _ _ _, fun x hx => by simp at hx, fun x hx => by simp at hx⟩

theorem RowTK.keep (h : RowTK w base v l N) (hv : ∀ g, v.ownBlock = some g → w'.heap[g]? = w.heap[g]?) (hN : ∀ g, N g → w'.heap[g]? = w.heap[g]?) : RowTK w' base v l N :=
  ⟨row_keep h.row hv, h.i64, fun x hx => (h.sub x hx).keep hN⟩

theorem RowTK.wide (h : RowTK w base v l N) (hk : ∀ g, N g → M g) : RowTK w base v l M := ⟨h.row, h.i64, fun x hx => (h.sub x hx).wide hk⟩

theorem RowTK.shape (h : RowTK w base v l N) : ∃ A c, v = .slice A l.length c := by
  rcases h.row.2 with ⟨hv, h0⟩ | ⟨g, cap, cur, hv, _⟩
  · exact ⟨none, 0, by rw [hv, h0]⟩
  · exact ⟨_, cap, hv⟩

/-- The row, read. -/
theorem RowTK.argsK (h : RowTK w base v l N) (hl : l.length ≤ 9223372036854775807) (hv : ∀ g, v.ownBlock = some g → M g) (hN : ∀ g, N g → M g) : ∃ A c, v = .slice A l.length c ∧ ArgsK w M A c (l.map Ti.t) := by
  rcases h.row.2 with ⟨rfl, h0⟩ | ⟨g, cap, cur, rfl, hb, hg, hcap, _⟩
  · obtain rfl : l = [] := List.eq_nil_of_length_eq_zero h0
    exact ⟨none, 0, rfl, .nil _ _⟩
  · refine ⟨_, _, rfl, .row g 0 cap _ (fun i => ((l[i]?).map Ti.A).getD none) (fun i => ((l[i]?).map Ti.c).getD 0) (by simpa using hcap) (hv g rfl) (by simpa using hl) (fun i t e => ?_) (fun i t e => ?_) (fun i t e => ?_) fun i t e => ?_⟩
    all_goals
      rw [List.getElem?_map] at e
      cases hx : l[i]? with
      | none => rw [hx] at e; cases e
      | some x =>
        rw [hx] at e
        injection e with e
        subst e
        have hlt := (List.getElem?_eq_some_iff.1 hx).1
        have hm := List.mem_of_getElem? hx
        have q0 := ti_get l i 0 (by omega)
        have q1 := ti_get l i 1 (by omega)
        have c0 := h.row.cellAt (i * 2) (by omega)
        have c1 := h.row.cellAt (i * 2 + 1) (by omega)
        rw [Nat.add_zero, hx] at q0
        rw [hx] at q1
        rw [q0] at c0
        rw [q1] at c1
        try simp only [Option.map_some, Option.getD_some]
        try rw [Nat.zero_add]
        first | exact h.i64 x hm | exact c0 | exact c1 | exact (h.sub x hm).wide hN

/-- One more. -/
theorem RowTK.push {x : Ti} {v' : Value} (h : RowTK w base v l N) (hrow : w'.ownsRow base 27 2 v' (l.length + 1) (l.flatMap Ti.cells ++ x.cells)) (hi : I64 x.t.fn) (hx : ArgsK w' M x.A x.c x.t.args) (hk : ∀ g, N g → w'.heap[g]? = w.heap[g]?) (hNM : ∀ g, N g → M g) : RowTK w' base v' (l ++ [x]) M := by
  refine ⟨?_, ?_, ?_⟩
  · rw [List.length_append, List.flatMap_append]
    simpa using hrow
  · intro y hy
    rcases List.mem_append.1 hy with hy | hy
    · exact h.i64 y hy
    · simp only [List.mem_cons, List.not_mem_nil, or_false] at hy
      subst hy; exact hi
  · intro y hy
    rcases List.mem_append.1 hy with hy | hy
    · exact ((h.sub y hy).keep hk).wide hNM
    · simp only [List.mem_cons, List.not_mem_nil, or_false] at hy
      subst hy; exact hx

end

/-- A copy of t, in new memory: the row of its arguments is the call's own. -/
def RCopyPostK (t : Tm) (w : World) (e : Ending) (w' : World) : Prop := ∃ v l, e = .returned (.agg #[.int .i64 t.fn, v]) ∧ l.map Ti.t = t.args ∧ RowTK w' w.heap.size v l (Apart w.heap.size v w') ∧ Below w.heap.size w w'

def RCopyAtK (t : Tm) : Prop := t.size ≤ 4398046511104 → ∀ (A : Option Addr) (c : Nat) (w : World), I64 t.fn → Args w w.heap.size A t.args → Calls Try.prog 50 #[.agg #[.int .i64 t.fn, .slice A t.args.length c]] w (RCopyPostK t w)

/-- What the loop has laid: the box, its row. -/
structure RCopyIK (w wr : World) (f : Int) (xs : List Tm) (k : Nat) (v : Value) (l : List Ti) : Prop where
  box : wr.heap[w.heap.size + 2]? = some (.cells #[.int .i64 f, v] 27)
  key : l.map Ti.t = xs.take k
  row : RowTK wr (w.heap.size + 3) v l (Apart (w.heap.size + 3) v wr)

theorem RCopyIK.len {w wr : World} {f : Int} {xs : List Tm} {k : Nat} {v : Value} {l : List Ti} (h : RCopyIK w wr f xs k v l) (hk : k ≤ xs.length) : l.length = k := by
  have := congrArg List.length h.key
  simpa [Nat.min_eq_left hk] using this

theorem RowTK.base {w : World} {base base' : Nat} {v : Value} {l : List Ti} {N : Nat → Prop} (h : RowTK w base v l N) (hb : base' ≤ base) : RowTK w base' v l N := by
  refine ⟨⟨h.row.1, ?_⟩, h.i64, h.sub⟩
  rcases h.row.2 with h0 | ⟨g, cap, cur, hv, h1, hrest⟩
  · exact .inl h0
  · exact .inr ⟨g, cap, cur, hv, Nat.le_trans hb h1, hrest⟩

/-- One more: the copy of the next argument, its box, the row that has grown, the store. -/
theorem RCopyIK.next {w wr w4 w5 : World} {f : Int} {xs : List Tm} {k : Nat} {v v4 v5 : Value} {l l4 : List Ti} {u : Tm} {A4 : Option Addr} {c4 : Nat} {o : Obj} (h : RCopyIK w wr f xs k v l) (hu : xs[k]? = some u) (hi : I64 u.fn) (hl4 : l4.map Ti.t = u.args) (h64 : u.args.length ≤ 9223372036854775807) (hv4 : v4 = .slice A4 u.args.length c4)
    (hR4 : RowTK w4 wr.heap.size v4 l4 (Apart wr.heap.size v4 w4)) (hb4 : Below wr.heap.size wr w4) (hown : w5.ownsRow (w.heap.size + 3) 27 2 v5 (k + 1) (l.flatMap Ti.cells ++ (⟨u, A4, c4⟩ : Ti).cells))
    (hgr : (w4.alloc o).grownBy w5 v.ownBlock) (hat : v5.ownBlock = v.ownBlock ∨ v5.ownBlock = some (w4.alloc o).heap.size) :
    RCopyIK w (w5.setCell ⟨w.heap.size + 2, 1, none⟩ v5) f xs (k + 1) v5 (l ++ [⟨u, A4, c4⟩]) := by
  have hkl := (List.getElem?_eq_some_iff.1 hu).1
  have hlen := h.len (by omega)
  have hlt := row_lt h.row.row
  have hs4 := hb4.size
  have hs5 := hgr.size
  have hbs : w.heap.size + 2 < wr.heap.size := (Array.getElem?_eq_some_iff.1 h.box).1
  have hK : ∀ g, g < wr.heap.size → v.ownBlock ≠ some g → w5.heap[g]? = wr.heap[g]? := fun g h1 h2 => (hgr.block g (by simp; omega) (fun e => h2 e.symm)).trans ((Below.heap_alloc w4 o g (by omega)).trans (hb4.block g h1))
  have hK4 : ∀ g, g < w4.heap.size → v.ownBlock ≠ some g → w5.heap[g]? = w4.heap[g]? := fun g h1 h2 => (hgr.block g (by simp; omega) (fun e => h2 e.symm)).trans (Below.heap_alloc w4 o g h1)
  have hb2 : v.ownBlock ≠ some (w.heap.size + 2) := fun e => by have := (hlt _ e).1; omega
  have hbox5 := (hK _ hbs hb2).trans h.box
  obtain ⟨_, z1⟩ := set2_two (u := .int .i64 f) (v := v5) hbox5
  have hset : ∀ g, g ≠ w.heap.size + 2 → (w5.setCell ⟨w.heap.size + 2, 1, none⟩ v5).heap[g]? = w5.heap[g]? := fun g e => heap_setCell_other _ _ _ _ e
  have hlt5 := row_lt hown
  have hv5 : ∀ g, g < wr.heap.size → v.ownBlock ≠ some g → v5.ownBlock ≠ some g := fun g h1 h2 e => by
    rcases hat with h3 | h3
    · rw [h3] at e; exact h2 e
    · rw [h3] at e; injection e with e; simp at e; omega
  have hv54 : ∀ g, wr.heap.size ≤ g → g < w4.heap.size → v5.ownBlock ≠ some g := fun g h1 h2 e => by
    rcases hat with h3 | h3
    · rw [h3] at e; have := (hlt _ e).2; omega
    · rw [h3] at e; injection e with e; simp at e; omega
  have hsz5 : w4.heap.size + 1 ≤ w5.heap.size := by simpa using hs5
  refine ⟨?_, ?_, ?_⟩
  · exact heap_setCell_same w5 _ 1 _ _ _ hbox5
  · rw [List.map_append, h.key, List.take_add_one, hu]; rfl
  · refine RowTK.push (w := wr) (N := Apart (w.heap.size + 3) v wr) h.row ?_ hi ?_ (fun g hg => ?_) (fun g hg => ⟨hg.1, by have := hg.2.1; simp; omega, hv5 g hg.2.1 hg.2.2⟩)
    · rw [hlen]
      exact row_keep hown fun g e => hset g (by have := (hlt5 g e).1; omega)
    · have hl4l : l4.length ≤ 9223372036854775807 := by have := congrArg List.length hl4; simp at this; omega
      obtain ⟨A', c', e, hA⟩ := hR4.argsK (M := fun g => wr.heap.size ≤ g ∧ g < w4.heap.size) hl4l (fun g e => row_lt hR4.row g e) (fun g hg => ⟨hg.1, hg.2.1⟩)
      rw [hv4] at e
      injection e with e1 _ e3
      subst e1
      subst e3
      rw [hl4] at hA
      refine (hA.keep fun g hg => ?_).wide fun g hg => ⟨by omega, by simp; omega, hv54 g hg.1 hg.2⟩
      exact (hset g (by omega)).trans (hK4 g hg.2 fun e => by have := (hlt _ e).2; omega)
    · exact (hset g (by have := hg.1; omega)).trans (hK g hg.2.1 hg.2.2)

set_option maxHeartbeats 2000000 in
theorem refCopyK_any (t : Tm) : RCopyAtK t := by
  refine Tm.ind (P := RCopyAtK) (fun f xs ih => ?_) t
  intro hsz A c w hf hA
  simp only [Tm.fn, Tm.args] at hf hA ⊢
  have hlen : xs.length ≤ 4398046511104 := by have := sizes_len xs; simp only [Tm.size] at hsz; omega
  obtain ⟨i0, hi, hz0, hz1, hz2⟩ := info_parts info_term
  obtain ⟨q0, q1, q2⟩ := heap3 w (.cells #[.int .i64 f, .slice A xs.length c] 27) (.cells #[.int .i64 0, .slice none 0 0] 27) (.cells #[.int .i64 f, .slice none 0 0] 27)
  obtain ⟨W, hW⟩ : ∃ W, (((w.alloc (.cells #[.int .i64 f, .slice A xs.length c] 27)).alloc (.cells #[.int .i64 0, .slice none 0 0] 27)).alloc (.cells #[.int .i64 f, .slice none 0 0] 27)) = W := ⟨_, rfl⟩
  have hB : Below w.heap.size w W := by rw [← hW]; exact (((Below.refl _ _).alloc (Nat.le_refl _) _).alloc (by simp) _).alloc (by simp; omega) _
  rw [hW] at q0 q1 q2
  have hWs : w.heap.size + 2 < W.heap.size := (Array.getElem?_eq_some_iff.1 q2).1
  have hI0 : RCopyIK w W f xs 0 (.slice none 0 0) [] := ⟨q2, by simp, RowTK.nil_ _ _ _⟩
  have HI0 := Lib.hid hI0
  have HA := Lib.hid hA
  have HW := Lib.hid hW
  clear hW hA q2 hI0
  go_enter Try.func50, Try.ntmps50
  go_wp2
  rw [HW.out]
  go_loopw [4] (fun i wr => ∃ (k : Nat) (v : Value) (l : List Ti), k ≤ xs.length ∧ i = .int .i64 (k : Int) ∧ Below (w.heap.size + 2) W wr ∧ Hid (RCopyIK w wr f xs k v l)) (fun i _ => xs.length - (intOf i).toNat)
  case atStart => exact ⟨0, _, [], Nat.zero_le _, rfl, Below.refl _ _, HI0⟩
  case round =>
    obtain ⟨k, v, l, hk, rfl, hBr, H⟩ := hrel
    have hbx := H.out.box
    have hbs : w.heap.size + 2 < wr.heap.size := (Array.getElem?_eq_some_iff.1 hbx).1
    obtain ⟨a0, a1, _, _⟩ := cells_two ((hBr.block _ (by omega)).trans q0)
    obtain ⟨c0, c1, g0, g1⟩ := cells_two hbx
    have hBw : Below w.heap.size w wr := hB.trans (hBr.mono (by omega))
    by_cases hlt : k < xs.length
    · obtain ⟨u, hu⟩ : ∃ u, xs[k]? = some u := ⟨_, List.getElem?_eq_getElem hlt⟩
      obtain ⟨bb, off, A1, c1', rfl, ha⟩ := HA.out.get hu
      have hbw := ha.hb
      have e0 := cell_on hBw hbw ha.c0
      have e1 := cell_on hBw hbw ha.c1
      have hbb : bb < wr.heap.size := by omega
      have hs1 : Hid (Args wr.drew wr.drew.heap.size A1 u.args) := (ha.sub.on hBw).drewN 1
      have hi64 := ha.hi
      have hmem := List.mem_of_getElem? hu
      have hszt : u.size ≤ 4398046511104 := by have := size_mem hmem; simp only [Tm.size] at hsz; omega
      have hul : u.args.length ≤ 9223372036854775807 := ha.sub.len
      have Hu := Lib.hid hu
      have hrow := H.out.row.row
      have hll := H.out.len hk
      rw [hll] at hrow
      obtain ⟨Av, cv, hv⟩ := row_own hrow
      subst hv
      have hrl := row_lt hrow
      have Hrow := Lib.hid hrow
      have hSS : ∀ w', Below wr.heap.size wr w' → w'.cell? ⟨w.heap.size + 2, 1, none⟩ = some (.slice Av k cv) ∧ w'.cell? ⟨w.heap.size, 1, none⟩ = some (.slice (some ⟨bb, off, none⟩) xs.length c) ∧ w'.cell? ⟨bb, off + k * 2, none⟩ = some (.int .i64 u.fn) ∧ w'.cell? ⟨bb, off + k * 2 + 1, none⟩ = some (.slice A1 u.args.length c1') := fun w' h => ⟨cell_on h hbs c1, cell_on h (by omega) a1, cell_on h hbb e0, cell_on h hbb e1⟩
      have hne : ∀ g, g < w.heap.size + 3 → (Value.slice Av k cv).ownBlock ≠ some g := fun g h e => by have := (hrl g e).1; omega
      have hBX : ∀ w' : World, (∀ g, g < wr.heap.size → (Value.slice Av k cv).ownBlock ≠ some g → w'.heap[g]? = wr.heap[g]?) → w'.cell? ⟨w.heap.size + 2, 1, none⟩ = some (.slice Av k cv) ∧ w'.frozen? ⟨w.heap.size + 2, 1, none⟩ = false := fun w' h => ⟨(cell_of_heap (h _ hbs (hne _ (by omega)))).trans c1, (frozen_of_heap (h _ hbs (hne _ (by omega)))).trans g1⟩
      clear hu ha hrow
      go_wp2
      go_region_law
        (first
          | (go_simp
             go_at_call 50
             refine (ih u hmem hszt A1 c1' wr.drew hi64 hs1.out).mono ?_
             rintro e w4 ⟨v4, l4, rfl, hl4, hR4, hb4⟩
             have hB4 : Below wr.heap.size wr w4 := ⟨hb4.os, hb4.tape, hb4.output, hb4.size, hb4.block⟩
             obtain ⟨A4, c4, hv4⟩ := row_own hR4.row
             have hl4l : l4.length = u.args.length := by rw [← hl4, List.length_map]
             rw [hl4l] at hv4
             have HR4 := Lib.hid hR4
             obtain ⟨k4, _, _, _⟩ := hSS _ hB4
             obtain ⟨k4', _, _, _⟩ := hSS _ (hB4.alloc hB4.size (.cells #[.int .i64 u.fn, .slice A4 u.args.length c4] 27))
             subst hv4
             clear hR4
             dsimp only)
          | (refine step_append_at rfl (.tmp 16) (.tmp 23) 25 rfl (w.heap.size + 3) 27 i0 (.agg #[.int .i64 0, .slice none 0 0]) 2 32 Try.underlying25 hi hz0 hz1 hz2 rfl (by decide) (.slice Av k cv) k _ (by simp [Act.eval]) (row_keep Hrow.out fun g e => (Below.heap_alloc w4 _ g (Nat.lt_of_lt_of_le (hrl g e).2 hB4.size)).trans (hB4.block g (hrl g e).2)) ⟨w4.heap.size, 0, none⟩ 1 1 [.int .i64 u.fn, .slice A4 u.args.length c4] (by simp [Act.eval]) rfl (cells_new_two _ _ _ _) (by simp [Value.oneCell']) (by unfold maxLen; omega) (by omega) (by have := hB4.size; simp; omega) ?_
             intro v5 w5 hown5 hgr5 hat5
             have hK5 : ∀ g, g < wr.heap.size → (Value.slice Av k cv).ownBlock ≠ some g → w5.heap[g]? = wr.heap[g]? := fun g h1 h2 => (hgr5.block g (by have := hB4.size; simp; omega) (fun e => h2 e.symm)).trans ((Below.heap_alloc w4 _ g (by have := hB4.size; omega)).trans (hB4.block g h1))
             obtain ⟨k1, kf⟩ := hBX w5 hK5
             obtain ⟨g5, cap5, hv5⟩ := ownsRow_succ hown5
             have Hown5 := Lib.hid hown5
             have Hgr5 := Lib.hid hgr5
             have Hat5 := Lib.hid hat5
             subst hv5
             clear hown5 hgr5 hat5 hK5)
          | fail)
      all_goals
        have hst := H.out.next Hu.out hi64 hl4 hul rfl HR4.out hB4 Hown5.out Hgr5.out Hat5.out
        have hBe : Below (w.heap.size + 2) W w5 := ((hBr.trans (hB4.mono (by omega))).alloc (by have := hB4.size; omega) _).grown Hgr5.out (by have := hB4.size; simp; omega) (fun g e => by have := (hrl g e).1; omega)
        go_wp2
        go_roundw
        case rel => exact ⟨k + 1, _, _, by omega, by go_num, hBe.setCell (Nat.le_refl _) _, hst⟩
        case measure => simp [intOf]; omega
    · obtain rfl : k = xs.length := by omega
      have hrow := H.out.row.row
      have hll := H.out.len hk
      rw [hll] at hrow
      obtain ⟨Av, cv, hv⟩ := row_own hrow
      subst hv
      have hkey := Lib.hid H.out.key
      have HR := Lib.hid H.out.row
      obtain ⟨b0, b1, bg0, bg1⟩ := cells_two ((hBr.block _ (by omega)).trans q1)
      clear hrow
      go_wp2
      have z1 : (wr.setCell ⟨w.heap.size + 1, 0, none⟩ (.int .i64 f)).heap[w.heap.size + 1]? = some (.cells #[.int .i64 f, .slice none 0 0] 27) := heap_setCell_same wr _ 0 _ _ _ ((hBr.block _ (by omega)).trans q1)
      have z2 : ((wr.setCell ⟨w.heap.size + 1, 0, none⟩ (.int .i64 f)).setCell ⟨w.heap.size + 1, 1, none⟩ (.slice Av xs.length cv)).heap[w.heap.size + 1]? = some (.cells #[.int .i64 f, .slice Av xs.length cv] 27) := heap_setCell_same _ _ 1 _ _ _ z1
      have p0 := (cells_two z1).1
      have p1 := (cells_two z2).2.1
      have hoth : ∀ g, g ≠ w.heap.size + 1 → ((wr.setCell ⟨w.heap.size + 1, 0, none⟩ (.int .i64 f)).setCell ⟨w.heap.size + 1, 1, none⟩ (.slice Av xs.length cv)).heap[g]? = wr.heap[g]? := fun g e => (heap_setCell_other _ _ _ _ e).trans (heap_setCell_other _ _ _ _ e)
      refine bodyPost_ret (v := .agg #[.int .i64 f, .slice Av xs.length cv]) (by simp [results, Try.results50, go_sem, p0, p1]) rfl ⟨_, l, rfl, by rw [hkey.out, List.take_length]; rfl, ?_, ?_⟩
      · have hk3 := (HR.out.keep (fun g e => hoth g (by have := (row_lt HR.out.row g e).1; omega)) (fun g e => hoth g (by have := e.1; omega))).base (base' := w.heap.size) (by omega)
        exact hk3.wide fun g e => show Apart _ _ _ g from ⟨by have := e.1; omega, by have := e.2.1; simpa using this, e.2.2⟩
      · exact (hBw.setCell (by show _ ≤ w.heap.size + 1; omega) _).setCell (by show _ ≤ w.heap.size + 1; omega) _

theorem refCopyK_at (t : Tm) (A : Option Addr) (c : Nat) (w : World) (hsz : t.size ≤ 4398046511104) (hf : I64 t.fn) (hA : Args w w.heap.size A t.args) :
    Calls Try.prog 50 #[.agg #[.int .i64 t.fn, .slice A t.args.length c]] w fun e w' => ∃ A' c', e = .returned (.agg #[.int .i64 t.fn, .slice A' t.args.length c']) ∧ ArgsK w' (fun g => w.heap.size ≤ g ∧ g < w'.heap.size) A' c' t.args ∧ Below w.heap.size w w' := by
  refine (refCopyK_any t hsz A c w hf hA).mono ?_
  rintro e w' ⟨v, l, rfl, hl, hR, hb⟩
  have hlen : l.length = t.args.length := by rw [← hl, List.length_map]
  obtain ⟨A', c', rfl, hN⟩ := hR.argsK (M := fun g => w.heap.size ≤ g ∧ g < w'.heap.size) (by rw [hlen]; exact hA.len) (fun g e => row_lt hR.row g e) (fun g hg => ⟨hg.1, hg.2.1⟩)
  rw [hl] at hN
  exact ⟨A', c', by rw [hlen], hN, hb⟩

end Go.Proofs.Ytnmpeodngipfcaa

/- Rows of places that grow, in plain words; the places of a term, place by place. -/

namespace Go.Proofs.Ytnmpeodngipfcaa

open Go.RowKit Go.Shelf
set_option maxRecDepth 100000

theorem vis_pre (t : Tm) : ∀ q p : List Int, vis (q ++ p) t = (vis p t).map fun y => (q ++ y.1, y.2) := by
  refine Tm.ind (P := fun t => ∀ q p : List Int, vis (q ++ p) t = (vis p t).map fun y => (q ++ y.1, y.2)) (fun f xs ih => ?_) t
  intro q p
  have key : ∀ (ys : List Tm) (i : Nat), (∀ u ∈ ys, ∀ q p : List Int, vis (q ++ p) u = (vis p u).map fun y => (q ++ y.1, y.2)) → visL (q ++ p) i ys = (visL p i ys).map fun y => (q ++ y.1, y.2) := by
    intro ys
    induction ys with
    | nil => intro i _; simp [visL]
    | cons y ys ihy =>
      intro i h
      simp only [visL, List.map_append]
      rw [ihy (i + 1) fun u hu => h u (by simp [hu]), List.append_assoc, h y (by simp) q (p ++ [(i : Int)])]
  simp only [vis, List.map_cons]
  rw [key xs 0 ih]

theorem vis_one (t : Tm) (k : Int) : vis [k] t = (vis [] t).map fun y => (k :: y.1, y.2) := by
  have := vis_pre t [k] []
  simpa using this

/-- The slice at A holds the numbers; it lies in N's blocks. -/
structure IntsN (w : World) (N : Nat → Prop) (A : Option Addr) (l : List Int) : Prop where
  len : l.length ≤ 9223372036854775807
  i64 : ∀ x ∈ l, I64 x
  ad : 0 < l.length → ∃ b off, A = some ⟨b, off, none⟩ ∧ N b ∧ ∀ (i : Nat) (x : Int), l[i]? = some x → w.cell? ⟨b, off + i, none⟩ = some (.int .i64 x)

section

variable {w w' : World} {N M : Nat → Prop} {B : Nat} {A : Option Addr} {l : List Int}

theorem IntsN.keep (h : IntsN w N A l) (hk : ∀ g, N g → w'.heap[g]? = w.heap[g]?) : IntsN w' N A l :=
  ⟨h.len, h.i64, fun hn => by
    obtain ⟨b, off, hA, hb, hc⟩ := h.ad hn
    exact ⟨b, off, hA, hb, fun i x hi => (cell_of_heap (hk b hb)).trans (hc i x hi)⟩⟩

theorem IntsN.wide (h : IntsN w N A l) (hk : ∀ g, N g → M g) : IntsN w M A l :=
  ⟨h.len, h.i64, fun hn => by
    obtain ⟨b, off, hA, hb, hc⟩ := h.ad hn
    exact ⟨b, off, hA, hk b hb, hc⟩⟩

theorem IntsN.ints (h : IntsN w N A l) (hN : ∀ g, N g → g < B) : Ints w B A l :=
  ⟨h.len, h.i64, fun hn => by
    obtain ⟨b, off, hA, hb, hc⟩ := h.ad hn
    exact ⟨b, off, hA, hN b hb, hc⟩⟩

theorem IntsN.nil_ (w : World) (N : Nat → Prop) (A : Option Addr) : IntsN w N A [] := ⟨by simp, by simp, fun h => by simp at h⟩

theorem row_intsN {base : Nat} {v : Value} (h : w.ownsRow base 3 1 v l.length (l.map (Value.int .i64))) (hl : l.length ≤ 9223372036854775807) (hi : ∀ x ∈ l, I64 x) (hv : ∀ g, v.ownBlock = some g → N g) : ∃ A c, v = .slice A l.length c ∧ IntsN w N A l := by
  rcases h.2 with ⟨rfl, h0⟩ | ⟨g, cap, cur, rfl, hb, hg, _⟩
  · exact ⟨none, 0, by rw [h0], hl, hi, fun hn => by omega⟩
  · refine ⟨_, _, rfl, hl, hi, fun hn => ⟨g, 0, rfl, hv g rfl, fun i x hx => ?_⟩⟩
    have hlt := (List.getElem?_eq_some_iff.1 hx).1
    rw [Nat.zero_add, h.cellAt i (by simpa using hlt)]
    simp [hx]

end

/-- A place and what stands there, as a member of a row. -/
structure Pk where
  p : List Int
  t : Tm
  Ap : Option Addr
  cp : Nat
  A : Option Addr
  c : Nat

def Pk.key (x : Pk) : List Int × Tm := (x.p, x.t)

def Pk.cells (x : Pk) : List Value := [.slice x.Ap x.p.length x.cp, .int .i64 x.t.fn, .slice x.A x.t.args.length x.c]

structure PkFx (w : World) (N : Nat → Prop) (x : Pk) : Prop where
  pos : IntsN w N x.Ap x.p
  i64 : I64 x.t.fn
  args : ArgsN w N x.A x.t.args

theorem PkFx.keep {w w' : World} {N : Nat → Prop} {x : Pk} (h : PkFx w N x) (hk : ∀ g, N g → w'.heap[g]? = w.heap[g]?) : PkFx w' N x := ⟨h.pos.keep hk, h.i64, h.args.keep hk⟩

theorem PkFx.wide {w : World} {N M : Nat → Prop} {x : Pk} (h : PkFx w N x) (hk : ∀ g, N g → M g) : PkFx w M x := ⟨h.pos.wide hk, h.i64, h.args.wide hk⟩

theorem pk_get (l : List Pk) (i r : Nat) (hr : r < 3) : (l.flatMap Pk.cells)[i * 3 + r]? = (l[i]?).bind fun x => x.cells[r]? := by
  induction l generalizing i with
  | nil => simp
  | cons x l ih =>
    have hlen : x.cells.length = 3 := rfl
    rw [List.flatMap_cons]
    cases i with
    | zero => rw [List.getElem?_append_left (by omega)]; simp
    | succ i =>
      rw [List.getElem?_append_right (by omega), hlen, show (i + 1) * 3 + r - 3 = i * 3 + r from by omega, ih]
      simp

theorem pk_len (l : List Pk) : (l.flatMap Pk.cells).length = l.length * 3 := by
  induction l with
  | nil => rfl
  | cons x l ih =>
    have hlen : x.cells.length = 3 := rfl
    rw [List.flatMap_cons, List.length_append, ih, hlen, List.length_cons]
    omega

theorem pk_one (l : List Pk) : ∀ u ∈ l.flatMap Pk.cells, u.oneCell' = true := by
  intro u hu
  obtain ⟨x, _, hx⟩ := List.mem_flatMap.1 hu
  simp only [Pk.cells, List.mem_cons, List.not_mem_nil, or_false] at hx
  rcases hx with rfl | rfl | rfl <;> rfl

/-- The slice v is the call's own; it holds the places l, whose numbers and terms lie in N's blocks. -/
structure RowP (w : World) (base : Nat) (v : Value) (l : List Pk) (N : Nat → Prop) : Prop where
  row : w.ownsRow base 45 3 v l.length (l.flatMap Pk.cells)
  fx : ∀ x ∈ l, PkFx w N x

section

variable {w w' : World} {base : Nat} {v : Value} {l : List Pk} {N M : Nat → Prop}

theorem RowP.keep (h : RowP w base v l N) (hv : ∀ g, v.ownBlock = some g → w'.heap[g]? = w.heap[g]?) (hN : ∀ g, N g → w'.heap[g]? = w.heap[g]?) : RowP w' base v l N :=
  ⟨row_keep h.row hv, fun x hx => (h.fx x hx).keep hN⟩

theorem RowP.wide (h : RowP w base v l N) (hk : ∀ g, N g → M g) : RowP w base v l M := ⟨h.row, fun x hx => (h.fx x hx).wide hk⟩

theorem RowP.shape (h : RowP w base v l N) : ∃ A c, v = .slice A l.length c := by
  rcases h.row.2 with ⟨hv, h0⟩ | ⟨g, cap, cur, hv, _⟩
  · exact ⟨none, 0, by rw [hv, h0]⟩
  · exact ⟨_, cap, hv⟩

/-- One of the places, read. -/
theorem RowP.get (h : RowP w base v l N) {i : Nat} {x : Pk} (hx : l[i]? = some x) : ∃ g c, v = .slice (some ⟨g, 0, none⟩) l.length c ∧ v.ownBlock = some g ∧ g < w.heap.size ∧ w.cell? ⟨g, i * 3, none⟩ = some (.slice x.Ap x.p.length x.cp) ∧ w.cell? ⟨g, i * 3 + 1, none⟩ = some (.int .i64 x.t.fn) ∧ w.cell? ⟨g, i * 3 + 2, none⟩ = some (.slice x.A x.t.args.length x.c) ∧ PkFx w N x := by
  have hlt := (List.getElem?_eq_some_iff.1 hx).1
  rcases h.row.2 with ⟨_, h0⟩ | ⟨g, cap, cur, rfl, hb, hg, _⟩
  · omega
  · refine ⟨g, cap, rfl, rfl, (Array.getElem?_eq_some_iff.1 hg).1, ?_, ?_, ?_, h.fx x (List.mem_of_getElem? hx)⟩
    · have hq := pk_get l i 0 (by omega)
      rw [Nat.add_zero, hx] at hq
      rw [h.row.cellAt (i * 3) (by omega), hq]
      rfl
    · have hq := pk_get l i 1 (by omega)
      rw [hx] at hq
      rw [h.row.cellAt (i * 3 + 1) (by omega), hq]
      rfl
    · have hq := pk_get l i 2 (by omega)
      rw [hx] at hq
      rw [h.row.cellAt (i * 3 + 2) (by omega), hq]
      rfl

/-- One more. -/
theorem RowP.push {x : Pk} {v' : Value} (h : RowP w base v l N) (hrow : w'.ownsRow base 45 3 v' (l.length + 1) (l.flatMap Pk.cells ++ x.cells)) (hx : PkFx w' M x) (hk : ∀ g, N g → w'.heap[g]? = w.heap[g]?) (hNM : ∀ g, N g → M g) : RowP w' base v' (l ++ [x]) M := by
  refine ⟨?_, ?_⟩
  · rw [List.length_append, List.flatMap_append]
    simpa using hrow
  · intro y hy
    rcases List.mem_append.1 hy with hy | hy
    · exact ((h.fx y hy).keep hk).wide hNM
    · simp only [List.mem_cons, List.not_mem_nil, or_false] at hy
      subst hy; exact hx

end

end Go.Proofs.Ytnmpeodngipfcaa

/- The document's own answers: At, Put. -/

namespace Go.Proofs.Ytnmpeodngipfcaa

open Go.RowKit Go.Shelf
set_option maxRecDepth 100000

theorem refCopy_at (t : Tm) (A : Option Addr) (c : Nat) (w : World) (hsz : t.size ≤ 4398046511104) (hf : I64 t.fn) (hA : Args w w.heap.size A t.args) :
    Calls Try.prog 50 #[.agg #[.int .i64 t.fn, .slice A t.args.length c]] w fun e w' => ∃ A' c', e = .returned (.agg #[.int .i64 t.fn, .slice A' t.args.length c']) ∧ ArgsN w' (fun g => w.heap.size ≤ g ∧ g < w'.heap.size) A' t.args ∧ Below w.heap.size w w' := by
  refine (refCopy_any t hsz A c w hf hA).mono ?_
  rintro e w' ⟨v, l, rfl, hl, hR, hb⟩
  have hlen : l.length = t.args.length := by rw [← hl, List.length_map]
  obtain ⟨A', c', rfl, hN⟩ := hR.argsN (M := fun g => w.heap.size ≤ g ∧ g < w'.heap.size) (by rw [hlen]; exact hA.len) (fun g e => row_lt hR.row g e) (fun g hg => ⟨hg.1, hg.2.1⟩)
  rw [hl] at hN
  exact ⟨A', c', by rw [hlen], hN, hb⟩

/-- What stands at the place; the zero term, if there is none. -/
def RAtPost (t : Tm) (p : List Int) (w : World) (e : Ending) (w' : World) : Prop := ∃ A' c', e = .returned (.tuple #[.agg #[.int .i64 (atT t p).fn, .slice A' (atT t p).args.length c'], .bool (subT t p).isSome]) ∧ I64 (atT t p).fn ∧ Args w' w'.heap.size A' (atT t p).args ∧ Below w.heap.size w w'

/-- Where the loop stands: what is still to be gone down, in the box. -/
structure RAtI (w wr : World) (t : Tm) (p : List Int) (k : Nat) (s : Tm) (As : Option Addr) (cs : Nat) : Prop where
  box : wr.heap[w.heap.size]? = some (.cells #[.int .i64 s.fn, .slice As s.args.length cs] 27)
  res : wr.heap[w.heap.size + 1]? = some (.cells #[.int .i64 0, .slice none 0 0] 27)
  blw : Below w.heap.size w wr
  i64 : I64 s.fn
  args : Args w w.heap.size As s.args
  size : s.size ≤ 4398046511104
  key : subT t p = subT s (p.drop k)

theorem RAtI.next {w wr : World} {t s u : Tm} {p : List Int} {k cs cu n : Nat} {As Au : Option Addr} (h : RAtI w wr t p k s As cs) (hi : I64 u.fn) (hA : Args w w.heap.size Au u.args) (hs : u.size ≤ 4398046511104) (hk : subT t p = subT u (p.drop (k + 1))) :
    RAtI w (((wr.drewN n).setCell ⟨w.heap.size, 0, none⟩ (.int .i64 u.fn)).setCell ⟨w.heap.size, 1, none⟩ (.slice Au u.args.length cu)) t p (k + 1) u Au cu := by
  have hb : (wr.drewN n).heap[w.heap.size]? = some (.cells #[.int .i64 s.fn, .slice As s.args.length cs] 27) := h.box
  refine ⟨(set2_two hb).2, ?_, ((bl_drewN h.blw n).setCell (Nat.le_refl _) _).setCell (Nat.le_refl _) _, hi, hA, hs, hk⟩
  exact (heap_setCell_other _ _ _ _ (by show w.heap.size + 1 ≠ w.heap.size; omega)).trans ((heap_setCell_other _ _ _ _ (by show w.heap.size + 1 ≠ w.heap.size; omega)).trans h.res)

end Go.Proofs.Ytnmpeodngipfcaa

/- Put. -/

namespace Go.Proofs.Ytnmpeodngipfcaa

open Go.RowKit
set_option maxRecDepth 100000

def PutPost (t : Tm) (p : List Int) (s : Tm) (w : World) (e : Ending) (w' : World) : Prop := Below w.heap.size w w' ∧
  match subT t p with
  | none => e = .returned (.tuple #[.agg #[.int .i64 0, .slice none 0 0], .bool false])
  | some _ => ∃ A' c', e = .returned (.tuple #[.agg #[.int .i64 (putT t p s).fn, .slice A' (putT t p s).args.length c'], .bool true]) ∧ I64 (putT t p s).fn ∧ Args w' w'.heap.size A' (putT t p s).args

theorem put_fr {w w' : World} {p : List Int} {h b' o' : Nat} {t : Tm} {A : Option Addr} {c lo hi : Nat} (hP : PathA w.drew p h 0 t b' o') (hc : w.drew.cell? ⟨h, 0 + 1, none⟩ = some (.slice A t.args.length c)) (hO : OwnT w.drew lo hi A t.args)
    (hfz : ∀ b, b = h → w.frozen? ⟨b, 0, none⟩ = false ∧ w.frozen? ⟨b, 1, none⟩ = false) (hk : w'.heap[b']? = w.heap[b']?) : w'.frozen? ⟨b', o', none⟩ = false ∧ w'.frozen? ⟨b', o' + 1, none⟩ = false := by
  rw [frozen_of_heap hk, frozen_of_heap hk]
  rcases path_in hP hc hO with ⟨_, rfl, rfl⟩ | ⟨_, _, h1, h2⟩
  · exact hfz _ rfl
  · exact ⟨h1, h2⟩

theorem put_ne {w : World} {p : List Int} {h b' o' : Nat} {t : Tm} {A : Option Addr} {c lo hi : Nat} (hP : PathA w p h 0 t b' o') (hc : w.cell? ⟨h, 0 + 1, none⟩ = some (.slice A t.args.length c)) (hO : OwnT w lo hi A t.args) (hlo : h + 2 < lo) : h ≤ b' ∧ h + 1 ≠ b' ∧ h + 1 + 1 ≠ b' := by
  rcases path_in hP hc hO with ⟨_, rfl, rfl⟩ | ⟨_, _, h1, h2⟩ <;> omega

end Go.Proofs.Ytnmpeodngipfcaa

/- The document's own answer: Put. -/

namespace Go.Proofs.Ytnmpeodngipfcaa

open Go.RowKit Go.Shelf
set_option maxRecDepth 100000

theorem ti_set : ∀ (l : List Ti) (i : Nat) (x : Ti), i < l.length → ((l.flatMap Ti.cells).set (i * 2) (.int .i64 x.t.fn)).set (i * 2 + 1) (.slice x.A x.t.args.length x.c) = (l.set i x).flatMap Ti.cells
  | [], i, x, h => by simp at h
  | y :: l, 0, x, _ => by simp [Ti.cells]
  | y :: l, i + 1, x, h => by
    have ih := ti_set l i x (by simpa using h)
    rw [List.set_cons_succ, List.flatMap_cons, List.flatMap_cons, ← ih]
    simp [Ti.cells, Nat.add_mul]

/-- Another term is laid at a place of the row. -/
theorem RowT.put {w : World} {base g cap n i : Nat} {l : List Ti} {x : Ti} {N M : Nat → Prop} (h : RowT w base (.slice (some ⟨g, 0, none⟩) n cap) l N) (hn : l.length = n) (hi : i < l.length) (hx : I64 x.t.fn) (hg : ∀ k, N k → k ≠ g ∧ M k) (hxa : ArgsN w (fun k => k ≠ g ∧ M k) x.A x.t.args) :
    RowT ((w.setCell ⟨g, i * 2, none⟩ (.int .i64 x.t.fn)).setCell ⟨g, i * 2 + 1, none⟩ (.slice x.A x.t.args.length x.c)) base (.slice (some ⟨g, 0, none⟩) n cap) (l.set i x) M := by
  subst hn
  have h1 := (h.row.stored (i * 2) (.int .i64 x.t.fn)).1
  have h2 := (h1.stored (i * 2 + 1) (.slice x.A x.t.args.length x.c)).1
  rw [ti_set l i x hi] at h2
  have hk : ∀ k, k ≠ g → ((w.setCell ⟨g, i * 2, none⟩ (.int .i64 x.t.fn)).setCell ⟨g, i * 2 + 1, none⟩ (.slice x.A x.t.args.length x.c)).heap[k]? = w.heap[k]? := fun k e => (heap_setCell_other _ _ _ _ e).trans (heap_setCell_other _ _ _ _ e)
  refine ⟨by rw [List.length_set]; exact h2, fun y hy => ?_, fun y hy => ?_⟩
  · rcases List.mem_or_eq_of_mem_set hy with hy | rfl
    · exact h.i64 y hy
    · exact hx
  · rcases List.mem_or_eq_of_mem_set hy with hy | rfl
    · exact ((h.sub y hy).keep fun k e => hk k (hg k e).1).wide fun k e => (hg k e).2
    · exact (hxa.keep fun k e => hk k e.1).wide fun k e => e.2

theorem row_some {W : World} {base n : Nat} {e : TypeId} {size : Nat} {v : Value} {vs : List Value} (h : W.ownsRow base e size v n vs) (hn : 0 < n) : ∃ g c, v = .slice (some ⟨g, 0, none⟩) n c := by
  rcases h.2 with ⟨_, h0⟩ | ⟨g, cap, cur, hv, _⟩
  · omega
  · exact ⟨g, cap, hv⟩

/-- The term with s at the place; the zero term, if the place is not there. -/
def putO (t : Tm) (p : List Int) (s : Tm) : Tm := if (subT t p).isSome then putT t p s else .node 0 []

def RPutPost (t : Tm) (p : List Int) (s : Tm) (w : World) (e : Ending) (w' : World) : Prop := ∃ A' c', e = .returned (.tuple #[.agg #[.int .i64 (putO t p s).fn, .slice A' (putO t p s).args.length c'], .bool (subT t p).isSome]) ∧ I64 (putO t p s).fn ∧ ArgsN w' (fun g => w.heap.size ≤ g ∧ g < w'.heap.size) A' (putO t p s).args ∧ Below w.heap.size w w'

def RPutAt (p : List Int) : Prop := ∀ (t s : Tm) (A : Option Addr) (c : Nat) (Ap : Option Addr) (cp : Nat) (As : Option Addr) (cs : Nat) (w : World), t.size ≤ 4398046511104 → s.size ≤ 4398046511104 → I64 t.fn → I64 s.fn → Args w w.heap.size A t.args → Ints w w.heap.size Ap p → p.length ≤ cp → cp ≤ 9223372036854775807 → Args w w.heap.size As s.args →
  Calls Try.prog 26 #[.agg #[.int .i64 t.fn, .slice A t.args.length c], .slice Ap p.length cp, .agg #[.int .i64 s.fn, .slice As s.args.length cs]] w (RPutPost t p s w)

/-- What the inner call has left. -/
structure RPutMid (w W : World) (o : Tm) (bb : Nat) (wx : World) : Prop where
  blw : Below W.heap.size W wx
  lo : W.heap.size ≤ bb
  i64 : I64 o.fn
  xb : ∃ Ax cx, wx.heap[bb]? = some (.cells #[.int .i64 o.fn, .slice Ax o.args.length cx] 27) ∧ ArgsN wx (fun g => W.heap.size ≤ g ∧ g < wx.heap.size) Ax o.args

theorem putO_nil (t s : Tm) : putO t [] s = s := by simp [putO, subT, putT]

set_option maxHeartbeats 2000000 in
theorem refPut_any (p : List Int) : RPutAt p := by
  induction p with
  | nil =>
    intro t s A c Ap cp As cs w hsz hss hi his hA hp hcp hcp2 hAs
    obtain ⟨q0, q1, q2⟩ := heap3 w (.cells #[.int .i64 t.fn, .slice A t.args.length c] 27) (.cells #[.int .i64 s.fn, .slice As s.args.length cs] 27) (.cells #[.int .i64 0, .slice none 0 0] 27)
    obtain ⟨W, hW⟩ : ∃ W, (((w.alloc (.cells #[.int .i64 t.fn, .slice A t.args.length c] 27)).alloc (.cells #[.int .i64 s.fn, .slice As s.args.length cs] 27)).alloc (.cells #[.int .i64 0, .slice none 0 0] 27)) = W := ⟨_, rfl⟩
    have hB : Below w.heap.size w W := by rw [← hW]; exact (((Below.refl _ _).alloc (Nat.le_refl _) _).alloc (by simp) _).alloc (by simp; omega) _
    rw [hW] at q0 q1 q2
    have hWs : w.heap.size + 1 + 1 < W.heap.size := (Array.getElem?_eq_some_iff.1 q2).1
    have HAs := Lib.hid (hAs.on hB)
    have HW := Lib.hid hW
    obtain ⟨a0, a1, _, _⟩ := cells_two q1
    clear hW hA hAs hp
    simp only [List.length_nil] at hcp ⊢
    go_enter Try.func26, Try.ntmps26
    go_upto_region 1 with fail
    rw [HW.out]
    go_wp2_with (first
      | (go_at_call 50; refine (refCopy_at s As cs W hss his HAs.out).mono ?_; go_must (rintro e w2 ⟨A4, c4, rfl, hN4, hb4⟩; have y2 := (hb4.block _ hWs).trans q2; obtain ⟨d0, d1, k0, k1⟩ := cells_two y2))
      | fail)
    obtain ⟨z0, z1⟩ := set2_two (u := .int .i64 s.fn) (v := .slice A4 s.args.length c4) y2
    have p0 := (cells_two z0).1
    have p1 := (cells_two z1).2.1
    have hw2 : W.heap.size ≤ w2.heap.size := hb4.size
    refine bodyPost_ret (v := .tuple #[.agg #[.int .i64 s.fn, .slice A4 s.args.length c4], .bool true]) (by simp [results, Try.results26, go_sem, p0, p1]) rfl ⟨A4, c4, by rw [putO_nil]; rfl, by rw [putO_nil]; exact his, ?_, ?_⟩
    · rw [putO_nil]
      refine (hN4.keep fun g hg => ?_).wide fun g hg => ⟨by omega, by simpa using hg.2⟩
      exact (heap_setCell_other _ _ _ _ (by show g ≠ w.heap.size + 1 + 1; omega)).trans (heap_setCell_other _ _ _ _ (by show g ≠ w.heap.size + 1 + 1; omega))
    · exact ((hB.trans (hb4.mono (by omega))).setCell (by show _ ≤ w.heap.size + 1 + 1; omega) _).setCell (by show _ ≤ w.heap.size + 1 + 1; omega) _
  | cons i p ih =>
    intro t s A c Ap cp As cs w hsz hss hi his hA hp hcp hcp2 hAs
    obtain ⟨q0, q1, q2⟩ := heap3 w (.cells #[.int .i64 t.fn, .slice A t.args.length c] 27) (.cells #[.int .i64 s.fn, .slice As s.args.length cs] 27) (.cells #[.int .i64 0, .slice none 0 0] 27)
    obtain ⟨W, hW⟩ : ∃ W, (((w.alloc (.cells #[.int .i64 t.fn, .slice A t.args.length c] 27)).alloc (.cells #[.int .i64 s.fn, .slice As s.args.length cs] 27)).alloc (.cells #[.int .i64 0, .slice none 0 0] 27)) = W := ⟨_, rfl⟩
    have hB : Below w.heap.size w W := by rw [← hW]; exact (((Below.refl _ _).alloc (Nat.le_refl _) _).alloc (by simp) _).alloc (by simp; omega) _
    rw [hW] at q0 q1 q2
    have hWs : w.heap.size + 1 + 1 < W.heap.size := (Array.getElem?_eq_some_iff.1 q2).1
    have HAs := Lib.hid hAs
    have HA := Lib.hid hA
    have HW := Lib.hid hW
    have hal := hA.len
    have hpl := hp.len
    obtain ⟨pb, po, rfl, hpb, hpc⟩ := hp.ad (by simp)
    have hp64 := hp.i64
    have Hpc := Lib.hid hpc
    have pp0 := cell_on hB hpb (hpc 0 i rfl)
    rw [Nat.add_zero] at pp0
    obtain ⟨a0, a1, _, _⟩ := cells_two q0
    obtain ⟨s0, s1, _, _⟩ := cells_two q1
    clear hW hA hAs hp hpc
    simp only [List.length_cons] at hcp hpl ⊢
    have hne : ¬ ((p.length : Int) + 1 = 0) := by omega
    by_cases hin : 0 ≤ i ∧ i < t.args.length
    · obtain ⟨h0, h1⟩ := hin
      obtain ⟨j, rfl⟩ : ∃ j : Nat, i = (j : Int) := ⟨i.toNat, by omega⟩
      obtain ⟨u, hu⟩ : ∃ u, t.args[j]? = some u := ⟨_, List.getElem?_eq_getElem (by omega)⟩
      obtain ⟨ub, uo, Au, cu, rfl, ha⟩ := HA.out.get hu
      have e0 := cell_on hB ha.hb ha.c0
      have e1 := cell_on hB ha.hb ha.c1
      have hub := ha.hb
      have d1 : decide ((j : Int) < 0) = false := decide_eq_false (by omega)
      have d2 : decide ((t.args.length : Int) ≤ (j : Int)) = false := decide_eq_false (by omega)
      have hj : j < t.args.length := by omega
      have hu3 : u.size ≤ 4398046511104 ∧ I64 u.fn ∧ Args w w.heap.size Au u.args := ⟨by have := size_mem (List.mem_of_getElem? hu); cases t with | node f xs => simp only [Tm.size, Tm.args] at this hsz; omega, ha.hi, ha.sub⟩
      have hsub := Lib.hid (show subT t ((j : Int) :: p) = subT u p from sub_step h0 h1 (by simpa using hu))
      have Hu := Lib.hid hu
      clear hu ha
      go_enter Try.func26, Try.ntmps26
      go_upto_region 1 with fail
      rw [HW.out]
      go_wp2
      go_quiet (fail)
      go_upto_region 5 with fail
      obtain ⟨Wd, hWd⟩ : ∃ Wd, W.drewN nq = Wd := ⟨_, rfl⟩
      have hBd : Below W.heap.size W Wd := by rw [← hWd]; exact bl_drewN (Below.refl _ _) nq
      have hds : Wd.heap.size = W.heap.size := by rw [← hWd]; rfl
      rw [hWd]
      have HWd := Lib.hid hWd
      clear hWd
      have hS0 : ∀ w', Below W.heap.size W w' → w'.cell? ⟨w.heap.size, 1, none⟩ = some (.slice (some ⟨ub, uo, none⟩) t.args.length c) ∧ w'.cell? ⟨ub, uo + j * 2, none⟩ = some (.int .i64 u.fn) ∧ w'.cell? ⟨ub, uo + j * 2 + 1, none⟩ = some (.slice Au u.args.length cu) ∧ w'.cell? ⟨pb, po, none⟩ = some (.int .i64 (j : Int)) ∧ w'.cell? ⟨w.heap.size + 1, 0, none⟩ = some (.int .i64 s.fn) ∧ w'.cell? ⟨w.heap.size + 1, 1, none⟩ = some (.slice As s.args.length cs) := fun w' h =>
        ⟨cell_on h (by omega) a1, cell_on h (by omega) e0, cell_on h (by omega) e1, cell_on h (by omega) pp0, cell_on h (by omega) s0, cell_on h (by omega) s1⟩
      clear a0 a1 e0 e1 pp0 s0 s1
      have hle : (1 : Int) ≤ (p.length : Int) + 1 := by omega
      obtain ⟨Aq, hAq⟩ : ∃ Aq, (if cp = 1 then some (⟨pb, po, none⟩ : Addr) else some ⟨pb, po + 1, none⟩) = Aq := ⟨_, rfl⟩
      have hq : Ints w w.heap.size Aq p := by
        refine ⟨by omega, fun x hx => hp64 x (by simp [hx]), fun hn => ⟨pb, po + 1, ?_, hpb, fun i x hx => ?_⟩⟩
        · rw [← hAq, if_neg (by omega)]
        · have := Hpc.out (i + 1) x (by simpa using hx)
          rwa [show po + 1 + i = po + (i + 1) from by omega]
      have Hq := Lib.hid hq
      clear hq
      have hWl : w.heap.size ≤ W.heap.size := by omega
      have hD : Below W.heap.size W Wd.drew := hBd.drew
      have hDa : Below W.heap.size W (Wd.alloc (.cells #[.int .i64 0, .slice none 0 0] 27)).drew := (hBd.alloc (by omega) _).drew
      have hya : (Wd.alloc (.cells #[.int .i64 0, .slice none 0 0] 27)).drew.heap[W.heap.size]? = some (.cells #[.int .i64 0, .slice none 0 0] 27) := by rw [← hds]; exact heap_alloc_new Wd _
      obtain ⟨a1, e0, e1, pp0, s0, s1⟩ := hS0 Wd hBd
      go_cut [8, 9] (fun s8 s9 wx => ∃ bb : Nat, s8 = .pointer (some ⟨bb, 0, none⟩) ∧ s9 = .bool (subT u p).isSome ∧ RPutMid w W (putO u p s) bb wx)
      case first =>
        go_region_held3 (fun w' => w'.cell? ⟨w.heap.size, 1, none⟩ = some (.slice (some ⟨ub, uo, none⟩) t.args.length c) ∧ w'.cell? ⟨ub, uo + j * 2, none⟩ = some (.int .i64 u.fn) ∧ w'.cell? ⟨ub, uo + j * 2 + 1, none⟩ = some (.slice Au u.args.length cu) ∧ w'.cell? ⟨pb, po, none⟩ = some (.int .i64 (j : Int)) ∧ w'.cell? ⟨w.heap.size + 1, 0, none⟩ = some (.int .i64 s.fn) ∧ w'.cell? ⟨w.heap.size + 1, 1, none⟩ = some (.slice As s.args.length cs))
          (first | exact ⟨a1, e0, e1, pp0, s0, s1⟩ | exact hS0 _ hB4 | exact hS0 _ (hB4.alloc hB4.size _) | exact hS0 _ hDa | exact hS0 _ ((hB4.setCell (Nat.le_refl _) _).setCell (Nat.le_refl _) _) | fail)
          (first
            | (go_at_call 26
               refine (ih u s Au cu Aq (cp - 1) As cs Wd.drew hu3.1 hss hu3.2.1 his (hu3.2.2.on (hB.trans (hD.mono hWl))) (Hq.out.on (hB.trans (hD.mono hWl))) (by omega) (by omega) (HAs.out.on (hB.trans (hD.mono hWl)))).mono ?_
               rintro e w4 ⟨Ax, cx, rfl, hix, hAx, hb4⟩
               have hB4 : Below W.heap.size W w4 := hD.trans (hb4.mono (by show W.heap.size ≤ Wd.heap.size; omega)))
            | (go_at_call 26
               refine (ih u s Au cu Aq (cp - 1) As cs (Wd.alloc _).drew hu3.1 hss hu3.2.1 his (hu3.2.2.on (hB.trans (hDa.mono hWl))) (Hq.out.on (hB.trans (hDa.mono hWl))) (by omega) (by omega) (HAs.out.on (hB.trans (hDa.mono hWl)))).mono ?_
               rintro e w4 ⟨Ax, cx, rfl, hix, hAx, hb4⟩
               have hB4 : Below W.heap.size W w4 := hDa.trans (hb4.mono (by simp; omega))
               have y4 : w4.heap[W.heap.size]? = some (.cells #[.int .i64 0, .slice none 0 0] 27) := (hb4.block _ (by simp; omega)).trans hya
               obtain ⟨m0, m1, fm0, fm1⟩ := cells_two y4)
            | fail)
        all_goals (go_wp2_with fail; go_meet)
        · have hBa : Below w4.heap.size w4 (w4.alloc (.cells #[.int .i64 (putO u p s).fn, .slice Ax (putO u p s).args.length cx] 27)) := (Below.refl _ _).alloc (Nat.le_refl _) _
          refine ⟨w4.heap.size, rfl, rfl, hB4.alloc hB4.size _, hB4.size, hix, Ax, cx, heap_alloc_new _ _, (hAx.keep fun g hg => hBa.block g hg.2).wide fun g hg => ⟨?_, ?_⟩⟩
          · have h1 : Wd.heap.size ≤ g := hg.1
            omega
          · have := hg.2
            simp
            omega
        · refine ⟨W.heap.size, rfl, rfl, (hB4.setCell (Nat.le_refl _) _).setCell (Nat.le_refl _) _, Nat.le_refl _, hix, Ax, cx, (set2_two y4).2, (hAx.keep fun g hg => ?_).wide fun g hg => ⟨?_, ?_⟩⟩
          · have h1 := hg.1
            simp at h1
            exact (heap_setCell_other _ _ _ _ (by show g ≠ W.heap.size; omega)).trans (heap_setCell_other _ _ _ _ (by show g ≠ W.heap.size; omega))
          · have h1 := hg.1
            simp at h1
            omega
          · simpa using hg.2
      case rest =>
        obtain ⟨bb, rfl, rfl, ⟨hBx, hlo, hio, Ax, cx, hxb, hAx⟩⟩ := hcut
        have hBxs := hBx.size
        have tx := (hBx.block _ (by omega)).trans q0
        have rx := (hBx.block _ hWs).trans q2
        obtain ⟨a0, a1, _, _⟩ := cells_two tx
        obtain ⟨b0, b1, g0, g1⟩ := cells_two rx
        have hBw := hB.trans (hBx.mono hWl)
        by_cases hso : (subT u p).isSome = true
        · have Hss := Lib.hid (show (subT t ((j : Int) :: p)).isSome = true by rw [hsub.out]; exact hso)
          have hpu : putO u p s = putT u p s := by unfold putO; rw [if_pos hso]
          have Hp := Lib.hid (show putO t ((j : Int) :: p) s = .node t.fn (t.args.set j (putO u p s)) by
            have e : putT t ((j : Int) :: p) s = .node t.fn (t.args.set j (putT u p s)) := by simp only [putT, Int.toNat_natCast, Hu.out]
            rw [hpu, ← e]
            unfold putO
            rw [if_pos Hss.out])
          have hAt := Lib.hid (HA.out.on hBw)
          have hbbl : bb < _ := (Array.getElem?_eq_some_iff.1 hxb).1
          obtain ⟨x0, x1, _, _⟩ := cells_two hxb
          have pp1 := (hS0 _ hBx).2.2.2.1
          clear hpu
          go_upto_region 9 with (first
            | (go_at_call 50
               refine (refCopy_any t hsz _ c _ hi hAt.out).mono ?_
               rintro e w5 ⟨v5, l5, rfl, hl5, hR5, hb5⟩
               have hl5n : l5.length = t.args.length := by rw [← hl5, List.length_map]
               have hrow5 := hR5.row
               rw [hl5n] at hrow5
               obtain ⟨g5, c5, hv5⟩ := row_some hrow5 (by omega)
               subst hv5
               have hg5 := row_lt hrow5 g5 rfl
               have hfl : (l5.flatMap Ti.cells).length = t.args.length * 2 := by rw [ti_len, hl5n]
               have r0 := (hrow5.cellAt (j * 2) (by omega)).trans (List.getElem?_eq_getElem (by omega))
               have r1 := (hrow5.cellAt (j * 2 + 1) (by omega)).trans (List.getElem?_eq_getElem (by omega))
               have fr0 := hrow5.frozenAt (j * 2)
               have fr1 := hrow5.frozenAt (j * 2 + 1)
               have HR5 := Lib.hid hR5
               clear hR5)
            | fail)
          obtain ⟨W6, hW6⟩ : ∃ W6, w5.alloc (.cells #[.int .i64 t.fn, .slice (some ⟨g5, 0, none⟩) t.args.length c5] 27) = W6 := ⟨_, rfl⟩
          have hb6 : Below w5.heap.size w5 W6 := by rw [← hW6]; exact (Below.refl _ _).alloc (Nat.le_refl _) _
          have o6 : W6.heap[w5.heap.size]? = some (.cells #[.int .i64 t.fn, .slice (some ⟨g5, 0, none⟩) t.args.length c5] 27) := by rw [← hW6]; exact heap_alloc_new _ _
          rw [hW6]
          clear hW6
          have hs5 := hb5.size
          have hs6 := (Array.getElem?_eq_some_iff.1 o6).1
          have hb56 := bl_step hb5 hb6
          have pp6 := cell_on hb56 (by omega) pp1
          have xx0 := cell_on hb56 hbbl x0
          have xx1 := cell_on hb56 hbbl x1
          have rr0 := cell_on hb6 hg5.2 r0
          have rr1 := cell_on hb6 hg5.2 r1
          have ff0 := frozen_on hb6 hg5.2 fr0
          have ff1 := frozen_on hb6 hg5.2 fr1
          have r6 := (hb56.block _ (by omega)).trans rx
          obtain ⟨o0, o1, _, _⟩ := cells_two o6
          clear r0 r1 fr0 fr1 x0 x1 pp1 a0 a1 b0 b1 g0 g1
          have HR6 := HR5.out.keep (w' := W6) (fun g e => hb6.block g (row_lt HR5.out.row g e).2) (fun g e => hb6.block g e.2.1)
          have HR7 := HR6.put (x := ⟨putO u p s, Ax, cx⟩) (i := j) (M := fun g => W.heap.size ≤ g ∧ g < W6.heap.size) hl5n (by omega) hio (fun k e => ⟨fun e2 => e.2.2 (by rw [e2]; rfl), by have := e.1; omega, by have := e.2.1; omega⟩)
            ((hAx.keep fun g e => hb56.block g e.2).wide fun g e => ⟨by have := e.2; omega, e.1, by have := e.2; omega⟩)
          have HR7 := Lib.hid HR7
          clear HR6
          go_region
          obtain ⟨W7, hW7⟩ : ∃ W7, ((W6.setCell ⟨g5, j * 2, none⟩ (.int .i64 (putO u p s).fn)).setCell ⟨g5, j * 2 + 1, none⟩ (.slice Ax (putO u p s).args.length cx)).drew = W7 := ⟨_, rfl⟩
          have hk7 : ∀ g, g ≠ g5 → W7.heap[g]? = W6.heap[g]? := fun g e => by rw [← hW7]; exact (heap_setCell_other _ _ _ _ e).trans (heap_setCell_other _ _ _ _ e)
          have hsz7 : W7.heap.size = W6.heap.size := by rw [← hW7]; simp
          have HR8 : RowT W7 wc.heap.size (.slice (some ⟨g5, 0, none⟩) t.args.length c5) (l5.set j ⟨putO u p s, Ax, cx⟩) (fun g => W.heap.size ≤ g ∧ g < W6.heap.size) := by rw [← hW7]; exact HR7.out.keep (fun _ _ => rfl) (fun _ _ => rfl)
          have hB7 : Below w.heap.size w W7 := by rw [← hW7]; exact (((hBw.trans (hb56.mono (by omega))).setCell (by show _ ≤ g5; omega) _).setCell (by show _ ≤ g5; omega) _).drew
          rw [hW7]
          clear hW7
          have o7 := (hk7 _ (by omega)).trans o6
          have r7 := (hk7 _ (by omega)).trans r6
          obtain ⟨y0, y1, _, _⟩ := cells_two o7
          obtain ⟨b0, b1, g0, g1⟩ := cells_two r7
          have HR8 := Lib.hid HR8
          go_wp2
          obtain ⟨z0, z1⟩ := set2_two (u := .int .i64 t.fn) (v := .slice (some ⟨g5, 0, none⟩) t.args.length c5) r7
          have p0 := (cells_two z0).1
          have p1 := (cells_two z1).2.1
          have hlx : (l5.set j ⟨putO u p s, Ax, cx⟩).length = t.args.length := by rw [List.length_set, hl5n]
          obtain ⟨A8, c8, e8, hN8⟩ := HR8.out.argsN (M := fun g => W.heap.size ≤ g ∧ g < W6.heap.size) (by omega) (fun g e => by have := row_lt HR8.out.row g e; omega) (fun g e => e)
          rw [List.map_set, hl5] at hN8
          injection e8 with e8 _ _
          subst e8
          refine bodyPost_ret (v := .tuple #[.agg #[.int .i64 t.fn, .slice (some ⟨g5, 0, none⟩) t.args.length c5], .bool true]) (by simp [results, Try.results26, go_sem, p0, p1]) rfl ⟨some ⟨g5, 0, none⟩, c5, by rw [Hp.out, Hss.out]; simp [Tm.fn, Tm.args], by rw [Hp.out]; exact hi, ?_, ?_⟩
          · rw [Hp.out]
            refine (hN8.keep fun g hg => ?_).wide fun g hg => ⟨by omega, by have := hg.2; simp; omega⟩
            exact (heap_setCell_other _ _ _ _ (by show g ≠ w.heap.size + 1 + 1; omega)).trans (heap_setCell_other _ _ _ _ (by show g ≠ w.heap.size + 1 + 1; omega))
          · exact (hB7.setCell (by show _ ≤ w.heap.size + 1 + 1; omega) _).setCell (by show _ ≤ w.heap.size + 1 + 1; omega) _
        · have hso : (subT u p).isSome = false := by simpa using hso
          have Hn := Lib.hid (show subT t ((j : Int) :: p) = none by rw [hsub.out]; simpa using hso)
          have Hp := Lib.hid (show putO t ((j : Int) :: p) s = .node 0 [] by unfold putO; rw [Hn.out]; rfl)
          go_wp2
          obtain ⟨z0, z1⟩ := set2_two (u := .int .i64 0) (v := .slice none 0 0) rx
          have p0 := (cells_two z0).1
          have p1 := (cells_two z1).2.1
          refine bodyPost_ret (v := .tuple #[.agg #[.int .i64 0, .slice none 0 0], .bool false]) (by simp [results, Try.results26, go_sem, p0, p1]) rfl ⟨none, 0, by rw [Hp.out, Hn.out]; rfl, by rw [Hp.out]; exact ⟨by decide, by decide⟩, by rw [Hp.out]; exact .nil _, ?_⟩
          exact (hBw.setCell (by show _ ≤ w.heap.size + 1 + 1; omega) _).setCell (by show _ ≤ w.heap.size + 1 + 1; omega) _
    · have Hn := Lib.hid (show subT t (i :: p) = none from sub_none (by omega))
      have Hp := Lib.hid (show putO t (i :: p) s = .node 0 [] by unfold putO; rw [Hn.out]; rfl)
      obtain ⟨b0, b1, g0, g1⟩ := cells_two q2
      by_cases hi0 : i < 0
      · have d1 : decide (i < 0) = true := decide_eq_true hi0
        go_enter Try.func26, Try.ntmps26
        go_upto_region 1 with fail
        rw [HW.out]
        go_wp2
        go_quiet (fail)
        go_wp2
        have r2 : (W.drewN nq).heap[w.heap.size + 1 + 1]? = _ := q2
        obtain ⟨z0, z1⟩ := set2_two (u := .int .i64 0) (v := .slice none 0 0) r2
        have p0 := (cells_two z0).1
        have p1 := (cells_two z1).2.1
        refine bodyPost_ret (v := .tuple #[.agg #[.int .i64 0, .slice none 0 0], .bool false]) (by simp [results, Try.results26, go_sem, p0, p1]) rfl ⟨none, 0, by rw [Hp.out, Hn.out]; rfl, by rw [Hp.out]; exact ⟨by decide, by decide⟩, by rw [Hp.out]; exact .nil _, ?_⟩
        exact ((bl_drewN hB nq).setCell (by show _ ≤ w.heap.size + 1 + 1; omega) _).setCell (by show _ ≤ w.heap.size + 1 + 1; omega) _
      · have d1 : decide (i < 0) = false := decide_eq_false hi0
        have d2 : (t.args.length : Int) ≤ i := by omega
        have d3 : decide ((t.args.length : Int) ≤ i) = true := decide_eq_true d2
        go_enter Try.func26, Try.ntmps26
        go_upto_region 1 with fail
        rw [HW.out]
        go_wp2
        go_quiet (fail)
        go_wp2
        have r2 : (W.drewN nq).heap[w.heap.size + 1 + 1]? = _ := q2
        obtain ⟨z0, z1⟩ := set2_two (u := .int .i64 0) (v := .slice none 0 0) r2
        have p0 := (cells_two z0).1
        have p1 := (cells_two z1).2.1
        refine bodyPost_ret (v := .tuple #[.agg #[.int .i64 0, .slice none 0 0], .bool false]) (by simp [results, Try.results26, go_sem, p0, p1]) rfl ⟨none, 0, by rw [Hp.out, Hn.out]; rfl, by rw [Hp.out]; exact ⟨by decide, by decide⟩, by rw [Hp.out]; exact .nil _, ?_⟩
        exact ((bl_drewN hB nq).setCell (by show _ ≤ w.heap.size + 1 + 1; omega) _).setCell (by show _ ≤ w.heap.size + 1 + 1; omega) _

end Go.Proofs.Ytnmpeodngipfcaa

/- Places. -/

namespace Go.Proofs.Ytnmpeodngipfcaa

open Go.RowKit Go.Shelf
attribute [local go_sem] Oper.semAt_some
set_option maxRecDepth 100000

end Go.Proofs.Ytnmpeodngipfcaa

/- walk; Size. -/

namespace Go.Proofs.Ytnmpeodngipfcaa

open Go.RowKit Go.Shelf
attribute [local go_sem] Oper.semAt_some
set_option maxRecDepth 100000

end Go.Proofs.Ytnmpeodngipfcaa

