/- The document's own answer: Copy. -/
import Derived.Test.YtdeegdndfblnkaaE1
import Derived.Test.YtdeegdndfblnkaaB1
import Derived.Deep.RegionLaw
namespace Go.Proofs.Ytdeegdndfblnkaa
open Go.RowKit Go.Shelf
set_option maxRecDepth 100000

/-- What lies apart since a world, but for the row of v itself. -/
def Apart (lo : Nat) (v : Value) (w : World) (g : Nat) : Prop := lo ≤ g ∧ g < w.heap.size ∧ v.ownBlock ≠ some g
/-- A copy of t, in new memory: the row of its arguments is the call's own. -/
def RCopyPost (t : Tm) (w : World) (e : Ending) (w' : World) : Prop := ∃ v l, e = .returned (.agg #[.int .i64 t.fn, v]) ∧ l.map Ti.t = t.args ∧ RowT w' w.heap.size v l (Apart w.heap.size v w') ∧ Below w.heap.size w w'
def RCopyAt (t : Tm) : Prop := t.size ≤ 4398046511104 → ∀ (A : Option Addr) (c : Nat) (w : World), I64 t.fn → Args w w.heap.size A t.args → Calls Try.prog 49 #[.agg #[.int .i64 t.fn, .slice A t.args.length c]] w (RCopyPost t w)

/-- What the loop has laid: the box, its row. -/
structure RCopyI (w wr : World) (f : Int) (xs : List Tm) (k : Nat) (v : Value) (l : List Ti) : Prop where
  box : wr.heap[w.heap.size + 2]? = some (.cells #[.int .i64 f, v] 31)
  key : l.map Ti.t = xs.take k
  row : RowT wr (w.heap.size + 3) v l (Apart (w.heap.size + 3) v wr)

theorem RCopyI.len {w wr : World} {f : Int} {xs : List Tm} {k : Nat} {v : Value} {l : List Ti} (h : RCopyI w wr f xs k v l) (hk : k ≤ xs.length) : l.length = k := by
  have := congrArg List.length h.key
  simpa [Nat.min_eq_left hk] using this
theorem row_own {W : World} {base n : Nat} {e : TypeId} {size : Nat} {v : Value} {vs : List Value} (h : W.ownsRow base e size v n vs) : ∃ A c, v = .slice A n c := by
  rcases h.2 with ⟨hv, h0⟩ | ⟨g, cap, cur, hv, _⟩
  · exact ⟨none, 0, by rw [hv, h0]⟩
  · exact ⟨_, cap, hv⟩
theorem RowT.base {w : World} {base base' : Nat} {v : Value} {l : List Ti} {N : Nat → Prop} (h : RowT w base v l N) (hb : base' ≤ base) : RowT w base' v l N := by
  refine ⟨⟨h.row.1, ?_⟩, h.i64, h.sub⟩
  rcases h.row.2 with h0 | ⟨g, cap, cur, hv, h1, hrest⟩
  · exact .inl h0
  · exact .inr ⟨g, cap, cur, hv, Nat.le_trans hb h1, hrest⟩
/-- One more: the copy of the next argument, its box, the row that has grown, the store. -/
theorem RCopyI.next {w wr w4 w5 : World} {f : Int} {xs : List Tm} {k : Nat} {v v4 v5 : Value} {l l4 : List Ti} {u : Tm} {A4 : Option Addr} {c4 : Nat} {o : Obj} (h : RCopyI w wr f xs k v l) (hu : xs[k]? = some u) (hi : I64 u.fn) (hl4 : l4.map Ti.t = u.args) (h64 : u.args.length ≤ 9223372036854775807) (hv4 : v4 = .slice A4 u.args.length c4)
    (hR4 : RowT w4 wr.heap.size v4 l4 (Apart wr.heap.size v4 w4)) (hb4 : Below wr.heap.size wr w4) (hown : w5.ownsRow (w.heap.size + 3) 31 2 v5 (k + 1) (l.flatMap Ti.cells ++ (⟨u, A4, c4⟩ : Ti).cells))
    (hgr : (w4.alloc o).grownBy w5 v.ownBlock) (hat : v5.ownBlock = v.ownBlock ∨ v5.ownBlock = some (w4.alloc o).heap.size) :
    RCopyI w (w5.setCell ⟨w.heap.size + 2, 1, none⟩ v5) f xs (k + 1) v5 (l ++ [⟨u, A4, c4⟩]) := by
  have hkl := (List.getElem?_eq_some_iff.1 hu).1
  have hlen := h.len (by omega)
  have hlt := row_lt h.row.row
  have hs4 := hb4.size
  have hs5 := hgr.size
  have hbs : w.heap.size + 2 < wr.heap.size := (Array.getElem?_eq_some_iff.1 h.box).1
  have hK : ∀ g, g < wr.heap.size → v.ownBlock ≠ some g → w5.heap[g]? = wr.heap[g]? := fun g h1 h2 => (hgr.block g (by simp; omega) (fun e => h2 e.symm)).trans ((Below.heap_alloc w4 o g (by omega)).trans (hb4.block g h1))
  have hK4 : ∀ g, g < w4.heap.size → v.ownBlock ≠ some g → w5.heap[g]? = w4.heap[g]? := fun g h1 h2 => (hgr.block g (by simp; omega) (fun e => h2 e.symm)).trans (Below.heap_alloc w4 o g h1)
  have hb2 : v.ownBlock ≠ some (w.heap.size + 2) := fun e => by have := (hlt _ e).1; omega
  have hbox5 := (hK _ hbs hb2).trans h.box
  obtain ⟨_, z1⟩ := set2_two (u := .int .i64 f) (v := v5) hbox5
  have hset : ∀ g, g ≠ w.heap.size + 2 → (w5.setCell ⟨w.heap.size + 2, 1, none⟩ v5).heap[g]? = w5.heap[g]? := fun g e => heap_setCell_other _ _ _ _ e
  have hlt5 := row_lt hown
  have hv5 : ∀ g, g < wr.heap.size → v.ownBlock ≠ some g → v5.ownBlock ≠ some g := fun g h1 h2 e => by
    rcases hat with h3 | h3
    · rw [h3] at e; exact h2 e
    · rw [h3] at e; injection e with e; simp at e; omega
  have hv54 : ∀ g, wr.heap.size ≤ g → g < w4.heap.size → v5.ownBlock ≠ some g := fun g h1 h2 e => by
    rcases hat with h3 | h3
    · rw [h3] at e; have := (hlt _ e).2; omega
    · rw [h3] at e; injection e with e; simp at e; omega
  have hsz5 : w4.heap.size + 1 ≤ w5.heap.size := by simpa using hs5
  refine ⟨?_, ?_, ?_⟩
  · exact heap_setCell_same w5 _ 1 _ _ _ hbox5
  · rw [List.map_append, h.key, List.take_add_one, hu]; rfl
  · refine RowT.push (w := wr) (N := Apart (w.heap.size + 3) v wr) h.row ?_ hi ?_ (fun g hg => ?_) (fun g hg => ⟨hg.1, by have := hg.2.1; simp; omega, hv5 g hg.2.1 hg.2.2⟩)
    · rw [hlen]
      exact row_keep hown fun g e => hset g (by have := (hlt5 g e).1; omega)
    · have hl4l : l4.length ≤ 9223372036854775807 := by have := congrArg List.length hl4; simp at this; omega
      obtain ⟨A', c', e, hA⟩ := hR4.argsN (M := fun g => wr.heap.size ≤ g ∧ g < w4.heap.size) hl4l (fun g e => row_lt hR4.row g e) (fun g hg => ⟨hg.1, hg.2.1⟩)
      rw [hv4] at e
      injection e with e1 _ _
      subst e1
      rw [hl4] at hA
      refine (hA.keep fun g hg => ?_).wide fun g hg => ⟨by omega, by simp; omega, hv54 g hg.1 hg.2⟩
      exact (hset g (by omega)).trans (hK4 g hg.2 fun e => by have := (hlt _ e).2; omega)
    · exact (hset g (by have := hg.1; omega)).trans (hK g hg.2.1 hg.2.2)

set_option maxHeartbeats 2000000 in
theorem refCopy_any (t : Tm) : RCopyAt t := by
  refine Tm.ind (P := RCopyAt) (fun f xs ih => ?_) t
  intro hsz A c w hf hA
  simp only [Tm.fn, Tm.args] at hf hA ⊢
  have hlen : xs.length ≤ 4398046511104 := by have := sizes_len xs; simp only [Tm.size] at hsz; omega
  obtain ⟨i0, hi, hz0, hz1, hz2⟩ := info_parts info_term
  obtain ⟨q0, q1, q2⟩ := heap3 w (.cells #[.int .i64 f, .slice A xs.length c] 31) (.cells #[.int .i64 0, .slice none 0 0] 31) (.cells #[.int .i64 f, .slice none 0 0] 31)
  obtain ⟨W, hW⟩ : ∃ W, (((w.alloc (.cells #[.int .i64 f, .slice A xs.length c] 31)).alloc (.cells #[.int .i64 0, .slice none 0 0] 31)).alloc (.cells #[.int .i64 f, .slice none 0 0] 31)) = W := ⟨_, rfl⟩
  have hB : Below w.heap.size w W := by rw [← hW]; exact (((Below.refl _ _).alloc (Nat.le_refl _) _).alloc (by simp) _).alloc (by simp; omega) _
  rw [hW] at q0 q1 q2
  have hWs : w.heap.size + 2 < W.heap.size := (Array.getElem?_eq_some_iff.1 q2).1
  have hI0 : RCopyI w W f xs 0 (.slice none 0 0) [] := ⟨q2, by simp, RowT.nil_ _ _ _⟩
  have HI0 := Lib.hid hI0
  have HA := Lib.hid hA
  have HW := Lib.hid hW
  clear hW hA q2 hI0
  go_enter Try.func49, Try.ntmps49
  go_wp2
  rw [HW.out]
  go_loopw [4] (fun i wr => ∃ (k : Nat) (v : Value) (l : List Ti), k ≤ xs.length ∧ i = .int .i64 (k : Int) ∧ Below (w.heap.size + 2) W wr ∧ Hid (RCopyI w wr f xs k v l)) (fun i _ => xs.length - (intOf i).toNat)
  case atStart => exact ⟨0, _, [], Nat.zero_le _, rfl, Below.refl _ _, HI0⟩
  case round =>
    obtain ⟨k, v, l, hk, rfl, hBr, H⟩ := hrel
    have hbx := H.out.box
    have hbs : w.heap.size + 2 < wr.heap.size := (Array.getElem?_eq_some_iff.1 hbx).1
    obtain ⟨a0, a1, _, _⟩ := cells_two ((hBr.block _ (by omega)).trans q0)
    obtain ⟨c0, c1, g0, g1⟩ := cells_two hbx
    have hBw : Below w.heap.size w wr := hB.trans (hBr.mono (by omega))
    by_cases hlt : k < xs.length
    · obtain ⟨u, hu⟩ : ∃ u, xs[k]? = some u := ⟨_, List.getElem?_eq_getElem hlt⟩
      obtain ⟨bb, off, A1, c1', rfl, ha⟩ := HA.out.get hu
      have hbw := ha.hb
      have e0 := cell_on hBw hbw ha.c0
      have e1 := cell_on hBw hbw ha.c1
      have hbb : bb < wr.heap.size := by omega
      have hs1 : Hid (Args wr.drew wr.drew.heap.size A1 u.args) := (ha.sub.on hBw).drewN 1
      have hi64 := ha.hi
      have hmem := List.mem_of_getElem? hu
      have hszt : u.size ≤ 4398046511104 := by have := size_mem hmem; simp only [Tm.size] at hsz; omega
      have hul : u.args.length ≤ 9223372036854775807 := ha.sub.len
      have Hu := Lib.hid hu
      have hrow := H.out.row.row
      have hll := H.out.len hk
      rw [hll] at hrow
      obtain ⟨Av, cv, hv⟩ := row_own hrow
      subst hv
      have hrl := row_lt hrow
      have Hrow := Lib.hid hrow
      have hSS : ∀ w', Below wr.heap.size wr w' → w'.cell? ⟨w.heap.size + 2, 1, none⟩ = some (.slice Av k cv) ∧ w'.cell? ⟨w.heap.size, 1, none⟩ = some (.slice (some ⟨bb, off, none⟩) xs.length c) ∧ w'.cell? ⟨bb, off + k * 2, none⟩ = some (.int .i64 u.fn) ∧ w'.cell? ⟨bb, off + k * 2 + 1, none⟩ = some (.slice A1 u.args.length c1') := fun w' h => ⟨cell_on h hbs c1, cell_on h (by omega) a1, cell_on h hbb e0, cell_on h hbb e1⟩
      have hne : ∀ g, g < w.heap.size + 3 → (Value.slice Av k cv).ownBlock ≠ some g := fun g h e => by have := (hrl g e).1; omega
      have hBX : ∀ w' : World, (∀ g, g < wr.heap.size → (Value.slice Av k cv).ownBlock ≠ some g → w'.heap[g]? = wr.heap[g]?) → w'.cell? ⟨w.heap.size + 2, 1, none⟩ = some (.slice Av k cv) ∧ w'.frozen? ⟨w.heap.size + 2, 1, none⟩ = false := fun w' h => ⟨(cell_of_heap (h _ hbs (hne _ (by omega)))).trans c1, (frozen_of_heap (h _ hbs (hne _ (by omega)))).trans g1⟩
      clear hu ha hrow
      go_wp2
      go_region_law
        (first
          | (go_simp
             go_at_call 49
             refine (ih u hmem hszt A1 c1' wr.drew hi64 hs1.out).mono ?_
             rintro e w4 ⟨v4, l4, rfl, hl4, hR4, hb4⟩
             have hB4 : Below wr.heap.size wr w4 := ⟨hb4.os, hb4.tape, hb4.output, hb4.size, hb4.block⟩
             obtain ⟨A4, c4, hv4⟩ := row_own hR4.row
             have hl4l : l4.length = u.args.length := by rw [← hl4, List.length_map]
             rw [hl4l] at hv4
             have HR4 := Lib.hid hR4
             obtain ⟨k4, _, _, _⟩ := hSS _ hB4
             obtain ⟨k4', _, _, _⟩ := hSS _ (hB4.alloc hB4.size (.cells #[.int .i64 u.fn, .slice A4 u.args.length c4] 31))
             subst hv4
             clear hR4
             dsimp only)
          | (refine step_append_at rfl (.tmp 16) (.tmp 23) 29 rfl (w.heap.size + 3) 31 i0 (.agg #[.int .i64 0, .slice none 0 0]) 2 32 Try.underlying29 hi hz0 hz1 hz2 rfl (by decide) (.slice Av k cv) k _ (by simp [Act.eval]) (row_keep Hrow.out fun g e => (Below.heap_alloc w4 _ g (Nat.lt_of_lt_of_le (hrl g e).2 hB4.size)).trans (hB4.block g (hrl g e).2)) ⟨w4.heap.size, 0, none⟩ 1 1 [.int .i64 u.fn, .slice A4 u.args.length c4] (by simp [Act.eval]) rfl (cells_new_two _ _ _ _) (by simp [Value.oneCell']) (by unfold maxLen; omega) (by omega) (by have := hB4.size; simp; omega) ?_
             intro v5 w5 hown5 hgr5 hat5
             have hK5 : ∀ g, g < wr.heap.size → (Value.slice Av k cv).ownBlock ≠ some g → w5.heap[g]? = wr.heap[g]? := fun g h1 h2 => (hgr5.block g (by have := hB4.size; simp; omega) (fun e => h2 e.symm)).trans ((Below.heap_alloc w4 _ g (by have := hB4.size; omega)).trans (hB4.block g h1))
             obtain ⟨k1, kf⟩ := hBX w5 hK5
             obtain ⟨g5, cap5, hv5⟩ := ownsRow_succ hown5
             have Hown5 := Lib.hid hown5
             have Hgr5 := Lib.hid hgr5
             have Hat5 := Lib.hid hat5
             subst hv5
             clear hown5 hgr5 hat5 hK5)
          | fail)
      all_goals
        have hst := H.out.next Hu.out hi64 hl4 hul rfl HR4.out hB4 Hown5.out Hgr5.out Hat5.out
        have hBe : Below (w.heap.size + 2) W w5 := ((hBr.trans (hB4.mono (by omega))).alloc (by have := hB4.size; omega) _).grown Hgr5.out (by have := hB4.size; simp; omega) (fun g e => by have := (hrl g e).1; omega)
        go_wp2
        go_roundw
        case rel => exact ⟨k + 1, _, _, by omega, by go_num, hBe.setCell (Nat.le_refl _) _, hst⟩
        case measure => simp [intOf]; omega
    · obtain rfl : k = xs.length := by omega
      have hrow := H.out.row.row
      have hll := H.out.len hk
      rw [hll] at hrow
      obtain ⟨Av, cv, hv⟩ := row_own hrow
      subst hv
      have hkey := Lib.hid H.out.key
      have HR := Lib.hid H.out.row
      obtain ⟨b0, b1, bg0, bg1⟩ := cells_two ((hBr.block _ (by omega)).trans q1)
      clear hrow
      go_wp2
      have z1 : (wr.setCell ⟨w.heap.size + 1, 0, none⟩ (.int .i64 f)).heap[w.heap.size + 1]? = some (.cells #[.int .i64 f, .slice none 0 0] 31) := heap_setCell_same wr _ 0 _ _ _ ((hBr.block _ (by omega)).trans q1)
      have z2 : ((wr.setCell ⟨w.heap.size + 1, 0, none⟩ (.int .i64 f)).setCell ⟨w.heap.size + 1, 1, none⟩ (.slice Av xs.length cv)).heap[w.heap.size + 1]? = some (.cells #[.int .i64 f, .slice Av xs.length cv] 31) := heap_setCell_same _ _ 1 _ _ _ z1
      have p0 := (cells_two z1).1
      have p1 := (cells_two z2).2.1
      have hoth : ∀ g, g ≠ w.heap.size + 1 → ((wr.setCell ⟨w.heap.size + 1, 0, none⟩ (.int .i64 f)).setCell ⟨w.heap.size + 1, 1, none⟩ (.slice Av xs.length cv)).heap[g]? = wr.heap[g]? := fun g e => (heap_setCell_other _ _ _ _ e).trans (heap_setCell_other _ _ _ _ e)
      refine bodyPost_ret (v := .agg #[.int .i64 f, .slice Av xs.length cv]) (by simp [results, Try.results49, go_sem, p0, p1]) rfl ⟨_, l, rfl, by rw [hkey.out, List.take_length]; rfl, ?_, ?_⟩
      · have hk3 := (HR.out.keep (fun g e => hoth g (by have := (row_lt HR.out.row g e).1; omega)) (fun g e => hoth g (by have := e.1; omega))).base (base' := w.heap.size) (by omega)
        exact hk3.wide fun g e => show Apart _ _ _ g from ⟨by have := e.1; omega, by have := e.2.1; simpa using this, e.2.2⟩
      · exact (hBw.setCell (by show _ ≤ w.heap.size + 1; omega) _).setCell (by show _ ≤ w.heap.size + 1; omega) _
end Go.Proofs.Ytdeegdndfblnkaa
