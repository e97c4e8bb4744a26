/- clone. -/
import Derived.Test.YtimgomoafeaoiaaDoorT4
import Derived.OwnWalk
import Derived.Deep.RegionHeld3
namespace Go.Proofs.YtimgomoafeaoiaaDoor
open Go.RowKit
set_option maxRecDepth 100000

/-- A copy of t, in new memory. -/
def ClonePost (t : Tm) (w : World) (e : Ending) (w' : World) : Prop := ∃ A' c', e = .returned (.agg #[.int .i64 t.fn, .slice A' t.args.length c']) ∧ OwnT w' w.heap.size w'.heap.size A' t.args ∧ Below w.heap.size w w'
def CloneAt (t : Tm) : Prop := t.size ≤ 4398046511104 → ∀ (A : Option Addr) (c : Nat) (w : World), I64 t.fn → Args w w.heap.size A t.args → Calls Tryd.prog 22 #[.agg #[.int .i64 t.fn, .slice A t.args.length c]] w (ClonePost t w)

theorem heap3 (w : World) (o1 o2 o3 : Obj) : (((w.alloc o1).alloc o2).alloc o3).heap[w.heap.size]? = some o1 ∧ (((w.alloc o1).alloc o2).alloc o3).heap[w.heap.size + 1]? = some o2 ∧ (((w.alloc o1).alloc o2).alloc o3).heap[w.heap.size + 1 + 1]? = some o3 := by
  have e1 : (w.alloc o1).heap.size = w.heap.size + 1 := by simp
  have e2 : ((w.alloc o1).alloc o2).heap.size = w.heap.size + 1 + 1 := by simp
  refine ⟨?_, ?_, ?_⟩
  · rw [Below.heap_alloc _ _ _ (by omega), Below.heap_alloc _ _ _ (by omega)]
    exact heap_alloc_new w o1
  · rw [Below.heap_alloc _ _ _ (by omega), ← e1]
    exact heap_alloc_new _ o2
  · rw [← e2]
    exact heap_alloc_new _ o3
theorem cell_set2 {W : World} {b b' o o1 o2 : Nat} {u v x : Value} (h : W.cell? ⟨b, o, none⟩ = some x) (hb : b ≠ b') : ((W.setCell ⟨b', o1, none⟩ u).setCell ⟨b', o2, none⟩ v).cell? ⟨b, o, none⟩ = some x := by
  have e : ((W.setCell ⟨b', o1, none⟩ u).setCell ⟨b', o2, none⟩ v).heap[b]? = W.heap[b]? := (heap_setCell_other _ _ _ _ hb).trans (heap_setCell_other _ _ _ _ hb)
  rw [← h]
  simp only [World.cell?, e]
theorem cells_two {W : World} {b : Nat} {x y : Value} {t : TypeId} (h : W.heap[b]? = some (.cells #[x, y] t)) : W.cell? ⟨b, 0, none⟩ = some x ∧ W.cell? ⟨b, 1, none⟩ = some y ∧ W.frozen? ⟨b, 0, none⟩ = false ∧ W.frozen? ⟨b, 1, none⟩ = false := by
  refine ⟨?_, ?_, ?_, ?_⟩ <;> simp [World.cell?, World.frozen?, h]

set_option maxHeartbeats 2000000 in
theorem clone_any (t : Tm) : CloneAt t := by
  refine Tm.ind (P := CloneAt) (fun f xs ih => ?_) t
  intro hsz A c w hf hA
  simp only [Tm.fn, Tm.args] at hf hA ⊢
  have hlen : xs.length ≤ 4398046511104 := by have := sizes_len xs; simp only [Tm.size] at hsz; omega
  obtain ⟨i0, hi, hz0, hz1, hz2⟩ := info_parts info_term
  rcases Nat.eq_zero_or_pos xs.length with h0 | h0
  · obtain rfl : xs = [] := List.eq_nil_of_length_eq_zero h0
    clear h0
    simp only [List.length_nil] at *
    go_enter Tryd.func22, Tryd.ntmps22
    go_wp2
    go_loopw [21] (fun i wr => i = .int .i64 0 ∧ wr = (((w.alloc (.cells #[.int .i64 f, .slice A 0 c] 24)).alloc (.cells #[.int .i64 0, .slice none 0 0] 24)).alloc (.cells #[.int .i64 f, .slice none 0 0] 24))) (fun i _ => 0)
    case atStart => exact ⟨rfl, rfl⟩
    case round =>
      obtain ⟨rfl, rfl⟩ := hrel
      go_wp2
      refine bodyPost_ret (v := .agg #[.int .i64 f, .slice none 0 0]) (by simp [results, Tryd.results22, go_sem]) rfl ⟨none, 0, rfl, .nil _ _ _, ?_⟩
      exact (((Below.refl _ _).alloc (Nat.le_refl _) _).alloc (by simp) _).alloc (by simp; omega) _
  · have hpos : ((xs.length : Int) > 0) := by omega
    go_enter Tryd.func22, Tryd.ntmps22
    go_wp2_with (first
      | (at_make; go_loud (skip)
         refine wpList_make_full _ rfl _ _ 22 rfl (w.heap.size + 1 + 1 + 1) 24 i0 (.agg #[.int .i64 0, .slice none 0 0]) 2 Tryd.underlying22 hi hz0 hz1 .i64 .i64 _ _ xs.length rfl rfl rfl rfl (by rw [hz2]; omega) (by unfold maxLen; omega) (by simp) ?_
         intro w1 hown hgrow
         have hB1 := (Below.refl (((w.alloc (.cells #[.int .i64 f, .slice A xs.length c] 24)).alloc (.cells #[.int .i64 0, .slice none 0 0] 24)).alloc (.cells #[.int .i64 f, .slice none 0 0] 24)).heap.size _).grown hgrow (Nat.le_refl _) (fun k e => by cases e)
         have hs0 : (((w.alloc (.cells #[.int .i64 f, .slice A xs.length c] 24)).alloc (.cells #[.int .i64 0, .slice none 0 0] 24)).alloc (.cells #[.int .i64 f, .slice none 0 0] 24)).heap.size = w.heap.size + 1 + 1 + 1 := by simp
         rw [hs0] at hown hB1
         have q0 : w1.heap[w.heap.size]? = some (.cells #[.int .i64 f, .slice A xs.length c] 24) := (hB1.block _ (by omega)).trans (heap3 _ _ _ _).1
         have q1 : w1.heap[w.heap.size + 1]? = some (.cells #[.int .i64 0, .slice none 0 0] 24) := (hB1.block _ (by omega)).trans (heap3 _ _ _ _).2.1
         have q2 : w1.heap[w.heap.size + 1 + 1]? = some (.cells #[.int .i64 f, .slice none 0 0] 24) := (hB1.block _ (by omega)).trans (heap3 _ _ _ _).2.2
         obtain ⟨a0, a1, _, _⟩ := cells_two q0
         obtain ⟨b0, b1, g0, g1⟩ := cells_two q1
         obtain ⟨c0, c1, k0, k1⟩ := cells_two q2
         clear hgrow hs0)
      | fail)
    have hbs1 : w.heap.size + 1 + 1 + 1 < w1.heap.size := by
      rcases hown.2 with ⟨h, _⟩ | ⟨g, cap, cur, h, _, hg, _⟩
      · cases h
      · injection h with h _ _; injection h with h; injection h with h _ _; subst h
        exact (Array.getElem?_eq_some_iff.1 hg).1
    obtain ⟨W2, hW2⟩ : ∃ W2, w1.setCell ⟨w.heap.size + 1 + 1, 1, none⟩ (.slice (some ⟨w.heap.size + 1 + 1 + 1, 0, none⟩) xs.length xs.length) = W2 := ⟨_, rfl⟩
    have y1 : W2.heap[w.heap.size + 1]? = some (.cells #[.int .i64 0, .slice none 0 0] 24) := by rw [← hW2]; exact (heap_setCell_other _ _ _ _ (by show w.heap.size + 1 ≠ w.heap.size + 1 + 1; omega)).trans q1
    have y2 : W2.heap[w.heap.size + 1 + 1]? = some (.cells #[.int .i64 f, .slice (some ⟨w.heap.size + 1 + 1 + 1, 0, none⟩) xs.length xs.length] 24) := by rw [← hW2]; exact heap_setCell_same w1 _ 1 _ _ _ q2
    have HB2 : Below w.heap.size w W2 := by
      rw [← hW2]
      exact (((((Below.refl w.heap.size w).alloc (Nat.le_refl _) _).alloc (by simp) _).alloc (by simp; omega) _).trans (hB1.mono (by omega))).setCell (by show _ ≤ w.heap.size + 1 + 1; omega) _
    have HR : ∃ vs A' c' m, RowK W2 (w.heap.size + 1 + 1 + 1) xs.length xs 0 vs A' c' m := by
      refine ⟨_, fun _ => none, fun _ => 0, fun _ => w.heap.size + 1 + 1 + 1 + 1, ownsRow_keep hown (fun g' e => by simp [Value.ownBlock] at e; exact e.symm) (g := w.heap.size + 1 + 1 + 1) ?_, Nat.le_refl _, ?_, fun i h => by omega, fun i t h => by omega, fun i t h => by omega, fun i t h => by omega, fun i t h => by omega⟩
      · rw [← hW2]; exact heap_setCell_other _ _ _ _ (by show w.heap.size + 1 + 1 + 1 ≠ w.heap.size + 1 + 1; omega)
      · rw [← hW2]; simp; omega
    have hbs2 : w.heap.size + 1 + 1 + 1 < W2.heap.size := by rw [← hW2]; simpa using hbs1
    rw [hW2]
    clear hW2 hown hB1 q0 q1 q2 a0 a1 b0 b1 g0 g1 c0 c1 k0 k1 hbs1
    go_loopw [21] (fun i wr => ∃ k : Nat, k ≤ xs.length ∧ i = .int .i64 (k : Int) ∧ Below (w.heap.size + 1 + 1 + 1) W2 wr ∧ w.heap.size + 1 + 1 + 1 < wr.heap.size ∧ Hid (∃ vs A' c' m, RowK wr (w.heap.size + 1 + 1 + 1) xs.length xs k vs A' c' m)) (fun i _ => xs.length - (intOf i).toNat)
    case atStart => exact ⟨0, Nat.zero_le _, rfl, Below.refl _ _, hbs2, HR⟩
    case round =>
      obtain ⟨k, hk, rfl, hBr, hbs, H⟩ := hrel
      obtain ⟨b0, b1, g0, g1⟩ := cells_two ((hBr.block _ (by omega)).trans y1)
      obtain ⟨c0, c1, _, _⟩ := cells_two ((hBr.block _ (by omega)).trans y2)
      have hBw : Below w.heap.size w wr := HB2.trans (hBr.mono (by omega))
      by_cases hlt : k < xs.length
      · obtain ⟨t, ht⟩ : ∃ t, xs[k]? = some t := ⟨_, List.getElem?_eq_getElem hlt⟩
        obtain ⟨bb, off, A1, c1', rfl, ha⟩ := (hA.on hBw).get ht
        have e0 := ha.c0
        have e1 := ha.c1
        have hsub := Lib.hid (ha.sub)
        have hi64 := ha.hi
        have hmem := List.mem_of_getElem? ht
        have hszt : t.size ≤ 4398046511104 := by have := size_mem hmem; simp only [Tm.size] at hsz; omega
        have Ht := Lib.hid ht
        obtain ⟨vs, A', c', m, hR⟩ := H.out
        have hvl : vs.length = xs.length * 2 := hR.row.1
        have hR := Lib.hid hR
        clear ht ha H
        go_wp2
        obtain ⟨W3, hW3⟩ : ∃ W3, wr.alloc (.cells #[.int .i64 t.fn, .slice A1 t.args.length c1'] 24) = W3 := ⟨_, rfl⟩
        have hB3 : Below wr.heap.size wr W3 := by rw [← hW3]; exact (Below.refl _ _).alloc (Nat.le_refl _) _
        obtain ⟨f0, f1, _, _⟩ := cells_two (W := W3) (b := wr.heap.size) (x := .int .i64 t.fn) (y := .slice A1 t.args.length c1') (t := 24) (by rw [← hW3]; exact heap_alloc_new wr _)
        have hz3 : wr.heap.size < W3.heap.size := by rw [← hW3]; simp
        have d1 := cell_on hB3 (by omega) c1
        have hs3 := Lib.hid (hsub.out.on hB3)
        rw [hW3]
        clear hW3
        go_region_held3 (fun w' => w'.cell? ⟨w.heap.size + 1 + 1, 1, none⟩ = some (.slice (some ⟨w.heap.size + 1 + 1 + 1, 0, none⟩) xs.length xs.length) ∧ w'.cell? ⟨wr.heap.size, 0, none⟩ = some (.int .i64 t.fn) ∧ w'.cell? ⟨wr.heap.size, 1, none⟩ = some (.slice A1 t.args.length c1'))
          (first | exact ⟨d1, f0, f1⟩ | exact ⟨cell_on hB4 (by omega) d1, cell_on hB4 hz3 f0, cell_on hB4 hz3 f1⟩ | exact ⟨cell_set2 (cell_on hB4 (by omega) d1) (by omega), cell_set2 (cell_on hB4 hz3 f0) (by omega), cell_set2 (cell_on hB4 hz3 f1) (by omega)⟩)
          (first
            | (go_at_call 22
               refine (ih t hmem hszt A1 c1' W3.drew hi64 (hs3.out.drewN 1)).mono ?_
               rintro e w4 ⟨A4, c4, rfl, hO4, hb4⟩
               have hB4 : Below W3.heap.size W3 w4 := ⟨hb4.os, hb4.tape, hb4.output, hb4.size, hb4.block⟩
               have hR4 := (hR.out.on hbs hB3).on (by omega) hB4
               have r0 := (hR4.row.cellAt (k * 2) (by omega)).trans (List.getElem?_eq_getElem (by omega))
               have r1 := (hR4.row.cellAt (k * 2 + 1) (by omega)).trans (List.getElem?_eq_getElem (by omega))
               have s0 := hR4.row.frozenAt (k * 2)
               have s1 := hR4.row.frozenAt (k * 2 + 1)
               have hR4 := Lib.hid hR4))
        have hlo := Nat.le_trans hR.out.mke hB3.size
        have hst := hR4.out.step (c1 := c4) Ht.out hi64 hO4 hlo
        have hlt4 : w.heap.size + 1 + 1 + 1 < w4.heap.size := by have := hB4.size; omega
        go_wp2
        go_roundw
        case rel => exact ⟨k + 1, by omega, by go_num, ((hBr.trans (hB3.mono (by omega))).trans (hB4.mono (by omega))).setCell (Nat.le_refl _) _ |>.setCell (Nat.le_refl _) _, by simpa using hlt4, hst⟩
        case measure => simp [intOf]; omega
      · obtain rfl : k = xs.length := by omega
        obtain ⟨vs, A', c', m, hR⟩ := H.out
        go_wp2
        have z1 : (wr.setCell ⟨w.heap.size + 1, 0, none⟩ (.int .i64 f)).heap[w.heap.size + 1]? = some (.cells #[.int .i64 f, .slice none 0 0] 24) := heap_setCell_same wr _ 0 _ _ _ ((hBr.block _ (by omega)).trans y1)
        have z2 : ((wr.setCell ⟨w.heap.size + 1, 0, none⟩ (.int .i64 f)).setCell ⟨w.heap.size + 1, 1, none⟩ (.slice (some ⟨w.heap.size + 1 + 1 + 1, 0, none⟩) xs.length xs.length)).heap[w.heap.size + 1]? = some (.cells #[.int .i64 f, .slice (some ⟨w.heap.size + 1 + 1 + 1, 0, none⟩) xs.length xs.length] 24) := heap_setCell_same _ _ 1 _ _ _ z1
        have p0 := (cells_two z1).1
        have p1 := (cells_two z2).2.1
        refine bodyPost_ret (v := .agg #[.int .i64 f, .slice (some ⟨w.heap.size + 1 + 1 + 1, 0, none⟩) xs.length xs.length]) (by simp [results, Tryd.results22, go_sem, p0, p1]) rfl ⟨some ⟨w.heap.size + 1 + 1 + 1, 0, none⟩, xs.length, rfl, ?_, ?_⟩
        · refine OwnT.wide (lo := w.heap.size + 1 + 1 + 1) (hi := wr.heap.size) ((hR.whole h0 (by omega) (Nat.le_refl _) (Nat.le_refl _)).keep fun g h1 _ => ?_) (by omega) (by simp)
          exact (heap_setCell_other _ _ _ _ (by show g ≠ w.heap.size + 1; omega)).trans (heap_setCell_other _ _ _ _ (by show g ≠ w.heap.size + 1; omega))
        · exact (hBw.setCell (by show _ ≤ w.heap.size + 1; omega) _).setCell (by show _ ≤ w.heap.size + 1; omega) _
end Go.Proofs.YtimgomoafeaoiaaDoor
