/- Ground. -/
import Derived.Test.YtkgikjjngbifjaaDoorM2
namespace Go.Proofs.YtkgikjjngbifjaaDoor
open Go.RowKit Go.Shelf
attribute [local go_sem] Oper.semAt_some
set_option maxRecDepth 100000

/-- The variables' numbers that stand in these, in order. -/
def vnums : List (List Int × Tm) → List Int
  | [] => []
  | x :: l => if x.2.fn < 0 then (-1 - x.2.fn) :: vnums l else vnums l
theorem vnums_app : ∀ (a b : List (List Int × Tm)), vnums (a ++ b) = vnums a ++ vnums b
  | [], b => by simp [vnums]
  | x :: a, b => by
    simp only [List.cons_append, vnums, vnums_app a b]
    split <;> simp
theorem vnums_snoc_neg {pre : List Vis} {x : Vis} (h : x.t.fn < 0) : vnums ((pre ++ [x]).map Vis.key) = vnums (pre.map Vis.key) ++ [-1 - x.t.fn] := by
  rw [List.map_append, vnums_app]
  simp only [List.map_cons, List.map_nil, vnums, Vis.key, if_pos h]
theorem vnums_snoc_pos {pre : List Vis} {x : Vis} (h : ¬ x.t.fn < 0) : vnums ((pre ++ [x]).map Vis.key) = vnums (pre.map Vis.key) := by
  rw [List.map_append, vnums_app]
  simp only [List.map_cons, List.map_nil, vnums, Vis.key, if_neg h, List.append_nil]
theorem vnums_pre {t : Tm} {pre : List Vis} (h : pre.map Vis.key <+: vis [] t) : vnums (pre.map Vis.key) <+: vnums (vis [] t) := by
  obtain ⟨r, hr⟩ := h
  rw [← hr, vnums_app]
  exact List.prefix_append _ _
theorem stp_alloc {N P : Nat → Prop} (W : World) (o : Obj) (hN : ∀ g, N g → g < W.heap.size) : Stp N (fun _ => P) W (W.alloc o) :=
  ⟨(Keeps.alloc W o).mono fun g hg => hg.elim (hN g) (fun e => e.1), fun _ e => .inl e⟩

set_option maxHeartbeats 2000000 in
theorem termGround_any (t : Tm) (A : Option Addr) (c : Nat) (w : World) (hf : I64 t.fn) (hA : Args w w.heap.size A t.args) (hdp : t.depth ≤ 1099511627776) :
    Calls Tryd.prog 23 #[.agg #[.int .i64 t.fn, .slice A t.args.length c]] w fun e w' => e = .returned (.bool (decide (vnums (vis [] t) = []))) ∧ Below w.heap.size w w' := by
  refine (callsIn_wide (n := 3)).1 (callsIn_of_wp_marks Tryd.func23 rfl trivial ?_ rfl)
  simp only [Tryd.ntmps23, List.size_toArray, List.length_cons, List.length_nil, Nat.reduceAdd, Nat.reduceSub, Array.replicate_succ, Array.replicate_zero, List.push_toArray, List.append_toArray, List.nil_append, List.cons_append]
  refine wpIn_wide.2 ?_
  go_wp2_with (first
    | (go_at_call 41
       refine (walk_any t A c _).mono ?_
       rintro e w1 ⟨rfl, rfl⟩)
    | fail)
  obtain ⟨p0, p1, p2⟩ := heap3 w (.cells #[.int .i64 t.fn, .slice A t.args.length c] 27) (.cells #[.bool false] 4) (.cells #[.int .i64 t.fn, .slice A t.args.length c] 27)
  obtain ⟨W, hW⟩ : ∃ W, (((w.alloc (.cells #[.int .i64 t.fn, .slice A t.args.length c] 27)).alloc (.cells #[.bool false] 4)).alloc (.cells #[.int .i64 t.fn, .slice A t.args.length c] 27)) = W := ⟨_, rfl⟩
  have hB : Below w.heap.size w W := by rw [← hW]; exact (((Below.refl _ _).alloc (Nat.le_refl _) _).alloc (by simp) _).alloc (by simp; omega) _
  rw [hW] at p0 p1 p2 ⊢
  have hz : w.heap.size + 2 < W.heap.size := (Array.getElem?_eq_some_iff.1 p2).1
  refine (wpIn_wide (n := 3)).1 ?_
  refine range_law (F := Fence.wide) (n := 3) (w0 := W) rfl rfl (gf := 64) (lb := #[.pointer (some ⟨w.heap.size + 2, 0, none⟩)]) rfl trivial (enters_of Tryd.func64 (by kernel_rfl) rfl)
    (fun m => walk1_seq Fence.wide rfl trivial trivial rfl m (w.heap.size + 2) t A c (· < w.heap.size) W p2 hf ((hA.toN).keep fun g e => hB.block g e) (fun g e => by have e' : g < w.heap.size := e; omega) hdp)
    (Below.refl _ _) (fun _ => rfl) (fun g e => by have e' : g < w.heap.size := e; omega)
    (fun _ g => g < w.heap.size + 2) (fun pre W => Boxed W (w.heap.size + 1) 4 (.bool false) ∧ Below w.heap.size w W ∧ Hid (vnums (pre.map Vis.key) = [])) (fun cd pre W => cd = .ret ∧ Boxed W (w.heap.size + 1) 4 (.bool false) ∧ Below w.heap.size w W ∧ Hid (vnums (pre.map Vis.key) ≠ []))
    ?hI ?hbd ?hIx ⟨p1, hB, rfl⟩ (fun pre x a' W => (Boxed W (w.heap.size + 1) 4 (.bool false) ∧ Below w.heap.size w W ∧ Hid (vnums (pre.map Vis.key) = [])) ∧ ∃ Bx, W.heap[Bx]? = some (.cells #[.int .i64 x.t.fn, .slice x.A' x.t.args.length x.c'] 27) ∧ a' = { tmps := #[.agg #[.int .i64 t.fn, .slice A t.args.length c], .pointer (some ⟨w.heap.size, 0, none⟩), .pointer (some ⟨w.heap.size + 1, 0, none⟩), undef, .pointer (some ⟨Bx, 0, none⟩), .agg #[.int .i64 t.fn, .slice A t.args.length c], .func (.func 64) #[] #[.pointer (some ⟨w.heap.size + 1 + 1, 0, none⟩)], .slice x.A x.pos.length x.c, .agg #[.int .i64 x.t.fn, .slice x.A' x.t.args.length x.c'], undef, undef, undef], defers := [] }) ?hAx ?assign ?body ?done ?stop
  case hI => exact fun s A B h hk => ⟨⟨(hk.block _ (by show _ < _; omega)).trans h.1, h.2.1.trans (hk.below fun g e => by show g < _; omega), h.2.2⟩, fun g e => e⟩
  case hIx => exact fun cd s A B h hk => ⟨⟨h.1, (hk.block _ (by show _ < _; omega)).trans h.2.1, h.2.2.1.trans (hk.below fun g e => by show g < _; omega), h.2.2.2⟩, fun g e => e⟩
  case hbd => exact fun s A h g e => by have := (Array.getElem?_eq_some_iff.1 h.1).1; have e' : g < w.heap.size + 2 := e; omega
  case hAx =>
    rintro pre x a' W l r o ⟨⟨h1, h2, h3⟩, Bx, hbx, rfl⟩ hl hr hn
    have hK := Keeps.put W l o
    exact ⟨fun g e => e, ⟨put_block h1 hr, h2.trans (hK.below fun g e => by show g ≠ l; omega), h3⟩, Bx, put_block hbx hr, rfl⟩
  case assign =>
    rintro l m pre x W K ⟨h1, h2, h3⟩ _ hfx hK
    simp only [visEnc]
    gi_wp2
    have hs := h2.size
    exact hK _ _ (stp_alloc _ _ fun g e => Nat.lt_of_lt_of_le e hs) ⟨⟨h1.alloc _, h2.alloc hs _, h3⟩, W.heap.size, heap_alloc_new _ _, by simp⟩
  case body =>
    rintro l m pre x a' W hsp ⟨⟨h1, h2, h3⟩, Bx, hbx, rfl⟩
    have hc := Boxed.cell h1
    have hfz := Boxed.frozen h1
    obtain ⟨b0, b1, _, _⟩ := cells_two hbx
    by_cases hneg : x.t.fn < 0
    · have Hn := Lib.hid (show vnums ((pre ++ [x]).map Vis.key) ≠ [] by rw [vnums_snoc_neg hneg]; simp)
      gi_wp2
      refine ⟨⟨rfl, Boxed.set _ h1, h2.setCell (by show _ ≤ w.heap.size + 1; omega) _, Hn.out⟩, ⟨(Keeps.set _ _ _).mono fun g e => ?_, fun g e => .inl e⟩⟩
      show g ≠ w.heap.size + 1
      rcases e with e | e
      · have e' : g < w.heap.size := e; omega
      · have e' : ¬ g < w.heap.size + 2 := e.2; omega
    · have Hn : Hid (vnums ((pre ++ [x]).map Vis.key) = []) := by rw [vnums_snoc_pos hneg]; exact h3.out
      gi_wp2
      exact ⟨⟨h1, h2, Hn.out⟩, Stp.refl _ _ _⟩
  case done =>
    rintro D ys W hD hS ⟨h1, h2, h3⟩ hK
    have hc := Boxed.cell h1
    have hfz := Boxed.frozen h1
    have Hv : Hid (vnums (vis [] t) = []) := by rw [← hS]; exact h3.out
    clear hS
    go_wp2
    have hKs : (W.setCell ⟨w.heap.size + 1, 0, none⟩ (.bool true)).heap[D]? = some (.deferred (some [])) := (heap_setCell_other _ _ _ _ (by show D ≠ w.heap.size + 1; omega)).trans hK
    have hr' := cell_kept (Boxed.set (.bool true) h1).cell (grownBy_putObj' _ D (.deferred none)) (fun r e => by cases e; exact ⟨_, hKs, rfl⟩)
    refine ⟨by simp, .inl ⟨_, _, rfl, run_takeDeferred hKs, ?_⟩⟩
    exact ⟨.bool true, by simp [results, Tryd.results23, go_sem, hr'], by rw [Hv.out]; rfl, (h2.setCell (by show _ ≤ w.heap.size + 1; omega) _).trans (belowK_b (w := w) (Nat.le_refl _) _ D _ _ (by omega) hKs rfl rfl)⟩
  case stop =>
    rintro D cd pre W hD hpre ⟨rfl, h1, h2, h3⟩ hK
    have Hv : Hid (decide (vnums (vis [] t) = []) = false) := by
      apply decide_eq_false
      intro e
      have := vnums_pre hpre
      rw [e] at this
      exact h3.out (List.prefix_nil.1 this)
    gi_wp2
    refine ⟨by simp, .inl ⟨_, _, rfl, run_takeDeferred hK, ?_⟩⟩
    have hr' := cell_kept (Boxed.cell h1) (grownBy_putObj' _ D (.deferred none)) (fun r e => by cases e; exact ⟨_, hK, rfl⟩)
    exact ⟨.bool false, by simp [results, Tryd.results23, go_sem, hr'], by rw [Hv.out], h2.trans (belowK_b (w := w) (Nat.le_refl _) W D _ _ (by omega) hK rfl rfl)⟩
end Go.Proofs.YtkgikjjngbifjaaDoor
