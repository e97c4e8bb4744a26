/- Size. -/
import Derived.Test.YtimgomoafeaoiaaDoorR4
namespace Go.Proofs.YtimgomoafeaoiaaDoor
open Go.RowKit Go.Shelf
attribute [local go_sem] Oper.semAt_some
set_option maxRecDepth 100000

theorem vis_len (t : Tm) : ∀ p, (vis p t).length = t.size := by
  have key : ∀ xs : List Tm, (∀ t ∈ xs, ∀ p, (vis p t).length = t.size) → ∀ (p : List Int) (i : Nat), (visL p i xs).length = sizes xs := by
    intro xs
    induction xs with
    | nil => intro _ p i; simp [visL, sizes]
    | cons x xs ih =>
      intro h p i
      simp only [visL, sizes, List.length_append, h x (by simp), ih (fun t ht => h t (by simp [ht]))]
  refine Tm.ind (P := fun t => ∀ p, (vis p t).length = t.size) (fun f xs ih p => ?_) t
  simp only [vis, Tm.size, List.length_cons, key xs ih]
theorem pre_len {t : Tm} {pre : List Vis} (h : pre.map Vis.key <+: vis [] t) : pre.length ≤ t.size := by
  have := h.length_le
  rw [vis_len, List.length_map] at this
  exact this
/-- What a range's record turns, where a body's cells are asked. -/
theorem put_block {W : World} {l g : Nat} {r : Loop} {o : Obj} {cs : Array Value} {t : TypeId} {z : Nat × Nat} (h : W.heap[g]? = some (.cells cs t z)) (hl : W.heap[l]? = some (.loop r)) : (W.putObj l o).heap[g]? = some (.cells cs t z) :=
  (World.putObj_heap_other (fun e => by subst e; rw [h] at hl; cases hl)).trans h

set_option maxHeartbeats 2000000 in
theorem Size_any (t : Tm) (A : Option Addr) (c : Nat) (w : World) (hf : I64 t.fn) (hA : Args w w.heap.size A t.args) (hdp : t.depth ≤ 1099511627776) (hsz : t.size ≤ 4611686018427387904) :
    Calls Tryd.prog 18 #[.agg #[.int .i64 t.fn, .slice A t.args.length c]] w fun e w' => e = .returned (.int .i64 (t.size : Int)) ∧ Below w.heap.size w w' := by
  refine (callsIn_wide (n := 3)).1 (callsIn_of_wp_marks Tryd.func18 rfl trivial ?_ rfl)
  simp only [Tryd.ntmps18, List.size_toArray, List.length_cons, List.length_nil, Nat.reduceAdd, Nat.reduceSub, Array.replicate_succ, Array.replicate_zero, List.push_toArray, List.append_toArray, List.nil_append, List.cons_append]
  refine wpIn_wide.2 ?_
  go_wp2_with (first
    | (go_at_call 26
       refine (walk_any t A c _).mono ?_
       rintro e w1 ⟨rfl, rfl⟩)
    | fail)
  obtain ⟨p0, p1, p2⟩ := heap3 w (.cells #[.int .i64 t.fn, .slice A t.args.length c] 24) (.cells #[.int .i64 0] 3) (.cells #[.int .i64 t.fn, .slice A t.args.length c] 24)
  obtain ⟨W, hW⟩ : ∃ W, (((w.alloc (.cells #[.int .i64 t.fn, .slice A t.args.length c] 24)).alloc (.cells #[.int .i64 0] 3)).alloc (.cells #[.int .i64 t.fn, .slice A t.args.length c] 24)) = W := ⟨_, rfl⟩
  have hB : Below w.heap.size w W := by rw [← hW]; exact (((Below.refl _ _).alloc (Nat.le_refl _) _).alloc (by simp) _).alloc (by simp; omega) _
  rw [hW] at p0 p1 p2 ⊢
  have hz : w.heap.size + 2 < W.heap.size := (Array.getElem?_eq_some_iff.1 p2).1
  refine (wpIn_wide (n := 3)).1 ?_
  refine range_law (F := Fence.wide) (n := 3) (w0 := W) rfl rfl (gf := 35) (lb := #[.pointer (some ⟨w.heap.size + 2, 0, none⟩)]) rfl trivial (enters_of Tryd.func35 (by kernel_rfl) rfl)
    (fun m => walk1_seq Fence.wide rfl trivial trivial rfl m (w.heap.size + 2) t A c (· < w.heap.size) W p2 hf ((hA.toN).keep fun g e => hB.block g e) (fun g e => by have e' : g < w.heap.size := e; omega) hdp)
    (Below.refl _ _) (fun _ => rfl) (fun g e => by have e' : g < w.heap.size := e; omega)
    (fun _ g => g < w.heap.size + 2) (fun pre W => Boxed W (w.heap.size + 1) 3 (.int .i64 (pre.length : Int)) ∧ Below w.heap.size w W) (fun _ _ _ => False)
    ?hI ?hbd (fun _ _ _ _ h _ => h.elim) ⟨p1, hB⟩ (fun pre x a' W => (Boxed W (w.heap.size + 1) 3 (.int .i64 (pre.length : Int)) ∧ Below w.heap.size w W) ∧ a' = { tmps := #[.agg #[.int .i64 t.fn, .slice A t.args.length c], .pointer (some ⟨w.heap.size, 0, none⟩), .int .i64 0, .pointer (some ⟨w.heap.size + 1, 0, none⟩), .agg #[.int .i64 t.fn, .slice A t.args.length c], .func (.func 35) #[] #[.pointer (some ⟨w.heap.size + 1 + 1, 0, none⟩)], .slice x.A x.pos.length x.c, .agg #[.int .i64 x.t.fn, .slice x.A' x.t.args.length x.c'], undef, undef, undef], defers := [] }) ?hAx ?assign ?body ?done ?stop
  case hI => exact fun s A B h hk => ⟨⟨(hk.block _ (by show _ < _; omega)).trans h.1, h.2.trans (hk.below fun g e => by show g < _; omega)⟩, fun g e => e⟩
  case hbd => exact fun s A h g e => by have := (Array.getElem?_eq_some_iff.1 h.1).1; have e' : g < w.heap.size + 2 := e; omega
  case hAx =>
    rintro pre x a' W l r o ⟨⟨h1, h2⟩, rfl⟩ hl hr hn
    have hK := Keeps.put W l o
    exact ⟨fun g e => e, ⟨put_block h1 hr, h2.trans (hK.below fun g e => by show g ≠ l; omega)⟩, rfl⟩
  case assign =>
    intro l m pre x W K hI _ hfx hK
    simp only [visEnc]
    gi_wp2
    exact hK _ _ (Stp.refl _ _ _) ⟨hI, by simp⟩
  case body =>
    rintro l m pre x a' W hsp ⟨⟨h1, h2⟩, rfl⟩
    have hc := Boxed.cell h1
    have hfz := Boxed.frozen h1
    have hlt := pre_len hsp
    simp only [List.length_append, List.length_cons, List.length_nil] at hlt
    gi_wp2
    refine ⟨⟨?_, h2.setCell (by show _ ≤ w.heap.size + 1; omega) _⟩, ⟨(Keeps.set _ _ _).mono fun g e => ?_, fun g e => .inl e⟩⟩
    · rw [List.length_append, show ((pre.length + [x].length : Nat) : Int) = (pre.length : Int) + 1 from by simp]
      exact Boxed.set _ h1
    · show g ≠ w.heap.size + 1
      rcases e with e | e
      · have e' : g < w.heap.size := e; omega
      · have e' : ¬ g < w.heap.size + 2 := e.2; omega
  case done =>
    rintro D ys W hD hS ⟨h1, h2⟩ hK
    have hc := Boxed.cell h1
    go_wp2
    refine ⟨by simp, .inl ⟨_, _, rfl, run_takeDeferred hK, ?_⟩⟩
    have hl := congrArg List.length hS
    rw [vis_len, List.length_map] at hl
    exact ⟨.int .i64 (ys.length : Int), by simp [results, Tryd.results18, go_sem], by rw [hl], h2.trans (belowK_b (w := w) (Nat.le_refl _) W D _ _ (by omega) hK rfl rfl)⟩
  case stop => exact fun _ _ _ _ _ _ h _ => h.elim
end Go.Proofs.YtimgomoafeaoiaaDoor
