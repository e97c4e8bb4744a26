/- Depth, Ground. -/
import Derived.Test.YtkgikjjngbifjaaDoorR5
import Derived.Test.YtkgikjjngbifjaaDoorD1
namespace Go.Proofs.YtkgikjjngbifjaaDoor
open Go.RowKit Go.Shelf
attribute [local go_sem] Oper.semAt_some
set_option maxRecDepth 100000

/-- The longest place of these, and one more. -/
def maxP : List (List Int × Tm) → Nat
  | [] => 0
  | x :: l => max (1 + x.1.length) (maxP l)
theorem maxP_app : ∀ (a b : List (List Int × Tm)), maxP (a ++ b) = max (maxP a) (maxP b)
  | [], b => by simp [maxP]
  | x :: a, b => by simp only [List.cons_append, maxP, maxP_app a b]; omega
theorem maxP_vis (t : Tm) : ∀ p, maxP (vis p t) = p.length + t.depth := by
  have key : ∀ xs : List Tm, (∀ t ∈ xs, ∀ p, maxP (vis p t) = p.length + t.depth) → ∀ (p : List Int) (i : Nat), maxP (visL p i xs) = if xs = [] then 0 else p.length + 1 + depths xs := by
    intro xs
    induction xs with
    | nil => intro _ p i; simp [visL, maxP]
    | cons x xs ih =>
      intro h p i
      have h1 := h x (by simp) (p ++ [(i : Int)])
      have h2 := ih (fun t ht => h t (by simp [ht])) p (i + 1)
      simp only [visL, maxP_app, h1, h2, depths, List.length_append, List.length_cons, List.length_nil]
      rw [if_neg (show ¬ (x :: xs = []) by simp)]
      have := depth_pos x
      by_cases e : xs = []
      · rw [if_pos e, e]; simp only [depths]; omega
      · rw [if_neg e]; omega
  refine Tm.ind (P := fun t => ∀ p, maxP (vis p t) = p.length + t.depth) (fun f xs ih p => ?_) t
  simp only [vis, Tm.depth, maxP, key xs ih]
  by_cases e : xs = []
  · rw [if_pos e, e]; simp only [depths]; omega
  · rw [if_neg e]; omega
theorem maxP_mem {l : List (List Int × Tm)} {x : List Int × Tm} (h : x ∈ l) : 1 + x.1.length ≤ maxP l := by
  induction l with
  | nil => simp at h
  | cons y l ih =>
    simp only [List.mem_cons] at h
    simp only [maxP]
    rcases h with rfl | h
    · omega
    · have := ih h; omega
theorem maxP_pre {t : Tm} {pre : List Vis} (h : pre.map Vis.key <+: vis [] t) : maxP (pre.map Vis.key) ≤ maxP (vis [] t) := by
  obtain ⟨r, hr⟩ := h
  rw [← hr, maxP_app]; omega
theorem pre_mem {t : Tm} {pre : List Vis} {x : Vis} (h : (pre ++ [x]).map Vis.key <+: vis [] t) : x.key ∈ vis [] t := h.subset (by simp)

set_option maxHeartbeats 2000000 in
theorem termDepth_any (t : Tm) (A : Option Addr) (c : Nat) (w : World) (hf : I64 t.fn) (hA : Args w w.heap.size A t.args) (hdp : t.depth ≤ 1099511627776)  :
    Calls Tryd.prog 21 #[.agg #[.int .i64 t.fn, .slice A t.args.length c]] w fun e w' => e = .returned (.int .i64 (t.depth : Int)) ∧ Below w.heap.size w w' := by
  refine (callsIn_wide (n := 3)).1 (callsIn_of_wp_marks Tryd.func21 rfl trivial ?_ rfl)
  simp only [Tryd.ntmps21, List.size_toArray, List.length_cons, List.length_nil, Nat.reduceAdd, Nat.reduceSub, Array.replicate_succ, Array.replicate_zero, List.push_toArray, List.append_toArray, List.nil_append, List.cons_append]
  refine wpIn_wide.2 ?_
  go_wp2_with (first
    | (go_at_call 41
       refine (walk_any t A c _).mono ?_
       rintro e w1 ⟨rfl, rfl⟩)
    | fail)
  obtain ⟨p0, p1, p2⟩ := heap3 w (.cells #[.int .i64 t.fn, .slice A t.args.length c] 27) (.cells #[.int .i64 0] 3) (.cells #[.int .i64 t.fn, .slice A t.args.length c] 27)
  obtain ⟨W, hW⟩ : ∃ W, (((w.alloc (.cells #[.int .i64 t.fn, .slice A t.args.length c] 27)).alloc (.cells #[.int .i64 0] 3)).alloc (.cells #[.int .i64 t.fn, .slice A t.args.length c] 27)) = W := ⟨_, rfl⟩
  have hB : Below w.heap.size w W := by rw [← hW]; exact (((Below.refl _ _).alloc (Nat.le_refl _) _).alloc (by simp) _).alloc (by simp; omega) _
  rw [hW] at p0 p1 p2 ⊢
  have hz : w.heap.size + 2 < W.heap.size := (Array.getElem?_eq_some_iff.1 p2).1
  refine (wpIn_wide (n := 3)).1 ?_
  refine range_law (F := Fence.wide) (n := 3) (w0 := W) rfl rfl (gf := 64) (lb := #[.pointer (some ⟨w.heap.size + 2, 0, none⟩)]) rfl trivial (enters_of Tryd.func64 (by kernel_rfl) rfl)
    (fun m => walk1_seq Fence.wide rfl trivial trivial rfl m (w.heap.size + 2) t A c (· < w.heap.size) W p2 hf ((hA.toN).keep fun g e => hB.block g e) (fun g e => by have e' : g < w.heap.size := e; omega) hdp)
    (Below.refl _ _) (fun _ => rfl) (fun g e => by have e' : g < w.heap.size := e; omega)
    (fun _ g => g < w.heap.size + 2) (fun pre W => Boxed W (w.heap.size + 1) 3 (.int .i64 (maxP (pre.map Vis.key) : Int)) ∧ Below w.heap.size w W) (fun _ _ _ => False)
    ?hI ?hbd (fun _ _ _ _ h _ => h.elim) ⟨p1, hB⟩ (fun pre x a' W => (Boxed W (w.heap.size + 1) 3 (.int .i64 (maxP (pre.map Vis.key) : Int)) ∧ Below w.heap.size w W) ∧ a' = { tmps := #[.agg #[.int .i64 t.fn, .slice A t.args.length c], .pointer (some ⟨w.heap.size, 0, none⟩), .int .i64 0, .pointer (some ⟨w.heap.size + 1, 0, none⟩), .slice x.A x.pos.length x.c, .agg #[.int .i64 t.fn, .slice A t.args.length c], .func (.func 64) #[] #[.pointer (some ⟨w.heap.size + 1 + 1, 0, none⟩)], .slice x.A x.pos.length x.c, .agg #[.int .i64 x.t.fn, .slice x.A' x.t.args.length x.c'], undef, undef, undef, undef, undef, undef], defers := [] }) ?hAx ?assign ?body ?done ?stop
  case hI => exact fun s A B h hk => ⟨⟨(hk.block _ (by show _ < _; omega)).trans h.1, h.2.trans (hk.below fun g e => by show g < _; omega)⟩, fun g e => e⟩
  case hbd => exact fun s A h g e => by have := (Array.getElem?_eq_some_iff.1 h.1).1; have e' : g < w.heap.size + 2 := e; omega
  case hAx =>
    rintro pre x a' W l r o ⟨⟨h1, h2⟩, rfl⟩ hl hr hn
    have hK := Keeps.put W l o
    exact ⟨fun g e => e, ⟨put_block h1 hr, h2.trans (hK.below fun g e => by show g ≠ l; omega)⟩, rfl⟩
  case assign =>
    intro l m pre x W K hI _ hfx hK
    simp only [visEnc]
    gi_wp2
    exact hK _ _ (Stp.refl _ _ _) ⟨hI, by simp⟩
  case body =>
    rintro l m pre x a' W hsp ⟨⟨h1, h2⟩, rfl⟩
    have hc := Boxed.cell h1
    have hfz := Boxed.frozen h1
    have hlt := maxP_mem (pre_mem hsp)
    rw [maxP_vis] at hlt
    simp only [Vis.key, List.length_nil] at hlt
    have hn : maxP (pre.map Vis.key) ≤ t.depth := by
      have := maxP_pre hsp
      rw [maxP_vis, List.map_append, maxP_app] at this
      simp only [List.length_nil] at this
      omega
    have hstep : maxP ((pre ++ [x]).map Vis.key) = max (maxP (pre.map Vis.key)) (1 + x.pos.length) := by
      rw [List.map_append, maxP_app]
      simp [maxP, Vis.key]
    gi_wp2
    all_goals
      refine ⟨⟨?_, h2.setCell (by show _ ≤ w.heap.size + 1; omega) _⟩, ⟨(Keeps.set _ _ _).mono fun g e => ?_, fun g e => .inl e⟩⟩
      · refine Eq.trans (Boxed.set _ h1) ?_
        rw [hstep]
        refine congrArg (fun v => some (Obj.cells #[Value.int .i64 v] 3)) ?_
        omega
      · show g ≠ w.heap.size + 1
        rcases e with e | e
        · have e' : g < w.heap.size := e; omega
        · have e' : ¬ g < w.heap.size + 2 := e.2; omega
  case done =>
    rintro D ys W hD hS ⟨h1, h2⟩ hK
    have hc := Boxed.cell h1
    have hl := congrArg maxP hS
    rw [maxP_vis, List.length_nil, Nat.zero_add] at hl
    have Hl := Lib.hid hl
    clear hS hl
    go_wp2
    refine ⟨by simp, .inl ⟨_, _, rfl, run_takeDeferred hK, ?_⟩⟩
    exact ⟨.int .i64 (maxP (ys.map Vis.key) : Int), by simp [results, Tryd.results21, go_sem], by rw [Hl.out], h2.trans (belowK_b (w := w) (Nat.le_refl _) W D _ _ (by omega) hK rfl rfl)⟩
  case stop => exact fun _ _ _ _ _ _ h _ => h.elim
end Go.Proofs.YtkgikjjngbifjaaDoor
