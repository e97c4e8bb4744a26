/- Vars. -/
import Derived.Test.YtkgikjjngbifjaaDoorN3
import Derived.Test.YtkgikjjngbifjaaDoorS2
import Derived.Sort.OwnSortedInts
import Derived.Maps.AppendAt
import Derived.Lib.RowBridge
namespace Go.Proofs.YtkgikjjngbifjaaDoor
open Go.RowKit Go.Shelf
attribute [local go_sem] Oper.semAt_some
set_option maxRecDepth 100000

/-- A call's contract, in a round of a range. -/
theorem calls_round {P : Program} {f : FuncId} {args : Array Value} {w : World} {R : Ending → World → Prop} (l m : Nat) (h : Calls P f args w R) : CallsIn (Fence.wide.inRound l) m P f args w R := (callsIn_wide (n := m)).2 h

/-- What Vars has laid so far: the row's slice in its cell, the row. -/
structure VarsI (w W : World) (k : List Int) : Prop where
  cell : ∃ v, Boxed W (w.heap.size + 1) 34 v ∧ W.ownsRow (w.heap.size + 3) 3 1 v k.length (k.map (Value.int .i64))
  below : Below w.heap.size w W
  big : w.heap.size + 2 < W.heap.size
/-- The blocks that a round may turn: the old ones, the two boxes, the row. -/
def VarsC (h : Nat) (W : World) (g : Nat) : Prop := g < h + 2 ∨ ∃ v, Boxed W (h + 1) 34 v ∧ v.ownBlock = some g
theorem boxed_eq {W : World} {B : Nat} {t : TypeId} {v u : Value} (h : Boxed W B t v) (k : Boxed W B t u) : v = u := by
  have h' : W.heap[B]? = some (.cells #[v] t (0, 0)) := h
  have k' : W.heap[B]? = some (.cells #[u] t (0, 0)) := k
  rw [h'] at k'
  injection k' with k'
  injection k' with k'
  simpa using k'
theorem vars_frame (w : World) : FrameC (VarsC w.heap.size) (fun (pre : List Vis) W => VarsI w W (vnums (pre.map Vis.key))) := by
  rintro s A B ⟨⟨v, h1, h2⟩, h3, h4⟩ hk
  have e1 : Boxed B (w.heap.size + 1) 34 v := (hk.block _ (.inl (by omega))).trans h1
  refine ⟨⟨⟨v, e1, row_keep h2 fun g e => hk.block g (.inr ⟨v, h1, e⟩)⟩, h3.trans (hk.below fun g e => .inl (by omega)), Nat.lt_of_lt_of_le h4 hk.size⟩, fun g e => ?_⟩
  rcases e with e | ⟨u, hu, e⟩
  · exact .inl e
  · obtain rfl := boxed_eq e1 hu
    exact .inr ⟨v, h1, e⟩
theorem vars_bound (w : World) : BoundC (VarsC w.heap.size) (fun (pre : List Vis) W => VarsI w W (vnums (pre.map Vis.key))) := by
  rintro s A ⟨⟨v, h1, h2⟩, h3, _⟩ g e
  have hlt := h1.lt
  rcases e with e | ⟨u, hu, e⟩
  · omega
  · obtain rfl := boxed_eq h1 hu
    exact (row_lt h2 g e).2

theorem vars_step {w W w1 w2 : World} {k : List Int} {z : Int} {v v' : Value} {o : Obj} (h : VarsI w W k) (hv : Boxed W (w.heap.size + 1) 34 v) (hrow : W.ownsRow (w.heap.size + 3) 3 1 v k.length (k.map (Value.int .i64))) (hb1 : Below W.heap.size W w1)
    (hown : w2.ownsRow (w.heap.size + 3) 3 1 v' (k.length + 1) (k.map (Value.int .i64) ++ [.int .i64 z])) (hgr : (w1.alloc o).grownBy w2 v.ownBlock) (hat : v'.ownBlock = v.ownBlock ∨ v'.ownBlock = some (w1.alloc o).heap.size) :
    VarsI w (w2.setCell ⟨w.heap.size + 1, 0, none⟩ v') (k ++ [z]) ∧ Stp (· < w.heap.size) (VarsC w.heap.size) W (w2.setCell ⟨w.heap.size + 1, 0, none⟩ v') := by
  have hlt := row_lt hrow
  have hbig := h.big
  have hs1 := hb1.size
  have K1 : Keeps (fun g => g < W.heap.size ∧ some g ≠ v.ownBlock) W w2 := ((Keeps.of_below hb1).mono fun g e => e.1).trans (((Keeps.alloc w1 o).mono (T := fun g => g < W.heap.size ∧ some g ≠ v.ownBlock) fun g e => by show g < _; omega).trans ((Keeps.of_grown hgr).mono fun g e => ⟨by simp; omega, e.2⟩))
  have hs2 := K1.size
  have e1 : Boxed w2 (w.heap.size + 1) 34 v := (K1.block _ ⟨by omega, fun e => by have := (hlt _ e.symm).1; omega⟩).trans hv
  have e2 := Boxed.set v' e1
  refine ⟨⟨⟨v', e2, ?_⟩, (h.below.trans (K1.below fun g e => ⟨by omega, fun e' => by have := (hlt _ e'.symm).1; omega⟩)).setCell (by show _ ≤ w.heap.size + 1; omega) _, by simpa using Nat.lt_of_lt_of_le hbig hs2⟩, ⟨?_, ?_⟩⟩
  · rw [List.length_append, List.map_append]
    refine row_keep hown fun g e => heap_setCell_other _ _ _ _ ?_
    have := (row_lt hown g e).1
    show g ≠ w.heap.size + 1
    omega
  · refine (K1.mono fun g hg => ?_).trans ((Keeps.set w2 ⟨w.heap.size + 1, 0, none⟩ v').mono fun g hg => ?_)
    · rcases hg with hg | hg
      · have hg' : g < w.heap.size := hg
        exact ⟨by omega, fun e => by have := (hlt _ e.symm).1; omega⟩
      · exact ⟨hg.1, fun e => hg.2 (.inr ⟨v, hv, e.symm⟩)⟩
    · show g ≠ w.heap.size + 1
      rcases hg with hg | hg
      · have hg' : g < w.heap.size := hg
        omega
      · exact fun e => hg.2 (.inl (by omega))
  · rintro g (e | ⟨u, hu, e⟩)
    · exact .inl (.inl e)
    · obtain rfl := boxed_eq e2 hu
      rcases hat with e3 | e3
      · exact .inl (.inr ⟨v, hv, e3 ▸ e⟩)
      · rw [e3] at e
        injection e with e
        simp at e
        exact .inr (by omega)

theorem vars_box {w W w1 w2 : World} {k : List Int} {v : Value} {o : Obj} (h : VarsI w W k) (hv : Boxed W (w.heap.size + 1) 34 v) (hrow : W.ownsRow (w.heap.size + 3) 3 1 v k.length (k.map (Value.int .i64))) (hb1 : Below W.heap.size W w1) (hgr : (w1.alloc o).grownBy w2 v.ownBlock) : Boxed w2 (w.heap.size + 1) 34 v := by
  have hbig := h.big
  have hs1 := hb1.size
  refine (hgr.block _ (by simp; omega) fun e => by have := (row_lt hrow _ e.symm).1; omega).trans ((Below.heap_alloc w1 o _ (by omega)).trans ((hb1.block _ (by omega)).trans hv))
/-- 'append' as one operation of a region that draws, in a fence. -/
theorem opIn_append_at {F : Fence} {n : Nat} {P : Program} (w : World) {ops : Array Oper} {o : Oper} {a : Act} {K : Act → World → Prop} {Q : Exit → Act → World → Prop} {X : Prop}
    (hg : o.guard = none) (s x : Operand) (t : TypeId) (hop : o.op = Op.call { callee := Callee.builtin Builtin.append, args := #[s, x], argTypes := #[t, t] })
    (base : Nat) (e : TypeId) (i : TypeInfo) (z : Value) (size bytes : Nat) (h1 : P.underlying t = some (.slice e)) (h2 : P.info? e = some i) (h3 : i.zero = some z) (h4 : i.size = size) (h5 : i.bytes = bytes) (h6 : z.cells.size = size) (h7 : 0 < size)
    (v : Value) (k : Nat) (xs : List Value) (hs : a.eval s = v) (hown : w.ownsRow base e size v k xs) (ad : Addr) (m c : Nat) (news : List Value) (hx : a.eval x = .slice (some ad) m c) (hn : news.length = m * size)
    (hc : ∀ j u, news[j]? = some u → w.cell? (ad.add j) = some u) (h1c : ∀ u ∈ news, u.oneCell' = true) (b1 : k + m ≤ maxLen) (b2 : (k + m) * bytes ≤ 140737488355328) (b3 : base ≤ w.heap.size)
    (hK : ∀ v' w', w'.ownsRow base e size v' (k + m) (xs ++ news) → w.grownBy w' v.ownBlock → (v'.ownBlock = v.ownBlock ∨ v'.ownBlock = some w.heap.size) → K (a.put o.dst v') w') :
    if Region.wanted o (yielded ops a.tmps) = true then Oper.wpIn F n P o a w K Q else X := by
  obtain ⟨v', w', hrun, r1, r2, _, r4⟩ := run_append_own_at (P := P) w base t o.type e i z size bytes h1 h2 h3 h4 h5 h6 h7 v k xs hown ad m c news hn hc h1c b1 b2 b3
  rw [if_pos (by simp [Region.wanted, hg])]
  refine ⟨?_, ?_⟩
  · simp [Oper.about, hop, resolve, Target.leads, Sem.run_pure]
  · rw [Oper.semAt_plain F _ _ (by rw [hop]; intro c hc'; cases hc')]
    simp [execOp, hop, resolve, invoke, builtin, hs, hx, hrun, Result.andThen]
    exact hK _ _ r1 r2 r4

theorem vn_i64 {w : World} (t : Tm) : ∀ {B : Nat} {A : Option Addr}, I64 t.fn → Args w B A t.args → ∀ x ∈ vn t, I64 x := by
  refine Tm.ind (P := fun t => ∀ {B : Nat} {A : Option Addr}, I64 t.fn → Args w B A t.args → ∀ x ∈ vn t, I64 x) (fun f xs ih => ?_) t
  intro B A hf hA x hx
  simp only [Tm.fn, Tm.args] at hf hA
  simp only [vn, List.mem_append] at hx
  rcases hx with hx | hx
  · split at hx
    · simp only [List.mem_cons, List.not_mem_nil, or_false] at hx
      subst hx
      exact ⟨by have := hf.1; omega, by have := hf.1; omega⟩
    · simp at hx
  · have key : ∀ ys : List Tm, x ∈ vnL ys → ∃ u ∈ ys, x ∈ vn u := by
      intro ys
      induction ys with
      | nil => intro h; simp [vnL] at h
      | cons y ys ihy =>
        intro h
        simp only [vnL, List.mem_append] at h
        rcases h with h | h
        · exact ⟨y, by simp, h⟩
        · obtain ⟨u, hu, h⟩ := ihy h
          exact ⟨u, by simp [hu], h⟩
    obtain ⟨u, hu, h⟩ := key xs hx
    obtain ⟨i, hi⟩ := List.mem_iff_getElem?.1 hu
    obtain ⟨_, _, A1, c1, _, ha⟩ := hA.get hi
    exact ih u hu ha.hi ha.sub x h

set_option maxHeartbeats 2000000 in
theorem termVars_any (t : Tm) (A : Option Addr) (c : Nat) (w : World) (hf : I64 t.fn) (hA : Args w w.heap.size A t.args) (hdp : t.depth ≤ 1099511627776) (hsz : t.size ≤ 4398046511104) :
    Calls Tryd.prog 14 #[.agg #[.int .i64 t.fn, .slice A t.args.length c]] w (InsPost ((vn t).foldl insI []) w) := by
  obtain ⟨i0, hi, hz0, hz1, hz2⟩ := info_parts infoInt
  refine (callsIn_wide (n := 3)).1 (callsIn_of_wp_marks Tryd.func14 rfl trivial ?_ rfl)
  simp only [Tryd.ntmps14, List.size_toArray, List.length_cons, List.length_nil, Nat.reduceAdd, Nat.reduceSub, Array.replicate_succ, Array.replicate_zero, List.push_toArray, List.append_toArray, List.nil_append, List.cons_append]
  refine wpIn_wide.2 ?_
  go_wp2_with (first
    | (go_at_call 41
       refine (walk_any t A c _).mono ?_
       rintro e w1 ⟨rfl, rfl⟩)
    | fail)
  obtain ⟨p0, p1, p2⟩ := heap3 w (.cells #[.int .i64 t.fn, .slice A t.args.length c] 27) (.cells #[.slice none 0 0] 34) (.cells #[.int .i64 t.fn, .slice A t.args.length c] 27)
  obtain ⟨W, hW⟩ : ∃ W, (((w.alloc (.cells #[.int .i64 t.fn, .slice A t.args.length c] 27)).alloc (.cells #[.slice none 0 0] 34)).alloc (.cells #[.int .i64 t.fn, .slice A t.args.length c] 27)) = W := ⟨_, rfl⟩
  have hB : Below w.heap.size w W := by rw [← hW]; exact (((Below.refl _ _).alloc (Nat.le_refl _) _).alloc (by simp) _).alloc (by simp; omega) _
  rw [hW] at p0 p1 p2 ⊢
  have hz : w.heap.size + 2 < W.heap.size := (Array.getElem?_eq_some_iff.1 p2).1
  refine (wpIn_wide (n := 3)).1 ?_
  refine range_law (F := Fence.wide) (n := 3) (w0 := W) rfl rfl (gf := 64) (lb := #[.pointer (some ⟨w.heap.size + 2, 0, none⟩)]) rfl trivial (enters_of Tryd.func64 (by kernel_rfl) rfl)
    (fun m => walk1_seq Fence.wide rfl trivial trivial rfl m (w.heap.size + 2) t A c (· < w.heap.size) W p2 hf ((hA.toN).keep fun g e => hB.block g e) (fun g e => by have e' : g < w.heap.size := e; omega) hdp)
    (Below.refl _ _) (fun _ => rfl) (fun g e => by have e' : g < w.heap.size := e; omega)
    (VarsC w.heap.size) (fun pre W => VarsI w W (vnums (pre.map Vis.key))) (fun _ _ _ => False)
    (vars_frame w) (vars_bound w) (fun _ _ _ _ h _ => h.elim) ⟨⟨.slice none 0 0, p1, by simpa [vnums] using World.ownsRow_nil W _ _ _⟩, hB, hz⟩ (fun pre x a' W => VarsI w W (vnums (pre.map Vis.key)) ∧ I64 x.t.fn ∧ ∃ Bx, W.heap[Bx]? = some (.cells #[.int .i64 x.t.fn, .slice x.A' x.t.args.length x.c'] 27) ∧ w.heap.size + 2 < Bx ∧ ¬ VarsC w.heap.size W Bx ∧ a' = { tmps := #[.agg #[.int .i64 t.fn, .slice A t.args.length c], .pointer (some ⟨w.heap.size, 0, none⟩), .slice none 0 0, .pointer (some ⟨w.heap.size + 1, 0, none⟩), undef, .pointer (some ⟨Bx, 0, none⟩), .agg #[.int .i64 t.fn, .slice A t.args.length c], .func (.func 64) #[] #[.pointer (some ⟨w.heap.size + 1 + 1, 0, none⟩)], .slice x.A x.pos.length x.c, .agg #[.int .i64 x.t.fn, .slice x.A' x.t.args.length x.c'], undef, undef, undef, undef, undef, undef, undef, undef, undef, undef, undef, undef], defers := [] }) ?hAx ?assign ?body ?done (fun _ _ _ _ _ _ h _ => h.elim)
  case hAx =>
    rintro pre x a' W l r o ⟨h1, h2, Bx, hbx, h3, h4, rfl⟩ hl hr hn
    have hK := Keeps.put W l o
    obtain ⟨h5, h6⟩ := vars_frame w pre W (W.putObj l o) h1 (hK.mono fun g e e' => hn (e' ▸ e))
    exact ⟨h6, h5, h2, Bx, put_block hbx hr, h3, fun e => h4 (h6 _ e), rfl⟩
  case assign =>
    rintro l m pre x W K h1 _ hfx hK
    simp only [visEnc]
    gi_wp2
    have hs := h1.below.size
    have hKa := Keeps.alloc W (.cells #[.int .i64 x.t.fn, .slice x.A' x.t.args.length x.c'] 27)
    have hbd := vars_bound w pre W h1
    obtain ⟨h5, h6⟩ := vars_frame w pre W _ h1 (hKa.mono fun g e => hbd g e)
    exact hK _ _ ⟨hKa.mono fun g e => e.elim (fun e => Nat.lt_of_lt_of_le e hs) (fun e => e.1), fun g e => .inl (h6 g e)⟩ ⟨h5, hfx.i64, W.heap.size, heap_alloc_new _ _, h1.big, fun e => Nat.lt_irrefl _ (hbd _ (h6 _ e)), by simp⟩
  case body =>
    rintro l m pre x a' W hsp ⟨h1, h2, Bx, hbx, h3, h4, rfl⟩
    obtain ⟨v, hv, hrow⟩ := h1.cell
    have hc := Boxed.cell hv
    have hfz := Boxed.frozen hv
    obtain ⟨b0, b1, _, _⟩ := cells_two hbx
    by_cases hneg : x.t.fn < 0
    · have Hn := Lib.hid (vnums_snoc_neg hneg (pre := pre))
      have hkl : (vnums (pre.map Vis.key)).length + 1 ≤ 4398046511104 := by
        have h5 := (vnums_pre hsp).length_le
        rw [Hn.out, vnums_vis, List.length_append] at h5
        have := vn_len t
        simp at h5
        omega
      gi_wp2
      refine wpIn_region_any (by kernel_rfl) ?_
      change wpAnyIn _ _ _ _ _ _ _ _ _ W.drew
      refine wpAnyIn_ready (rs := [0, 1]) (by kernel_rfl) (by simp) ?_
      refine AllReadyIn.cons rfl (fun K hK => ?_) (AllReadyIn.cons rfl (fun K hK => ?_) AllReadyIn.nil)
      · go_simp
        refine hK _ _ ?_
        clear hK K
        refine wpAnyIn_ready (rs := [1]) (by kernel_rfl) (by simp) ?_
        refine AllReadyIn.cons rfl (fun K hK => ?_) AllReadyIn.nil
        · go_simp
          refine hK _ _ ?_
          clear hK K
          refine wpAnyIn_ready (rs := [2]) (by kernel_rfl) (by simp) ?_
          refine AllReadyIn.cons rfl (fun K hK => ?_) AllReadyIn.nil
          · go_simp
            refine ⟨trivial, (fun h => by cases h), (calls_round l _ (variable_any x.t.fn _ W.drew h2 hneg)).mono ?_⟩
            rintro e w1 ⟨rfl, hb1⟩
            have hca := Boxed.cell (Boxed.alloc (show Boxed w1 (w.heap.size + 1) 34 v from (hb1.block _ hv.lt).trans hv) (.cells #[.int .i64 (-1 - x.t.fn)] 3))
            have hc1 := (Boxed.cell (show Boxed w1 (w.heap.size + 1) 34 v from (hb1.block _ hv.lt).trans hv))
            refine hK _ _ ?_
            clear hK K
            refine wpAnyIn_ready (rs := [3]) (by kernel_rfl) (by simp) ?_
            refine AllReadyIn.cons rfl (fun K hK => ?_) AllReadyIn.nil
            · go_simp
              refine hK _ _ ?_
              clear hK K
              have hb1' : Below W.heap.size W w1 := ⟨hb1.os, hb1.tape, hb1.output, hb1.size, hb1.block⟩
              have hs1 := hb1'.size
              have hs0 := h1.big
              refine wpAnyIn_ready (rs := [4]) (by kernel_rfl) (by simp) ?_
              refine AllReadyIn.cons rfl (fun K hK => ?_) AllReadyIn.nil
              refine opIn_append_at _ rfl _ _ 34 rfl (w.heap.size + 3) 3 i0 (.int .i64 0) 1 8 Tryd.underlying34 hi hz0 hz1 hz2 rfl (by decide) v _ _ rfl ((row_keep hrow fun g e => hb1'.block g (row_lt hrow g e).2).alloc _) ⟨w1.heap.size, 0, none⟩ 1 1 [.int .i64 (-1 - x.t.fn)] rfl rfl (cell_one_new _ _ _) (by simp [Value.oneCell']) (by unfold maxLen; omega) (by omega) (by simp; omega) ?_
              intro v2 w2 hown2 hgr2 hat2
              obtain ⟨g2, cap2, rfl⟩ := ownsRow_succ hown2
              have hst := vars_step h1 hv hrow hb1' hown2 hgr2 hat2
              have hbx2 := vars_box h1 hv hrow hb1' hgr2
              have hfz2 := hbx2.frozen
              have hc2 := hbx2.cell
              refine hK _ _ ?_
              clear hK K
              refine wpAnyIn_ready (rs := [5]) (by kernel_rfl) (by simp) ?_
              refine AllReadyIn.cons rfl (fun K hK => ?_) AllReadyIn.nil
              go_simp
              refine hK _ _ ?_
              clear hK K
              refine wpAnyIn_done (by kernel_rfl) ?_ _
              refine ⟨?_, hst.2⟩
              exact (congrArg (VarsI w _) Hn.out).mpr hst.1
      · go_simp
        refine hK _ _ ?_
        clear hK K
        refine wpAnyIn_ready (rs := [0, 2]) (by kernel_rfl) (by simp) ?_
        refine AllReadyIn.cons rfl (fun K hK => ?_) (AllReadyIn.cons rfl (fun K hK => ?_) AllReadyIn.nil)
        · go_simp
          refine hK _ _ ?_
          clear hK K
          refine wpAnyIn_ready (rs := [2]) (by kernel_rfl) (by simp) ?_
          refine AllReadyIn.cons rfl (fun K hK => ?_) AllReadyIn.nil
          · go_simp
            refine ⟨trivial, (fun h => by cases h), (calls_round l _ (variable_any x.t.fn _ W.drew h2 hneg)).mono ?_⟩
            rintro e w1 ⟨rfl, hb1⟩
            have hca := Boxed.cell (Boxed.alloc (show Boxed w1 (w.heap.size + 1) 34 v from (hb1.block _ hv.lt).trans hv) (.cells #[.int .i64 (-1 - x.t.fn)] 3))
            have hc1 := (Boxed.cell (show Boxed w1 (w.heap.size + 1) 34 v from (hb1.block _ hv.lt).trans hv))
            refine hK _ _ ?_
            clear hK K
            refine wpAnyIn_ready (rs := [3]) (by kernel_rfl) (by simp) ?_
            refine AllReadyIn.cons rfl (fun K hK => ?_) AllReadyIn.nil
            · go_simp
              refine hK _ _ ?_
              clear hK K
              have hb1' : Below W.heap.size W w1 := ⟨hb1.os, hb1.tape, hb1.output, hb1.size, hb1.block⟩
              have hs1 := hb1'.size
              have hs0 := h1.big
              refine wpAnyIn_ready (rs := [4]) (by kernel_rfl) (by simp) ?_
              refine AllReadyIn.cons rfl (fun K hK => ?_) AllReadyIn.nil
              refine opIn_append_at _ rfl _ _ 34 rfl (w.heap.size + 3) 3 i0 (.int .i64 0) 1 8 Tryd.underlying34 hi hz0 hz1 hz2 rfl (by decide) v _ _ rfl ((row_keep hrow fun g e => hb1'.block g (row_lt hrow g e).2).alloc _) ⟨w1.heap.size, 0, none⟩ 1 1 [.int .i64 (-1 - x.t.fn)] rfl rfl (cell_one_new _ _ _) (by simp [Value.oneCell']) (by unfold maxLen; omega) (by omega) (by simp; omega) ?_
              intro v2 w2 hown2 hgr2 hat2
              obtain ⟨g2, cap2, rfl⟩ := ownsRow_succ hown2
              have hst := vars_step h1 hv hrow hb1' hown2 hgr2 hat2
              have hbx2 := vars_box h1 hv hrow hb1' hgr2
              have hfz2 := hbx2.frozen
              have hc2 := hbx2.cell
              refine hK _ _ ?_
              clear hK K
              refine wpAnyIn_ready (rs := [5]) (by kernel_rfl) (by simp) ?_
              refine AllReadyIn.cons rfl (fun K hK => ?_) AllReadyIn.nil
              go_simp
              refine hK _ _ ?_
              clear hK K
              refine wpAnyIn_done (by kernel_rfl) ?_ _
              refine ⟨?_, hst.2⟩
              exact (congrArg (VarsI w _) Hn.out).mpr hst.1
        · go_simp
          refine ⟨trivial, (fun h => by cases h), (calls_round l _ (variable_any x.t.fn _ W.drew h2 hneg)).mono ?_⟩
          rintro e w1 ⟨rfl, hb1⟩
          have hca := Boxed.cell (Boxed.alloc (show Boxed w1 (w.heap.size + 1) 34 v from (hb1.block _ hv.lt).trans hv) (.cells #[.int .i64 (-1 - x.t.fn)] 3))
          have hc1 := (Boxed.cell (show Boxed w1 (w.heap.size + 1) 34 v from (hb1.block _ hv.lt).trans hv))
          refine hK _ _ ?_
          clear hK K
          refine wpAnyIn_ready (rs := [0, 3]) (by kernel_rfl) (by simp) ?_
          refine AllReadyIn.cons rfl (fun K hK => ?_) (AllReadyIn.cons rfl (fun K hK => ?_) AllReadyIn.nil)
          · go_simp
            refine hK _ _ ?_
            clear hK K
            refine wpAnyIn_ready (rs := [3]) (by kernel_rfl) (by simp) ?_
            refine AllReadyIn.cons rfl (fun K hK => ?_) AllReadyIn.nil
            · go_simp
              refine hK _ _ ?_
              clear hK K
              have hb1' : Below W.heap.size W w1 := ⟨hb1.os, hb1.tape, hb1.output, hb1.size, hb1.block⟩
              have hs1 := hb1'.size
              have hs0 := h1.big
              refine wpAnyIn_ready (rs := [4]) (by kernel_rfl) (by simp) ?_
              refine AllReadyIn.cons rfl (fun K hK => ?_) AllReadyIn.nil
              refine opIn_append_at _ rfl _ _ 34 rfl (w.heap.size + 3) 3 i0 (.int .i64 0) 1 8 Tryd.underlying34 hi hz0 hz1 hz2 rfl (by decide) v _ _ rfl ((row_keep hrow fun g e => hb1'.block g (row_lt hrow g e).2).alloc _) ⟨w1.heap.size, 0, none⟩ 1 1 [.int .i64 (-1 - x.t.fn)] rfl rfl (cell_one_new _ _ _) (by simp [Value.oneCell']) (by unfold maxLen; omega) (by omega) (by simp; omega) ?_
              intro v2 w2 hown2 hgr2 hat2
              obtain ⟨g2, cap2, rfl⟩ := ownsRow_succ hown2
              have hst := vars_step h1 hv hrow hb1' hown2 hgr2 hat2
              have hbx2 := vars_box h1 hv hrow hb1' hgr2
              have hfz2 := hbx2.frozen
              have hc2 := hbx2.cell
              refine hK _ _ ?_
              clear hK K
              refine wpAnyIn_ready (rs := [5]) (by kernel_rfl) (by simp) ?_
              refine AllReadyIn.cons rfl (fun K hK => ?_) AllReadyIn.nil
              go_simp
              refine hK _ _ ?_
              clear hK K
              refine wpAnyIn_done (by kernel_rfl) ?_ _
              refine ⟨?_, hst.2⟩
              exact (congrArg (VarsI w _) Hn.out).mpr hst.1
          · go_simp
            refine hK _ _ ?_
            clear hK K
            refine wpAnyIn_ready (rs := [0]) (by kernel_rfl) (by simp) ?_
            refine AllReadyIn.cons rfl (fun K hK => ?_) AllReadyIn.nil
            · go_simp
              refine hK _ _ ?_
              clear hK K
              have hb1' : Below W.heap.size W w1 := ⟨hb1.os, hb1.tape, hb1.output, hb1.size, hb1.block⟩
              have hs1 := hb1'.size
              have hs0 := h1.big
              refine wpAnyIn_ready (rs := [4]) (by kernel_rfl) (by simp) ?_
              refine AllReadyIn.cons rfl (fun K hK => ?_) AllReadyIn.nil
              refine opIn_append_at _ rfl _ _ 34 rfl (w.heap.size + 3) 3 i0 (.int .i64 0) 1 8 Tryd.underlying34 hi hz0 hz1 hz2 rfl (by decide) v _ _ rfl ((row_keep hrow fun g e => hb1'.block g (row_lt hrow g e).2).alloc _) ⟨w1.heap.size, 0, none⟩ 1 1 [.int .i64 (-1 - x.t.fn)] rfl rfl (cell_one_new _ _ _) (by simp [Value.oneCell']) (by unfold maxLen; omega) (by omega) (by simp; omega) ?_
              intro v2 w2 hown2 hgr2 hat2
              obtain ⟨g2, cap2, rfl⟩ := ownsRow_succ hown2
              have hst := vars_step h1 hv hrow hb1' hown2 hgr2 hat2
              have hbx2 := vars_box h1 hv hrow hb1' hgr2
              have hfz2 := hbx2.frozen
              have hc2 := hbx2.cell
              refine hK _ _ ?_
              clear hK K
              refine wpAnyIn_ready (rs := [5]) (by kernel_rfl) (by simp) ?_
              refine AllReadyIn.cons rfl (fun K hK => ?_) AllReadyIn.nil
              go_simp
              refine hK _ _ ?_
              clear hK K
              refine wpAnyIn_done (by kernel_rfl) ?_ _
              refine ⟨?_, hst.2⟩
              exact (congrArg (VarsI w _) Hn.out).mpr hst.1
    · have Hn := Lib.hid (vnums_snoc_pos hneg (pre := pre))
      gi_wp2
      exact ⟨(congrArg (VarsI w W) Hn.out).mpr h1, Stp.refl _ _ _⟩
  case done =>
    rintro D ys W hD hS h1 hK
    have hb1 := h1.below
    obtain ⟨v, hv, hrow⟩ := h1.cell
    rw [hS, vnums_vis] at hrow
    have hL : ∀ x ∈ vn t, I64 x := vn_i64 t hf hA
    have hZ : ∀ x ∈ (vn t).foldl insI [], I64 x := fun x hx => hL x ((((insI_fold (vn t) [] List.Pairwise.nil).2 x).1 hx).elim (fun h => by simp at h) id)
    have hsi := Lib.hid (sort_ins (vn t))
    have hlen := vn_len t
    clear hS h1
    by_cases h0 : vn t = []
    · rw [h0] at hrow
      have hv0 : ∃ p cp, v = .slice p 0 cp := by
        rcases hrow.2 with ⟨rfl, _⟩ | ⟨g, cap, cur, rfl, _⟩
        · exact ⟨none, 0, rfl⟩
        · exact ⟨_, cap, rfl⟩
      obtain ⟨p, cp, rfl⟩ := hv0
      have hc := Boxed.cell hv
      have h0' := Lib.hid h0
      clear h0 hrow
      go_wp2_with (first
        | (go_at_call 43; refine (Tryd.slices_Sort_int_none p cp W).mono ?_; rintro e w1 ⟨rfl, rfl⟩)
        | (go_at_call 44; refine (Tryd.slices_Compact_int_empty p cp w1).mono ?_; rintro e w2 ⟨rfl, rfl⟩)
        | fail)
      refine ⟨by simp, .inl ⟨_, _, rfl, run_takeDeferred hK, ?_⟩⟩
      exact ⟨.slice p 0 cp, by simp [results, Tryd.results14, go_sem], .slice p 0 cp, rfl, ⟨p, cp, by rw [h0'.out]; rfl, by rw [h0'.out]; exact ⟨by simp, by simp, fun h => by simp at h⟩⟩, hb1.trans (belowK_b (w := w) (Nat.le_refl _) w2 D _ _ (by omega) hK rfl rfl)⟩
    · have hpos : 0 < (vn t).length := List.length_pos_iff.2 h0
      rcases hrow.2 with ⟨_, h⟩ | ⟨g, cap, cur, rfl, hbg, hg, hcap, hcm, hcur, htk⟩
      · omega
      · have hc := Boxed.cell hv
        have hgl : g < W.heap.size := (Array.getElem?_eq_some_iff.1 hg).1
        have hgD : D ≠ g := fun e => by rw [e, hg] at hK; cases hK
        rw [Nat.mul_one] at htk
        obtain ⟨Z, hZe⟩ : ∃ Z, Z = (vn t).mergeSort fun x y => decide (x ≤ y) := ⟨_, rfl⟩
        have hZl : Z.length = (vn t).length := by rw [hZe]; exact List.length_mergeSort _
        have hsort := Tryd.slices_Sort_int g 0 cap (vn t) W (holds_of_blockI hg htk) hgl (by omega)
        rw [← hZe] at hsort
        have hzc : ∃ Y : List Int, Y = Lib.compact Z ++ List.replicate (Z.length - (Lib.compact Z).length) 0 ∧ Y.length = (vn t).length ∧ (Lib.compact Z).length ≤ (vn t).length := by
          have := Lib.compact_length_le Z
          exact ⟨_, rfl, by simp; omega, by omega⟩
        obtain ⟨Y, hYe, hYl, hcl⟩ := hzc
        have hafter : ∀ w1, (∃ n os, w1 = Sort.grow (Sort.putRow (Value.int .i64) (Sort.ahead W n) g 0 Z.toArray) os) → Boxed w1 (w.heap.size + 1) 34 (.slice (some ⟨g, 0, none⟩) (vn t).length cap) ∧ W.grownBy w1 (some g) ∧
            Calls Tryd.prog 44 #[.slice (some ⟨g, 0, none⟩) (vn t).length cap] w1 fun e w2 => e = .returned (.slice (some ⟨g, 0, none⟩) (Lib.compact Z).length cap) ∧ w1.grownBy w2 (some g) ∧ Ints w2 w2.heap.size (some ⟨g, 0, none⟩) (Lib.compact Z) := by
          rintro w1 ⟨n, os, rfl⟩
          have hgr := grownBy_sortedI (w := W) (g := g) (n := n) (os := os) Z.toArray
          have hhp := heap_sortedI (n := n) (os := os) Z.toArray hg
          have htk2 := take_putCellsI cur Z (by omega)
          refine ⟨hv.kept hgr (fun e => by injection e with e; omega), hgr, ?_⟩
          have hcm2 := Tryd.slices_Compact_int g 0 cap Z _ (holds_of_blockI hhp htk2) (by omega) (by omega)
          rw [hZl] at hcm2
          refine hcm2.mono ?_
          rintro e w2 ⟨rfl, q, rfl⟩
          refine ⟨rfl, ?_, ?_⟩
          · have := grownBy_sortedI (w := Sort.grow (Sort.putRow (Value.int .i64) (Sort.ahead W n) g 0 Z.toArray) os) (g := g) (n := q) (os := #[]) (Lib.compact Z ++ List.replicate ((vn t).length - (Lib.compact Z).length) 0).toArray
            rwa [Sort.grow_empty] at this
          · have hhp2 := heap_sortedI (n := q) (os := #[]) (Lib.compact Z ++ List.replicate ((vn t).length - (Lib.compact Z).length) 0).toArray hhp
            rw [Sort.grow_empty] at hhp2
            have htk3 := take_putCellsI (Sort.putCells (Value.int .i64) 0 Z.toArray cur) (Lib.compact Z ++ List.replicate ((vn t).length - (Lib.compact Z).length) 0) (by simp [Sort.putCells]; omega)
            have hh := holds_of_blockI hhp2 htk3
            refine ⟨by omega, fun x hx => hZ x (by rw [← hsi.out, ← hZe]; exact hx), fun hn => ⟨g, 0, rfl, (Array.getElem?_eq_some_iff.1 hhp2).1, fun i x hx => ?_⟩⟩
            have hlt := (List.getElem?_eq_some_iff.1 hx).1
            rw [(hh i (by simp; omega)).1, getElem!_pos _ i (by simp; omega)]
            simp [List.getElem_append_left hlt, (List.getElem?_eq_some_iff.1 hx).2]
        have HZ := Lib.hid (show Lib.compact Z = (vn t).foldl insI [] by rw [hZe]; exact hsi.out)
        have haft := Lib.hid hafter
        have hsrt := Lib.hid hsort
        clear hafter hsort hrow hZe hYe hYl h0 htk
        go_wp2_with (first
          | (go_at_call 43; (with_reducible refine hsrt.out.mono ?_); go_must (rintro e w1 ⟨rfl, hw1⟩; obtain ⟨hv1, hg1, hcmp⟩ := haft.out _ hw1; have hc1 := Boxed.cell hv1; have hcmp := Lib.hid hcmp; clear hw1))
          | (go_at_call 44; (with_reducible refine hcmp.out.mono ?_); go_must (rintro e w2 ⟨rfl, hg2, hI2⟩))
          | fail)
        have hK1 : w1.heap[D]? = some (.deferred (some [])) := (hg1.block _ (Array.getElem?_eq_some_iff.1 hK).1 (fun e => by injection e with e; exact hgD e)).trans hK
        have hK2 : w2.heap[D]? = some (.deferred (some [])) := (hg2.block _ (Array.getElem?_eq_some_iff.1 hK1).1 (fun e => by injection e with e; exact hgD e)).trans hK1
        have hB2 : Below w.heap.size w w2 := (hb1.grown hg1 hb1.size (fun k e => by injection e with e; omega)).grown hg2 (Nat.le_trans hb1.size hg1.size) (fun k e => by injection e with e; omega)
        refine ⟨by simp, .inl ⟨_, _, rfl, run_takeDeferred hK2, ?_⟩⟩
        refine ⟨.slice (some ⟨g, 0, none⟩) (Lib.compact Z).length cap, by simp [results, Tryd.results14, go_sem], .slice (some ⟨g, 0, none⟩) (Lib.compact Z).length cap, rfl, ?_, hB2.trans (belowK_b (w := w) (Nat.le_refl _) w2 D _ _ (by omega) hK2 rfl rfl)⟩
        refine ⟨some ⟨g, 0, none⟩, cap, by rw [HZ.out], ?_⟩
        rw [← HZ.out]
        refine ⟨hI2.len, hI2.i64, fun hn => ?_⟩
        obtain ⟨b, off, hA', hlt, hcc⟩ := hI2.ad hn
        injection hA' with hA'
        injection hA' with e1 e2 _
        subst e1; subst e2
        exact ⟨g, 0, rfl, by simpa using hlt, fun i x hi => (cell_of_heap (World.putObj_heap_other (fun e => hgD e.symm))).trans (hcc i x hi)⟩
end Go.Proofs.YtkgikjjngbifjaaDoor
