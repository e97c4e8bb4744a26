import Derived.Test.YthgglobfkkcdgaaGreatP49S2
import Derived.Deep.LoopGhost
import Derived.Test.YthgglobfkkcdgaaGreatP49S1
import Derived.Deep.DeepCutAuto
import Derived.RangeFuncBox
import Derived.Laws.EntriesVeiled
import Derived.Lib.SlicesCompact
import Derived.Maps.OwnSet
import Derived.Deep.RegionLaw
namespace Go.Proofs.YthgglobfkkcdgaaGreat
open Go.RowKit Go.Shelf
set_option maxRecDepth 100000
def arndEnd (top : Int) : Tm → Tm
  | .node f [x] => if f = top then arndEnd top x else .node f [x]
  | t => t
theorem arnd_step {top f : Int} {x : Tm} (h : f = top) : arndEnd top (.node f [x]) = arndEnd top x := by rw [arndEnd, if_pos h]
theorem arnd_stop {top : Int} {t : Tm} (h : ¬ (t.fn = top ∧ t.args.length = 1)) : arndEnd top t = t := by
  obtain ⟨f, xs⟩ := t
  simp only [Tm.fn, Tm.args] at h
  match xs with
  | [] => rw [arndEnd]; intro _ _ e; cases e
  | [x] =>
    rw [arndEnd, if_neg]
    intro e
    exact h ⟨e, rfl⟩
  | x :: y :: ys => rw [arndEnd]; intro _ _ e; cases e
set_option maxHeartbeats 1000000 in
theorem around_any (s v : Tm) (A A2 : Option Addr) (c c2 : Nat) (w : World) (hA : Args w w.heap.size A s.args) :
    Calls Tryz.prog 110 #[.agg #[.int .i64 s.fn, .slice A s.args.length c], .agg #[.int .i64 v.fn, .slice A2 v.args.length c2]] w fun e w' => e = .returned (.bool (decide ((arndEnd s.fn s).fn = v.fn))) ∧ Below w.heap.size w w' := by
  obtain ⟨q0, q1⟩ := heap2 w (.cells #[.int .i64 s.fn, .slice A s.args.length c] 36) (.cells #[.int .i64 v.fn, .slice A2 v.args.length c2] 36)
  obtain ⟨W, hW⟩ : ∃ W, ((w.alloc (.cells #[.int .i64 s.fn, .slice A s.args.length c] 36)).alloc (.cells #[.int .i64 v.fn, .slice A2 v.args.length c2] 36)) = W := ⟨_, rfl⟩
  have hB : Below w.heap.size w W := by rw [← hW]; exact ((Below.refl _ _).alloc (Nat.le_refl _) _).alloc (by simp) _
  rw [hW] at q0 q1
  have hWs : w.heap.size + 1 < W.heap.size := (Array.getElem?_eq_some_iff.1 q1).1
  obtain ⟨x0, x1, _, _⟩ := cells_two q0
  have HW := Lib.hid hW
  have HA := Lib.hid hA
  obtain ⟨top, ht⟩ : ∃ top, s.fn = top := ⟨_, rfl⟩
  have H0 : Hid (∃ (u : Tm) (A1 : Option Addr) (c1 : Nat), arndEnd top s = arndEnd top u ∧ W.heap[w.heap.size]? = some (.cells #[.int .i64 u.fn, .slice A1 u.args.length c1] 36) ∧ W.heap[w.heap.size + 1]? = some (.cells #[.int .i64 v.fn, .slice A2 v.args.length c2] 36) ∧ Args w w.heap.size A1 u.args ∧ u.size ≤ s.size) := Lib.hid ⟨s, A, c, rfl, q0, q1, hA, Nat.le_refl _⟩
  rw [ht] at HW x0
  rw [ht]
  clear hW hA q0 q1 ht
  go_enter Tryz.func110, Tryz.ntmps110
  go_upto_region 1 with fail
  rw [HW.out]
  go_wp2
  clear x0 x1
  go_loopg [] s.size (fun gk wr => Below w.heap.size w wr ∧ Hid (∃ (u : Tm) (A1 : Option Addr) (c1 : Nat), arndEnd top s = arndEnd top u ∧ wr.heap[w.heap.size]? = some (.cells #[.int .i64 u.fn, .slice A1 u.args.length c1] 36) ∧ wr.heap[w.heap.size + 1]? = some (.cells #[.int .i64 v.fn, .slice A2 v.args.length c2] 36) ∧ Args w w.heap.size A1 u.args ∧ u.size ≤ gk))
  case atStart => exact ⟨hB, H0⟩
  case round =>
    obtain ⟨hBr, H⟩ := hrel
    obtain ⟨u, A1, c1, hev, r0, r1, hA1, hsz⟩ := H.out
    obtain ⟨y0, y1, z0, z1⟩ := cells_two r0
    obtain ⟨y2, y3, _, _⟩ := cells_two r1
    have Hev := Lib.hid hev
    have Hr0 := Lib.hid r0
    have Hr1 := Lib.hid r1
    clear hev r0 r1 H
    by_cases h : u.fn = top ∧ u.args.length = 1
    · obtain ⟨h1, h2⟩ := h
      obtain ⟨f, xs⟩ := u
      simp only [Tm.fn, Tm.args] at h1 h2 hA1 y0 y1 Hr0
      obtain ⟨x, rfl⟩ : ∃ x, xs = [x] := by
        match xs, h2 with
        | [x], _ => exact ⟨x, rfl⟩
      subst h1
      obtain ⟨bb, off, A3, c3, rfl, ha⟩ := hA1.get (i := 0) rfl
      have e0 := cell_on hBr ha.hb ha.c0
      have e1 := cell_on hBr ha.hb ha.c1
      rw [Nat.zero_mul, Nat.add_zero] at e0 e1
      have hev2 := Lib.hid (Hev.out.trans (arnd_step rfl))
      have hsub := Lib.hid ha.sub
      have hlt : x.size < gk := by simp only [Tm.size, sizes] at hsz; omega
      have hne : bb ≠ w.heap.size := by have := ha.hb; omega
      clear ha h2 hsz
      go_wp2
      have hst : ∀ W2 : World, W2 = (wr.setCell ⟨w.heap.size, 0, none⟩ (.int .i64 x.fn)).setCell ⟨w.heap.size, 1, none⟩ (.slice A3 x.args.length c3) → W2.heap[w.heap.size]? = some (.cells #[.int .i64 x.fn, .slice A3 x.args.length c3] 36) ∧ W2.heap[w.heap.size + 1]? = some (.cells #[.int .i64 v.fn, .slice A2 v.args.length c2] 36) := fun W2 e => by
        subst e
        exact ⟨(set2_two Hr0.out).2, (heap_setCell_other _ _ _ _ (show w.heap.size + 1 ≠ w.heap.size by omega)).trans ((heap_setCell_other _ _ _ _ (show w.heap.size + 1 ≠ w.heap.size by omega)).trans Hr1.out)⟩
      go_roundg x.size
      case measure => exact hlt
      case rel => exact ⟨(hBr.setCell (Nat.le_refl _) _).setCell (Nat.le_refl _) _, x, A3, c3, hev2.out, (hst _ rfl).1, (hst _ rfl).2, hsub.out, Nat.le_refl _⟩
    · have hend := Lib.hid (Hev.out.trans (arnd_stop h))
      by_cases h1 : u.fn = top
      · have h1' : (u.fn == top) = true := by simp [h1]
        have h2 : ¬ u.args.length = 1 := fun e => h ⟨h1, e⟩
        have h2' : ((u.args.length : Int) == 1) = false := by simp; omega
        clear h h1 h2
        go_wp2
        go_ret
        exact ⟨ret_bool (by rw [hend.out, Bool.eq_iff_iff, beq_iff_eq, decide_eq_true_eq]), hBr⟩
      · have h1' : (u.fn == top) = false := by simp [h1]
        clear h h1
        go_wp2
        go_ret
        exact ⟨ret_bool (by rw [hend.out, Bool.eq_iff_iff, beq_iff_eq, decide_eq_true_eq]), hBr⟩
def topsP (o : Odr) (s t : Tm) : Int := if t.fn < 0 then (if (arndEnd s.fn s).fn = t.fn then 3 else 0) else
  if o.prec.getD t.fn.toNat 0 < o.prec.getD s.fn.toNat 0 then 3 else if o.prec.getD s.fn.toNat 0 = o.prec.getD t.fn.toNat 0 then 0 else 1
def topsR (o : Odr) (s t : Tm) : Int := if s.fn < 0 then (if t.fn < 0 then 0 else relT (topsP o t s)) else topsP o s t
theorem topsP_bd (o : Odr) (s t : Tm) : 0 ≤ topsP o s t ∧ topsP o s t ≤ 3 := by
  unfold topsP
  split
  · split <;> omega
  · split
    · omega
    · split <;> omega
set_option maxHeartbeats 4000000 in
theorem tops_pos (o : Odr) (s t : Tm) (P Q A A2 : Option Addr) (pc qc c c2 : Nat) (w : World) (hM : OdrM w w.heap.size o P Q) (hs : ¬ s.fn < 0) (hsk : s.fn < (o.prec.length : Int)) (htk : t.fn < (o.prec.length : Int)) (hA : Args w w.heap.size A s.args) :
    Calls Tryz.prog 88 #[.agg #[.bool o.lpo, .slice P o.prec.length pc, .slice Q o.wts.length qc, .int .i64 o.var], .agg #[.int .i64 s.fn, .slice A s.args.length c], .agg #[.int .i64 t.fn, .slice A2 t.args.length c2]] w fun e w' => e = .returned (.int .i64 (topsP o s t)) ∧ Below w.heap.size w w' := by
  obtain ⟨q0, q1, q2⟩ := heap3 w (.cells #[.bool o.lpo, .slice P o.prec.length pc, .slice Q o.wts.length qc, .int .i64 o.var] 24) (.cells #[.int .i64 s.fn, .slice A s.args.length c] 36) (.cells #[.int .i64 t.fn, .slice A2 t.args.length c2] 36)
  obtain ⟨W, hW⟩ : ∃ W, (((w.alloc (.cells #[.bool o.lpo, .slice P o.prec.length pc, .slice Q o.wts.length qc, .int .i64 o.var] 24)).alloc (.cells #[.int .i64 s.fn, .slice A s.args.length c] 36)).alloc (.cells #[.int .i64 t.fn, .slice A2 t.args.length c2] 36)) = W := ⟨_, rfl⟩
  have hB : Below w.heap.size w W := by rw [← hW]; exact (((Below.refl _ _).alloc (Nat.le_refl _) _).alloc (by simp) _).alloc (by simp; omega) _
  rw [hW] at q0 q1 q2
  have hWs : w.heap.size + 1 + 1 < W.heap.size := (Array.getElem?_eq_some_iff.1 q2).1
  have HW := Lib.hid hW
  have Har := Lib.hid (around_any s t A A2 c c2 W (hA.on hB))
  have HP := Lib.hid (hM.p.on hB)
  have H0 := Lib.hid q0
  obtain ⟨x0, x1, _, _⟩ := cells_two q1
  obtain ⟨y0, y1, _, _⟩ := cells_two q2
  have hlater : ∀ x : Later W.heap.size W, x.w.cell? ⟨w.heap.size, 1, none⟩ = some (.slice P o.prec.length pc) ∧ x.w.cell? ⟨w.heap.size + 1, 0, none⟩ = some (.int .i64 s.fn) ∧ x.w.cell? ⟨w.heap.size + 1 + 1, 0, none⟩ = some (.int .i64 t.fn) := fun x =>
    ⟨(cells_four ((x.h.block _ (by omega)).trans q0)).2.1, (cells_two ((x.h.block _ (by omega)).trans q1)).1, (cells_two ((x.h.block _ hWs).trans q2)).1⟩
  have Hl := Lib.hid hlater
  clear hW hA hM q0 q1 q2 hlater
  by_cases ht : t.fn < 0
  · have hR := Lib.hid (show topsP o s t = if (arndEnd s.fn s).fn = t.fn then 3 else 0 by unfold topsP; rw [if_pos ht])
    by_cases ha : (arndEnd s.fn s).fn = t.fn
    · have ha' := Lib.hid (decide_eq_true ha)
      have hR := Lib.hid (show topsP o s t = 3 by rw [hR.out, if_pos ha])
      have l0 : ∀ x : Later W.heap.size W, x.w.cell? ⟨w.heap.size + 1 + 1, 0, none⟩ = some (.int .i64 t.fn) := fun x => (Hl.out x).2.2
      clear ha
      go_enter Tryz.func88, Tryz.ntmps88
      go_upto_region 1 with fail
      rw [HW.out]
      go_upto_region 7 with (first
        | (go_at_call 110; (with_reducible refine Har.out.mono ?_); go_must (rintro e w1 ⟨rfl, hb1⟩; rw [ha'.out]))
        | fail)
      have ht' := decide_eq_true ht
      refine wp_region_later W.heap.size W (by kernel_rfl) (by kernel_rfl) (bl_drewN hb1 1) ?_
      repeat (go_big_quiet_step (fail))
      refine wpQuiet_nil ?_
      rintro _ ⟨z, rfl⟩
      go_wp2
      go_ret
      exact ⟨by rw [hR.out]; rfl, hB.trans (z.h.mono hB.size)⟩
    · have ha' := Lib.hid (decide_eq_false ha)
      have hR := Lib.hid (show topsP o s t = 0 by rw [hR.out, if_neg ha])
      clear ha
      go_enter Tryz.func88, Tryz.ntmps88
      go_upto_region 1 with fail
      rw [HW.out]
      go_wp2_with (first
        | (go_at_call 110; (with_reducible refine Har.out.mono ?_); go_must (rintro e w1 ⟨rfl, hb1⟩; rw [ha'.out]))
        | fail)
      go_ret
      exact ⟨by rw [hR.out]; rfl, hB.trans (hb1.mono hB.size)⟩
  · obtain ⟨k, hk⟩ : ∃ k : Nat, s.fn = (k : Int) := ⟨s.fn.toNat, by omega⟩
    obtain ⟨j, hj⟩ : ∃ j : Nat, t.fn = (j : Int) := ⟨t.fn.toNat, by omega⟩
    obtain ⟨p, hp⟩ : ∃ p, o.prec[k]? = some p := ⟨_, List.getElem?_eq_getElem (by omega)⟩
    obtain ⟨q, hq⟩ : ∃ q, o.prec[j]? = some q := ⟨_, List.getElem?_eq_getElem (by omega)⟩
    obtain ⟨b, off, hPa, hb, hc⟩ := HP.out.get hp
    obtain ⟨b', off', hPa', hb', hc'⟩ := HP.out.get hq
    rw [hPa] at hPa'
    injection hPa' with e
    injection e with e1 e2 _
    subst e1; subst e2; subst hPa
    have hR : topsP o s t = if q < p then 3 else if p = q then 0 else 1 := by
      unfold topsP
      rw [if_neg ht, hk, hj, List.getD_eq_getElem?_getD, List.getD_eq_getElem?_getD, show ((k : Int).toNat) = k from rfl, show ((j : Int).toNat) = j from rfl, hp, hq]
      rfl
    have HR := Lib.hid hR
    have l0 : ∀ x : Later W.heap.size W, x.w.cell? ⟨w.heap.size + 1 + 1, 0, none⟩ = some (.int .i64 (j : Int)) := fun x => by rw [← hj]; exact (Hl.out x).2.2
    have l1 : ∀ x : Later W.heap.size W, x.w.cell? ⟨w.heap.size + 1, 0, none⟩ = some (.int .i64 (k : Int)) := fun x => by rw [← hk]; exact (Hl.out x).2.1
    have l2 : ∀ x : Later W.heap.size W, x.w.cell? ⟨w.heap.size, 1, none⟩ = some (.slice (some ⟨b, off, none⟩) o.prec.length pc) := fun x => (Hl.out x).1
    have l3 : ∀ x : Later W.heap.size W, x.w.cell? ⟨b, off + k, none⟩ = some (.int .i64 p) := fun x => cell_on x.h hb hc
    have l4 : ∀ x : Later W.heap.size W, x.w.cell? ⟨b, off + j, none⟩ = some (.int .i64 q) := fun x => cell_on x.h hb' hc'
    rw [hk] at hs hsk x0 HW ⊢
    rw [hj] at ht htk y0 HW ⊢
    have ht' := decide_eq_false ht
    clear hR hk hj hp hq hc hc' H0 Hl
    by_cases h1 : q < p
    · have h1' : decide (p > q) = true := decide_eq_true h1
      have hR := Lib.hid (show topsP o s t = 3 by rw [HR.out, if_pos h1])
      clear h1 HR
      go_enter Tryz.func88, Tryz.ntmps88
      go_upto_region 1 with fail
      rw [HW.out]
      go_upto_region 7 with fail
      refine wp_region_later W.heap.size W (by kernel_rfl) (by kernel_rfl) (bl_drewN (Below.refl _ _) 1) ?_
      repeat (go_big_quiet_step (fail))
      refine wpQuiet_nil ?_
      rintro _ ⟨z, rfl⟩
      go_wp2
      go_ret
      exact ⟨by rw [hR.out]; rfl, hB.trans (z.h.mono hB.size)⟩
    · have h1' : decide (p > q) = false := decide_eq_false h1
      by_cases h2 : p = q
      · have h2' : (p == q) = true := by simp [h2]
        have hR := Lib.hid (show topsP o s t = 0 by rw [HR.out, if_neg h1, if_pos h2])
        clear h1 h2 HR
        go_enter Tryz.func88, Tryz.ntmps88
        go_upto_region 1 with fail
        rw [HW.out]
        go_upto_region 7 with fail
        refine wp_region_later W.heap.size W (by kernel_rfl) (by kernel_rfl) (bl_drewN (Below.refl _ _) 1) ?_
        repeat (go_big_quiet_step (fail))
        refine wpQuiet_nil ?_
        rintro _ ⟨z, rfl⟩
        go_upto_region 9 with fail
        refine wp_region_later W.heap.size W (by kernel_rfl) (by kernel_rfl) (bl_drewN z.h 1) ?_
        repeat (go_big_quiet_step (fail))
        refine wpQuiet_nil ?_
        rintro _ ⟨z2, rfl⟩
        go_wp2
        go_ret
        exact ⟨by rw [hR.out]; rfl, hB.trans (z2.h.mono hB.size)⟩
      · have h2' : (p == q) = false := by simp [h2]
        have hR := Lib.hid (show topsP o s t = 1 by rw [HR.out, if_neg h1, if_neg h2])
        clear h1 h2 HR
        go_enter Tryz.func88, Tryz.ntmps88
        go_upto_region 1 with fail
        rw [HW.out]
        go_upto_region 7 with fail
        refine wp_region_later W.heap.size W (by kernel_rfl) (by kernel_rfl) (bl_drewN (Below.refl _ _) 1) ?_
        repeat (go_big_quiet_step (fail))
        refine wpQuiet_nil ?_
        rintro _ ⟨z, rfl⟩
        go_upto_region 9 with fail
        refine wp_region_later W.heap.size W (by kernel_rfl) (by kernel_rfl) (bl_drewN z.h 1) ?_
        repeat (go_big_quiet_step (fail))
        refine wpQuiet_nil ?_
        rintro _ ⟨z2, rfl⟩
        go_wp2
        go_ret
        exact ⟨by rw [hR.out]; rfl, hB.trans (z2.h.mono hB.size)⟩
set_option maxHeartbeats 1000000 in
theorem tops_any (o : Odr) (s t : Tm) (P Q A A2 : Option Addr) (pc qc c c2 : Nat) (w : World) (hM : OdrM w w.heap.size o P Q) (hsk : s.fn < (o.prec.length : Int)) (htk : t.fn < (o.prec.length : Int)) (hA : Args w w.heap.size A s.args) (hA2 : Args w w.heap.size A2 t.args) :
    Calls Tryz.prog 88 #[.agg #[.bool o.lpo, .slice P o.prec.length pc, .slice Q o.wts.length qc, .int .i64 o.var], .agg #[.int .i64 s.fn, .slice A s.args.length c], .agg #[.int .i64 t.fn, .slice A2 t.args.length c2]] w fun e w' => e = .returned (.int .i64 (topsR o s t)) ∧ Below w.heap.size w w' := by
  by_cases hs : s.fn < 0
  · have hB : Below w.heap.size w (((w.alloc (.cells #[.bool o.lpo, .slice P o.prec.length pc, .slice Q o.wts.length qc, .int .i64 o.var] 24)).alloc (.cells #[.int .i64 s.fn, .slice A s.args.length c] 36)).alloc (.cells #[.int .i64 t.fn, .slice A2 t.args.length c2] 36)) := (((Below.refl _ _).alloc (Nat.le_refl _) _).alloc (by simp) _).alloc (by simp; omega) _
    by_cases ht : t.fn < 0
    · have hR := Lib.hid (show topsR o s t = 0 by unfold topsR; rw [if_pos hs, if_pos ht])
      clear hA hA2 hM
      go_enter Tryz.func88, Tryz.ntmps88
      go_wp2
      go_ret
      exact ⟨by rw [hR.out]; rfl, hB⟩
    · have hR := Lib.hid (show topsR o s t = relT (topsP o t s) by unfold topsR; rw [if_pos hs, if_neg ht])
      obtain ⟨q0, q1, q2⟩ := heap3 w (.cells #[.bool o.lpo, .slice P o.prec.length pc, .slice Q o.wts.length qc, .int .i64 o.var] 24) (.cells #[.int .i64 s.fn, .slice A s.args.length c] 36) (.cells #[.int .i64 t.fn, .slice A2 t.args.length c2] 36)
      obtain ⟨W, hW⟩ : ∃ W, (((w.alloc (.cells #[.bool o.lpo, .slice P o.prec.length pc, .slice Q o.wts.length qc, .int .i64 o.var] 24)).alloc (.cells #[.int .i64 s.fn, .slice A s.args.length c] 36)).alloc (.cells #[.int .i64 t.fn, .slice A2 t.args.length c2] 36)) = W := ⟨_, rfl⟩
      rw [hW] at hB q0 q1 q2
      obtain ⟨x0, x1, _, _⟩ := cells_two q1
      obtain ⟨y0, y1, _, _⟩ := cells_two q2
      obtain ⟨z0, z1, z2, z3⟩ := cells_four q0
      have H1 := Lib.hid (tops_pos o t s P Q A2 A pc qc c2 c W (hM.on hB) ht htk hsk (hA2.on hB))
      have hbd := topsP_bd o t s
      have H2 : ∀ w1 : World, _ := fun w1 => turned_any (topsP o t s) hbd.1 hbd.2 w1
      have H2 := Lib.hid H2
      have HW := Lib.hid hW
      clear hW hA hA2 hM hbd q0 q1 q2
      go_enter Tryz.func88, Tryz.ntmps88
      go_upto_region 1 with fail
      rw [HW.out]
      go_wp2_with (first
        | (go_at_call 88; (with_reducible refine H1.out.mono ?_); go_must (rintro e w1 ⟨rfl, hb1⟩))
        | (go_at_call 92; (with_reducible refine (H2.out w1).mono ?_); go_must (rintro e w2 ⟨rfl, rfl⟩))
        | fail)
      go_ret
      exact ⟨by rw [hR.out]; rfl, hB.trans (hb1.mono hB.size)⟩
  · have hR := Lib.hid (show topsR o s t = topsP o s t by unfold topsR; rw [if_neg hs])
    rw [hR.out]
    exact tops_pos o s t P Q A A2 pc qc c c2 w hM hs hsk htk hA
end Go.Proofs.YthgglobfkkcdgaaGreat
namespace Go.Proofs.YthgglobfkkcdgaaGreat
open Go.RowKit Go.Shelf
attribute [local go_sem] Oper.semAt_some
set_option maxRecDepth 100000
end Go.Proofs.YthgglobfkkcdgaaGreat
namespace Go.Proofs.YthgglobfkkcdgaaGreat
open Go.RowKit Go.Shelf
attribute [local go_sem] Oper.semAt_some
set_option maxRecDepth 100000
end Go.Proofs.YthgglobfkkcdgaaGreat
namespace Go.Proofs.YthgglobfkkcdgaaGreat
open Go.RowKit Go.Shelf
attribute [local go_sem] Oper.semAt_some
set_option maxRecDepth 100000
end Go.Proofs.YthgglobfkkcdgaaGreat
namespace Go.Proofs.YthgglobfkkcdgaaGreat
open Go.RowKit Go.Shelf
attribute [local go_sem] Oper.semAt_some
set_option maxRecDepth 100000
end Go.Proofs.YthgglobfkkcdgaaGreat
namespace Go.Proofs.YthgglobfkkcdgaaGreat
open Go.RowKit
mutual
def vn : Tm → List Int
  | .node f xs => (if f < 0 then [-1 - f] else []) ++ vnL xs
def vnL : List Tm → List Int
  | [] => []
  | t :: ts => vn t ++ vnL ts
end
end Go.Proofs.YthgglobfkkcdgaaGreat
namespace Go.Proofs.YthgglobfkkcdgaaGreat
open Go.RowKit Go.Shelf
set_option maxRecDepth 100000
theorem OrdW.below {base : Nat} {v : Value} {w w1 : World} {l : List Int} (h : IntsR w base v l) (hb : Below w.heap.size w w1) : OrdW base v w v l w1 :=
  ⟨⟨row_keep h.row fun g e => hb.block g (row_lt h.row g e).2, h.i64⟩, ⟨hb.os, hb.tape, hb.output, hb.size, fun k hk _ => hb.block k hk⟩, fun _ e => .inl e⟩
end Go.Proofs.YthgglobfkkcdgaaGreat
namespace Go.Proofs.YthgglobfkkcdgaaGreat
open Go.RowKit Go.Shelf
set_option maxRecDepth 100000
section
variable {σ : Type} {V : Int → Prop} {nx : σ → Int → σ × Int} {kn : FuncId} {nc : Array Value} {C D N : Nat → Prop} {I : σ → World → Prop} {B0 : Nat}
end
end Go.Proofs.YthgglobfkkcdgaaGreat
namespace Go.Proofs.YthgglobfkkcdgaaGreat
open Go.RowKit Go.Shelf Go.Maps
set_option maxRecDepth 100000
theorem intLaw : Keyed Tryz.prog 3 := int_keyed Tryz.underlying3
theorem zeroIntV (w : World) : (zeroValue 3).run Tryz.prog w = .ok (.int .i64 0) w := by kernel_rfl
theorem keyOf_v {x : Int} (hx : I64 x) : keyOf Tryz.prog 3 (.int .i64 x) = some (.int .i64 x) :=
  keyOf_int_mk Tryz.underlying3 (WalkArith.wf_i64 ⟨by have := hx.1; omega, by have := hx.2; omega⟩)
end Go.Proofs.YthgglobfkkcdgaaGreat
namespace Go.Proofs.YthgglobfkkcdgaaGreat
open Go.RowKit Go.Shelf Go.Maps
set_option maxRecDepth 100000
structure Bal where
  w0 : Int
  w1 : Int
  a0 : Int
  a1 : Int
  V : Int → Int
  n : Nat
def VMap (w : World) (b n : Nat) (V : Int → Int) : Prop :=
  ∃ D : DataW Unit, w.ownsMap Tryz.prog 3 (plainElem Tryz.prog 3) b n D ∧ ∀ x, I64 x → D.atKey (.int .i64 x) (.lit (.int .i64 0)) = .lit (.int .i64 (V x))
theorem VMap.lt {w : World} {b n : Nat} {V : Int → Int} (h : VMap w b n V) : b < w.heap.size := h.elim fun _ h => h.1.lt
theorem VMap.kept {w w' : World} {b n : Nat} {V : Int → Int} (h : VMap w b n V) (hk : w'.heap[b]? = w.heap[b]?) : VMap w' b n V := by
  obtain ⟨D, ⟨es, clock, hb, F, hs, hD⟩, hat⟩ := h
  exact ⟨D, ⟨es, clock, hk.trans hb, F, hs, hD⟩, hat⟩
theorem VMap.made (w : World) : VMap (w.alloc (.map #[] 0)) w.heap.size 0 fun _ => 0 :=
  ⟨_, World.ownsMap_made w _ _ _, fun _ _ => rfl⟩
theorem VMap.look {w : World} {b n : Nat} {V : Int → Int} (h : VMap w b n V) {x : Int} (hx : I64 x) :
    (Instr.lookup 79 (.map (some b)) (.int .i64 x) false).run Tryz.prog w = .ok (.int .i64 (V x)) w := by
  obtain ⟨D, hown, hat⟩ := h
  obtain ⟨c, hrun, hc, _⟩ := hown.lookup_int intLaw Tryz.underlying79 Tryz.underlying3 (zeroIntV w) (keyOf_v hx)
  have e0 := hat x hx
  rw [hc] at e0
  injection e0 with e0; injection e0 with _ e0; subst e0
  exact hrun
theorem VMap.put {w : World} {b n : Nat} {V : Int → Int} (h : VMap w b n V) (hn : n < 9223372036854775807) {x v : Int} (hx : I64 x) (hv : I64 v) :
    ∃ w', (Instr.mapUpdate 79 (.map (some b)) (.int .i64 x) (.int .i64 v)).run Tryz.prog w = .ok () w' ∧ VMap w' b (n + 1) (fun y => if y = x then v else V y) ∧ w.grownBy w' (some b) := by
  obtain ⟨D, hown, hat⟩ := h
  obtain ⟨w', hrun, hown', hgr⟩ := hown.update intLaw Tryz.underlying79 (by unfold maxLen; omega) (keyOf_v hx) (plainElem_int Tryz.underlying3 (WalkArith.wf_i64 ⟨by have := hv.1; omega, by have := hv.2; omega⟩))
  refine ⟨w', hrun, ⟨_, hown', fun y hy => ?_⟩, hgr⟩
  by_cases e : y = x
  · subst e
    rw [atKey_put_same (hown.tidy intLaw).isMap (intLaw.key (keyOf_v hx))]
    simp
  · rw [atKey_put_other (fun h => e (by simpa using h)), hat y hy]
    simp [e]
structure BalM (w : World) (bx bm : Nat) (o : Odr) (P : Option Addr) (pc : Nat) (Q : Option Addr) (qc : Nat) (b : Bal) : Prop where
  box : w.heap[bx]? = some (.cells #[.bool o.lpo, .slice P o.prec.length pc, .slice Q o.wts.length qc, .int .i64 o.var, .map (some bm), .int .i64 b.a0, .int .i64 b.a1, .int .i64 b.w0, .int .i64 b.w1] 83)
  map : VMap w bm b.n b.V
  ne : bx ≠ bm
theorem BalM.keep {w w' : World} {bx bm : Nat} {o : Odr} {P Q : Option Addr} {pc qc : Nat} {b : Bal} (h : BalM w bx bm o P pc Q qc b) (h1 : w'.heap[bx]? = w.heap[bx]?) (h2 : w'.heap[bm]? = w.heap[bm]?) : BalM w' bx bm o P pc Q qc b := ⟨h1.trans h.box, h.map.kept h2, h.ne⟩
theorem cells_9 {W : World} {b : Nat} {v0 v1 v2 v3 v4 v5 v6 v7 v8 : Value} {t : TypeId} (h : W.heap[b]? = some (.cells #[v0, v1, v2, v3, v4, v5, v6, v7, v8] t)) :
    W.cell? ⟨b, 0, none⟩ = some v0 ∧ W.cell? ⟨b, 1, none⟩ = some v1 ∧ W.cell? ⟨b, 2, none⟩ = some v2 ∧ W.cell? ⟨b, 3, none⟩ = some v3 ∧ W.cell? ⟨b, 4, none⟩ = some v4 ∧ W.cell? ⟨b, 5, none⟩ = some v5 ∧ W.cell? ⟨b, 6, none⟩ = some v6 ∧ W.cell? ⟨b, 7, none⟩ = some v7 ∧ W.cell? ⟨b, 8, none⟩ = some v8 := by
  refine ⟨?_, ?_, ?_, ?_, ?_, ?_, ?_, ?_, ?_⟩ <;> simp [World.cell?, h]
def sgn (at_ : Int) : Int := if at_ = 0 then 1 else -1
def cntB (o : Odr) (at_ : Int) (b : Bal) (f : Int) : Bal :=
  { w0 := if at_ = 0 then b.w0 + wtI o f else b.w0
    w1 := if at_ = 0 then b.w1 else b.w1 + wtI o f
    a0 := if f < 0 then (if 0 ≤ b.V f * sgn at_ then (if at_ = 0 then b.a0 + 1 else b.a0) else (if at_ = 0 then b.a0 else b.a0 - 1)) else b.a0
    a1 := if f < 0 then (if 0 ≤ b.V f * sgn at_ then (if at_ = 0 then b.a1 else b.a1 + 1) else (if at_ = 0 then b.a1 - 1 else b.a1)) else b.a1
    V := if f < 0 then (fun x => if x = f then b.V f + sgn at_ else b.V x) else b.V
    n := b.n + 1 }
structure BalOK (b : Bal) : Prop where
  n : b.n ≤ 1073741824
  w0 : 0 ≤ b.w0 ∧ b.w0 ≤ 2147483647 * (b.n : Int)
  w1 : 0 ≤ b.w1 ∧ b.w1 ≤ 2147483647 * (b.n : Int)
  a0 : -(b.n : Int) ≤ b.a0 ∧ b.a0 ≤ (b.n : Int)
  a1 : -(b.n : Int) ≤ b.a1 ∧ b.a1 ≤ (b.n : Int)
  V : ∀ x, -(b.n : Int) ≤ b.V x ∧ b.V x ≤ (b.n : Int)
theorem BalOK.next {o : Odr} {at_ : Int} {b : Bal} (h : BalOK b) (hn : b.n + 1 ≤ 1073741824) (f : Int) : BalOK (cntB o at_ b f) := by
  obtain ⟨h1, h2⟩ := wtI_bd o f
  have hs : sgn at_ = 1 ∨ sgn at_ = -1 := by unfold sgn; split <;> simp
  obtain ⟨k0, k1⟩ := h.w0
  obtain ⟨k2, k3⟩ := h.w1
  obtain ⟨k4, k5⟩ := h.a0
  obtain ⟨k6, k7⟩ := h.a1
  refine ⟨hn, ?_, ?_, ?_, ?_, fun x => ?_⟩
  · show 0 ≤ (if at_ = 0 then b.w0 + wtI o f else b.w0) ∧ (if at_ = 0 then b.w0 + wtI o f else b.w0) ≤ 2147483647 * ((b.n + 1 : Nat) : Int)
    split <;> omega
  · show 0 ≤ (if at_ = 0 then b.w1 else b.w1 + wtI o f) ∧ (if at_ = 0 then b.w1 else b.w1 + wtI o f) ≤ 2147483647 * ((b.n + 1 : Nat) : Int)
    split <;> omega
  · show -((b.n + 1 : Nat) : Int) ≤ (cntB o at_ b f).a0 ∧ (cntB o at_ b f).a0 ≤ ((b.n + 1 : Nat) : Int)
    unfold cntB
    simp only
    split
    · split <;> split <;> omega
    · omega
  · show -((b.n + 1 : Nat) : Int) ≤ (cntB o at_ b f).a1 ∧ (cntB o at_ b f).a1 ≤ ((b.n + 1 : Nat) : Int)
    unfold cntB
    simp only
    split
    · split <;> split <;> omega
    · omega
  · show -((b.n + 1 : Nat) : Int) ≤ (cntB o at_ b f).V x ∧ (cntB o at_ b f).V x ≤ ((b.n + 1 : Nat) : Int)
    obtain ⟨k8, k9⟩ := h.V x
    obtain ⟨k10, k11⟩ := h.V f
    unfold cntB
    simp only
    split
    · show -((b.n + 1 : Nat) : Int) ≤ (if x = f then b.V f + sgn at_ else b.V x) ∧ (if x = f then b.V f + sgn at_ else b.V x) ≤ ((b.n + 1 : Nat) : Int)
      split <;> omega
    · omega
end Go.Proofs.YthgglobfkkcdgaaGreat
namespace Go.Proofs.YthgglobfkkcdgaaGreat
open Go.RowKit Go.Shelf Go.Maps
set_option maxRecDepth 100000
def CntPost (bx bm : Nat) (o : Odr) (P : Option Addr) (pc : Nat) (Q : Option Addr) (qc : Nat) (r : Bal) (w : World) (e : Ending) (w' : World) : Prop :=
  e = .returned (.tuple #[]) ∧ BalM w' bx bm o P pc Q qc r ∧ KeepsC (fun g => g = bx ∨ g = bm) w w'
theorem set_9 {W : World} {b : Nat} {cs : Array Value} {t : TypeId} (h : W.heap[b]? = some (.cells cs t)) (i : Nat) (v : Value) : (W.setCell ⟨b, i, none⟩ v).heap[b]? = some (.cells (cs.setIfInBounds i v) t) := heap_setCell_same _ _ _ _ _ _ h
theorem cntB_pos0 {o : Odr} {b : Bal} {f : Int} (h : ¬ f < 0) : cntB o 0 b f = ⟨b.w0 + wtI o f, b.w1, b.a0, b.a1, b.V, b.n + 1⟩ := by unfold cntB; simp [h]
theorem cntB_pos1 {o : Odr} {b : Bal} {f : Int} (h : ¬ f < 0) : cntB o 1 b f = ⟨b.w0, b.w1 + wtI o f, b.a0, b.a1, b.V, b.n + 1⟩ := by unfold cntB; simp [h]
theorem cntB_neg00 {o : Odr} {b : Bal} {f : Int} (h : f < 0) (hv : 0 ≤ b.V f) : cntB o 0 b f = ⟨b.w0 + wtI o f, b.w1, b.a0 + 1, b.a1, fun x => if x = f then b.V f + 1 else b.V x, b.n + 1⟩ := by unfold cntB sgn; simp [h, hv]
theorem cntB_neg01 {o : Odr} {b : Bal} {f : Int} (h : f < 0) (hv : ¬ 0 ≤ b.V f) : cntB o 0 b f = ⟨b.w0 + wtI o f, b.w1, b.a0, b.a1 - 1, fun x => if x = f then b.V f + 1 else b.V x, b.n + 1⟩ := by unfold cntB sgn; simp [h, hv]
theorem cntB_neg10 {o : Odr} {b : Bal} {f : Int} (h : f < 0) (hv : 0 ≤ -b.V f) : cntB o 1 b f = ⟨b.w0, b.w1 + wtI o f, b.a0, b.a1 + 1, fun x => if x = f then b.V f + -1 else b.V x, b.n + 1⟩ := by unfold cntB sgn; simp [h, show b.V f ≤ 0 by omega]
theorem cntB_neg11 {o : Odr} {b : Bal} {f : Int} (h : f < 0) (hv : ¬ 0 ≤ -b.V f) : cntB o 1 b f = ⟨b.w0, b.w1 + wtI o f, b.a0 - 1, b.a1, fun x => if x = f then b.V f + -1 else b.V x, b.n + 1⟩ := by unfold cntB sgn; simp [h, show ¬ b.V f ≤ 0 by omega]
theorem VMap.more {w : World} {b n m : Nat} {V : Int → Int} (h : VMap w b n V) (hm : n ≤ m) : VMap w b m V := by
  obtain ⟨D, ⟨es, clock, hb, F, hs, hD⟩, hat⟩ := h
  exact ⟨D, ⟨es, clock, hb, F, Nat.le_trans hs hm, hD⟩, hat⟩
theorem keepsC_set {bx bm : Nat} {w w1 : World} (h : KeepsC (fun g => g = bx ∨ g = bm) w w1) (i : Nat) (v : Value) : KeepsC (fun g => g = bx ∨ g = bm) w (w1.setCell ⟨bx, i, none⟩ v) :=
  Keeps.trans h ((Keeps.set w1 ⟨bx, i, none⟩ v).mono fun _ hg e => hg.2 (.inl e))
set_option maxHeartbeats 4000000 in
theorem count_pos0 (o : Odr) (b : Bal) (t : Tm) (P Q A : Option Addr) (pc qc c bx bm B0 : Nat) (w : World) (hM : BalM w bx bm o P pc Q qc b) (hO : OdrM w B0 o P Q) (hB0 : B0 ≤ w.heap.size) (hk : t.fn < 0 ∨ t.fn < (o.wts.length : Int)) (hOK : BalOK b) (hf : ¬ t.fn < 0) :
    Calls Tryz.prog 89 #[.pointer (some ⟨bx, 0, none⟩), .agg #[.int .i64 t.fn, .slice A t.args.length c], .int .i64 0] w (CntPost bx bm o P pc Q qc (cntB o 0 b t.fn) w) := by
  rw [cntB_pos0 hf]
  have hbxl := hM.box
  have hbx : bx < w.heap.size := (Array.getElem?_eq_some_iff.1 hbxl).1
  have hbm : bm < w.heap.size := hM.map.lt
  have hnebm := hM.ne
  have q0 := heap_alloc_new w (.cells #[.int .i64 t.fn, .slice A t.args.length c] 36)
  obtain ⟨W, hW⟩ : ∃ W, w.alloc (.cells #[.int .i64 t.fn, .slice A t.args.length c] 36) = W := ⟨_, rfl⟩
  have hB : Below w.heap.size w W := by rw [← hW]; exact (Below.refl _ _).alloc (Nat.le_refl _) _
  rw [hW] at q0
  have hWs : w.heap.size < W.heap.size := (Array.getElem?_eq_some_iff.1 q0).1
  have hMW := hM.keep (hB.block bx hbx) (hB.block bm hbm)
  have hSS : ∀ w', Below W.heap.size W w' → w'.cell? ⟨bx, 0, none⟩ = some (.bool o.lpo) ∧ w'.cell? ⟨bx, 1, none⟩ = some (.slice P o.prec.length pc) ∧ w'.cell? ⟨bx, 2, none⟩ = some (.slice Q o.wts.length qc) ∧ w'.cell? ⟨bx, 3, none⟩ = some (.int .i64 o.var) ∧ w'.cell? ⟨bx, 7, none⟩ = some (.int .i64 b.w0) ∧ w'.cell? ⟨w.heap.size, 0, none⟩ = some (.int .i64 t.fn) ∧ w'.cell? ⟨w.heap.size, 1, none⟩ = some (.slice A t.args.length c) ∧ w'.frozen? ⟨bx, 7, none⟩ = false := fun w' hb => by
    have hx := (hb.block bx (by omega)).trans hMW.box
    obtain ⟨c0, c1, c2, c3, c4, c5, c6, c7, c8⟩ := cells_9 hx
    obtain ⟨d0, d1, _, _⟩ := cells_two ((hb.block _ hWs).trans q0)
    exact ⟨c0, c1, c2, c3, c7, d0, d1, frozen_9 hx _⟩
  have hD := bl_drewN (Below.refl W.heap.size W) 1
  obtain ⟨i0, i1, i2, i3, i4, i5, i6, i7⟩ := hSS W.drew hD
  have H1 := Lib.hid (kboWeight1_any o t P Q A pc qc c W.drew ⟨((hO.p.more hB0).on hB).on hD, ((hO.q.more hB0).on hB).on hD, hO.v⟩ hk)
  have hwt := wtI_bd o t.fn
  have hw0 := hOK.w0
  have hnn := hOK.n
  have hsum : IntKind.i64.wrap (b.w0 + wtI o t.fn) = b.w0 + wtI o t.fn := by rw [IntKind.wrap_i64]; omega
  have HSS := Lib.hid hSS
  have HW := Lib.hid hW
  have HMW := Lib.hid hMW
  have Hq0 := Lib.hid q0
  have HOK := Lib.hid hOK
  obtain ⟨x, hx⟩ : ∃ x, wtI o t.fn = x := ⟨_, rfl⟩
  rw [hx] at H1 hsum hwt
  have Hx := Lib.hid hx
  clear hW hO hSS hMW q0 hM hbxl hx hOK
  go_enter Tryz.func89, Tryz.ntmps89
  go_upto_region 1 with fail
  rw [HW.out]
  go_region_law
    (first
      | (go_simp
         go_at_call 111
         with_reducible refine H1.out.mono ?_
         rintro e w1 ⟨rfl, hb1⟩
         have hB1 : Below W.heap.size W w1 := ⟨hb1.os, hb1.tape, hb1.output, hb1.size, hb1.block⟩
         obtain ⟨j0, j1, j2, j3, j4, j5, j6, j7⟩ := HSS.out w1 hB1
         dsimp only)
      | fail)
  all_goals
    have hge : decide (t.fn ≥ 0) = true := decide_eq_true (by omega)
    have hne : bx ≠ w.heap.size := by omega
    go_wp2
    go_end0
    refine ⟨rfl, ⟨?_, ?_, hnebm⟩, ?_⟩
    · rw [set_9 ((hB1.block bx (by omega)).trans HMW.out.box) 7 (.int .i64 (b.w0 + x)), Hx.out]
      rfl
    · exact ((HMW.out.map.kept (hB1.block bm (by omega))).kept (heap_setCell_other _ _ _ _ (fun e => hnebm e.symm))).more (Nat.le_succ _)
    · exact keepsC_set ((KeepsC.of_below hB).trans (KeepsC.of_below hB1)) _ _
set_option maxHeartbeats 4000000 in
theorem count_pos1 (o : Odr) (b : Bal) (t : Tm) (P Q A : Option Addr) (pc qc c bx bm B0 : Nat) (w : World) (hM : BalM w bx bm o P pc Q qc b) (hO : OdrM w B0 o P Q) (hB0 : B0 ≤ w.heap.size) (hk : t.fn < 0 ∨ t.fn < (o.wts.length : Int)) (hOK : BalOK b) (hf : ¬ t.fn < 0) :
    Calls Tryz.prog 89 #[.pointer (some ⟨bx, 0, none⟩), .agg #[.int .i64 t.fn, .slice A t.args.length c], .int .i64 1] w (CntPost bx bm o P pc Q qc (cntB o 1 b t.fn) w) := by
  rw [cntB_pos1 hf]
  have hbxl := hM.box
  have hbx : bx < w.heap.size := (Array.getElem?_eq_some_iff.1 hbxl).1
  have hbm : bm < w.heap.size := hM.map.lt
  have hnebm := hM.ne
  have q0 := heap_alloc_new w (.cells #[.int .i64 t.fn, .slice A t.args.length c] 36)
  obtain ⟨W, hW⟩ : ∃ W, w.alloc (.cells #[.int .i64 t.fn, .slice A t.args.length c] 36) = W := ⟨_, rfl⟩
  have hB : Below w.heap.size w W := by rw [← hW]; exact (Below.refl _ _).alloc (Nat.le_refl _) _
  rw [hW] at q0
  have hWs : w.heap.size < W.heap.size := (Array.getElem?_eq_some_iff.1 q0).1
  have hMW := hM.keep (hB.block bx hbx) (hB.block bm hbm)
  have hSS : ∀ w', Below W.heap.size W w' → w'.cell? ⟨bx, 0, none⟩ = some (.bool o.lpo) ∧ w'.cell? ⟨bx, 1, none⟩ = some (.slice P o.prec.length pc) ∧ w'.cell? ⟨bx, 2, none⟩ = some (.slice Q o.wts.length qc) ∧ w'.cell? ⟨bx, 3, none⟩ = some (.int .i64 o.var) ∧ w'.cell? ⟨bx, 8, none⟩ = some (.int .i64 b.w1) ∧ w'.cell? ⟨w.heap.size, 0, none⟩ = some (.int .i64 t.fn) ∧ w'.cell? ⟨w.heap.size, 1, none⟩ = some (.slice A t.args.length c) ∧ w'.frozen? ⟨bx, 8, none⟩ = false := fun w' hb => by
    have hx := (hb.block bx (by omega)).trans hMW.box
    obtain ⟨c0, c1, c2, c3, c4, c5, c6, c7, c8⟩ := cells_9 hx
    obtain ⟨d0, d1, _, _⟩ := cells_two ((hb.block _ hWs).trans q0)
    exact ⟨c0, c1, c2, c3, c8, d0, d1, frozen_9 hx _⟩
  have hD := bl_drewN (Below.refl W.heap.size W) 1
  obtain ⟨i0, i1, i2, i3, i4, i5, i6, i7⟩ := hSS W.drew hD
  have H1 := Lib.hid (kboWeight1_any o t P Q A pc qc c W.drew ⟨((hO.p.more hB0).on hB).on hD, ((hO.q.more hB0).on hB).on hD, hO.v⟩ hk)
  have hwt := wtI_bd o t.fn
  have hw0 := hOK.w1
  have hnn := hOK.n
  have hsum : IntKind.i64.wrap (b.w1 + wtI o t.fn) = b.w1 + wtI o t.fn := by rw [IntKind.wrap_i64]; omega
  have HSS := Lib.hid hSS
  have HW := Lib.hid hW
  have HMW := Lib.hid hMW
  have Hq0 := Lib.hid q0
  have HOK := Lib.hid hOK
  obtain ⟨x, hx⟩ : ∃ x, wtI o t.fn = x := ⟨_, rfl⟩
  rw [hx] at H1 hsum hwt
  have Hx := Lib.hid hx
  clear hW hO hSS hMW q0 hM hbxl hx hOK
  go_enter Tryz.func89, Tryz.ntmps89
  go_upto_region 1 with fail
  rw [HW.out]
  go_region_law
    (first
      | (go_simp
         go_at_call 111
         with_reducible refine H1.out.mono ?_
         rintro e w1 ⟨rfl, hb1⟩
         have hB1 : Below W.heap.size W w1 := ⟨hb1.os, hb1.tape, hb1.output, hb1.size, hb1.block⟩
         obtain ⟨j0, j1, j2, j3, j4, j5, j6, j7⟩ := HSS.out w1 hB1
         dsimp only)
      | fail)
  all_goals
    have hge : decide (t.fn ≥ 0) = true := decide_eq_true (by omega)
    have hne : bx ≠ w.heap.size := by omega
    go_wp2
    go_end0
    refine ⟨rfl, ⟨?_, ?_, hnebm⟩, ?_⟩
    · rw [set_9 ((hB1.block bx (by omega)).trans HMW.out.box) 8 (.int .i64 (b.w1 + x)), Hx.out]
      rfl
    · exact ((HMW.out.map.kept (hB1.block bm (by omega))).kept (heap_setCell_other _ _ _ _ (fun e => hnebm e.symm))).more (Nat.le_succ _)
    · exact keepsC_set ((KeepsC.of_below hB).trans (KeepsC.of_below hB1)) _ _
end Go.Proofs.YthgglobfkkcdgaaGreat
