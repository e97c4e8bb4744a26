import Derived.Test.YtbchignbndgigaaP17Z1
import Derived.Deep.LoopGhost
import Derived.Deep.DeepCutAuto
import Derived.RangeFuncBox
import Derived.Laws.EntriesVeiled
import Derived.Lib.SlicesCompact
import Derived.Maps.OwnSet
import Derived.Deep.RegionLaw
/- kbo: around, tops. -/

namespace Go.Proofs.Ytbchignbndgigaa

open Go.RowKit Go.Shelf
set_option maxRecDepth 100000

/-- What is left of a term when its top, again and again the same one of one argument, is taken off. -/
def arndEnd (top : Int) : Tm → Tm
  | .node f [x] => if f = top then arndEnd top x else .node f [x]
  | t => t

theorem arnd_step {top f : Int} {x : Tm} (h : f = top) : arndEnd top (.node f [x]) = arndEnd top x := by rw [arndEnd, if_pos h]

theorem arnd_stop {top : Int} {t : Tm} (h : ¬ (t.fn = top ∧ t.args.length = 1)) : arndEnd top t = t := by
  obtain ⟨f, xs⟩ := t
  simp only [Tm.fn, Tm.args] at h
  match xs with
  | [] => rw [arndEnd]; intro _ _ e; cases e
  | [x] =>
    rw [arndEnd, if_neg]
    intro e
    exact h ⟨e, rfl⟩
  | x :: y :: ys => rw [arndEnd]; intro _ _ e; cases e

set_option maxHeartbeats 1000000 in
theorem around_any (s v : Tm) (A A2 : Option Addr) (c c2 : Nat) (w : World) (hA : Args w w.heap.size A s.args) :
    Calls Try.prog 97 #[.agg #[.int .i64 s.fn, .slice A s.args.length c], .agg #[.int .i64 v.fn, .slice A2 v.args.length c2]] w fun e w' => e = .returned (.bool (decide ((arndEnd s.fn s).fn = v.fn))) ∧ Below w.heap.size w w' := by
  obtain ⟨q0, q1⟩ := heap2 w (.cells #[.int .i64 s.fn, .slice A s.args.length c] 27) (.cells #[.int .i64 v.fn, .slice A2 v.args.length c2] 27)
  obtain ⟨W, hW⟩ : ∃ W, ((w.alloc (.cells #[.int .i64 s.fn, .slice A s.args.length c] 27)).alloc (.cells #[.int .i64 v.fn, .slice A2 v.args.length c2] 27)) = W := ⟨_, rfl⟩
  have hB : Below w.heap.size w W := by rw [← hW]; exact ((Below.refl _ _).alloc (Nat.le_refl _) _).alloc (by simp) _
  rw [hW] at q0 q1
  have hWs : w.heap.size + 1 < W.heap.size := (Array.getElem?_eq_some_iff.1 q1).1
  obtain ⟨x0, x1, _, _⟩ := cells_two q0
  have HW := Lib.hid hW
  have HA := Lib.hid hA
  obtain ⟨top, ht⟩ : ∃ top, s.fn = top := ⟨_, rfl⟩
  have H0 : Hid (∃ (u : Tm) (A1 : Option Addr) (c1 : Nat), arndEnd top s = arndEnd top u ∧ W.heap[w.heap.size]? = some (.cells #[.int .i64 u.fn, .slice A1 u.args.length c1] 27) ∧ W.heap[w.heap.size + 1]? = some (.cells #[.int .i64 v.fn, .slice A2 v.args.length c2] 27) ∧ Args w w.heap.size A1 u.args ∧ u.size ≤ s.size) := Lib.hid ⟨s, A, c, rfl, q0, q1, hA, Nat.le_refl _⟩
  rw [ht] at HW x0
  rw [ht]
  clear hW hA q0 q1 ht
  go_enter Try.func97, Try.ntmps97
  go_upto_region 1 with fail
  rw [HW.out]
  go_wp2
  clear x0 x1
  go_loopg [] s.size (fun gk wr => Below w.heap.size w wr ∧ Hid (∃ (u : Tm) (A1 : Option Addr) (c1 : Nat), arndEnd top s = arndEnd top u ∧ wr.heap[w.heap.size]? = some (.cells #[.int .i64 u.fn, .slice A1 u.args.length c1] 27) ∧ wr.heap[w.heap.size + 1]? = some (.cells #[.int .i64 v.fn, .slice A2 v.args.length c2] 27) ∧ Args w w.heap.size A1 u.args ∧ u.size ≤ gk))
  case atStart => exact ⟨hB, H0⟩
  case round =>
    obtain ⟨hBr, H⟩ := hrel
    obtain ⟨u, A1, c1, hev, r0, r1, hA1, hsz⟩ := H.out
    obtain ⟨y0, y1, z0, z1⟩ := cells_two r0
    obtain ⟨y2, y3, _, _⟩ := cells_two r1
    have Hev := Lib.hid hev
    have Hr0 := Lib.hid r0
    have Hr1 := Lib.hid r1
    clear hev r0 r1 H
    by_cases h : u.fn = top ∧ u.args.length = 1
    · obtain ⟨h1, h2⟩ := h
      obtain ⟨f, xs⟩ := u
      simp only [Tm.fn, Tm.args] at h1 h2 hA1 y0 y1 Hr0
      obtain ⟨x, rfl⟩ : ∃ x, xs = [x] := by
        match xs, h2 with
        | [x], _ => exact ⟨x, rfl⟩
      subst h1
      obtain ⟨bb, off, A3, c3, rfl, ha⟩ := hA1.get (i := 0) rfl
      have e0 := cell_on hBr ha.hb ha.c0
      have e1 := cell_on hBr ha.hb ha.c1
      rw [Nat.zero_mul, Nat.add_zero] at e0 e1
      have hev2 := Lib.hid (Hev.out.trans (arnd_step rfl))
      have hsub := Lib.hid ha.sub
      have hlt : x.size < gk := by simp only [Tm.size, sizes] at hsz; omega
      have hne : bb ≠ w.heap.size := by have := ha.hb; omega
      clear ha h2 hsz
      go_wp2
      have hst : ∀ W2 : World, W2 = (wr.setCell ⟨w.heap.size, 0, none⟩ (.int .i64 x.fn)).setCell ⟨w.heap.size, 1, none⟩ (.slice A3 x.args.length c3) → W2.heap[w.heap.size]? = some (.cells #[.int .i64 x.fn, .slice A3 x.args.length c3] 27) ∧ W2.heap[w.heap.size + 1]? = some (.cells #[.int .i64 v.fn, .slice A2 v.args.length c2] 27) := fun W2 e => by
        subst e
        exact ⟨(set2_two Hr0.out).2, (heap_setCell_other _ _ _ _ (show w.heap.size + 1 ≠ w.heap.size by omega)).trans ((heap_setCell_other _ _ _ _ (show w.heap.size + 1 ≠ w.heap.size by omega)).trans Hr1.out)⟩
      go_roundg x.size
      case measure => exact hlt
      case rel => exact ⟨(hBr.setCell (Nat.le_refl _) _).setCell (Nat.le_refl _) _, x, A3, c3, hev2.out, (hst _ rfl).1, (hst _ rfl).2, hsub.out, Nat.le_refl _⟩
    · have hend := Lib.hid (Hev.out.trans (arnd_stop h))
      by_cases h1 : u.fn = top
      · have h1' : (u.fn == top) = true := by simp [h1]
        have h2 : ¬ u.args.length = 1 := fun e => h ⟨h1, e⟩
        have h2' : ((u.args.length : Int) == 1) = false := by simp; omega
        clear h h1 h2
        go_wp2
        go_ret
        exact ⟨ret_bool (by rw [hend.out, Bool.eq_iff_iff, beq_iff_eq, decide_eq_true_eq]), hBr⟩
      · have h1' : (u.fn == top) = false := by simp [h1]
        clear h h1
        go_wp2
        go_ret
        exact ⟨ret_bool (by rw [hend.out, Bool.eq_iff_iff, beq_iff_eq, decide_eq_true_eq]), hBr⟩

/-- How two terms with other tops stand if they weigh the same; the first one no variable. -/
def topsP (o : Odr) (s t : Tm) : Int := if t.fn < 0 then (if (arndEnd s.fn s).fn = t.fn then 3 else 0) else
  if o.prec.getD t.fn.toNat 0 < o.prec.getD s.fn.toNat 0 then 3 else if o.prec.getD s.fn.toNat 0 = o.prec.getD t.fn.toNat 0 then 0 else 1

def topsR (o : Odr) (s t : Tm) : Int := if s.fn < 0 then (if t.fn < 0 then 0 else relT (topsP o t s)) else topsP o s t

theorem topsP_bd (o : Odr) (s t : Tm) : 0 ≤ topsP o s t ∧ topsP o s t ≤ 3 := by
  unfold topsP
  split
  · split <;> omega
  · split
    · omega
    · split <;> omega

set_option maxHeartbeats 4000000 in
theorem tops_pos (o : Odr) (s t : Tm) (P Q A A2 : Option Addr) (pc qc c c2 : Nat) (w : World) (hM : OdrM w w.heap.size o P Q) (hs : ¬ s.fn < 0) (hsk : s.fn < (o.prec.length : Int)) (htk : t.fn < (o.prec.length : Int)) (hA : Args w w.heap.size A s.args) :
    Calls Try.prog 80 #[.agg #[.bool o.lpo, .slice P o.prec.length pc, .slice Q o.wts.length qc, .int .i64 o.var], .agg #[.int .i64 s.fn, .slice A s.args.length c], .agg #[.int .i64 t.fn, .slice A2 t.args.length c2]] w fun e w' => e = .returned (.int .i64 (topsP o s t)) ∧ Below w.heap.size w w' := by
  obtain ⟨q0, q1, q2⟩ := heap3 w (.cells #[.bool o.lpo, .slice P o.prec.length pc, .slice Q o.wts.length qc, .int .i64 o.var] 24) (.cells #[.int .i64 s.fn, .slice A s.args.length c] 27) (.cells #[.int .i64 t.fn, .slice A2 t.args.length c2] 27)
  obtain ⟨W, hW⟩ : ∃ W, (((w.alloc (.cells #[.bool o.lpo, .slice P o.prec.length pc, .slice Q o.wts.length qc, .int .i64 o.var] 24)).alloc (.cells #[.int .i64 s.fn, .slice A s.args.length c] 27)).alloc (.cells #[.int .i64 t.fn, .slice A2 t.args.length c2] 27)) = W := ⟨_, rfl⟩
  have hB : Below w.heap.size w W := by rw [← hW]; exact (((Below.refl _ _).alloc (Nat.le_refl _) _).alloc (by simp) _).alloc (by simp; omega) _
  rw [hW] at q0 q1 q2
  have hWs : w.heap.size + 1 + 1 < W.heap.size := (Array.getElem?_eq_some_iff.1 q2).1
  have HW := Lib.hid hW
  have Har := Lib.hid (around_any s t A A2 c c2 W (hA.on hB))
  have HP := Lib.hid (hM.p.on hB)
  have H0 := Lib.hid q0
  obtain ⟨x0, x1, _, _⟩ := cells_two q1
  obtain ⟨y0, y1, _, _⟩ := cells_two q2
  have hlater : ∀ x : Later W.heap.size W, x.w.cell? ⟨w.heap.size, 1, none⟩ = some (.slice P o.prec.length pc) ∧ x.w.cell? ⟨w.heap.size + 1, 0, none⟩ = some (.int .i64 s.fn) ∧ x.w.cell? ⟨w.heap.size + 1 + 1, 0, none⟩ = some (.int .i64 t.fn) := fun x =>
    ⟨(cells_four ((x.h.block _ (by omega)).trans q0)).2.1, (cells_two ((x.h.block _ (by omega)).trans q1)).1, (cells_two ((x.h.block _ hWs).trans q2)).1⟩
  have Hl := Lib.hid hlater
  clear hW hA hM q0 q1 q2 hlater
  by_cases ht : t.fn < 0
  · have hR := Lib.hid (show topsP o s t = if (arndEnd s.fn s).fn = t.fn then 3 else 0 by unfold topsP; rw [if_pos ht])
    by_cases ha : (arndEnd s.fn s).fn = t.fn
    · have ha' := Lib.hid (decide_eq_true ha)
      have hR := Lib.hid (show topsP o s t = 3 by rw [hR.out, if_pos ha])
      have l0 : ∀ x : Later W.heap.size W, x.w.cell? ⟨w.heap.size + 1 + 1, 0, none⟩ = some (.int .i64 t.fn) := fun x => (Hl.out x).2.2
      clear ha
      go_enter Try.func80, Try.ntmps80
      go_upto_region 1 with fail
      rw [HW.out]
      go_upto_region 7 with (first
        | (go_at_call 97; (with_reducible refine Har.out.mono ?_); go_must (rintro e w1 ⟨rfl, hb1⟩; rw [ha'.out]))
        | fail)
      have ht' := decide_eq_true ht
      refine wp_region_later W.heap.size W (by kernel_rfl) (by kernel_rfl) (bl_drewN hb1 1) ?_
      repeat (go_big_quiet_step (fail))
      refine wpQuiet_nil ?_
      rintro _ ⟨z, rfl⟩
      go_wp2
      go_ret
      exact ⟨by rw [hR.out]; rfl, hB.trans (z.h.mono hB.size)⟩
    · have ha' := Lib.hid (decide_eq_false ha)
      have hR := Lib.hid (show topsP o s t = 0 by rw [hR.out, if_neg ha])
      clear ha
      go_enter Try.func80, Try.ntmps80
      go_upto_region 1 with fail
      rw [HW.out]
      go_wp2_with (first
        | (go_at_call 97; (with_reducible refine Har.out.mono ?_); go_must (rintro e w1 ⟨rfl, hb1⟩; rw [ha'.out]))
        | fail)
      go_ret
      exact ⟨by rw [hR.out]; rfl, hB.trans (hb1.mono hB.size)⟩
  · obtain ⟨k, hk⟩ : ∃ k : Nat, s.fn = (k : Int) := ⟨s.fn.toNat, by omega⟩
    obtain ⟨j, hj⟩ : ∃ j : Nat, t.fn = (j : Int) := ⟨t.fn.toNat, by omega⟩
    obtain ⟨p, hp⟩ : ∃ p, o.prec[k]? = some p := ⟨_, List.getElem?_eq_getElem (by omega)⟩
    obtain ⟨q, hq⟩ : ∃ q, o.prec[j]? = some q := ⟨_, List.getElem?_eq_getElem (by omega)⟩
    obtain ⟨b, off, hPa, hb, hc⟩ := HP.out.get hp
    obtain ⟨b', off', hPa', hb', hc'⟩ := HP.out.get hq
    rw [hPa] at hPa'
    injection hPa' with e
    injection e with e1 e2 _
    subst e1; subst e2; subst hPa
    have hR : topsP o s t = if q < p then 3 else if p = q then 0 else 1 := by
      unfold topsP
      rw [if_neg ht, hk, hj, List.getD_eq_getElem?_getD, List.getD_eq_getElem?_getD, show ((k : Int).toNat) = k from rfl, show ((j : Int).toNat) = j from rfl, hp, hq]
      rfl
    have HR := Lib.hid hR
    have l0 : ∀ x : Later W.heap.size W, x.w.cell? ⟨w.heap.size + 1 + 1, 0, none⟩ = some (.int .i64 (j : Int)) := fun x => by rw [← hj]; exact (Hl.out x).2.2
    have l1 : ∀ x : Later W.heap.size W, x.w.cell? ⟨w.heap.size + 1, 0, none⟩ = some (.int .i64 (k : Int)) := fun x => by rw [← hk]; exact (Hl.out x).2.1
    have l2 : ∀ x : Later W.heap.size W, x.w.cell? ⟨w.heap.size, 1, none⟩ = some (.slice (some ⟨b, off, none⟩) o.prec.length pc) := fun x => (Hl.out x).1
    have l3 : ∀ x : Later W.heap.size W, x.w.cell? ⟨b, off + k, none⟩ = some (.int .i64 p) := fun x => cell_on x.h hb hc
    have l4 : ∀ x : Later W.heap.size W, x.w.cell? ⟨b, off + j, none⟩ = some (.int .i64 q) := fun x => cell_on x.h hb' hc'
    rw [hk] at hs hsk x0 HW ⊢
    rw [hj] at ht htk y0 HW ⊢
    have ht' := decide_eq_false ht
    clear hR hk hj hp hq hc hc' H0 Hl
    by_cases h1 : q < p
    · have h1' : decide (p > q) = true := decide_eq_true h1
      have hR := Lib.hid (show topsP o s t = 3 by rw [HR.out, if_pos h1])
      clear h1 HR
      go_enter Try.func80, Try.ntmps80
      go_upto_region 1 with fail
      rw [HW.out]
      go_upto_region 7 with fail
      refine wp_region_later W.heap.size W (by kernel_rfl) (by kernel_rfl) (bl_drewN (Below.refl _ _) 1) ?_
      repeat (go_big_quiet_step (fail))
      refine wpQuiet_nil ?_
      rintro _ ⟨z, rfl⟩
      go_wp2
      go_ret
      exact ⟨by rw [hR.out]; rfl, hB.trans (z.h.mono hB.size)⟩
    · have h1' : decide (p > q) = false := decide_eq_false h1
      by_cases h2 : p = q
      · have h2' : (p == q) = true := by simp [h2]
        have hR := Lib.hid (show topsP o s t = 0 by rw [HR.out, if_neg h1, if_pos h2])
        clear h1 h2 HR
        go_enter Try.func80, Try.ntmps80
        go_upto_region 1 with fail
        rw [HW.out]
        go_upto_region 7 with fail
        refine wp_region_later W.heap.size W (by kernel_rfl) (by kernel_rfl) (bl_drewN (Below.refl _ _) 1) ?_
        repeat (go_big_quiet_step (fail))
        refine wpQuiet_nil ?_
        rintro _ ⟨z, rfl⟩
        go_upto_region 9 with fail
        refine wp_region_later W.heap.size W (by kernel_rfl) (by kernel_rfl) (bl_drewN z.h 1) ?_
        repeat (go_big_quiet_step (fail))
        refine wpQuiet_nil ?_
        rintro _ ⟨z2, rfl⟩
        go_wp2
        go_ret
        exact ⟨by rw [hR.out]; rfl, hB.trans (z2.h.mono hB.size)⟩
      · have h2' : (p == q) = false := by simp [h2]
        have hR := Lib.hid (show topsP o s t = 1 by rw [HR.out, if_neg h1, if_neg h2])
        clear h1 h2 HR
        go_enter Try.func80, Try.ntmps80
        go_upto_region 1 with fail
        rw [HW.out]
        go_upto_region 7 with fail
        refine wp_region_later W.heap.size W (by kernel_rfl) (by kernel_rfl) (bl_drewN (Below.refl _ _) 1) ?_
        repeat (go_big_quiet_step (fail))
        refine wpQuiet_nil ?_
        rintro _ ⟨z, rfl⟩
        go_upto_region 9 with fail
        refine wp_region_later W.heap.size W (by kernel_rfl) (by kernel_rfl) (bl_drewN z.h 1) ?_
        repeat (go_big_quiet_step (fail))
        refine wpQuiet_nil ?_
        rintro _ ⟨z2, rfl⟩
        go_wp2
        go_ret
        exact ⟨by rw [hR.out]; rfl, hB.trans (z2.h.mono hB.size)⟩

set_option maxHeartbeats 1000000 in
theorem tops_any (o : Odr) (s t : Tm) (P Q A A2 : Option Addr) (pc qc c c2 : Nat) (w : World) (hM : OdrM w w.heap.size o P Q) (hsk : s.fn < (o.prec.length : Int)) (htk : t.fn < (o.prec.length : Int)) (hA : Args w w.heap.size A s.args) (hA2 : Args w w.heap.size A2 t.args) :
    Calls Try.prog 80 #[.agg #[.bool o.lpo, .slice P o.prec.length pc, .slice Q o.wts.length qc, .int .i64 o.var], .agg #[.int .i64 s.fn, .slice A s.args.length c], .agg #[.int .i64 t.fn, .slice A2 t.args.length c2]] w fun e w' => e = .returned (.int .i64 (topsR o s t)) ∧ Below w.heap.size w w' := by
  by_cases hs : s.fn < 0
  · have hB : Below w.heap.size w (((w.alloc (.cells #[.bool o.lpo, .slice P o.prec.length pc, .slice Q o.wts.length qc, .int .i64 o.var] 24)).alloc (.cells #[.int .i64 s.fn, .slice A s.args.length c] 27)).alloc (.cells #[.int .i64 t.fn, .slice A2 t.args.length c2] 27)) := (((Below.refl _ _).alloc (Nat.le_refl _) _).alloc (by simp) _).alloc (by simp; omega) _
    by_cases ht : t.fn < 0
    · have hR := Lib.hid (show topsR o s t = 0 by unfold topsR; rw [if_pos hs, if_pos ht])
      clear hA hA2 hM
      go_enter Try.func80, Try.ntmps80
      go_wp2
      go_ret
      exact ⟨by rw [hR.out]; rfl, hB⟩
    · have hR := Lib.hid (show topsR o s t = relT (topsP o t s) by unfold topsR; rw [if_pos hs, if_neg ht])
      obtain ⟨q0, q1, q2⟩ := heap3 w (.cells #[.bool o.lpo, .slice P o.prec.length pc, .slice Q o.wts.length qc, .int .i64 o.var] 24) (.cells #[.int .i64 s.fn, .slice A s.args.length c] 27) (.cells #[.int .i64 t.fn, .slice A2 t.args.length c2] 27)
      obtain ⟨W, hW⟩ : ∃ W, (((w.alloc (.cells #[.bool o.lpo, .slice P o.prec.length pc, .slice Q o.wts.length qc, .int .i64 o.var] 24)).alloc (.cells #[.int .i64 s.fn, .slice A s.args.length c] 27)).alloc (.cells #[.int .i64 t.fn, .slice A2 t.args.length c2] 27)) = W := ⟨_, rfl⟩
      rw [hW] at hB q0 q1 q2
      obtain ⟨x0, x1, _, _⟩ := cells_two q1
      obtain ⟨y0, y1, _, _⟩ := cells_two q2
      obtain ⟨z0, z1, z2, z3⟩ := cells_four q0
      have H1 := Lib.hid (tops_pos o t s P Q A2 A pc qc c2 c W (hM.on hB) ht htk hsk (hA2.on hB))
      have hbd := topsP_bd o t s
      have H2 : ∀ w1 : World, _ := fun w1 => turned_any (topsP o t s) hbd.1 hbd.2 w1
      have H2 := Lib.hid H2
      have HW := Lib.hid hW
      clear hW hA hA2 hM hbd q0 q1 q2
      go_enter Try.func80, Try.ntmps80
      go_upto_region 1 with fail
      rw [HW.out]
      go_wp2_with (first
        | (go_at_call 80; (with_reducible refine H1.out.mono ?_); go_must (rintro e w1 ⟨rfl, hb1⟩))
        | (go_at_call 84; (with_reducible refine (H2.out w1).mono ?_); go_must (rintro e w2 ⟨rfl, rfl⟩))
        | fail)
      go_ret
      exact ⟨by rw [hR.out]; rfl, hB.trans (hb1.mono hB.size)⟩
  · have hR := Lib.hid (show topsR o s t = topsP o s t by unfold topsR; rw [if_neg hs])
    rw [hR.out]
    exact tops_pos o s t P Q A A2 pc qc c c2 w hM hs hsk htk hA

end Go.Proofs.Ytbchignbndgigaa

/- walk; Size. -/

namespace Go.Proofs.Ytbchignbndgigaa

open Go.RowKit Go.Shelf
attribute [local go_sem] Oper.semAt_some
set_option maxRecDepth 100000

end Go.Proofs.Ytbchignbndgigaa

/- Size. -/

namespace Go.Proofs.Ytbchignbndgigaa

open Go.RowKit Go.Shelf
attribute [local go_sem] Oper.semAt_some
set_option maxRecDepth 100000

theorem vis_len (t : Tm) : ∀ p, (vis p t).length = t.size := by
  have key : ∀ xs : List Tm, (∀ t ∈ xs, ∀ p, (vis p t).length = t.size) → ∀ (p : List Int) (i : Nat), (visL p i xs).length = sizes xs := by
    intro xs
    induction xs with
    | nil => intro _ p i; simp [visL, sizes]
    | cons x xs ih =>
      intro h p i
      simp only [visL, sizes, List.length_append, h x (by simp), ih (fun t ht => h t (by simp [ht]))]
  refine Tm.ind (P := fun t => ∀ p, (vis p t).length = t.size) (fun f xs ih p => ?_) t
  simp only [vis, Tm.size, List.length_cons, key xs ih]

theorem pre_len {t : Tm} {pre : List Vis} (h : pre.map Vis.key <+: vis [] t) : pre.length ≤ t.size := by
  have := h.length_le
  rw [vis_len, List.length_map] at this
  exact this

/-- What a range's record turns, where a body's cells are asked. -/
theorem put_block {W : World} {l g : Nat} {r : Loop} {o : Obj} {cs : Array Value} {t : TypeId} {z : Nat × Nat} (h : W.heap[g]? = some (.cells cs t z)) (hl : W.heap[l]? = some (.loop r)) : (W.putObj l o).heap[g]? = some (.cells cs t z) :=
  (World.putObj_heap_other (fun e => by subst e; rw [h] at hl; cases hl)).trans h

end Go.Proofs.Ytbchignbndgigaa

/- The document's own answers: Size, Depth, low, over, Small. -/

namespace Go.Proofs.Ytbchignbndgigaa

open Go.RowKit
set_option maxRecDepth 100000

theorem sizes_snoc : ∀ (xs : List Tm) (u : Tm), sizes (xs ++ [u]) = sizes xs + u.size
  | [], u => by simp [sizes]
  | x :: xs, u => by simp only [List.cons_append, sizes, sizes_snoc xs u]; omega

theorem depths_snoc : ∀ (xs : List Tm) (u : Tm), depths (xs ++ [u]) = max (depths xs) u.depth
  | [], u => by simp [depths]
  | x :: xs, u => by simp only [List.cons_append, depths, depths_snoc xs u]; omega

theorem sizes_take {xs : List Tm} {k : Nat} {u : Tm} (h : xs[k]? = some u) : sizes (xs.take (k + 1)) = sizes (xs.take k) + u.size := by
  rw [List.take_add_one, h]; exact sizes_snoc _ _

theorem depths_take {xs : List Tm} {k : Nat} {u : Tm} (h : xs[k]? = some u) : depths (xs.take (k + 1)) = max (depths (xs.take k)) u.depth := by
  rw [List.take_add_one, h]; exact depths_snoc _ _

theorem sizes_le (xs : List Tm) (k : Nat) : sizes (xs.take k) ≤ sizes xs := by
  have key : ∀ (ys zs : List Tm), sizes zs ≤ sizes (zs ++ ys) := by
    intro ys zs
    induction zs with
    | nil => simp [sizes]
    | cons z zs ih => simp only [List.cons_append, sizes]; omega
  have := key (xs.drop k) (xs.take k)
  rwa [List.take_append_drop] at this

theorem depth_le_size (t : Tm) : t.depth ≤ t.size := by
  refine Tm.ind (P := fun t => t.depth ≤ t.size) (fun f xs ih => ?_) t
  simp only [Tm.depth, Tm.size]
  have key : ∀ ys : List Tm, (∀ t ∈ ys, t.depth ≤ t.size) → depths ys ≤ sizes ys := by
    intro ys
    induction ys with
    | nil => intro _; simp [depths]
    | cons y ys ihy =>
      intro h
      have h1 := h y (by simp)
      have h2 := ihy fun t ht => h t (by simp [ht])
      simp only [depths, sizes]
      omega
  have := key xs ih
  omega

theorem depths_le (xs : List Tm) (k : Nat) : depths (xs.take k) ≤ depths xs := by
  have key : ∀ (ys zs : List Tm), depths zs ≤ depths (zs ++ ys) := by
    intro ys zs
    induction zs with
    | nil => simp [depths]
    | cons z zs ih => simp only [List.cons_append, depths]; omega
  have := key (xs.drop k) (xs.take k)
  rwa [List.take_append_drop] at this

/-- The box of a term that is a parameter, and what stays of it. -/
theorem box_term {w W : World} {f : Int} {A : Option Addr} {n c : Nat} (hW : w.alloc (.cells #[.int .i64 f, .slice A n c] 27) = W) : Below w.heap.size w W ∧ w.heap.size < W.heap.size ∧ ∀ w', Below W.heap.size W w' → w'.cell? ⟨w.heap.size, 0, none⟩ = some (.int .i64 f) ∧ w'.cell? ⟨w.heap.size, 1, none⟩ = some (.slice A n c) := by
  have hb : W.heap[w.heap.size]? = some (.cells #[.int .i64 f, .slice A n c] 27) := by rw [← hW]; exact heap_alloc_new w _
  have hlt := (Array.getElem?_eq_some_iff.1 hb).1
  refine ⟨by rw [← hW]; exact (Below.refl _ _).alloc (Nat.le_refl _) _, hlt, fun w' h => ?_⟩
  obtain ⟨h0, h1, _, _⟩ := cells_two ((h.block _ hlt).trans hb)
  exact ⟨h0, h1⟩

def RSize (t : Tm) : Prop := t.size ≤ 4611686018427387904 → ∀ (A : Option Addr) (c : Nat) (w : World), I64 t.fn → Args w w.heap.size A t.args →
  Calls Try.prog 35 #[.agg #[.int .i64 t.fn, .slice A t.args.length c]] w fun e w' => e = .returned (.int .i64 (t.size : Int)) ∧ Below w.heap.size w w'

set_option maxHeartbeats 1000000 in
theorem refSize_any (t : Tm) : RSize t := by
  refine Tm.ind (P := RSize) (fun f xs ih => ?_) t
  intro hsz A c w hf hA
  simp only [Tm.fn, Tm.args] at hf hA ⊢
  have hlen := hA.len
  obtain ⟨W, hW⟩ : ∃ W, w.alloc (.cells #[.int .i64 f, .slice A xs.length c] 27) = W := ⟨_, rfl⟩
  obtain ⟨hB, hlt, hS⟩ := box_term hW
  have HW := Lib.hid hW
  have hszs : sizes xs + 1 ≤ 4611686018427387904 := by simpa only [Tm.size] using hsz
  clear hW
  go_enter Try.func35, Try.ntmps35
  go_upto_region 1 with fail
  rw [HW.out]
  go_wp2
  go_loopw [3, 4] (fun n i wr => ∃ k : Nat, k ≤ xs.length ∧ i = .int .i64 (k : Int) ∧ n = .int .i64 ((sizes (xs.take k) + 1 : Nat) : Int) ∧ Below W.heap.size W wr) (fun _ i _ => xs.length - (intOf i).toNat)
  case atStart => exact ⟨0, Nat.zero_le _, rfl, by simp [sizes], Below.refl _ _⟩
  case round =>
    obtain ⟨k, hk, rfl, rfl, hBr⟩ := hrel
    obtain ⟨_, x1⟩ := hS _ hBr
    have hsk := sizes_le xs k
    by_cases hkl : k < xs.length
    · obtain ⟨u, hu⟩ : ∃ u, xs[k]? = some u := ⟨_, List.getElem?_eq_getElem hkl⟩
      obtain ⟨bb, off, A1, c1, rfl, ha⟩ := (hA.on (hB.trans (hBr.mono hB.size))).get hu
      have e0 := ha.c0
      have e1 := ha.c1
      have hmem := List.mem_of_getElem? hu
      have hsu := size_mem hmem
      have hst := Lib.hid (sizes_take hu)
      have hsk1 := sizes_le xs (k + 1)
      have hst' := sizes_take hu
      have hsub := Lib.hid ha.sub
      have hu64 := ha.hi
      clear hu ha
      go_wp2_with (first
        | (go_at_call 35
           go_must (
           refine (ih u hmem (by omega) A1 c1 wr hu64 hsub.out).mono ?_
           rintro e w2 ⟨rfl, hb2⟩))
        | fail)
      refine ⟨⟨k + 1, by omega, by go_num, ?_, hBr.trans (hb2.mono hBr.size)⟩, by simp [intOf]; omega⟩
      rw [hst']
      go_num
    · obtain rfl : k = xs.length := by omega
      go_wp2
      go_ret
      exact ⟨by rw [List.take_length]; rfl, hB.trans (hBr.mono hB.size)⟩

def RDepth (t : Tm) : Prop := t.depth ≤ 4611686018427387904 → ∀ (A : Option Addr) (c : Nat) (w : World), I64 t.fn → Args w w.heap.size A t.args →
  Calls Try.prog 88 #[.agg #[.int .i64 t.fn, .slice A t.args.length c]] w fun e w' => e = .returned (.int .i64 (t.depth : Int)) ∧ Below w.heap.size w w'

set_option maxHeartbeats 1000000 in
theorem refDepth_any (t : Tm) : RDepth t := by
  refine Tm.ind (P := RDepth) (fun f xs ih => ?_) t
  intro hsz A c w hf hA
  simp only [Tm.fn, Tm.args] at hf hA ⊢
  have hlen := hA.len
  obtain ⟨W, hW⟩ : ∃ W, w.alloc (.cells #[.int .i64 f, .slice A xs.length c] 27) = W := ⟨_, rfl⟩
  obtain ⟨hB, hlt, hS⟩ := box_term hW
  have HW := Lib.hid hW
  have hszs : depths xs + 1 ≤ 4611686018427387904 := by simpa only [Tm.depth] using hsz
  clear hW
  go_enter Try.func88, Try.ntmps88
  go_upto_region 1 with fail
  rw [HW.out]
  go_wp2
  go_loopw [3, 4] (fun n i wr => ∃ k : Nat, k ≤ xs.length ∧ i = .int .i64 (k : Int) ∧ n = .int .i64 ((depths (xs.take k) : Nat) : Int) ∧ Below W.heap.size W wr) (fun _ i _ => xs.length - (intOf i).toNat)
  case atStart => exact ⟨0, Nat.zero_le _, rfl, by simp [depths], Below.refl _ _⟩
  case round =>
    obtain ⟨k, hk, rfl, rfl, hBr⟩ := hrel
    obtain ⟨_, x1⟩ := hS _ hBr
    have hsk := depths_le xs k
    by_cases hkl : k < xs.length
    · obtain ⟨u, hu⟩ : ∃ u, xs[k]? = some u := ⟨_, List.getElem?_eq_getElem hkl⟩
      obtain ⟨bb, off, A1, c1, rfl, ha⟩ := (hA.on (hB.trans (hBr.mono hB.size))).get hu
      have e0 := ha.c0
      have e1 := ha.c1
      have hmem := List.mem_of_getElem? hu
      have hsu := depth_mem hmem
      have hst' := depths_take hu
      have hsub := Lib.hid ha.sub
      have hu64 := ha.hi
      clear hu ha
      go_wp2_with (first
        | (go_at_call 88
           go_must (
           refine (ih u hmem (by omega) A1 c1 wr hu64 hsub.out).mono ?_
           rintro e w2 ⟨rfl, hb2⟩))
        | fail)
      all_goals
        refine ⟨⟨k + 1, by omega, by go_num, ?_, hBr.trans (hb2.mono hBr.size)⟩, by simp [intOf]; omega⟩
        rw [hst']
        congr 1
        omega
    · obtain rfl : k = xs.length := by omega
      go_wp2
      go_ret
      exact ⟨by rw [List.take_length]; rfl, hB.trans (hBr.mono hB.size)⟩

end Go.Proofs.Ytbchignbndgigaa

/- Depth, Ground. Ground. Rising rows of numbers, in plain words: sorted and made single, or put in one after the other. -/

namespace Go.Proofs.Ytbchignbndgigaa

open Go.RowKit Go.Shelf

attribute [local go_sem] Oper.semAt_some
set_option maxRecDepth 100000

/-- The longest place of these, and one more. -/
def maxP : List (List Int × Tm) → Nat
  | [] => 0
  | x :: l => max (1 + x.1.length) (maxP l)

theorem maxP_app : ∀ (a b : List (List Int × Tm)), maxP (a ++ b) = max (maxP a) (maxP b)
  | [], b => by simp [maxP]
  | x :: a, b => by simp only [List.cons_append, maxP, maxP_app a b]; omega

theorem maxP_vis (t : Tm) : ∀ p, maxP (vis p t) = p.length + t.depth := by
  have key : ∀ xs : List Tm, (∀ t ∈ xs, ∀ p, maxP (vis p t) = p.length + t.depth) → ∀ (p : List Int) (i : Nat), maxP (visL p i xs) = if xs = [] then 0 else p.length + 1 + depths xs := by
    intro xs
    induction xs with
    | nil => intro _ p i; simp [visL, maxP]
    | cons x xs ih =>
      intro h p i
      have h1 := h x (by simp) (p ++ [(i : Int)])
      have h2 := ih (fun t ht => h t (by simp [ht])) p (i + 1)
      simp only [visL, maxP_app, h1, h2, depths, List.length_append, List.length_cons, List.length_nil]
      rw [if_neg (show ¬ (x :: xs = []) by simp)]
      have := depth_pos x
      by_cases e : xs = []
      · rw [if_pos e, e]; simp only [depths]; omega
      · rw [if_neg e]; omega
  refine Tm.ind (P := fun t => ∀ p, maxP (vis p t) = p.length + t.depth) (fun f xs ih p => ?_) t
  simp only [vis, Tm.depth, maxP, key xs ih]
  by_cases e : xs = []
  · rw [if_pos e, e]; simp only [depths]; omega
  · rw [if_neg e]; omega

theorem maxP_mem {l : List (List Int × Tm)} {x : List Int × Tm} (h : x ∈ l) : 1 + x.1.length ≤ maxP l := by
  induction l with
  | nil => simp at h
  | cons y l ih =>
    simp only [List.mem_cons] at h
    simp only [maxP]
    rcases h with rfl | h
    · omega
    · have := ih h; omega

theorem maxP_pre {t : Tm} {pre : List Vis} (h : pre.map Vis.key <+: vis [] t) : maxP (pre.map Vis.key) ≤ maxP (vis [] t) := by
  obtain ⟨r, hr⟩ := h
  rw [← hr, maxP_app]; omega

theorem pre_mem {t : Tm} {pre : List Vis} {x : Vis} (h : (pre ++ [x]).map Vis.key <+: vis [] t) : x.key ∈ vis [] t := h.subset (by simp)

end Go.Proofs.Ytbchignbndgigaa

namespace Go.Proofs.Ytbchignbndgigaa

open Go.RowKit Go.Shelf

attribute [local go_sem] Oper.semAt_some
set_option maxRecDepth 100000

/-- The variables' numbers that stand in these, in order. -/
def vnums : List (List Int × Tm) → List Int
  | [] => []
  | x :: l => if x.2.fn < 0 then (-1 - x.2.fn) :: vnums l else vnums l

theorem vnums_app : ∀ (a b : List (List Int × Tm)), vnums (a ++ b) = vnums a ++ vnums b
  | [], b => by simp [vnums]
  | x :: a, b => by
    simp only [List.cons_append, vnums, vnums_app a b]
    split <;> simp

theorem vnums_snoc_neg {pre : List Vis} {x : Vis} (h : x.t.fn < 0) : vnums ((pre ++ [x]).map Vis.key) = vnums (pre.map Vis.key) ++ [-1 - x.t.fn] := by
  rw [List.map_append, vnums_app]
  simp only [List.map_cons, List.map_nil, vnums, Vis.key, if_pos h]

theorem vnums_snoc_pos {pre : List Vis} {x : Vis} (h : ¬ x.t.fn < 0) : vnums ((pre ++ [x]).map Vis.key) = vnums (pre.map Vis.key) := by
  rw [List.map_append, vnums_app]
  simp only [List.map_cons, List.map_nil, vnums, Vis.key, if_neg h, List.append_nil]

theorem vnums_pre {t : Tm} {pre : List Vis} (h : pre.map Vis.key <+: vis [] t) : vnums (pre.map Vis.key) <+: vnums (vis [] t) := by
  obtain ⟨r, hr⟩ := h
  rw [← hr, vnums_app]
  exact List.prefix_append _ _

theorem stp_alloc {N P : Nat → Prop} (W : World) (o : Obj) (hN : ∀ g, N g → g < W.heap.size) : Stp N (fun _ => P) W (W.alloc o) :=
  ⟨(Keeps.alloc W o).mono fun g hg => hg.elim (hN g) (fun e => e.1), fun _ e => .inl e⟩

end Go.Proofs.Ytbchignbndgigaa

namespace Go.Proofs.Ytbchignbndgigaa

open Go.RowKit

mutual
/-- The variables' numbers in a term, in order. -/
def vn : Tm → List Int
  | .node f xs => (if f < 0 then [-1 - f] else []) ++ vnL xs
def vnL : List Tm → List Int
  | [] => []
  | t :: ts => vn t ++ vnL ts
end

theorem vnums_vis (t : Tm) : ∀ p, vnums (vis p t) = vn t := by
  have key : ∀ xs : List Tm, (∀ t ∈ xs, ∀ p, vnums (vis p t) = vn t) → ∀ (p : List Int) (i : Nat), vnums (visL p i xs) = vnL xs := by
    intro xs
    induction xs with
    | nil => intro _ p i; simp [visL, vnums, vnL]
    | cons x xs ih =>
      intro h p i
      simp only [visL, vnL, vnums_app, h x (by simp), ih (fun t ht => h t (by simp [ht]))]
  refine Tm.ind (P := fun t => ∀ p, vnums (vis p t) = vn t) (fun f xs ih p => ?_) t
  simp only [vis, vn, vnums, key xs ih, Tm.fn]
  split <;> simp

theorem vnL_app : ∀ (a b : List Tm), vnL (a ++ b) = vnL a ++ vnL b
  | [], b => by simp [vnL]
  | x :: a, b => by simp only [List.cons_append, vnL, vnL_app a b, List.append_assoc]

theorem vnL_take {xs : List Tm} {k : Nat} {u : Tm} (h : xs[k]? = some u) : vnL (xs.take (k + 1)) = vnL (xs.take k) ++ vn u := by
  rw [List.take_add_one, h, vnL_app]
  simp [vnL]

theorem vn_len (t : Tm) : (vn t).length ≤ t.size := by
  have key : ∀ xs : List Tm, (∀ t ∈ xs, (vn t).length ≤ t.size) → (vnL xs).length ≤ sizes xs := by
    intro xs
    induction xs with
    | nil => intro _; simp [vnL]
    | cons x xs ih =>
      intro h
      have h1 := h x (by simp)
      have h2 := ih fun t ht => h t (by simp [ht])
      simp only [vnL, sizes, List.length_append]
      omega
  refine Tm.ind (P := fun t => (vn t).length ≤ t.size) (fun f xs ih => ?_) t
  have := key xs ih
  simp only [vn, Tm.size, List.length_append]
  split <;> simp <;> omega

/-- One number put into a row, from a place on: none, if it stands there. -/
def insGo (v : Int) : List Int → Bool → List Int → Option (List Int)
  | [], done, out => some (if done then out else out ++ [v])
  | x :: r, done, out => if x = v then none else if v < x ∧ done = false then insGo v r true (out ++ [v] ++ [x]) else insGo v r done (out ++ [x])

def insI (l : List Int) (v : Int) : List Int := (insGo v l false []).getD l

theorem insGo_true (v : Int) : ∀ (r out : List Int), v ∉ r → insGo v r true out = some (out ++ r)
  | [], out, _ => by simp [insGo]
  | x :: r, out, h => by
    simp only [List.mem_cons, not_or] at h
    simp only [insGo, if_neg (show ¬ x = v from fun e => h.1 e.symm)]
    rw [if_neg (by simp), insGo_true v r _ h.2]
    simp

theorem insGo_mem (v : Int) : ∀ (r : List Int) (d : Bool) (out : List Int), v ∈ r → insGo v r d out = none
  | x :: r, d, out, h => by
    simp only [insGo]
    by_cases e : x = v
    · rw [if_pos e]
    · rw [if_neg e]
      have h2 : v ∈ r := by
        rcases List.mem_cons.1 h with h | h
        · exact absurd h.symm e
        · exact h
      split
      · exact insGo_mem v r _ _ h2
      · exact insGo_mem v r _ _ h2

theorem insGo_false (v : Int) : ∀ (r out : List Int), r.Pairwise (· < ·) → v ∉ r → ∃ a b, r = a ++ b ∧ insGo v r false out = some (out ++ a ++ v :: b) ∧ (∀ x ∈ a, x < v) ∧ ∀ x ∈ b, v < x
  | [], out, _, _ => ⟨[], [], rfl, by simp [insGo], by simp, by simp⟩
  | x :: r, out, hp, h => by
    simp only [List.mem_cons, not_or] at h
    rw [List.pairwise_cons] at hp
    have hne : ¬ x = v := fun e => h.1 e.symm
    by_cases hx : v < x
    · refine ⟨[], x :: r, rfl, ?_, by simp, fun y hy => ?_⟩
      · simp only [insGo, if_neg hne]
        rw [if_pos ⟨hx, by trivial⟩, insGo_true v r _ h.2]
        simp
      · rcases List.mem_cons.1 hy with rfl | hy
        · exact hx
        · have := hp.1 y hy; omega
    · obtain ⟨a, b, e1, e2, e3, e4⟩ := insGo_false v r (out ++ [x]) hp.2 h.2
      refine ⟨x :: a, b, by rw [e1]; rfl, ?_, fun y hy => ?_, e4⟩
      · simp only [insGo, if_neg hne]
        rw [if_neg (by omega), e2]
        simp
      · rcases List.mem_cons.1 hy with rfl | hy
        · omega
        · exact e3 y hy

theorem insI_rise {l : List Int} (v : Int) (h : l.Pairwise (· < ·)) : (insI l v).Pairwise (· < ·) ∧ ∀ x, x ∈ insI l v ↔ x ∈ l ∨ x = v := by
  unfold insI
  by_cases hv : v ∈ l
  · rw [insGo_mem v l _ _ hv]
    refine ⟨h, fun x => ⟨.inl, fun e => e.elim id fun e => by rw [e]; exact hv⟩⟩
  · obtain ⟨a, b, e1, e2, e3, e4⟩ := insGo_false v l [] h hv
    rw [e2]
    simp only [Option.getD_some, List.nil_append]
    rw [e1] at h
    obtain ⟨ha, hb, hab⟩ := List.pairwise_append.1 h
    refine ⟨List.pairwise_append.2 ⟨ha, List.pairwise_cons.2 ⟨e4, hb⟩, fun x hx y hy => ?_⟩, fun x => ?_⟩
    · rcases List.mem_cons.1 hy with rfl | hy
      · exact e3 x hx
      · exact hab x hx y hy
    · rw [e1]
      simp only [List.mem_append, List.mem_cons]
      constructor
      · rintro (h | h | h)
        · exact .inl (.inl h)
        · exact .inr h
        · exact .inl (.inr h)
      · rintro ((h | h) | h)
        · exact .inl h
        · exact .inr (.inr h)
        · exact .inr (.inl h)

theorem insI_fold : ∀ (r l : List Int), l.Pairwise (· < ·) → (r.foldl insI l).Pairwise (· < ·) ∧ ∀ x, x ∈ r.foldl insI l ↔ x ∈ l ∨ x ∈ r
  | [], l, h => ⟨h, fun x => by simp⟩
  | v :: r, l, h => by
    obtain ⟨h1, h2⟩ := insI_rise v h
    obtain ⟨h3, h4⟩ := insI_fold r (insI l v) h1
    refine ⟨h3, fun x => ?_⟩
    rw [List.foldl_cons, h4, h2]
    simp only [List.mem_cons]
    constructor
    · rintro ((h | h) | h)
      · exact .inl h
      · exact .inr (.inl h)
      · exact .inr (.inr h)
    · rintro (h | h | h)
      · exact .inl (.inl h)
      · exact .inl (.inr h)
      · exact .inr h

/-- Rising rows of the same numbers are the same. -/
theorem rise_eq : ∀ {a b : List Int}, a.Pairwise (· < ·) → b.Pairwise (· < ·) → (∀ x, x ∈ a ↔ x ∈ b) → a = b
  | [], [], _, _, _ => rfl
  | [], y :: b, _, _, h => absurd ((h y).2 (by simp)) (by simp)
  | x :: a, [], _, _, h => absurd ((h x).1 (by simp)) (by simp)
  | x :: a, y :: b, ha, hb, h => by
    rw [List.pairwise_cons] at ha hb
    have e : x = y := by
      have h1 := (h x).1 (by simp)
      have h2 := (h y).2 (by simp)
      rcases List.mem_cons.1 h1 with h1 | h1
      · exact h1
      · rcases List.mem_cons.1 h2 with h2 | h2
        · exact h2.symm
        · have := hb.1 x h1; have := ha.1 y h2; omega
    subst e
    rw [rise_eq ha.2 hb.2 fun z => ?_]
    constructor
    · intro hz
      rcases List.mem_cons.1 ((h z).1 (by simp [hz])) with e | e
      · have := ha.1 z hz; omega
      · exact e
    · intro hz
      rcases List.mem_cons.1 ((h z).2 (by simp [hz])) with e | e
      · have := hb.1 z hz; omega
      · exact e

open Go.Lib in

theorem comp_rise (d : Array Int) (hs : ∀ i j, i ≤ j → j < d.size → d[i]! ≤ d[j]!) : ∀ m, m ≤ d.size → (compactUpTo d m).Pairwise (· < ·) ∧ ∀ x, x ∈ compactUpTo d m ↔ ∃ j, j < m ∧ d[j]! = x
  | 0, _ => by simp [compactUpTo]
  | m + 1, hm => by
    obtain ⟨h1, h2⟩ := comp_rise d hs m (by omega)
    rw [compactUpTo_succ]
    by_cases hk : keeps d m = true
    · rw [if_pos hk]
      refine ⟨List.pairwise_append.2 ⟨h1, by simp, fun x hx y hy => ?_⟩, fun x => ?_⟩
      · simp only [List.mem_cons, List.not_mem_nil, or_false] at hy
        subst hy
        obtain ⟨j, hj, rfl⟩ := (h2 x).1 hx
        have h3 := hs j (m - 1) (by omega) (by omega)
        have h4 := hs (m - 1) m (by omega) (by omega)
        simp only [keeps, decide_eq_true_eq] at hk
        rcases hk with hk | hk
        · omega
        · omega
      · rw [List.mem_append, h2]
        simp only [List.mem_cons, List.not_mem_nil, or_false]
        constructor
        · rintro (⟨j, hj, e⟩ | rfl)
          · exact ⟨j, by omega, e⟩
          · exact ⟨m, by omega, rfl⟩
        · rintro ⟨j, hj, e⟩
          by_cases e2 : j = m
          · subst e2; exact .inr e.symm
          · exact .inl ⟨j, by omega, e⟩
    · rw [if_neg hk, List.append_nil]
      simp only [keeps, decide_eq_true_eq, not_or, ne_eq, Classical.not_not] at hk
      refine ⟨h1, fun x => ?_⟩
      rw [h2]
      constructor
      · rintro ⟨j, hj, e⟩; exact ⟨j, by omega, e⟩
      · rintro ⟨j, hj, e⟩
        by_cases e2 : j = m
        · subst e2; exact ⟨j - 1, by omega, by rw [← hk.2]; exact e⟩
        · exact ⟨j, by omega, e⟩

open Go.Lib in

/-- Sorted and made single, or put in one after the other: the same row. -/
theorem sort_ins (r : List Int) : compact (r.mergeSort fun x y => decide (x ≤ y)) = r.foldl insI [] := by
  have hp : (r.mergeSort fun x y => decide (x ≤ y)).Pairwise (fun x y => decide (x ≤ y) = true) := List.pairwise_mergeSort (fun a b c h1 h2 => by simp at *; omega) (fun a b => by simp; omega) r
  have hmem : ∀ x, x ∈ r.mergeSort (fun x y => decide (x ≤ y)) ↔ x ∈ r := fun x => List.mem_mergeSort
  generalize r.mergeSort (fun x y => decide (x ≤ y)) = z at hp hmem
  obtain ⟨h1, h2⟩ := insI_fold r [] List.Pairwise.nil
  obtain ⟨h3, h4⟩ := comp_rise z.toArray (fun i j hij hj => by
    have hj' : j < z.length := by simpa using hj
    have ei : z.toArray[i]! = z[i]'(by omega) := by rw [getElem!_pos _ i (by simpa using (by omega : i < z.length))]; simp
    have ej : z.toArray[j]! = z[j]'hj' := by rw [getElem!_pos _ j (by simpa using hj')]; simp
    rw [ei, ej]
    by_cases e : i = j
    · subst e; omega
    · have := List.pairwise_iff_getElem.1 hp i j (by omega) hj' (by omega)
      simpa using this) z.length (by simp)
  refine rise_eq h3 h1 fun x => ?_
  rw [show (x ∈ compact z ↔ x ∈ compactUpTo z.toArray z.length) from Iff.rfl, h4, h2, ← hmem]
  simp only [List.not_mem_nil, false_or]
  constructor
  · rintro ⟨j, hj, e⟩
    rw [getElem!_pos _ j (by simpa using hj)] at e
    rw [← e]
    simp
  · intro hx
    obtain ⟨j, hj, e⟩ := List.mem_iff_getElem.1 hx
    exact ⟨j, hj, by rw [getElem!_pos _ j (by simpa using hj)]; simpa using e⟩

end Go.Proofs.Ytbchignbndgigaa

/- The document's own answer: order (of variables). rename, again: the function that tells the numbers is asked for those of some variables alone. A map from variables to places, of the call's own: the function that numbers variables in the order in which they are met. -/

namespace Go.Proofs.Ytbchignbndgigaa

open Go.RowKit Go.Shelf
set_option maxRecDepth 100000

/-- A number is put behind those that are there, if it is not. -/
def ordI (l : List Int) (v : Int) : List Int := if v ∈ l then l else l ++ [v]

/-- The slice v is the call's own; it holds the numbers. -/
structure IntsR (w : World) (base : Nat) (v : Value) (l : List Int) : Prop where
  row : w.ownsRow base 3 1 v l.length (l.map (Value.int .i64))
  i64 : ∀ x ∈ l, I64 x

theorem IntsR.get {w : World} {base : Nat} {v : Value} {l : List Int} (h : IntsR w base v l) {i : Nat} {x : Int} (hx : l[i]? = some x) : ∃ g c, v = .slice (some ⟨g, 0, none⟩) l.length c ∧ g < w.heap.size ∧ w.cell? ⟨g, i, none⟩ = some (.int .i64 x) := by
  have hlt := (List.getElem?_eq_some_iff.1 hx).1
  rcases h.row.2 with ⟨_, h0⟩ | ⟨g, cap, cur, rfl, hb, hg, _⟩
  · omega
  · refine ⟨g, cap, rfl, (Array.getElem?_eq_some_iff.1 hg).1, ?_⟩
    rw [h.row.cellAt i (by simpa using hlt)]
    simp [hx]

theorem info_int : (Try.prog.info? 3).map (fun i => (i.zero, i.size, i.bytes)) = some (some (.int .i64 0), 1, 8) := by kernel_rfl

theorem ordI_len (l : List Int) (v : Int) : (ordI l v).length ≤ l.length + 1 := by
  unfold ordI
  split
  · omega
  · simp

theorem ord_len : ∀ (r l : List Int), (r.foldl ordI l).length ≤ l.length + r.length
  | [], l => by simp
  | v :: r, l => by
    have h1 := ord_len r (ordI l v)
    have h2 := ordI_len l v
    simp only [List.foldl_cons, List.length_cons]
    omega

theorem vnL_le' (xs : List Tm) (k : Nat) : (vnL (xs.take k)).length ≤ (vnL xs).length := by
  have := congrArg List.length (vnL_app (xs.take k) (xs.drop k))
  rw [List.take_append_drop, List.length_append] at this
  omega

/-- The row that has grown: nothing else has turned. -/
structure OrdW (base : Nat) (v : Value) (w : World) (v' : Value) (l : List Int) (w' : World) : Prop where
  row : IntsR w' base v' l
  gr : w.grownBy w' v.ownBlock
  own : ∀ g, v'.ownBlock = some g → v.ownBlock = some g ∨ w.heap.size ≤ g

theorem OrdW.refl {base : Nat} {v : Value} {w : World} {l : List Int} (h : IntsR w base v l) : OrdW base v w v l w := ⟨h, World.grownBy.refl w _, fun _ e => .inl e⟩

theorem OrdW.old {base : Nat} {v v' : Value} {w w' : World} {l : List Int} (h : OrdW base v w v' l w') {g : Nat} (hg : g < w.heap.size) (hn : v.ownBlock ≠ some g) : w'.heap[g]? = w.heap[g]? := h.gr.block g hg fun e => hn e.symm

theorem OrdW.step {base : Nat} {v v1 v2 : Value} {w w1 w2 : World} {l1 l2 : List Int} (h : OrdW base v w v1 l1 w1) (h2 : OrdW base v1 w1 v2 l2 w2) : OrdW base v w v2 l2 w2 := by
  have hs := h.gr.size
  refine ⟨h2.row, ⟨h2.gr.os.trans h.gr.os, h2.gr.tape.trans h.gr.tape, h2.gr.output.trans h.gr.output, Nat.le_trans hs h2.gr.size, fun g hg hn => ?_⟩, fun g e => ?_⟩
  · refine (h2.gr.block g (Nat.lt_of_lt_of_le hg hs) fun e => ?_).trans (h.gr.block g hg hn)
    rcases h.own g e.symm with h' | h'
    · exact hn h'.symm
    · omega
  · rcases h2.own g e with h' | h'
    · exact h.own g h'
    · exact .inr (by omega)

theorem OrdW.below {base : Nat} {v : Value} {w w1 : World} {l : List Int} (h : IntsR w base v l) (hb : Below w.heap.size w w1) : OrdW base v w v l w1 :=
  ⟨⟨row_keep h.row fun g e => hb.block g (row_lt h.row g e).2, h.i64⟩, ⟨hb.os, hb.tape, hb.output, hb.size, fun k hk _ => hb.block k hk⟩, fun _ e => .inl e⟩

theorem ord_app {base : Nat} {v v5 : Value} {w wr w5 : World} {l : List Int} {x : Int} {o : Obj} (h : IntsR w base v l) (hb : Below w.heap.size w wr) (hx : I64 x) (hown : w5.ownsRow base 3 1 v5 (l.length + 1) (l.map (Value.int .i64) ++ [.int .i64 x])) (hgr : (wr.alloc o).grownBy w5 v.ownBlock) (hat : v5.ownBlock = v.ownBlock ∨ v5.ownBlock = some (wr.alloc o).heap.size) : OrdW base v w v5 (l ++ [x]) w5 := by
  have hs := hb.size
  have hs5 := hgr.size
  have hsz : wr.heap.size + 1 ≤ w5.heap.size := by simpa using hs5
  refine ⟨⟨by simpa using hown, fun y hy => ?_⟩, ⟨hgr.os.trans hb.os, hgr.tape.trans hb.tape, hgr.output.trans hb.output, by omega, fun g hg hn => ?_⟩, fun g e => ?_⟩
  · rcases List.mem_append.1 hy with hy | hy
    · exact h.i64 y hy
    · simp at hy; subst hy; exact hx
  · exact (hgr.block g (by simp; omega) hn).trans ((Below.heap_alloc wr o g (by omega)).trans (hb.block g hg))
  · rcases hat with h' | h'
    · rw [h'] at e; exact .inl e
    · rw [h'] at e; injection e with e; simp at e; exact .inr (by omega)

def OrdPost (base : Nat) (v : Value) (l : List Int) (w : World) (e : Ending) (w' : World) : Prop := ∃ v', e = .returned v' ∧ OrdW base v w v' l w'

theorem row_slice {W : World} {base n : Nat} {e : TypeId} {size : Nat} {v : Value} {vs : List Value} (h : W.ownsRow base e size v n vs) : ∃ A c, v = .slice A n c := by
  rcases h.2 with ⟨hv, h0⟩ | ⟨g, cap, cur, hv, _⟩
  · exact ⟨none, 0, by rw [hv, h0]⟩
  · exact ⟨_, cap, hv⟩

theorem IntsR.on {w w' : World} {base : Nat} {v : Value} {l : List Int} (h : IntsR w base v l) (hb : Below w.heap.size w w') : IntsR w' base v l := ⟨row_keep h.row fun g e => hb.block g (row_lt h.row g e).2, h.i64⟩

end Go.Proofs.Ytbchignbndgigaa

namespace Go.Proofs.Ytbchignbndgigaa

open Go.RowKit Go.Shelf
set_option maxRecDepth 100000

mutual
/-- Each variable in the term is one of V's. -/
def VT (V : Int → Prop) : Tm → Prop
  | .node f xs => (f < 0 → V (-1 - f)) ∧ VL V xs
def VL (V : Int → Prop) : List Tm → Prop
  | [] => True
  | t :: ts => VT V t ∧ VL V ts
end

theorem VL_mem {V : Int → Prop} : ∀ {xs : List Tm} {t : Tm}, VL V xs → t ∈ xs → VT V t
  | [], _, _, h => by simp at h
  | x :: xs, t, hv, h => by
    simp only [VL] at hv
    rcases List.mem_cons.1 h with rfl | h
    · exact hv.1
    · exact VL_mem hv.2 h

/-- What is asked of the function that tells the numbers. -/
structure NumV {σ : Type} (V : Int → Prop) (nx : σ → Int → σ × Int) (kn : FuncId) (nc : Array Value) (C D N : Nat → Prop) (I : σ → World → Prop) (B0 : Nat) : Prop where
  ent : ∀ (args : Array Value) (w : World), (callFunc kn args).run Try.prog w = .ok (.enter kn args) w
  call : ∀ (s : σ) (v : Int) (W : World), B0 ≤ W.heap.size → I s W → 0 ≤ v → v ≤ 9223372036854775807 → V v → Calls Try.prog kn (#[.int .i64 v] ++ nc) W fun e W' => e = .returned (.int .i64 (nx s v).2) ∧ I64 (nx s v).2 ∧ I (nx s v).1 W' ∧ KeepsC C W W'
  stay : ∀ s W W', I s W → Keeps D W W' → I s W'
  cb : ∀ g, C g → g < B0
  db : ∀ g, D g → g < B0
  nb : ∀ g, N g → g < B0
  nc : ∀ g, N g → ¬ C g

section

variable {σ : Type} {V : Int → Prop} {nx : σ → Int → σ × Int} {kn : FuncId} {nc : Array Value} {C D N : Nat → Prop} {I : σ → World → Prop} {B0 : Nat}

theorem renV_fin (hN : NumV V nx kn nc C D N I B0) {s s1 : σ} {f f' : Int} {xs : List Tm} {A3 : Option Addr} {c3 : Nat} {w W w1 w3 : World} (hB0 : B0 ≤ w.heap.size) (hB : Below w.heap.size w W) (hk1 : KeepsC C W w1) (hk3 : KeepsC C w1 w3)
    (hO3 : OwnT w3 w1.heap.size w3.heap.size A3 (renL nx s1 xs).2) (hI3 : I (renL nx s1 xs).1 w3) (hF : renF nx s f = (s1, f')) (h64 : I64 f') (hW : w.heap.size + 2 < W.heap.size) :
    RenPost C I (renT nx s (.node f xs)) w (.returned (.agg #[.int .i64 f', .slice A3 (renL nx s1 xs).2.length c3])) ((w3.setCell ⟨w.heap.size + 1 + 1, 0, none⟩ (.int .i64 f')).setCell ⟨w.heap.size + 1 + 1, 1, none⟩ (.slice A3 (renL nx s1 xs).2.length c3)) := by
  have hr : renT nx s (.node f xs) = ((renL nx s1 xs).1, .node f' (renL nx s1 xs).2) := by simp only [renT, hF]
  have hz1 := hk1.size
  have hoth : ∀ g, g ≠ w.heap.size + 1 + 1 → ((w3.setCell ⟨w.heap.size + 1 + 1, 0, none⟩ (.int .i64 f')).setCell ⟨w.heap.size + 1 + 1, 1, none⟩ (.slice A3 (renL nx s1 xs).2.length c3)).heap[g]? = w3.heap[g]? := fun g e => (heap_setCell_other _ _ _ _ e).trans (heap_setCell_other _ _ _ _ e)
  rw [hr]
  refine ⟨A3, c3, rfl, h64, ?_, ?_, ?_⟩
  · exact OwnT.wide (lo := w1.heap.size) (hi := w3.heap.size) (hO3.keep fun g h1 _ => hoth g (by omega)) (by omega) (by simp)
  · exact hN.stay _ _ _ hI3 ⟨rfl, rfl, rfl, by simp, fun g e => hoth g (by have := hN.db g e; omega)⟩
  · exact ((((KeepsC.of_below hB).trans hk1).trans hk3).set (by show _ ≤ w.heap.size + 1 + 1; omega) _).set (by show _ ≤ w.heap.size + 1 + 1; omega) _

end

end Go.Proofs.Ytbchignbndgigaa

namespace Go.Proofs.Ytbchignbndgigaa

open Go.RowKit Go.Shelf Go.Maps
set_option maxRecDepth 100000

theorem intLaw : Keyed Try.prog 3 := int_keyed Try.underlying3

theorem zeroIntV (w : World) : (zeroValue 3).run Try.prog w = .ok (.int .i64 0) w := by kernel_rfl

theorem keyOf_v {x : Int} (hx : I64 x) : keyOf Try.prog 3 (.int .i64 x) = some (.int .i64 x) :=
  keyOf_int_mk Try.underlying3 (WalkArith.wf_i64 ⟨by have := hx.1; omega, by have := hx.2; omega⟩)

theorem nodup_le : ∀ {l U : List Int}, l.Nodup → (∀ x ∈ l, x ∈ U) → l.length ≤ U.length
  | [], _, _, _ => by simp
  | x :: l, U, hn, hs => by
    have hx := hs x (by simp)
    have h1 := List.length_erase_of_mem hx
    have h2 := List.length_pos_of_mem hx
    rw [List.nodup_cons] at hn
    have ih := nodup_le (l := l) (U := U.erase x) hn.2 fun y hy => (List.mem_erase_of_ne (fun (e : y = x) => hn.1 (by rw [← e]; exact hy))).2 (hs y (by simp [hy]))
    simp only [List.length_cons]
    omega

/-- Block b of w is a map that holds, for each of l, its place there; and nothing else. -/
def IMap (w : World) (b : Nat) (l : List Int) : Prop :=
  ∃ D : DataW Unit, w.ownsMap Try.prog 3 (plainElem Try.prog 3) b l.length D ∧ Maps.size D = l.length ∧ ∀ x, I64 x → ∀ z, D.atKey (.int .i64 x) z = if x ∈ l then .lit (.int .i64 (l.idxOf x : Nat)) else z

theorem IMap.made (w : World) : IMap (w.alloc (.map #[] 0)) w.heap.size [] :=
  ⟨_, World.ownsMap_made w _ _ _, rfl, fun _ _ _ => rfl⟩

theorem IMap.lt {w : World} {b : Nat} {l : List Int} (h : IMap w b l) : b < w.heap.size := h.elim fun _ h => h.1.lt

theorem IMap.kept {w w' : World} {b : Nat} {l : List Int} (h : IMap w b l) (hk : w'.heap[b]? = w.heap[b]?) : IMap w' b l := by
  obtain ⟨D, ⟨es, clock, hb, F, hs, hD⟩, hat⟩ := h
  exact ⟨D, ⟨es, clock, hk.trans hb, F, hs, hD⟩, hat⟩

theorem IMap.look {w : World} {b : Nat} {l : List Int} (h : IMap w b l) {x : Int} (hx : I64 x) :
    (Instr.lookup 57 (.map (some b)) (.int .i64 x) true).run Try.prog w = .ok (.tuple #[.int .i64 (if x ∈ l then (l.idxOf x : Int) else 0), .bool (decide (x ∈ l))]) w := by
  obtain ⟨D, hown, _, hat⟩ := h
  obtain ⟨v, ps, hrun, hv⟩ := hown.look_ok intLaw Try.underlying57 (zeroIntV w) (plainElem_int Try.underlying3 (by decide)) (keyOf_v hx)
  obtain ⟨c, rfl, hc, _⟩ := plainElem_int_inv Try.underlying3 hv
  have e := hat x hx
  have e0 := e (.lit (.int .i64 0))
  have hc' := congrArg Prod.fst hc
  simp only at hc'
  rw [hc'] at e0
  by_cases hm : x ∈ l
  · simp only [hm, if_true, decide_true] at e e0 ⊢
    injection e0 with e0; injection e0 with _ e0; subst e0
    rw [has_true_of_atKey (fun z => e z)] at hrun
    exact hrun
  · simp only [hm, if_false, decide_false] at e e0 ⊢
    injection e0 with e0; injection e0 with _ e0; subst e0
    rw [has_false_of_atKey (fun z => e z)] at hrun
    simpa using hrun

theorem IMap.put {w w0 : World} {b n0 : Nat} {D : DataW Unit} {l : List Int} {v : Int} (hv : I64 v) (hn : v ∉ l) (h0 : w0.ownsMap Try.prog 3 (plainElem Try.prog 3) b n0 D) (hs : Maps.size D = l.length)
    (hat : ∀ x, I64 x → ∀ z, D.atKey (.int .i64 x) z = if x ∈ l then .lit (.int .i64 (l.idxOf x : Nat)) else z)
    (h : w.ownsMap Try.prog 3 (plainElem Try.prog 3) b (l.length + 1) (D.put (.int .i64 v) (.lit (.int .i64 (l.length : Nat))))) : IMap w b (l ++ [v]) := by
  have hno : Maps.has D (.int .i64 v) = false := has_false_of_atKey fun z => by rw [hat v hv z, if_neg hn]
  refine ⟨_, by simpa using h, ?_, fun x hx z => ?_⟩
  · rw [size_put (h0.tidy intLaw), hno, hs]
    simp
  · by_cases e : x = v
    · subst e
      rw [atKey_put_same h0.isMap (intLaw.key (keyOf_v hx)), if_pos (by simp), List.idxOf_append, if_neg hn]
      simp
    · rw [atKey_put_other (fun h => e (by simpa using h)), hat x hx z]
      by_cases hm : x ∈ l
      · rw [if_pos hm, if_pos (by simp [hm]), List.idxOf_append, if_pos hm]
      · rw [if_neg hm, if_neg (by simp [hm, e])]

/-- A variable's number is its place among those that were met. -/
def nxI (l : List Int) (v : Int) : List Int × Int := (ordI l v, ((ordI l v).idxOf v : Nat))

/-- What the function knows. -/
structure NumI (U : List Int) (bx b : Nat) (l : List Int) (w : World) : Prop where
  box : Boxed w bx 57 (.map (some b))
  map : IMap w b l
  nd : l.Nodup
  sub : ∀ x ∈ l, x ∈ U

theorem nxI_in {l : List Int} {v : Int} (h : v ∈ l) : nxI l v = (l, ((l.idxOf v : Nat) : Int)) := by unfold nxI ordI; rw [if_pos h]

theorem nxI_out {l : List Int} {v : Int} (h : v ∉ l) : nxI l v = (l ++ [v], ((l.length : Nat) : Int)) := by
  unfold nxI ordI
  rw [if_neg h, List.idxOf_append, if_neg h]
  simp

end Go.Proofs.Ytbchignbndgigaa

/- kbo: the balance; a top laid on it. -/

namespace Go.Proofs.Ytbchignbndgigaa

open Go.RowKit Go.Shelf Go.Maps
set_option maxRecDepth 100000

/-- A balance: weights, how many variables lie alone, how much more often each lies on the left; n: how many tops were laid. -/
structure Bal where
  w0 : Int
  w1 : Int
  a0 : Int
  a1 : Int
  V : Int → Int
  n : Nat

/-- Block b of w is a map that tells the numbers of V. -/
def VMap (w : World) (b n : Nat) (V : Int → Int) : Prop :=
  ∃ D : DataW Unit, w.ownsMap Try.prog 3 (plainElem Try.prog 3) b n D ∧ ∀ x, I64 x → D.atKey (.int .i64 x) (.lit (.int .i64 0)) = .lit (.int .i64 (V x))

theorem VMap.lt {w : World} {b n : Nat} {V : Int → Int} (h : VMap w b n V) : b < w.heap.size := h.elim fun _ h => h.1.lt

theorem VMap.kept {w w' : World} {b n : Nat} {V : Int → Int} (h : VMap w b n V) (hk : w'.heap[b]? = w.heap[b]?) : VMap w' b n V := by
  obtain ⟨D, ⟨es, clock, hb, F, hs, hD⟩, hat⟩ := h
  exact ⟨D, ⟨es, clock, hk.trans hb, F, hs, hD⟩, hat⟩

theorem VMap.made (w : World) : VMap (w.alloc (.map #[] 0)) w.heap.size 0 fun _ => 0 :=
  ⟨_, World.ownsMap_made w _ _ _, fun _ _ => rfl⟩

theorem VMap.look {w : World} {b n : Nat} {V : Int → Int} (h : VMap w b n V) {x : Int} (hx : I64 x) :
    (Instr.lookup 57 (.map (some b)) (.int .i64 x) false).run Try.prog w = .ok (.int .i64 (V x)) w := by
  obtain ⟨D, hown, hat⟩ := h
  obtain ⟨c, hrun, hc, _⟩ := hown.lookup_int intLaw Try.underlying57 Try.underlying3 (zeroIntV w) (keyOf_v hx)
  have e0 := hat x hx
  rw [hc] at e0
  injection e0 with e0; injection e0 with _ e0; subst e0
  exact hrun

theorem VMap.put {w : World} {b n : Nat} {V : Int → Int} (h : VMap w b n V) (hn : n < 9223372036854775807) {x v : Int} (hx : I64 x) (hv : I64 v) :
    ∃ w', (Instr.mapUpdate 57 (.map (some b)) (.int .i64 x) (.int .i64 v)).run Try.prog w = .ok () w' ∧ VMap w' b (n + 1) (fun y => if y = x then v else V y) ∧ w.grownBy w' (some b) := by
  obtain ⟨D, hown, hat⟩ := h
  obtain ⟨w', hrun, hown', hgr⟩ := hown.update intLaw Try.underlying57 (by unfold maxLen; omega) (keyOf_v hx) (plainElem_int Try.underlying3 (WalkArith.wf_i64 ⟨by have := hv.1; omega, by have := hv.2; omega⟩))
  refine ⟨w', hrun, ⟨_, hown', fun y hy => ?_⟩, hgr⟩
  by_cases e : y = x
  · subst e
    rw [atKey_put_same (hown.tidy intLaw).isMap (intLaw.key (keyOf_v hx))]
    simp
  · rw [atKey_put_other (fun h => e (by simpa using h)), hat y hy]
    simp [e]

/-- The balance's block and its map's. -/
structure BalM (w : World) (bx bm : Nat) (o : Odr) (P : Option Addr) (pc : Nat) (Q : Option Addr) (qc : Nat) (b : Bal) : Prop where
  box : w.heap[bx]? = some (.cells #[.bool o.lpo, .slice P o.prec.length pc, .slice Q o.wts.length qc, .int .i64 o.var, .map (some bm), .int .i64 b.a0, .int .i64 b.a1, .int .i64 b.w0, .int .i64 b.w1] 61)
  map : VMap w bm b.n b.V
  ne : bx ≠ bm

theorem BalM.keep {w w' : World} {bx bm : Nat} {o : Odr} {P Q : Option Addr} {pc qc : Nat} {b : Bal} (h : BalM w bx bm o P pc Q qc b) (h1 : w'.heap[bx]? = w.heap[bx]?) (h2 : w'.heap[bm]? = w.heap[bm]?) : BalM w' bx bm o P pc Q qc b := ⟨h1.trans h.box, h.map.kept h2, h.ne⟩

theorem cells_9 {W : World} {b : Nat} {v0 v1 v2 v3 v4 v5 v6 v7 v8 : Value} {t : TypeId} (h : W.heap[b]? = some (.cells #[v0, v1, v2, v3, v4, v5, v6, v7, v8] t)) :
    W.cell? ⟨b, 0, none⟩ = some v0 ∧ W.cell? ⟨b, 1, none⟩ = some v1 ∧ W.cell? ⟨b, 2, none⟩ = some v2 ∧ W.cell? ⟨b, 3, none⟩ = some v3 ∧ W.cell? ⟨b, 4, none⟩ = some v4 ∧ W.cell? ⟨b, 5, none⟩ = some v5 ∧ W.cell? ⟨b, 6, none⟩ = some v6 ∧ W.cell? ⟨b, 7, none⟩ = some v7 ∧ W.cell? ⟨b, 8, none⟩ = some v8 := by
  refine ⟨?_, ?_, ?_, ?_, ?_, ?_, ?_, ?_, ?_⟩ <;> simp [World.cell?, h]

theorem frozen_9 {W : World} {b : Nat} {cs : Array Value} {t : TypeId} (h : W.heap[b]? = some (.cells cs t)) (o : Nat) : W.frozen? ⟨b, o, none⟩ = false := by simp [World.frozen?, h]

/-- A top laid on a side. -/
def sgn (at_ : Int) : Int := if at_ = 0 then 1 else -1

def cntB (o : Odr) (at_ : Int) (b : Bal) (f : Int) : Bal :=
  { w0 := if at_ = 0 then b.w0 + wtI o f else b.w0
    w1 := if at_ = 0 then b.w1 else b.w1 + wtI o f
    a0 := if f < 0 then (if 0 ≤ b.V f * sgn at_ then (if at_ = 0 then b.a0 + 1 else b.a0) else (if at_ = 0 then b.a0 else b.a0 - 1)) else b.a0
    a1 := if f < 0 then (if 0 ≤ b.V f * sgn at_ then (if at_ = 0 then b.a1 else b.a1 + 1) else (if at_ = 0 then b.a1 - 1 else b.a1)) else b.a1
    V := if f < 0 then (fun x => if x = f then b.V f + sgn at_ else b.V x) else b.V
    n := b.n + 1 }

/-- Its numbers are no greater than so many tops can make them. -/
structure BalOK (b : Bal) : Prop where
  n : b.n ≤ 1073741824
  w0 : 0 ≤ b.w0 ∧ b.w0 ≤ 2147483647 * (b.n : Int)
  w1 : 0 ≤ b.w1 ∧ b.w1 ≤ 2147483647 * (b.n : Int)
  a0 : -(b.n : Int) ≤ b.a0 ∧ b.a0 ≤ (b.n : Int)
  a1 : -(b.n : Int) ≤ b.a1 ∧ b.a1 ≤ (b.n : Int)
  V : ∀ x, -(b.n : Int) ≤ b.V x ∧ b.V x ≤ (b.n : Int)

theorem BalOK.next {o : Odr} {at_ : Int} {b : Bal} (h : BalOK b) (hn : b.n + 1 ≤ 1073741824) (f : Int) : BalOK (cntB o at_ b f) := by
  obtain ⟨h1, h2⟩ := wtI_bd o f
  have hs : sgn at_ = 1 ∨ sgn at_ = -1 := by unfold sgn; split <;> simp
  obtain ⟨k0, k1⟩ := h.w0
  obtain ⟨k2, k3⟩ := h.w1
  obtain ⟨k4, k5⟩ := h.a0
  obtain ⟨k6, k7⟩ := h.a1
  refine ⟨hn, ?_, ?_, ?_, ?_, fun x => ?_⟩
  · show 0 ≤ (if at_ = 0 then b.w0 + wtI o f else b.w0) ∧ (if at_ = 0 then b.w0 + wtI o f else b.w0) ≤ 2147483647 * ((b.n + 1 : Nat) : Int)
    split <;> omega
  · show 0 ≤ (if at_ = 0 then b.w1 else b.w1 + wtI o f) ∧ (if at_ = 0 then b.w1 else b.w1 + wtI o f) ≤ 2147483647 * ((b.n + 1 : Nat) : Int)
    split <;> omega
  · show -((b.n + 1 : Nat) : Int) ≤ (cntB o at_ b f).a0 ∧ (cntB o at_ b f).a0 ≤ ((b.n + 1 : Nat) : Int)
    unfold cntB
    simp only
    split
    · split <;> split <;> omega
    · omega
  · show -((b.n + 1 : Nat) : Int) ≤ (cntB o at_ b f).a1 ∧ (cntB o at_ b f).a1 ≤ ((b.n + 1 : Nat) : Int)
    unfold cntB
    simp only
    split
    · split <;> split <;> omega
    · omega
  · show -((b.n + 1 : Nat) : Int) ≤ (cntB o at_ b f).V x ∧ (cntB o at_ b f).V x ≤ ((b.n + 1 : Nat) : Int)
    obtain ⟨k8, k9⟩ := h.V x
    obtain ⟨k10, k11⟩ := h.V f
    unfold cntB
    simp only
    split
    · show -((b.n + 1 : Nat) : Int) ≤ (if x = f then b.V f + sgn at_ else b.V x) ∧ (if x = f then b.V f + sgn at_ else b.V x) ≤ ((b.n + 1 : Nat) : Int)
      split <;> omega
    · omega

end Go.Proofs.Ytbchignbndgigaa

/- kbo: count, walked. -/

namespace Go.Proofs.Ytbchignbndgigaa

open Go.RowKit Go.Shelf Go.Maps
set_option maxRecDepth 100000

def CntPost (bx bm : Nat) (o : Odr) (P : Option Addr) (pc : Nat) (Q : Option Addr) (qc : Nat) (r : Bal) (w : World) (e : Ending) (w' : World) : Prop :=
  e = .returned (.tuple #[]) ∧ BalM w' bx bm o P pc Q qc r ∧ KeepsC (fun g => g = bx ∨ g = bm) w w'

theorem set_9 {W : World} {b : Nat} {cs : Array Value} {t : TypeId} (h : W.heap[b]? = some (.cells cs t)) (i : Nat) (v : Value) : (W.setCell ⟨b, i, none⟩ v).heap[b]? = some (.cells (cs.setIfInBounds i v) t) := heap_setCell_same _ _ _ _ _ _ h

theorem cntB_pos0 {o : Odr} {b : Bal} {f : Int} (h : ¬ f < 0) : cntB o 0 b f = ⟨b.w0 + wtI o f, b.w1, b.a0, b.a1, b.V, b.n + 1⟩ := by unfold cntB; simp [h]

theorem cntB_pos1 {o : Odr} {b : Bal} {f : Int} (h : ¬ f < 0) : cntB o 1 b f = ⟨b.w0, b.w1 + wtI o f, b.a0, b.a1, b.V, b.n + 1⟩ := by unfold cntB; simp [h]

theorem cntB_neg00 {o : Odr} {b : Bal} {f : Int} (h : f < 0) (hv : 0 ≤ b.V f) : cntB o 0 b f = ⟨b.w0 + wtI o f, b.w1, b.a0 + 1, b.a1, fun x => if x = f then b.V f + 1 else b.V x, b.n + 1⟩ := by unfold cntB sgn; simp [h, hv]

theorem cntB_neg01 {o : Odr} {b : Bal} {f : Int} (h : f < 0) (hv : ¬ 0 ≤ b.V f) : cntB o 0 b f = ⟨b.w0 + wtI o f, b.w1, b.a0, b.a1 - 1, fun x => if x = f then b.V f + 1 else b.V x, b.n + 1⟩ := by unfold cntB sgn; simp [h, hv]

theorem cntB_neg10 {o : Odr} {b : Bal} {f : Int} (h : f < 0) (hv : 0 ≤ -b.V f) : cntB o 1 b f = ⟨b.w0, b.w1 + wtI o f, b.a0, b.a1 + 1, fun x => if x = f then b.V f + -1 else b.V x, b.n + 1⟩ := by unfold cntB sgn; simp [h, show b.V f ≤ 0 by omega]

theorem cntB_neg11 {o : Odr} {b : Bal} {f : Int} (h : f < 0) (hv : ¬ 0 ≤ -b.V f) : cntB o 1 b f = ⟨b.w0, b.w1 + wtI o f, b.a0 - 1, b.a1, fun x => if x = f then b.V f + -1 else b.V x, b.n + 1⟩ := by unfold cntB sgn; simp [h, show ¬ b.V f ≤ 0 by omega]

theorem VMap.more {w : World} {b n m : Nat} {V : Int → Int} (h : VMap w b n V) (hm : n ≤ m) : VMap w b m V := by
  obtain ⟨D, ⟨es, clock, hb, F, hs, hD⟩, hat⟩ := h
  exact ⟨D, ⟨es, clock, hb, F, Nat.le_trans hs hm, hD⟩, hat⟩

theorem keepsC_set {bx bm : Nat} {w w1 : World} (h : KeepsC (fun g => g = bx ∨ g = bm) w w1) (i : Nat) (v : Value) : KeepsC (fun g => g = bx ∨ g = bm) w (w1.setCell ⟨bx, i, none⟩ v) :=
  Keeps.trans h ((Keeps.set w1 ⟨bx, i, none⟩ v).mono fun _ hg e => hg.2 (.inl e))

set_option maxHeartbeats 4000000 in
theorem count_pos0 (o : Odr) (b : Bal) (t : Tm) (P Q A : Option Addr) (pc qc c bx bm B0 : Nat) (w : World) (hM : BalM w bx bm o P pc Q qc b) (hO : OdrM w B0 o P Q) (hB0 : B0 ≤ w.heap.size) (hk : t.fn < 0 ∨ t.fn < (o.wts.length : Int)) (hOK : BalOK b) (hf : ¬ t.fn < 0) :
    Calls Try.prog 81 #[.pointer (some ⟨bx, 0, none⟩), .agg #[.int .i64 t.fn, .slice A t.args.length c], .int .i64 0] w (CntPost bx bm o P pc Q qc (cntB o 0 b t.fn) w) := by
  rw [cntB_pos0 hf]
  have hbxl := hM.box
  have hbx : bx < w.heap.size := (Array.getElem?_eq_some_iff.1 hbxl).1
  have hbm : bm < w.heap.size := hM.map.lt
  have hnebm := hM.ne
  have q0 := heap_alloc_new w (.cells #[.int .i64 t.fn, .slice A t.args.length c] 27)
  obtain ⟨W, hW⟩ : ∃ W, w.alloc (.cells #[.int .i64 t.fn, .slice A t.args.length c] 27) = W := ⟨_, rfl⟩
  have hB : Below w.heap.size w W := by rw [← hW]; exact (Below.refl _ _).alloc (Nat.le_refl _) _
  rw [hW] at q0
  have hWs : w.heap.size < W.heap.size := (Array.getElem?_eq_some_iff.1 q0).1
  have hMW := hM.keep (hB.block bx hbx) (hB.block bm hbm)
  have hSS : ∀ w', Below W.heap.size W w' → w'.cell? ⟨bx, 0, none⟩ = some (.bool o.lpo) ∧ w'.cell? ⟨bx, 1, none⟩ = some (.slice P o.prec.length pc) ∧ w'.cell? ⟨bx, 2, none⟩ = some (.slice Q o.wts.length qc) ∧ w'.cell? ⟨bx, 3, none⟩ = some (.int .i64 o.var) ∧ w'.cell? ⟨bx, 7, none⟩ = some (.int .i64 b.w0) ∧ w'.cell? ⟨w.heap.size, 0, none⟩ = some (.int .i64 t.fn) ∧ w'.cell? ⟨w.heap.size, 1, none⟩ = some (.slice A t.args.length c) ∧ w'.frozen? ⟨bx, 7, none⟩ = false := fun w' hb => by
    have hx := (hb.block bx (by omega)).trans hMW.box
    obtain ⟨c0, c1, c2, c3, c4, c5, c6, c7, c8⟩ := cells_9 hx
    obtain ⟨d0, d1, _, _⟩ := cells_two ((hb.block _ hWs).trans q0)
    exact ⟨c0, c1, c2, c3, c7, d0, d1, frozen_9 hx _⟩
  have hD := bl_drewN (Below.refl W.heap.size W) 1
  obtain ⟨i0, i1, i2, i3, i4, i5, i6, i7⟩ := hSS W.drew hD
  have H1 := Lib.hid (kboWeight1_any o t P Q A pc qc c W.drew ⟨((hO.p.more hB0).on hB).on hD, ((hO.q.more hB0).on hB).on hD, hO.v⟩ hk)
  have hwt := wtI_bd o t.fn
  have hw0 := hOK.w0
  have hnn := hOK.n
  have hsum : IntKind.i64.wrap (b.w0 + wtI o t.fn) = b.w0 + wtI o t.fn := by rw [IntKind.wrap_i64]; omega
  have HSS := Lib.hid hSS
  have HW := Lib.hid hW
  have HMW := Lib.hid hMW
  have Hq0 := Lib.hid q0
  have HOK := Lib.hid hOK
  obtain ⟨x, hx⟩ : ∃ x, wtI o t.fn = x := ⟨_, rfl⟩
  rw [hx] at H1 hsum hwt
  have Hx := Lib.hid hx
  clear hW hO hSS hMW q0 hM hbxl hx hOK
  go_enter Try.func81, Try.ntmps81
  go_upto_region 1 with fail
  rw [HW.out]
  go_region_law
    (first
      | (go_simp
         go_at_call 44
         with_reducible refine H1.out.mono ?_
         rintro e w1 ⟨rfl, hb1⟩
         have hB1 : Below W.heap.size W w1 := ⟨hb1.os, hb1.tape, hb1.output, hb1.size, hb1.block⟩
         obtain ⟨j0, j1, j2, j3, j4, j5, j6, j7⟩ := HSS.out w1 hB1
         dsimp only)
      | fail)
  all_goals
    have hge : decide (t.fn ≥ 0) = true := decide_eq_true (by omega)
    have hne : bx ≠ w.heap.size := by omega
    go_wp2
    go_end0
    refine ⟨rfl, ⟨?_, ?_, hnebm⟩, ?_⟩
    · rw [set_9 ((hB1.block bx (by omega)).trans HMW.out.box) 7 (.int .i64 (b.w0 + x)), Hx.out]
      rfl
    · exact ((HMW.out.map.kept (hB1.block bm (by omega))).kept (heap_setCell_other _ _ _ _ (fun e => hnebm e.symm))).more (Nat.le_succ _)
    · exact keepsC_set ((KeepsC.of_below hB).trans (KeepsC.of_below hB1)) _ _

set_option maxHeartbeats 4000000 in
theorem count_pos1 (o : Odr) (b : Bal) (t : Tm) (P Q A : Option Addr) (pc qc c bx bm B0 : Nat) (w : World) (hM : BalM w bx bm o P pc Q qc b) (hO : OdrM w B0 o P Q) (hB0 : B0 ≤ w.heap.size) (hk : t.fn < 0 ∨ t.fn < (o.wts.length : Int)) (hOK : BalOK b) (hf : ¬ t.fn < 0) :
    Calls Try.prog 81 #[.pointer (some ⟨bx, 0, none⟩), .agg #[.int .i64 t.fn, .slice A t.args.length c], .int .i64 1] w (CntPost bx bm o P pc Q qc (cntB o 1 b t.fn) w) := by
  rw [cntB_pos1 hf]
  have hbxl := hM.box
  have hbx : bx < w.heap.size := (Array.getElem?_eq_some_iff.1 hbxl).1
  have hbm : bm < w.heap.size := hM.map.lt
  have hnebm := hM.ne
  have q0 := heap_alloc_new w (.cells #[.int .i64 t.fn, .slice A t.args.length c] 27)
  obtain ⟨W, hW⟩ : ∃ W, w.alloc (.cells #[.int .i64 t.fn, .slice A t.args.length c] 27) = W := ⟨_, rfl⟩
  have hB : Below w.heap.size w W := by rw [← hW]; exact (Below.refl _ _).alloc (Nat.le_refl _) _
  rw [hW] at q0
  have hWs : w.heap.size < W.heap.size := (Array.getElem?_eq_some_iff.1 q0).1
  have hMW := hM.keep (hB.block bx hbx) (hB.block bm hbm)
  have hSS : ∀ w', Below W.heap.size W w' → w'.cell? ⟨bx, 0, none⟩ = some (.bool o.lpo) ∧ w'.cell? ⟨bx, 1, none⟩ = some (.slice P o.prec.length pc) ∧ w'.cell? ⟨bx, 2, none⟩ = some (.slice Q o.wts.length qc) ∧ w'.cell? ⟨bx, 3, none⟩ = some (.int .i64 o.var) ∧ w'.cell? ⟨bx, 8, none⟩ = some (.int .i64 b.w1) ∧ w'.cell? ⟨w.heap.size, 0, none⟩ = some (.int .i64 t.fn) ∧ w'.cell? ⟨w.heap.size, 1, none⟩ = some (.slice A t.args.length c) ∧ w'.frozen? ⟨bx, 8, none⟩ = false := fun w' hb => by
    have hx := (hb.block bx (by omega)).trans hMW.box
    obtain ⟨c0, c1, c2, c3, c4, c5, c6, c7, c8⟩ := cells_9 hx
    obtain ⟨d0, d1, _, _⟩ := cells_two ((hb.block _ hWs).trans q0)
    exact ⟨c0, c1, c2, c3, c8, d0, d1, frozen_9 hx _⟩
  have hD := bl_drewN (Below.refl W.heap.size W) 1
  obtain ⟨i0, i1, i2, i3, i4, i5, i6, i7⟩ := hSS W.drew hD
  have H1 := Lib.hid (kboWeight1_any o t P Q A pc qc c W.drew ⟨((hO.p.more hB0).on hB).on hD, ((hO.q.more hB0).on hB).on hD, hO.v⟩ hk)
  have hwt := wtI_bd o t.fn
  have hw0 := hOK.w1
  have hnn := hOK.n
  have hsum : IntKind.i64.wrap (b.w1 + wtI o t.fn) = b.w1 + wtI o t.fn := by rw [IntKind.wrap_i64]; omega
  have HSS := Lib.hid hSS
  have HW := Lib.hid hW
  have HMW := Lib.hid hMW
  have Hq0 := Lib.hid q0
  have HOK := Lib.hid hOK
  obtain ⟨x, hx⟩ : ∃ x, wtI o t.fn = x := ⟨_, rfl⟩
  rw [hx] at H1 hsum hwt
  have Hx := Lib.hid hx
  clear hW hO hSS hMW q0 hM hbxl hx hOK
  go_enter Try.func81, Try.ntmps81
  go_upto_region 1 with fail
  rw [HW.out]
  go_region_law
    (first
      | (go_simp
         go_at_call 44
         with_reducible refine H1.out.mono ?_
         rintro e w1 ⟨rfl, hb1⟩
         have hB1 : Below W.heap.size W w1 := ⟨hb1.os, hb1.tape, hb1.output, hb1.size, hb1.block⟩
         obtain ⟨j0, j1, j2, j3, j4, j5, j6, j7⟩ := HSS.out w1 hB1
         dsimp only)
      | fail)
  all_goals
    have hge : decide (t.fn ≥ 0) = true := decide_eq_true (by omega)
    have hne : bx ≠ w.heap.size := by omega
    go_wp2
    go_end0
    refine ⟨rfl, ⟨?_, ?_, hnebm⟩, ?_⟩
    · rw [set_9 ((hB1.block bx (by omega)).trans HMW.out.box) 8 (.int .i64 (b.w1 + x)), Hx.out]
      rfl
    · exact ((HMW.out.map.kept (hB1.block bm (by omega))).kept (heap_setCell_other _ _ _ _ (fun e => hnebm e.symm))).more (Nat.le_succ _)
    · exact keepsC_set ((KeepsC.of_below hB).trans (KeepsC.of_below hB1)) _ _

end Go.Proofs.Ytbchignbndgigaa

