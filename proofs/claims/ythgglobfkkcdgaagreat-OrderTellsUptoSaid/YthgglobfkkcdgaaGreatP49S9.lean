import Derived.Test.YthgglobfkkcdgaaGreatP49S8
import Derived.Test.YthgglobfkkcdgaaGreatP49S2
import Derived.WideMake
import Derived.Test.YthgglobfkkcdgaaGreatP49S3
import Derived.Test.YthgglobfkkcdgaaGreatP49S1
namespace Go.Proofs.YthgglobfkkcdgaaGreat
open Go.RowKit Go.Shelf Go.Maps
set_option maxRecDepth 100000
def BalPost (o : Odr) (P Q : Option Addr) (pc qc bx bm B0 : Nat) (b : Bal) (q : Int) (w : World) (e : Ending) (w' : World) : Prop :=
  e = .returned (.int .i64 q) ∧ BalW o P Q pc qc bx bm B0 b w' ∧ KeepsC (fun g => g = bx ∨ g = bm) w w'
set_option maxHeartbeats 4000000 in
theorem compare_of {o : Odr} {P Q : Option Addr} {pc qc bx bm B0 : Nat} {b : Bal} {w : World} (h : BalW o P Q pc qc bx bm B0 b w) (s t : Tm) (A A2 : Option Addr) (c c2 : Nat) (r : Bal × Int) (hOK : BalOK b) (hrOK : BalOK r.1)
    (hr : ∀ w1, Below w.heap.size w w1 → BalW o P Q pc qc bx bm B0 b w1 → Calls Tryz.prog 69 #[.pointer (some ⟨bx, 0, none⟩), .agg #[.int .i64 s.fn, .slice A s.args.length c], .agg #[.int .i64 t.fn, .slice A2 t.args.length c2]] w1 (BalPost o P Q pc qc bx bm B0 r.1 r.2 w1)) :
    Calls Tryz.prog 48 #[.pointer (some ⟨bx, 0, none⟩), .agg #[.int .i64 s.fn, .slice A s.args.length c], .agg #[.int .i64 t.fn, .slice A2 t.args.length c2]] w (BalPost o P Q pc qc bx bm B0 r.1 (finB b r) w) := by
  obtain ⟨q0, q1⟩ := heap2 w (.cells #[.int .i64 s.fn, .slice A s.args.length c] 36) (.cells #[.int .i64 t.fn, .slice A2 t.args.length c2] 36)
  obtain ⟨W, hW⟩ : ∃ W, ((w.alloc (.cells #[.int .i64 s.fn, .slice A s.args.length c] 36)).alloc (.cells #[.int .i64 t.fn, .slice A2 t.args.length c2] 36)) = W := ⟨_, rfl⟩
  have hB : Below w.heap.size w W := by rw [← hW]; exact ((Below.refl _ _).alloc (Nat.le_refl _) _).alloc (by simp) _
  rw [hW] at q0 q1
  have hWs : w.heap.size + 1 < W.heap.size := (Array.getElem?_eq_some_iff.1 q1).1
  obtain ⟨hlx, hlm⟩ := h.lt
  obtain ⟨_, _, _, _, _, _, _, n7, n8⟩ := cells_9 (h.on hB).m.box
  have q2 := heap_alloc_new W (.cells #[.int .i64 b.w0, .int .i64 b.w1] 81)
  obtain ⟨W3, hW3⟩ : ∃ W3, W.alloc (.cells #[.int .i64 b.w0, .int .i64 b.w1] 81) = W3 := ⟨_, rfl⟩
  have hB3 : Below W.heap.size W W3 := by rw [← hW3]; exact (Below.refl _ _).alloc (Nat.le_refl _) _
  rw [hW3] at q2
  have hW3s : W.heap.size < W3.heap.size := (Array.getElem?_eq_some_iff.1 q2).1
  have hBw3 : Below w.heap.size w W3 := hB.trans (hB3.mono hB.size)
  have H1 := Lib.hid (hr W3 hBw3 (h.on hBw3))
  obtain ⟨x0, x1, _, _⟩ := cells_two ((hB3.block _ (by omega)).trans q0)
  obtain ⟨y0, y1, _, _⟩ := cells_two ((hB3.block _ hWs).trans q1)
  have HW := Lib.hid hW
  have HW3 := Lib.hid hW3
  have Hq2 := Lib.hid q2
  clear hW hW3 h hr q0 q1 q2
  have hfb : Hid (finB b r = finR r.1.a0 r.1.a1 (finQ b r)) := Lib.hid rfl
  have hfq : Hid (finQ b r = if numI (capI (r.1.w0 - b.w0)) (capI (r.1.w1 - b.w1)) = 0 then r.2 else relC (numI (capI (r.1.w0 - b.w0)) (capI (r.1.w1 - b.w1)))) := Lib.hid rfl
  obtain ⟨u0, hu0⟩ : ∃ u, r.1.w0 = u := ⟨_, rfl⟩
  obtain ⟨u1, hu1⟩ : ∃ u, r.1.w1 = u := ⟨_, rfl⟩
  obtain ⟨v0, hv0⟩ : ∃ u, r.1.a0 = u := ⟨_, rfl⟩
  obtain ⟨v1, hv1⟩ : ∃ u, r.1.a1 = u := ⟨_, rfl⟩
  obtain ⟨p, hp⟩ : ∃ p, r.2 = p := ⟨_, rfl⟩
  have k0 := hrOK.w0
  have k1 := hrOK.w1
  have k2 := hOK.w0
  have k3 := hOK.w1
  have k4 := hrOK.n
  have k5 := hOK.n
  rw [hu0, hu1, hp] at hfq
  rw [hv0, hv1] at hfb
  rw [hu0] at k0
  rw [hu1] at k1
  rw [hp] at H1
  have hs0 : IntKind.i64.wrap (u0 - b.w0) = u0 - b.w0 := by rw [IntKind.wrap_i64]; omega
  have hs1 : IntKind.i64.wrap (u1 - b.w1) = u1 - b.w1 := by rw [IntKind.wrap_i64]; omega
  have Hu0 := Lib.hid hu0
  have Hu1 := Lib.hid hu1
  have Hv0 := Lib.hid hv0
  have Hv1 := Lib.hid hv1
  clear hu0 hu1 hv0 hv1 hp hrOK hOK k4 k5 k0 k1 k2 k3
  have hbd := numI_bd (capI (u0 - b.w0)) (capI (u1 - b.w1))
  obtain ⟨cc, hcc⟩ : ∃ cc, numI (capI (u0 - b.w0)) (capI (u1 - b.w1)) = cc := ⟨_, rfl⟩
  rw [hcc] at hfq hbd
  have Hcc := Lib.hid hcc
  clear hcc
  have hrel : ∀ w1 : World, _ := fun w1 => relation_any cc (by omega) (by omega) w1
  have Hrel := Lib.hid hrel
  clear hrel
  by_cases hc0 : cc = 0
  · have Hq0 := Lib.hid (show finQ b r = p by rw [hfq.out, if_pos hc0])
    have hne : (cc != 0) = false := by simp [hc0]
    clear hc0
    go_enter Tryz.func48, Tryz.ntmps48
    go_upto_region 1 with fail
    rw [HW.out]
    go_upto_region 2 with fail
    rw [HW3.out]
    clear n7 n8
    go_upto_region 3 with (first
      | (go_at_call 69; (with_reducible refine H1.out.mono ?_); go_must (rintro e w1 ⟨rfl, hI1, hk1⟩; have HI1 := Lib.hid hI1; clear hI1))
      | fail)
    have hz1 := hk1.size
    have hbx1 := HI1.out.m.box
    rw [Hu0.out, Hu1.out, Hv0.out, Hv1.out] at hbx1
    have hb2 := (hk1.block hW3s (by rintro (e | e) <;> omega)).trans Hq2.out
    have m0 : ∀ y : Later w1.heap.size w1, y.w.cell? ⟨bx, 7, none⟩ = some (.int .i64 u0) := fun y => (cells_9 ((y.h.block bx (by omega)).trans hbx1)).2.2.2.2.2.2.2.1
    have m1 : ∀ y : Later w1.heap.size w1, y.w.cell? ⟨bx, 8, none⟩ = some (.int .i64 u1) := fun y => (cells_9 ((y.h.block bx (by omega)).trans hbx1)).2.2.2.2.2.2.2.2
    have m2 : ∀ y : Later w1.heap.size w1, y.w.cell? ⟨W.heap.size, 0, none⟩ = some (.int .i64 b.w0) := fun y => (cells_two ((y.h.block _ (by omega)).trans hb2)).1
    have m3 : ∀ y : Later w1.heap.size w1, y.w.cell? ⟨W.heap.size, 1, none⟩ = some (.int .i64 b.w1) := fun y => (cells_two ((y.h.block _ (by omega)).trans hb2)).2.1
    have hcap : Hid (∀ (n : Int) (y : Later w1.heap.size w1), Calls Tryz.prog 71 #[.int .i64 n] y.w fun e w' => e = .returned (.int .i64 (capI n)) ∧ Below y.w.heap.size y.w w') := Lib.hid fun n y => capped_bl n y.w
    have hcmp : Hid (∀ (y : Later w1.heap.size w1), Calls Tryz.prog 70 #[.int .i64 (capI (u0 - b.w0)), .int .i64 (capI (u1 - b.w1))] y.w fun e w' => e = .returned (.int .i64 cc) ∧ Below y.w.heap.size y.w w') := Lib.hid fun y => by have := cmp64_any (capI (u0 - b.w0)) (capI (u1 - b.w1)) y.w; rwa [Hcc.out] at this
    have HK := Lib.hid ((KeepsC.of_below hBw3).trans hk1)
    have Hbx := Lib.hid hbx1
    clear hbx1 hb2 hk1 x0 x1 y0 y1
    refine wp_region_later w1.heap.size w1 (by kernel_rfl) (by kernel_rfl) (bl_drewN (Below.refl _ _) 1) ?_
    repeat (go_big_quiet_step (first | (go_at_call 71; with_reducible refine calls_later _ (Nat.le_refl _) (hcap.out _ _)) | (go_at_call 70; with_reducible refine calls_later _ (Nat.le_refl _) (hcmp.out _)) | fail))
    refine wpQuiet_nil ?_
    rintro _ ⟨z, rfl⟩
    have hbz := (z.h.block bx (by omega)).trans Hbx.out
    obtain ⟨_, _, _, _, _, l5, l6, _, _⟩ := cells_9 hbz
    have HIz := Lib.hid (HI1.out.on z.h)
    have HKz := Lib.hid (HK.out.trans (KeepsC.of_below z.h))
    clear m0 m1 m2 m3 hbz
    go_upto_region 6 with fail
    obtain ⟨q, hq⟩ : ∃ q, p = q := ⟨_, rfl⟩
    have Hq : Hid (finQ b r = q) := Lib.hid (by rw [Hq0.out, hq])
    rw [hq]
    clear hne hq
    rcases Classical.em (q = 3) with g1 | g1
    · subst g1
      by_cases g2 : 0 < v1
      · have g2' : decide (v1 > 0) = true := decide_eq_true g2
        have hfin := Lib.hid (show finB b r = 0 by rw [hfb.out, Hq.out]; unfold finR; rw [if_pos ⟨rfl, g2⟩])
        clear g2
        go_wp2
        go_ret
        exact ⟨by rw [hfin.out]; rfl, HIz.out, HKz.out⟩
      · have g2' : decide (v1 > 0) = false := decide_eq_false g2
        have hfin := Lib.hid (show finB b r = 3 by rw [hfb.out, Hq.out]; unfold finR; rw [if_neg (fun e => g2 e.2), if_neg (fun e => by have := e.1; omega)])
        clear g2
        go_wp2
        go_ret
        exact ⟨by rw [hfin.out]; rfl, HIz.out, HKz.out⟩
    · have g1' : (q == 3) = false := by simp [g1]
      rcases Classical.em (q = 1) with g3 | g3
      · subst g3
        by_cases g2 : 0 < v0
        · have g2' : decide (v0 > 0) = true := decide_eq_true g2
          have hfin := Lib.hid (show finB b r = 0 by rw [hfb.out, Hq.out]; unfold finR; rw [if_neg (fun e => g1 e.1), if_pos ⟨rfl, g2⟩])
          clear g2
          go_wp2
          go_ret
          exact ⟨by rw [hfin.out]; rfl, HIz.out, HKz.out⟩
        · have g2' : decide (v0 > 0) = false := decide_eq_false g2
          have hfin := Lib.hid (show finB b r = 1 by rw [hfb.out, Hq.out]; unfold finR; rw [if_neg (fun e => g1 e.1), if_neg (fun e => g2 e.2)])
          clear g2
          go_wp2
          go_ret
          exact ⟨by rw [hfin.out]; rfl, HIz.out, HKz.out⟩
      · have g3' : (q == 1) = false := by simp [g3]
        have hfin := Lib.hid (show finB b r = q by rw [hfb.out, Hq.out]; unfold finR; rw [if_neg (fun e => g1 e.1), if_neg (fun e => g3 e.1)])
        clear g1 g3
        go_wp2
        go_ret
        exact ⟨by rw [hfin.out]; rfl, HIz.out, HKz.out⟩
  · have Hq0 := Lib.hid (show finQ b r = relC cc by rw [hfq.out, if_neg hc0])
    have hne : (cc != 0) = true := by simp [hc0]
    clear hc0
    go_enter Tryz.func48, Tryz.ntmps48
    go_upto_region 1 with fail
    rw [HW.out]
    go_upto_region 2 with fail
    rw [HW3.out]
    clear n7 n8
    go_upto_region 3 with (first
      | (go_at_call 69; (with_reducible refine H1.out.mono ?_); go_must (rintro e w1 ⟨rfl, hI1, hk1⟩; have HI1 := Lib.hid hI1; clear hI1))
      | fail)
    have hz1 := hk1.size
    have hbx1 := HI1.out.m.box
    rw [Hu0.out, Hu1.out, Hv0.out, Hv1.out] at hbx1
    have hb2 := (hk1.block hW3s (by rintro (e | e) <;> omega)).trans Hq2.out
    have m0 : ∀ y : Later w1.heap.size w1, y.w.cell? ⟨bx, 7, none⟩ = some (.int .i64 u0) := fun y => (cells_9 ((y.h.block bx (by omega)).trans hbx1)).2.2.2.2.2.2.2.1
    have m1 : ∀ y : Later w1.heap.size w1, y.w.cell? ⟨bx, 8, none⟩ = some (.int .i64 u1) := fun y => (cells_9 ((y.h.block bx (by omega)).trans hbx1)).2.2.2.2.2.2.2.2
    have m2 : ∀ y : Later w1.heap.size w1, y.w.cell? ⟨W.heap.size, 0, none⟩ = some (.int .i64 b.w0) := fun y => (cells_two ((y.h.block _ (by omega)).trans hb2)).1
    have m3 : ∀ y : Later w1.heap.size w1, y.w.cell? ⟨W.heap.size, 1, none⟩ = some (.int .i64 b.w1) := fun y => (cells_two ((y.h.block _ (by omega)).trans hb2)).2.1
    have hcap : Hid (∀ (n : Int) (y : Later w1.heap.size w1), Calls Tryz.prog 71 #[.int .i64 n] y.w fun e w' => e = .returned (.int .i64 (capI n)) ∧ Below y.w.heap.size y.w w') := Lib.hid fun n y => capped_bl n y.w
    have hcmp : Hid (∀ (y : Later w1.heap.size w1), Calls Tryz.prog 70 #[.int .i64 (capI (u0 - b.w0)), .int .i64 (capI (u1 - b.w1))] y.w fun e w' => e = .returned (.int .i64 cc) ∧ Below y.w.heap.size y.w w') := Lib.hid fun y => by have := cmp64_any (capI (u0 - b.w0)) (capI (u1 - b.w1)) y.w; rwa [Hcc.out] at this
    have HK := Lib.hid ((KeepsC.of_below hBw3).trans hk1)
    have Hbx := Lib.hid hbx1
    clear hbx1 hb2 hk1 x0 x1 y0 y1
    refine wp_region_later w1.heap.size w1 (by kernel_rfl) (by kernel_rfl) (bl_drewN (Below.refl _ _) 1) ?_
    repeat (go_big_quiet_step (first | (go_at_call 71; with_reducible refine calls_later _ (Nat.le_refl _) (hcap.out _ _)) | (go_at_call 70; with_reducible refine calls_later _ (Nat.le_refl _) (hcmp.out _)) | fail))
    refine wpQuiet_nil ?_
    rintro _ ⟨z, rfl⟩
    have hbz := (z.h.block bx (by omega)).trans Hbx.out
    obtain ⟨_, _, _, _, _, l5, l6, _, _⟩ := cells_9 hbz
    have HIz := Lib.hid (HI1.out.on z.h)
    have HKz := Lib.hid (HK.out.trans (KeepsC.of_below z.h))
    clear m0 m1 m2 m3 hbz
    go_upto_region 6 with (first
      | (go_at_call 72; (with_reducible refine (Hrel.out _).mono ?_); go_must (rintro e w2 ⟨rfl, rfl⟩))
      | fail)
    obtain ⟨q, hq⟩ : ∃ q, relC cc = q := ⟨_, rfl⟩
    have Hq : Hid (finQ b r = q) := Lib.hid (by rw [Hq0.out, hq])
    rw [hq]
    clear hne hq
    rcases Classical.em (q = 3) with g1 | g1
    · subst g1
      by_cases g2 : 0 < v1
      · have g2' : decide (v1 > 0) = true := decide_eq_true g2
        have hfin := Lib.hid (show finB b r = 0 by rw [hfb.out, Hq.out]; unfold finR; rw [if_pos ⟨rfl, g2⟩])
        clear g2
        go_wp2
        go_ret
        exact ⟨by rw [hfin.out]; rfl, HIz.out, HKz.out⟩
      · have g2' : decide (v1 > 0) = false := decide_eq_false g2
        have hfin := Lib.hid (show finB b r = 3 by rw [hfb.out, Hq.out]; unfold finR; rw [if_neg (fun e => g2 e.2), if_neg (fun e => by have := e.1; omega)])
        clear g2
        go_wp2
        go_ret
        exact ⟨by rw [hfin.out]; rfl, HIz.out, HKz.out⟩
    · have g1' : (q == 3) = false := by simp [g1]
      rcases Classical.em (q = 1) with g3 | g3
      · subst g3
        by_cases g2 : 0 < v0
        · have g2' : decide (v0 > 0) = true := decide_eq_true g2
          have hfin := Lib.hid (show finB b r = 0 by rw [hfb.out, Hq.out]; unfold finR; rw [if_neg (fun e => g1 e.1), if_pos ⟨rfl, g2⟩])
          clear g2
          go_wp2
          go_ret
          exact ⟨by rw [hfin.out]; rfl, HIz.out, HKz.out⟩
        · have g2' : decide (v0 > 0) = false := decide_eq_false g2
          have hfin := Lib.hid (show finB b r = 1 by rw [hfb.out, Hq.out]; unfold finR; rw [if_neg (fun e => g1 e.1), if_neg (fun e => g2 e.2)])
          clear g2
          go_wp2
          go_ret
          exact ⟨by rw [hfin.out]; rfl, HIz.out, HKz.out⟩
      · have g3' : (q == 1) = false := by simp [g3]
        have hfin := Lib.hid (show finB b r = q by rw [hfb.out, Hq.out]; unfold finR; rw [if_neg (fun e => g1 e.1), if_neg (fun e => g3 e.1)])
        clear g1 g3
        go_wp2
        go_ret
        exact ⟨by rw [hfin.out]; rfl, HIz.out, HKz.out⟩
end Go.Proofs.YthgglobfkkcdgaaGreat
namespace Go.Proofs.YthgglobfkkcdgaaGreat
open Go.RowKit Go.Shelf Go.Maps
set_option maxRecDepth 100000
theorem BalW.lB {o : Odr} {P Q : Option Addr} {pc qc bx bm B0 : Nat} {b : Bal} {w : World} (h : BalW o P Q pc qc bx bm B0 b w) : B0 ≤ w.heap.size := by have := h.lt; have := h.lx; omega
theorem BalW.low {o : Odr} {P Q : Option Addr} {pc qc bx bm B0 : Nat} {b : Bal} {w w' : World} (h : BalW o P Q pc qc bx bm B0 b w) (hk : KeepsC (fun g => g = bx ∨ g = bm) w w') : ∀ g, g < B0 → w'.heap[g]? = w.heap[g]? := fun g hg => hk.block (by have := h.lB; omega) (by have := h.lx; have := h.lm; rintro (e | e) <;> omega)
theorem lay_at {o : Odr} {P Q : Option Addr} {pc qc bx bm B0 : Nat} {b : Bal} {w : World} (h : BalW o P Q pc qc bx bm B0 b w) (t : Tm) (A : Option Addr) (c : Nat) (at_ : Int) (hat : at_ = 0 ∨ at_ = 1) (hOK : BalOK b) (hk : knowT o t = true) (hn : b.n + t.size ≤ 1073741824) (hf : I64 t.fn) (hA : ArgsK w (· < B0) A c t.args) :
    Calls Tryz.prog 87 #[.pointer (some ⟨bx, 0, none⟩), .agg #[.int .i64 t.fn, .slice A t.args.length c], .int .i64 at_] w fun e w' => e = .returned (.tuple #[]) ∧ BalW o P Q pc qc bx bm B0 (layB o at_ b t) w' ∧ KeepsC (fun g => g = bx ∨ g = bm) w w' :=
  lay_any h t A c at_ hat hOK hk hn hf hA.toN
set_option maxHeartbeats 4000000 in
theorem reason_of {o : Odr} {P Q : Option Addr} {pc qc bx bm B0 : Nat} {b : Bal} {w : World} (h : BalW o P Q pc qc bx bm B0 b w) (s t : Tm) (A A2 : Option Addr) (c c2 : Nat) (hOK : BalOK b) (hks : knowT o s = true) (hkt : knowT o t = true) (hn : b.n + s.size + t.size ≤ 1073741824) (hf : I64 s.fn) (hg : I64 t.fn) (hA : ArgsK w (· < B0) A c s.args) (hA2 : ArgsK w (· < B0) A2 c2 t.args)
    (harg : ∀ (b' : Bal) (w' : World), BalOK b' → b'.n = b.n + 2 → BalW o P Q pc qc bx bm B0 b' w' → ArgsK w' (· < B0) A c s.args → ArgsK w' (· < B0) A2 c2 t.args → Calls Tryz.prog 90 #[.pointer (some ⟨bx, 0, none⟩), .slice A s.args.length c, .slice A2 t.args.length c2] w' (BalPost o P Q pc qc bx bm B0 (argB o s.args b' t.args).1 (argB o s.args b' t.args).2 w')) :
    Calls Tryz.prog 69 #[.pointer (some ⟨bx, 0, none⟩), .agg #[.int .i64 s.fn, .slice A s.args.length c], .agg #[.int .i64 t.fn, .slice A2 t.args.length c2]] w (BalPost o P Q pc qc bx bm B0 (rsnB o s b t).1 (rsnB o s b t).2 w) := by
  obtain ⟨q0, q1⟩ := heap2 w (.cells #[.int .i64 s.fn, .slice A s.args.length c] 36) (.cells #[.int .i64 t.fn, .slice A2 t.args.length c2] 36)
  obtain ⟨W, hW⟩ : ∃ W, ((w.alloc (.cells #[.int .i64 s.fn, .slice A s.args.length c] 36)).alloc (.cells #[.int .i64 t.fn, .slice A2 t.args.length c2] 36)) = W := ⟨_, rfl⟩
  have hB : Below w.heap.size w W := by rw [← hW]; exact ((Below.refl _ _).alloc (Nat.le_refl _) _).alloc (by simp) _
  rw [hW] at q0 q1
  have hWs : w.heap.size + 1 < W.heap.size := (Array.getElem?_eq_some_iff.1 q1).1
  obtain ⟨hlx, hlm⟩ := h.lt
  have hlb := h.lB
  obtain ⟨x0, x1, _, _⟩ := cells_two q0
  obtain ⟨y0, y1, _, _⟩ := cells_two q1
  have hS : ∀ w1, KeepsC (fun g => g = bx ∨ g = bm) W w1 → w1.cell? ⟨w.heap.size, 0, none⟩ = some (.int .i64 s.fn) ∧ w1.cell? ⟨w.heap.size, 1, none⟩ = some (.slice A s.args.length c) ∧ w1.cell? ⟨w.heap.size + 1, 0, none⟩ = some (.int .i64 t.fn) ∧ w1.cell? ⟨w.heap.size + 1, 1, none⟩ = some (.slice A2 t.args.length c2) ∧ W.heap.size ≤ w1.heap.size := fun w1 hk => by
    obtain ⟨a0, a1, _, _⟩ := cells_two ((hk.block (by omega) (by rintro (e | e) <;> omega)).trans q0)
    obtain ⟨b0, b1, _, _⟩ := cells_two ((hk.block hWs (by rintro (e | e) <;> omega)).trans q1)
    exact ⟨a0, a1, b0, b1, hk.size⟩
  have hK : ∀ w1, KeepsC (fun g => g = bx ∨ g = bm) W w1 → ArgsK w1 (· < B0) A c s.args ∧ ArgsK w1 (· < B0) A2 c2 t.args := fun w1 hk => by
    have hl : ∀ g, g < B0 → w1.heap[g]? = w.heap[g]? := fun g hg => ((h.on hB).low hk g hg).trans (hB.block g (by omega))
    exact ⟨hA.keep hl, hA2.keep hl⟩
  have hWb := h.on hB
  have HWb := Lib.hid hWb
  have HW := Lib.hid hW
  have HS := Lib.hid hS
  have HK := Lib.hid hK
  have hkW : KeepsC (fun g => g = bx ∨ g = bm) w W := KeepsC.of_below hB
  by_cases hfg : s.fn = t.fn
  · have hne : (s.fn != t.fn) = false := by simp [hfg]
    have hrs : rsnB o s b t = argB o s.args (cntB o 1 (cntB o 0 b s.fn) t.fn) t.args := by
      obtain ⟨f, xs⟩ := s
      have hfg' : f = t.fn := hfg
      rw [rsnB, if_pos hfg']; rfl
    have Hrs := Lib.hid hrs
    have hsz := size_node s
    have htz := size_node t
    have hOK1 : BalOK (cntB o 0 b s.fn) := hOK.next (by omega) _
    have hn1 : (cntB o 0 b s.fn).n = b.n + 1 := rfl
    have hOK2 : BalOK (cntB o 1 (cntB o 0 b s.fn) t.fn) := hOK1.next (by omega) _
    have hn2 : (cntB o 1 (cntB o 0 b s.fn) t.fn).n = b.n + 2 := rfl
    have hts := (know_top (know_node hks).1).1
    have htt := (know_top (know_node hkt).1).1
    have H1 := Lib.hid (count_at hWb s A c 0 (.inl rfl) hts hOK hf)
    have H2 : ∀ w1, BalW o P Q pc qc bx bm B0 (cntB o 0 b s.fn) w1 → _ := fun w1 hb => count_at hb t A2 c2 1 (.inr rfl) htt hOK1 hg
    have H2 := Lib.hid H2
    have H3 : ∀ w1, KeepsC (fun g => g = bx ∨ g = bm) W w1 → BalW o P Q pc qc bx bm B0 (cntB o 1 (cntB o 0 b s.fn) t.fn) w1 → _ := fun w1 hk hb => harg _ w1 hOK2 hn2 hb (hK w1 hk).1 (hK w1 hk).2
    have H3 := Lib.hid H3
    clear hW hS hK h hA hA2 harg q0 q1 hWb hrs hfg hsz htz hOK hOK1 hOK2 hn1 hn2 hts htt
    go_enter Tryz.func69, Tryz.ntmps69
    go_upto_region 1 with fail
    rw [HW.out]
    go_wp2_with (first
      | (go_at_call 89; (with_reducible refine H1.out.mono ?_); go_must (rintro e w1 ⟨rfl, hI1, hk1⟩; obtain ⟨a0, a1, a2, a3, a4⟩ := HS.out w1 hk1; have HI1 := Lib.hid hI1; have H4 := Lib.hid (H2.out w1 hI1); clear hI1))
      | (go_at_call 89; (with_reducible refine H4.out.mono ?_); go_must (rintro e w2 ⟨rfl, hI2, hk2⟩; have hk2' := hk1.trans hk2; obtain ⟨b0, b1, b2, b3, b4⟩ := HS.out w2 hk2'; have H5 := Lib.hid (H3.out w2 hk2' hI2); clear hI2))
      | (go_at_call 90; (with_reducible refine H5.out.mono ?_); go_must (rintro e w3 ⟨rfl, hI3, hk3⟩; have HI3 := Lib.hid hI3; clear hI3))
      | fail)
    go_ret
    exact ⟨by rw [Hrs.out]; rfl, by rw [Hrs.out]; exact HI3.out, hkW.trans (hk2'.trans hk3)⟩
  · have hne : (s.fn != t.fn) = true := by simp [hfg]
    have hrs : rsnB o s b t = (layB o 1 (layB o 0 b s) t, topsR o s t) := by
      obtain ⟨f, xs⟩ := s
      have hfg' : ¬ f = t.fn := hfg
      rw [rsnB, if_neg hfg']
    have Hrs := Lib.hid hrs
    have hl1 := lay_ok o 0 s b hOK hks (by omega)
    have hl2 := lay_ok o 1 t (layB o 0 b s) hl1.ok hkt (by have := hl1.n; omega)
    have hts := (know_top (know_node hks).1).2.1
    have htt := (know_top (know_node hkt).1).2.1
    have H1 := Lib.hid (lay_at hWb s A c 0 (.inl rfl) hOK hks (by omega) hf (hK W (KeepsC.refl _ _)).1)
    have H2 : ∀ w1, KeepsC (fun g => g = bx ∨ g = bm) W w1 → BalW o P Q pc qc bx bm B0 (layB o 0 b s) w1 → _ := fun w1 hk hb => lay_at hb t A2 c2 1 (.inr rfl) hl1.ok hkt (by have := hl1.n; omega) hg (hK w1 hk).2
    have H2 := Lib.hid H2
    have H3 : ∀ w1, KeepsC (fun g => g = bx ∨ g = bm) W w1 → BalW o P Q pc qc bx bm B0 (layB o 1 (layB o 0 b s) t) w1 → ∀ y : Later w1.heap.size w1, Calls Tryz.prog 88 #[.agg #[.bool o.lpo, .slice P o.prec.length pc, .slice Q o.wts.length qc, .int .i64 o.var], .agg #[.int .i64 s.fn, .slice A s.args.length c], .agg #[.int .i64 t.fn, .slice A2 t.args.length c2]] y.w fun e w' => e = .returned (.int .i64 (topsR o s t)) ∧ Below y.w.heap.size y.w w' := fun w1 hk hb y => by
      have hby := hb.on y.h
      have hky := hk.trans (KeepsC.of_below y.h)
      exact tops_any o s t P Q A A2 pc qc c c2 y.w ⟨hby.o.p.more hby.lB, hby.o.q.more hby.lB, hby.o.v⟩ hts htt ((hK y.w hky).1.toN.args fun g e => Nat.lt_of_lt_of_le e hby.lB) ((hK y.w hky).2.toN.args fun g e => Nat.lt_of_lt_of_le e hby.lB)
    have H3 := Lib.hid H3
    clear hW hS hK h hA hA2 harg q0 q1 hWb hrs hfg hOK hl1 hl2 hts htt
    go_enter Tryz.func69, Tryz.ntmps69
    go_upto_region 1 with fail
    rw [HW.out]
    go_upto_region 4 with (first
      | (go_at_call 87; (with_reducible refine H1.out.mono ?_); go_must (rintro e w1 ⟨rfl, hI1, hk1⟩; obtain ⟨a0, a1, a2, a3, a4⟩ := HS.out w1 hk1; have H4 := Lib.hid (H2.out w1 hk1 hI1); clear hI1))
      | (go_at_call 87; (with_reducible refine H4.out.mono ?_); go_must (rintro e w2 ⟨rfl, hI2, hk2⟩; have hk2' := hk1.trans hk2; have H5 := Lib.hid (H3.out w2 hk2' hI2); have HI2 := Lib.hid hI2; clear hI2))
      | fail)
    have hS2 : ∀ y : Later w2.heap.size w2, KeepsC (fun g => g = bx ∨ g = bm) W y.w := fun y => hk2'.trans (KeepsC.of_below y.h)
    have m0 : ∀ y : Later w2.heap.size w2, y.w.cell? ⟨w.heap.size, 0, none⟩ = some (.int .i64 s.fn) := fun y => (HS.out y.w (hS2 y)).1
    have m1 : ∀ y : Later w2.heap.size w2, y.w.cell? ⟨w.heap.size, 1, none⟩ = some (.slice A s.args.length c) := fun y => (HS.out y.w (hS2 y)).2.1
    have m2 : ∀ y : Later w2.heap.size w2, y.w.cell? ⟨w.heap.size + 1, 0, none⟩ = some (.int .i64 t.fn) := fun y => (HS.out y.w (hS2 y)).2.2.1
    have m3 : ∀ y : Later w2.heap.size w2, y.w.cell? ⟨w.heap.size + 1, 1, none⟩ = some (.slice A2 t.args.length c2) := fun y => (HS.out y.w (hS2 y)).2.2.2.1
    have m4 : ∀ y : Later w2.heap.size w2, y.w.cell? ⟨bx, 0, none⟩ = some (.bool o.lpo) := fun y => (cells_9 (HI2.out.on y.h).m.box).1
    have m5 : ∀ y : Later w2.heap.size w2, y.w.cell? ⟨bx, 1, none⟩ = some (.slice P o.prec.length pc) := fun y => (cells_9 (HI2.out.on y.h).m.box).2.1
    have m6 : ∀ y : Later w2.heap.size w2, y.w.cell? ⟨bx, 2, none⟩ = some (.slice Q o.wts.length qc) := fun y => (cells_9 (HI2.out.on y.h).m.box).2.2.1
    have m7 : ∀ y : Later w2.heap.size w2, y.w.cell? ⟨bx, 3, none⟩ = some (.int .i64 o.var) := fun y => (cells_9 (HI2.out.on y.h).m.box).2.2.2.1
    clear a0 a1 a2 a3 x0 x1 y0 y1 hS2
    refine wp_region_later w2.heap.size w2 (by kernel_rfl) (by kernel_rfl) (bl_drewN (Below.refl _ _) 1) ?_
    repeat (go_big_quiet_step (first | (go_at_call 88; with_reducible refine calls_later _ (Nat.le_refl _) (H5.out _)) | fail))
    refine wpQuiet_nil ?_
    rintro _ ⟨z, rfl⟩
    go_wp2
    go_ret
    exact ⟨by rw [Hrs.out]; rfl, by rw [Hrs.out]; exact HI2.out.on z.h, hkW.trans (hk2'.trans (KeepsC.of_below z.h))⟩
end Go.Proofs.YthgglobfkkcdgaaGreat
namespace Go.Proofs.YthgglobfkkcdgaaGreat
open Go.RowKit Go.Shelf Go.Maps
set_option maxRecDepth 100000
structure ArgI (o : Odr) (xs ys : List Tm) (b : Bal) (xs' ys' : List Tm) (b' : Bal) (q : Int) : Prop where
  mem : ∀ x ∈ xs', x ∈ xs
  kx : knowL o xs' = true
  ky : knowL o ys' = true
  ok : BalOK b'
  n : b'.n + sizes xs' + sizes ys' ≤ 1073741824
  yes : q = 2 → argB o xs b ys = argB o xs' b' ys'
  no : ¬ q = 2 → argB o xs b ys = (layL o 1 (layL o 0 b' xs') ys', q)
structure LayI (o : Odr) (at_ : Int) (b0 : Bal) (xs : List Tm) (m k : Nat) (b : Bal) : Prop where
  eq : layL o at_ b0 xs = layL o at_ b (xs.drop k)
  ok : BalOK b
  n : b.n + sizes (xs.drop k) + m ≤ 1073741824
  kn : knowL o (xs.drop k) = true
theorem LayI.step {o : Odr} {at_ : Int} {b0 b : Bal} {xs : List Tm} {m k : Nat} {u : Tm} (h : LayI o at_ b0 xs m k b) (hu : xs[k]? = some u) : knowT o u = true ∧ b.n + u.size ≤ 1073741824 ∧ LayI o at_ b0 xs m (k + 1) (layB o at_ b u) := by
  obtain ⟨h1, h2⟩ := List.getElem?_eq_some_iff.1 hu
  have hd : xs.drop k = u :: xs.drop (k + 1) := by rw [List.drop_eq_getElem_cons h1, h2]
  have hk := h.kn
  have hn := h.n
  have he := h.eq
  rw [hd] at hk hn he
  rw [knowL, Bool.and_eq_true] at hk
  simp only [sizes] at hn
  have hl := lay_ok o at_ u b h.ok hk.1 (by omega)
  exact ⟨hk.1, by omega, ⟨by rw [he, layL], hl.ok, by rw [hl.n]; omega, hk.2⟩⟩
theorem LayI.done {o : Odr} {at_ : Int} {b0 b : Bal} {xs : List Tm} {m : Nat} (h : LayI o at_ b0 xs m xs.length b) : layL o at_ b0 xs = b := by
  have := h.eq
  rwa [List.drop_length, layL] at this
def KArgsAt (o : Odr) (P Q : Option Addr) (pc qc bx bm B0 : Nat) (xs : List Tm) : Prop :=
  ∀ (ys : List Tm) (b : Bal) (A A2 : Option Addr) (c c2 : Nat) (w : World), BalW o P Q pc qc bx bm B0 b w → BalOK b → knowL o xs = true → knowL o ys = true → b.n + sizes xs + sizes ys ≤ 1073741824 → ArgsK w (· < B0) A c xs → ArgsK w (· < B0) A2 c2 ys →
    Calls Tryz.prog 90 #[.pointer (some ⟨bx, 0, none⟩), .slice A xs.length c, .slice A2 ys.length c2] w (BalPost o P Q pc qc bx bm B0 (argB o xs b ys).1 (argB o xs b ys).2 w)
def KCmpAt (o : Odr) (P Q : Option Addr) (pc qc bx bm B0 : Nat) (s : Tm) : Prop :=
  ∀ (t : Tm) (b : Bal) (A A2 : Option Addr) (c c2 : Nat) (w : World), BalW o P Q pc qc bx bm B0 b w → BalOK b → knowT o s = true → knowT o t = true → b.n + s.size + t.size ≤ 1073741824 → I64 s.fn → I64 t.fn → ArgsK w (· < B0) A c s.args → ArgsK w (· < B0) A2 c2 t.args →
    Calls Tryz.prog 48 #[.pointer (some ⟨bx, 0, none⟩), .agg #[.int .i64 s.fn, .slice A s.args.length c], .agg #[.int .i64 t.fn, .slice A2 t.args.length c2]] w (BalPost o P Q pc qc bx bm B0 (rsnB o s b t).1 (finB b (rsnB o s b t)) w)
theorem cmpInt_eq (a b : Int) (w : World) :
    Calls Tryz.prog 112 #[.int .i64 a, .int .i64 b] w fun e w' => e = .returned (.int .i64 (numI a b)) ∧ w' = w := by
  go_enter Tryz.func112, Tryz.ntmps112
  go_wp2
  all_goals
    go_ret
    first
      | exact ⟨ret_int (numI_lt (by omega)).symm, rfl⟩
      | exact ⟨ret_int (numI_gt (by omega)).symm, rfl⟩
      | exact ⟨ret_int (numI_eq (by omega) (by omega)).symm, rfl⟩
set_option maxHeartbeats 8000000 in
theorem arguments_of {o : Odr} {P Q : Option Addr} {pc qc bx bm B0 : Nat} (xs : List Tm) (ih : ∀ x ∈ xs, KCmpAt o P Q pc qc bx bm B0 x) : KArgsAt o P Q pc qc bx bm B0 xs := by
  intro ys b A0 A20 c0 c20 w hW hOK hkx hky hn hA hA2
  have HWw := Lib.hid hW
  have HI0 : Hid (ArgI o xs ys b xs ys b 2) := Lib.hid ⟨fun _ h => h, hkx, hky, hOK, hn, fun _ => rfl, fun h => absurd rfl h⟩
  have hl1 := hA.len
  have hl2 := hA2.len
  have HAa := Lib.hid hA
  have HAb := Lib.hid hA2
  clear hW hOK hkx hky hn hA hA2
  go_enter Tryz.func90, Tryz.ntmps90
  go_wp2
  go_loopg [1, 2, 7] xs.length (fun gk u1 u2 u7 wx => ∃ (xs' ys' : List Tm) (b' : Bal) (q : Int) (A A2 : Option Addr) (c c2 : Nat), u1 = .slice A xs'.length c ∧ u2 = .slice A2 ys'.length c2 ∧ u7 = .int .i64 q ∧ xs'.length ≤ gk ∧ KeepsC (fun g => g = bx ∨ g = bm) w wx ∧ Hid (BalW o P Q pc qc bx bm B0 b' wx) ∧ Hid (ArgI o xs ys b xs' ys' b' q) ∧ Hid (ArgsK w (· < B0) A c xs') ∧ Hid (ArgsK w (· < B0) A2 c2 ys'))
  case atStart => exact ⟨xs, ys, b, 2, A0, A20, c0, c20, rfl, rfl, rfl, Nat.le_refl _, KeepsC.refl _ _, HWw, HI0, HAa, HAb⟩
  case round =>
    obtain ⟨xs', ys', b', q, A, A2, c, c2, rfl, rfl, rfl, hgk, hKr, HWr, HI, HA0, HA20⟩ := hrel
    have hA0 := HA0.out
    have hA20 := HA20.out
    have hlx := hA0.len
    have hly := hA20.len
    by_cases hq : q = 2
    · subst hq
      by_cases hend : xs'.length = 0 ∨ ys'.length = 0
      · have hfin : Hid (argB o xs b ys = (layL o 1 (layL o 0 b' xs') ys', relC (numI (xs'.length : Int) (ys'.length : Int)))) := Lib.hid (by
          rw [HI.out.yes rfl]
          match xs', ys', hend with
          | [], ys', _ => rw [argB, layL]; rfl
          | x :: xs'', [], _ => rw [argB, layL]; rfl
          | x :: xs'', y :: ys'', h => simp at h)
        have hrc : ∀ w1 : World, _ := fun w1 => relation_any (numI (xs'.length : Int) (ys'.length : Int)) (by have := numI_bd (xs'.length : Int) (ys'.length : Int); omega) (by have := numI_bd (xs'.length : Int) (ys'.length : Int); omega) w1
        have Hrc := Lib.hid hrc
        have hcm : ∀ w1 : World, _ := fun w1 => cmpInt_eq (xs'.length : Int) (ys'.length : Int) w1
        have Hcm := Lib.hid hcm
        obtain ⟨qf, hqf⟩ : ∃ qf, relC (numI (xs'.length : Int) (ys'.length : Int)) = qf := ⟨_, rfl⟩
        rw [hqf] at hfin Hrc
        clear hrc hcm hqf
        by_cases hx0 : xs'.length = 0
        · have f1 : ¬ 0 < xs'.length := by omega
          clear hend hx0
          have hK0 := hKr
          have HW0 := HWr
          have HL0 : Hid (LayI o 0 b' xs' (sizes ys') 0 b') := Lib.hid ⟨by rw [List.drop_zero], HI.out.ok, by rw [List.drop_zero]; exact HI.out.n, by rw [List.drop_zero]; exact HI.out.kx⟩
          have HA1 : Hid (∀ wx, KeepsC (fun g => g = bx ∨ g = bm) w wx → ArgsK wx (· < B0) A c xs') := Lib.hid fun wx hk => hA0.keep fun g hg => HWw.out.low hk g hg
          have HA2 : Hid (∀ wx, KeepsC (fun g => g = bx ∨ g = bm) w wx → ArgsK wx (· < B0) A2 c2 ys') := Lib.hid fun wx hk => hA20.keep fun g hg => HWw.out.low hk g hg
          obtain ⟨wo, rfl⟩ : ∃ wo, wo = wr := ⟨_, rfl⟩
          clear hKr HWr hA0 hA20 hgk
          go_wp2_with (first
            | (go_at_call 112; (with_reducible refine (Hcm.out _).mono ?_); go_must (rintro e w1 ⟨rfl, rfl⟩))
            | (go_at_call 72; (with_reducible refine (Hrc.out _).mono ?_); go_must (rintro e w1 ⟨rfl, rfl⟩))
            | fail)
          clear f1
          go_loopw [46] (fun i wx => ∃ (k : Nat) (b2 : Bal), k ≤ xs'.length ∧ i = .int .i64 (k : Int) ∧ KeepsC (fun g => g = bx ∨ g = bm) w wx ∧ Hid (BalW o P Q pc qc bx bm B0 b2 wx) ∧ Hid (LayI o 0 b' xs' (sizes ys') k b2)) (fun i _ => xs'.length - (intOf i).toNat)
          case atStart => exact ⟨0, b', Nat.zero_le _, rfl, hK0, HW0, HL0⟩
          case round =>
            obtain ⟨k, b2, hk, rfl, hKx, HWx, HLx⟩ := hrel
            by_cases hlt : k < xs'.length
            · obtain ⟨u, hu⟩ : ∃ u, xs'[k]? = some u := ⟨_, List.getElem?_eq_getElem hlt⟩
              obtain ⟨hku, hnu, hnx⟩ := HLx.out.step hu
              obtain ⟨bb, off, A5, c5, rfl, hbb, hu64, e0, e1, hsub⟩ := (HA1.out wr hKx).get hu
              have q5 := heap_alloc_new wr (.cells #[.int .i64 u.fn, .slice A5 u.args.length c5] 36)
              obtain ⟨W5, hW5⟩ : ∃ W5, wr.alloc (.cells #[.int .i64 u.fn, .slice A5 u.args.length c5] 36) = W5 := ⟨_, rfl⟩
              have hB5 : Below wr.heap.size wr W5 := by rw [← hW5]; exact (Below.refl _ _).alloc (Nat.le_refl _) _
              rw [hW5] at q5
              obtain ⟨z0, z1, _, _⟩ := cells_two q5
              have hlb5 := HWx.out.lB
              have H5 := Lib.hid (lay_at (HWx.out.on hB5) u A5 c5 0 (.inl rfl) HLx.out.ok hku hnu hu64 (hsub.keep fun g hg => hB5.block g (Nat.lt_of_lt_of_le hg hlb5)))
              have HW5 := Lib.hid hW5
              have hnx := Lib.hid hnx
              have hK5 := hKx.trans (KeepsC.of_below hB5)
              clear hu hku hnu hsub hW5 q5
              go_upto_region 10 with fail
              rw [HW5.out]
              go_wp2_with (first
                | (go_at_call 87; (with_reducible refine H5.out.mono ?_); go_must (rintro e w6 ⟨rfl, hI6, hk6⟩; have HI6 := Lib.hid hI6; have hK6 := hK5.trans hk6; clear hI6))
                | fail)
              go_roundw
              case rel => exact ⟨k + 1, _, by omega, by go_num, hK6, HI6, hnx⟩
              case measure => simp [intOf]; omega
            · obtain rfl : k = xs'.length := by omega
              have hdone := HLx.out.done
              have hK1 := hKx
              have HW1 : Hid (BalW o P Q pc qc bx bm B0 b2 wr) := HWx
              have HL1 : Hid (LayI o 1 b2 ys' 0 0 b2) := Lib.hid ⟨by rw [List.drop_zero], HLx.out.ok, by have := HLx.out.n; rw [List.drop_zero]; rw [List.drop_length] at this; simp only [sizes] at this; omega, by rw [List.drop_zero]; exact HI.out.ky⟩
              have Hd1 := Lib.hid hdone
              obtain ⟨wo2, rfl⟩ : ∃ wo2, wo2 = wr := ⟨_, rfl⟩
              clear hdone hKx HWx HLx
              go_wp2
              go_loopw [56] (fun i wx => ∃ (k : Nat) (b3x : Bal), k ≤ ys'.length ∧ i = .int .i64 (k : Int) ∧ KeepsC (fun g => g = bx ∨ g = bm) w wx ∧ Hid (BalW o P Q pc qc bx bm B0 b3x wx) ∧ Hid (LayI o 1 b2 ys' 0 k b3x)) (fun i _ => ys'.length - (intOf i).toNat)
              case atStart => exact ⟨0, b2, Nat.zero_le _, rfl, hK1, HW1, HL1⟩
              case round =>
                obtain ⟨k, b3x, hk, rfl, hKx, HWx, HLx⟩ := hrel
                by_cases hlt : k < ys'.length
                · obtain ⟨u, hu⟩ : ∃ u, ys'[k]? = some u := ⟨_, List.getElem?_eq_getElem hlt⟩
                  obtain ⟨hku, hnu, hnx⟩ := HLx.out.step hu
                  obtain ⟨bb, off, A5, c5, rfl, hbb, hu64, e0, e1, hsub⟩ := (HA2.out wr hKx).get hu
                  have q5 := heap_alloc_new wr (.cells #[.int .i64 u.fn, .slice A5 u.args.length c5] 36)
                  obtain ⟨W5, hW5⟩ : ∃ W5, wr.alloc (.cells #[.int .i64 u.fn, .slice A5 u.args.length c5] 36) = W5 := ⟨_, rfl⟩
                  have hB5 : Below wr.heap.size wr W5 := by rw [← hW5]; exact (Below.refl _ _).alloc (Nat.le_refl _) _
                  rw [hW5] at q5
                  obtain ⟨z0, z1, _, _⟩ := cells_two q5
                  have hlb5 := HWx.out.lB
                  have H5 := Lib.hid (lay_at (HWx.out.on hB5) u A5 c5 1 (.inr rfl) HLx.out.ok hku hnu hu64 (hsub.keep fun g hg => hB5.block g (Nat.lt_of_lt_of_le hg hlb5)))
                  have HW5 := Lib.hid hW5
                  have hnx := Lib.hid hnx
                  have hK5 := hKx.trans (KeepsC.of_below hB5)
                  clear hu hku hnu hsub hW5 q5
                  go_upto_region 15 with fail
                  rw [HW5.out]
                  go_wp2_with (first
                    | (go_at_call 87; (with_reducible refine H5.out.mono ?_); go_must (rintro e w6 ⟨rfl, hI6, hk6⟩; have HI6 := Lib.hid hI6; have hK6 := hK5.trans hk6; clear hI6))
                    | fail)
                  go_roundw
                  case rel => exact ⟨k + 1, _, by omega, by go_num, hK6, HI6, hnx⟩
                  case measure => simp [intOf]; omega
                · obtain rfl : k = ys'.length := by omega
                  have hdone := HLx.out.done
                  go_wp2
                  go_ret
                  have hfin2 : argB o xs b ys = (b3x, qf) := by rw [hfin.out, Hd1.out, hdone]
                  exact ⟨by rw [hfin2]; rfl, by rw [hfin2]; exact HWx.out, hKx⟩
        · have f1 : 0 < xs'.length := by omega
          have f2 : ¬ 0 < ys'.length := by omega
          clear hend hx0
          have hK0 := hKr
          have HW0 := HWr
          have HL0 : Hid (LayI o 0 b' xs' (sizes ys') 0 b') := Lib.hid ⟨by rw [List.drop_zero], HI.out.ok, by rw [List.drop_zero]; exact HI.out.n, by rw [List.drop_zero]; exact HI.out.kx⟩
          have HA1 : Hid (∀ wx, KeepsC (fun g => g = bx ∨ g = bm) w wx → ArgsK wx (· < B0) A c xs') := Lib.hid fun wx hk => hA0.keep fun g hg => HWw.out.low hk g hg
          have HA2 : Hid (∀ wx, KeepsC (fun g => g = bx ∨ g = bm) w wx → ArgsK wx (· < B0) A2 c2 ys') := Lib.hid fun wx hk => hA20.keep fun g hg => HWw.out.low hk g hg
          obtain ⟨wo, rfl⟩ : ∃ wo, wo = wr := ⟨_, rfl⟩
          clear hKr HWr hA0 hA20 hgk
          go_wp2_with (first
            | (go_at_call 112; (with_reducible refine (Hcm.out _).mono ?_); go_must (rintro e w1 ⟨rfl, rfl⟩))
            | (go_at_call 72; (with_reducible refine (Hrc.out _).mono ?_); go_must (rintro e w1 ⟨rfl, rfl⟩))
            | fail)
          clear f1 f2
          go_loopw [46] (fun i wx => ∃ (k : Nat) (b2 : Bal), k ≤ xs'.length ∧ i = .int .i64 (k : Int) ∧ KeepsC (fun g => g = bx ∨ g = bm) w wx ∧ Hid (BalW o P Q pc qc bx bm B0 b2 wx) ∧ Hid (LayI o 0 b' xs' (sizes ys') k b2)) (fun i _ => xs'.length - (intOf i).toNat)
          case atStart => exact ⟨0, b', Nat.zero_le _, rfl, hK0, HW0, HL0⟩
          case round =>
            obtain ⟨k, b2, hk, rfl, hKx, HWx, HLx⟩ := hrel
            by_cases hlt : k < xs'.length
            · obtain ⟨u, hu⟩ : ∃ u, xs'[k]? = some u := ⟨_, List.getElem?_eq_getElem hlt⟩
              obtain ⟨hku, hnu, hnx⟩ := HLx.out.step hu
              obtain ⟨bb, off, A5, c5, rfl, hbb, hu64, e0, e1, hsub⟩ := (HA1.out wr hKx).get hu
              have q5 := heap_alloc_new wr (.cells #[.int .i64 u.fn, .slice A5 u.args.length c5] 36)
              obtain ⟨W5, hW5⟩ : ∃ W5, wr.alloc (.cells #[.int .i64 u.fn, .slice A5 u.args.length c5] 36) = W5 := ⟨_, rfl⟩
              have hB5 : Below wr.heap.size wr W5 := by rw [← hW5]; exact (Below.refl _ _).alloc (Nat.le_refl _) _
              rw [hW5] at q5
              obtain ⟨z0, z1, _, _⟩ := cells_two q5
              have hlb5 := HWx.out.lB
              have H5 := Lib.hid (lay_at (HWx.out.on hB5) u A5 c5 0 (.inl rfl) HLx.out.ok hku hnu hu64 (hsub.keep fun g hg => hB5.block g (Nat.lt_of_lt_of_le hg hlb5)))
              have HW5 := Lib.hid hW5
              have hnx := Lib.hid hnx
              have hK5 := hKx.trans (KeepsC.of_below hB5)
              clear hu hku hnu hsub hW5 q5
              go_upto_region 10 with fail
              rw [HW5.out]
              go_wp2_with (first
                | (go_at_call 87; (with_reducible refine H5.out.mono ?_); go_must (rintro e w6 ⟨rfl, hI6, hk6⟩; have HI6 := Lib.hid hI6; have hK6 := hK5.trans hk6; clear hI6))
                | fail)
              go_roundw
              case rel => exact ⟨k + 1, _, by omega, by go_num, hK6, HI6, hnx⟩
              case measure => simp [intOf]; omega
            · obtain rfl : k = xs'.length := by omega
              have hdone := HLx.out.done
              have hK1 := hKx
              have HW1 : Hid (BalW o P Q pc qc bx bm B0 b2 wr) := HWx
              have HL1 : Hid (LayI o 1 b2 ys' 0 0 b2) := Lib.hid ⟨by rw [List.drop_zero], HLx.out.ok, by have := HLx.out.n; rw [List.drop_zero]; rw [List.drop_length] at this; simp only [sizes] at this; omega, by rw [List.drop_zero]; exact HI.out.ky⟩
              have Hd1 := Lib.hid hdone
              obtain ⟨wo2, rfl⟩ : ∃ wo2, wo2 = wr := ⟨_, rfl⟩
              clear hdone hKx HWx HLx
              go_wp2
              go_loopw [56] (fun i wx => ∃ (k : Nat) (b3x : Bal), k ≤ ys'.length ∧ i = .int .i64 (k : Int) ∧ KeepsC (fun g => g = bx ∨ g = bm) w wx ∧ Hid (BalW o P Q pc qc bx bm B0 b3x wx) ∧ Hid (LayI o 1 b2 ys' 0 k b3x)) (fun i _ => ys'.length - (intOf i).toNat)
              case atStart => exact ⟨0, b2, Nat.zero_le _, rfl, hK1, HW1, HL1⟩
              case round =>
                obtain ⟨k, b3x, hk, rfl, hKx, HWx, HLx⟩ := hrel
                by_cases hlt : k < ys'.length
                · obtain ⟨u, hu⟩ : ∃ u, ys'[k]? = some u := ⟨_, List.getElem?_eq_getElem hlt⟩
                  obtain ⟨hku, hnu, hnx⟩ := HLx.out.step hu
                  obtain ⟨bb, off, A5, c5, rfl, hbb, hu64, e0, e1, hsub⟩ := (HA2.out wr hKx).get hu
                  have q5 := heap_alloc_new wr (.cells #[.int .i64 u.fn, .slice A5 u.args.length c5] 36)
                  obtain ⟨W5, hW5⟩ : ∃ W5, wr.alloc (.cells #[.int .i64 u.fn, .slice A5 u.args.length c5] 36) = W5 := ⟨_, rfl⟩
                  have hB5 : Below wr.heap.size wr W5 := by rw [← hW5]; exact (Below.refl _ _).alloc (Nat.le_refl _) _
                  rw [hW5] at q5
                  obtain ⟨z0, z1, _, _⟩ := cells_two q5
                  have hlb5 := HWx.out.lB
                  have H5 := Lib.hid (lay_at (HWx.out.on hB5) u A5 c5 1 (.inr rfl) HLx.out.ok hku hnu hu64 (hsub.keep fun g hg => hB5.block g (Nat.lt_of_lt_of_le hg hlb5)))
                  have HW5 := Lib.hid hW5
                  have hnx := Lib.hid hnx
                  have hK5 := hKx.trans (KeepsC.of_below hB5)
                  clear hu hku hnu hsub hW5 q5
                  go_upto_region 15 with fail
                  rw [HW5.out]
                  go_wp2_with (first
                    | (go_at_call 87; (with_reducible refine H5.out.mono ?_); go_must (rintro e w6 ⟨rfl, hI6, hk6⟩; have HI6 := Lib.hid hI6; have hK6 := hK5.trans hk6; clear hI6))
                    | fail)
                  go_roundw
                  case rel => exact ⟨k + 1, _, by omega, by go_num, hK6, HI6, hnx⟩
                  case measure => simp [intOf]; omega
                · obtain rfl : k = ys'.length := by omega
                  have hdone := HLx.out.done
                  go_wp2
                  go_ret
                  have hfin2 : argB o xs b ys = (b3x, qf) := by rw [hfin.out, Hd1.out, hdone]
                  exact ⟨by rw [hfin2]; rfl, by rw [hfin2]; exact HWx.out, hKx⟩
      · match xs', ys', hend with
        | [], ys', h => exact absurd (.inl rfl) h
        | x :: xs'', [], h => exact absurd (.inr rfl) h
        | x :: xs'', y :: ys'', _ =>
          obtain ⟨p1, off1, A1, c1, hc1⟩ := (hA0.keep fun g hg => HWw.out.low hKr g hg).cons
          obtain ⟨p2, off2, A3, c3, hc2⟩ := (hA20.keep fun g hg => HWw.out.low hKr g hg).cons
          obtain ⟨p1', off1', A1', c1', hd1⟩ := hA0.cons
          obtain ⟨p2', off2', A3', c3', hd2⟩ := hA20.cons
          have hD := bl_drewN (Below.refl wr.heap.size wr) 1
          have hDK : KeepsC (fun g => g = bx ∨ g = bm) wr wr.drew := KeepsC.of_below hD
          have e0 : wr.drew.cell? ⟨p1, off1, none⟩ = some (.int .i64 x.fn) := hc1.v0
          have e1 : wr.drew.cell? ⟨p1, off1 + 1, none⟩ = some (.slice A1 x.args.length c1) := hc1.v1
          have e2 : wr.drew.cell? ⟨p2, off2, none⟩ = some (.int .i64 y.fn) := hc2.v0
          have e3 : wr.drew.cell? ⟨p2, off2 + 1, none⟩ = some (.slice A3 y.args.length c3) := hc2.v1
          have hkx := HI.out.kx
          have hky := HI.out.ky
          have hnn := HI.out.n
          rw [knowL, Bool.and_eq_true] at hkx hky
          simp only [sizes] at hnn
          obtain ⟨hst, hrb⟩ := rsn_ok x b' y HI.out.ok hkx.1 hky.1 (by omega)
          have H1 := Lib.hid (ih x (HI.out.mem x (by simp)) y b' A1 A3 c1 c3 wr.drew (HWr.out.on hD) HI.out.ok hkx.1 hky.1 (by omega) hc1.hi hc2.hi (hc1.sub.keep fun g hg => HWr.out.low hDK g hg) (hc2.sub.keep fun g hg => HWr.out.low hDK g hg))
          have hrest1 := Lib.hid hd1.rest
          have hrest2 := Lib.hid hd2.rest
          have had1 := hd1.ad
          have had2 := hd2.ad
          rw [hc1.ad] at had1
          rw [hc2.ad] at had2
          have h1c := hc1.hc
          have h2c := hc2.hc
          have ha1 := hc1.ad
          have ha2 := hc2.ad
          injection had1 with had1
          injection had1 with had1 had1' _
          injection had2 with had2
          injection had2 with had2 had2' _
          subst had1; subst had1'; subst had2; subst had2'
          subst ha1; subst ha2
          obtain ⟨r, hr⟩ : ∃ r, rsnB o x b' y = r := ⟨_, rfl⟩
          have hnext : Hid (ArgI o xs ys b xs'' ys'' r.1 (finB b' r)) := Lib.hid ⟨fun z hz => HI.out.mem z (by simp [hz]), hkx.2, hky.2, by rw [← hr]; exact hst.ok, by rw [← hr, hst.n]; omega, fun h => by rw [HI.out.yes rfl, argB, hr, if_pos h], fun h => by rw [HI.out.yes rfl, argB, hr, if_neg h]⟩
          rw [hr] at H1
          obtain ⟨qn, hqn⟩ : ∃ qn, finB b' r = qn := ⟨_, rfl⟩
          rw [hqn] at H1 hnext
          clear hc1 hc2 hd1 hd2 hkx hky hnn hst hrb hr hqn hA0 hA20 HA0 HA20
          go_upto_region 3 with fail
          go_region_law
            (first
              | (go_simp
                 go_at_call 48
                 with_reducible refine H1.out.mono ?_
                 rintro e w1 ⟨rfl, hI1, hk1⟩
                 have HI1 := Lib.hid hI1
                 have hkr1 : KeepsC (fun g => g = bx ∨ g = bm) wr w1 := hDK.trans hk1
                 clear hI1
                 dsimp only)
              | fail)
          all_goals
            have hk2 := hKr.trans hkr1
            go_upto_region 4 with fail
            have hz1 : (1 : Int) ≤ (xs''.length : Int) + 1 := by omega
            have hz2 : (1 : Int) ≤ (ys''.length : Int) + 1 := by omega
            have hD1 := bl_drewN (Below.refl w1.heap.size w1) 1
            have hk3 : KeepsC (fun g => g = bx ∨ g = bm) w w1.drew := hk2.trans (KeepsC.of_below hD1)
            have HI3 : Hid (BalW o P Q pc qc bx bm B0 r.1 w1.drew) := Lib.hid (HI1.out.on hD1)
            clear hD1
            by_cases hc1 : c = 1
            all_goals
              by_cases hc2 : c2 = 1
            all_goals
              go_region
              go_wp2
              go_roundg xs''.length
              case rel => exact ⟨xs'', ys'', r.1, qn, _, _, c - 1, c2 - 1, by simp [hc1], by simp [hc2], rfl, Nat.le_refl _, hk3, HI3, hnext, hrest1, hrest2⟩
            all_goals
              simp only [List.length_cons] at hgk
              omega
    · have hq' : (q == 2) = false := by simp [hq]
      have hfin := Lib.hid (HI.out.no hq)
      obtain ⟨qf, hqf⟩ : ∃ qf, q = qf := ⟨_, rfl⟩
      subst hqf
      have hK0 := hKr
      have HW0 := HWr
      have HL0 : Hid (LayI o 0 b' xs' (sizes ys') 0 b') := Lib.hid ⟨by rw [List.drop_zero], HI.out.ok, by rw [List.drop_zero]; exact HI.out.n, by rw [List.drop_zero]; exact HI.out.kx⟩
      have HA1 : Hid (∀ wx, KeepsC (fun g => g = bx ∨ g = bm) w wx → ArgsK wx (· < B0) A c xs') := Lib.hid fun wx hk => hA0.keep fun g hg => HWw.out.low hk g hg
      have HA2 : Hid (∀ wx, KeepsC (fun g => g = bx ∨ g = bm) w wx → ArgsK wx (· < B0) A2 c2 ys') := Lib.hid fun wx hk => hA20.keep fun g hg => HWw.out.low hk g hg
      obtain ⟨wo, rfl⟩ : ∃ wo, wo = wr := ⟨_, rfl⟩
      clear hKr HWr hA0 hA20 hgk
      clear hq
      go_wp2
      go_loopw [46] (fun i wx => ∃ (k : Nat) (b2 : Bal), k ≤ xs'.length ∧ i = .int .i64 (k : Int) ∧ KeepsC (fun g => g = bx ∨ g = bm) w wx ∧ Hid (BalW o P Q pc qc bx bm B0 b2 wx) ∧ Hid (LayI o 0 b' xs' (sizes ys') k b2)) (fun i _ => xs'.length - (intOf i).toNat)
      case atStart => exact ⟨0, b', Nat.zero_le _, rfl, hK0, HW0, HL0⟩
      case round =>
        obtain ⟨k, b2, hk, rfl, hKx, HWx, HLx⟩ := hrel
        by_cases hlt : k < xs'.length
        · obtain ⟨u, hu⟩ : ∃ u, xs'[k]? = some u := ⟨_, List.getElem?_eq_getElem hlt⟩
          obtain ⟨hku, hnu, hnx⟩ := HLx.out.step hu
          obtain ⟨bb, off, A5, c5, rfl, hbb, hu64, e0, e1, hsub⟩ := (HA1.out wr hKx).get hu
          have q5 := heap_alloc_new wr (.cells #[.int .i64 u.fn, .slice A5 u.args.length c5] 36)
          obtain ⟨W5, hW5⟩ : ∃ W5, wr.alloc (.cells #[.int .i64 u.fn, .slice A5 u.args.length c5] 36) = W5 := ⟨_, rfl⟩
          have hB5 : Below wr.heap.size wr W5 := by rw [← hW5]; exact (Below.refl _ _).alloc (Nat.le_refl _) _
          rw [hW5] at q5
          obtain ⟨z0, z1, _, _⟩ := cells_two q5
          have hlb5 := HWx.out.lB
          have H5 := Lib.hid (lay_at (HWx.out.on hB5) u A5 c5 0 (.inl rfl) HLx.out.ok hku hnu hu64 (hsub.keep fun g hg => hB5.block g (Nat.lt_of_lt_of_le hg hlb5)))
          have HW5 := Lib.hid hW5
          have hnx := Lib.hid hnx
          have hK5 := hKx.trans (KeepsC.of_below hB5)
          clear hu hku hnu hsub hW5 q5
          go_upto_region 10 with fail
          rw [HW5.out]
          go_wp2_with (first
            | (go_at_call 87; (with_reducible refine H5.out.mono ?_); go_must (rintro e w6 ⟨rfl, hI6, hk6⟩; have HI6 := Lib.hid hI6; have hK6 := hK5.trans hk6; clear hI6))
            | fail)
          go_roundw
          case rel => exact ⟨k + 1, _, by omega, by go_num, hK6, HI6, hnx⟩
          case measure => simp [intOf]; omega
        · obtain rfl : k = xs'.length := by omega
          have hdone := HLx.out.done
          have hK1 := hKx
          have HW1 : Hid (BalW o P Q pc qc bx bm B0 b2 wr) := HWx
          have HL1 : Hid (LayI o 1 b2 ys' 0 0 b2) := Lib.hid ⟨by rw [List.drop_zero], HLx.out.ok, by have := HLx.out.n; rw [List.drop_zero]; rw [List.drop_length] at this; simp only [sizes] at this; omega, by rw [List.drop_zero]; exact HI.out.ky⟩
          have Hd1 := Lib.hid hdone
          obtain ⟨wo2, rfl⟩ : ∃ wo2, wo2 = wr := ⟨_, rfl⟩
          clear hdone hKx HWx HLx
          go_wp2
          go_loopw [56] (fun i wx => ∃ (k : Nat) (b3x : Bal), k ≤ ys'.length ∧ i = .int .i64 (k : Int) ∧ KeepsC (fun g => g = bx ∨ g = bm) w wx ∧ Hid (BalW o P Q pc qc bx bm B0 b3x wx) ∧ Hid (LayI o 1 b2 ys' 0 k b3x)) (fun i _ => ys'.length - (intOf i).toNat)
          case atStart => exact ⟨0, b2, Nat.zero_le _, rfl, hK1, HW1, HL1⟩
          case round =>
            obtain ⟨k, b3x, hk, rfl, hKx, HWx, HLx⟩ := hrel
            by_cases hlt : k < ys'.length
            · obtain ⟨u, hu⟩ : ∃ u, ys'[k]? = some u := ⟨_, List.getElem?_eq_getElem hlt⟩
              obtain ⟨hku, hnu, hnx⟩ := HLx.out.step hu
              obtain ⟨bb, off, A5, c5, rfl, hbb, hu64, e0, e1, hsub⟩ := (HA2.out wr hKx).get hu
              have q5 := heap_alloc_new wr (.cells #[.int .i64 u.fn, .slice A5 u.args.length c5] 36)
              obtain ⟨W5, hW5⟩ : ∃ W5, wr.alloc (.cells #[.int .i64 u.fn, .slice A5 u.args.length c5] 36) = W5 := ⟨_, rfl⟩
              have hB5 : Below wr.heap.size wr W5 := by rw [← hW5]; exact (Below.refl _ _).alloc (Nat.le_refl _) _
              rw [hW5] at q5
              obtain ⟨z0, z1, _, _⟩ := cells_two q5
              have hlb5 := HWx.out.lB
              have H5 := Lib.hid (lay_at (HWx.out.on hB5) u A5 c5 1 (.inr rfl) HLx.out.ok hku hnu hu64 (hsub.keep fun g hg => hB5.block g (Nat.lt_of_lt_of_le hg hlb5)))
              have HW5 := Lib.hid hW5
              have hnx := Lib.hid hnx
              have hK5 := hKx.trans (KeepsC.of_below hB5)
              clear hu hku hnu hsub hW5 q5
              go_upto_region 15 with fail
              rw [HW5.out]
              go_wp2_with (first
                | (go_at_call 87; (with_reducible refine H5.out.mono ?_); go_must (rintro e w6 ⟨rfl, hI6, hk6⟩; have HI6 := Lib.hid hI6; have hK6 := hK5.trans hk6; clear hI6))
                | fail)
              go_roundw
              case rel => exact ⟨k + 1, _, by omega, by go_num, hK6, HI6, hnx⟩
              case measure => simp [intOf]; omega
            · obtain rfl : k = ys'.length := by omega
              have hdone := HLx.out.done
              go_wp2
              go_ret
              have hfin2 : argB o xs b ys = (b3x, q) := by rw [hfin.out, Hd1.out, hdone]
              exact ⟨by rw [hfin2]; rfl, by rw [hfin2]; exact HWx.out, hKx⟩
end Go.Proofs.YthgglobfkkcdgaaGreat
namespace Go.Proofs.YthgglobfkkcdgaaGreat
open Go.RowKit Go.Shelf Go.Maps
set_option maxRecDepth 100000
theorem cmp_any (o : Odr) (P Q : Option Addr) (pc qc bx bm B0 : Nat) (s : Tm) : KCmpAt o P Q pc qc bx bm B0 s := by
  refine Tm.ind (P := fun s => KCmpAt o P Q pc qc bx bm B0 s) (fun f xs ih => ?_) s
  intro t b A A2 c c2 w hW hOK hks hkt hn hf hg hA hA2
  have harg := arguments_of xs ih
  obtain ⟨hst, _, _⟩ := rsn_ok (.node f xs) b t hOK hks hkt hn
  refine compare_of hW (.node f xs) t A A2 c c2 (rsnB o (.node f xs) b t) hOK hst.ok fun w1 hb1 hW1 => ?_
  have hlow : ∀ g, g < B0 → w1.heap[g]? = w.heap[g]? := fun g hg => hb1.block g (Nat.lt_of_lt_of_le hg hW.lB)
  refine reason_of hW1 (.node f xs) t A A2 c c2 hOK hks hkt hn hf hg (hA.keep hlow) (hA2.keep hlow) fun b' w' hOK' hn' hW' hA' hA2' => ?_
  have k1 := (know_node hks).2
  have k2 := (know_node hkt).2
  have z1 : (Tm.node f xs).size = 1 + sizes xs := size_node _
  have z2 := size_node t
  exact harg t.args b' A A2 c c2 w' hW' hOK' k1 k2 (by show b'.n + sizes xs + sizes t.args ≤ _; omega) hA' hA2'
def bal0 : Bal := ⟨0, 0, 0, 0, fun _ => 0, 0⟩
theorem bal0_ok : BalOK bal0 := by constructor <;> simp [bal0]
def cmpO (o : Odr) (s t : Tm) : Int := if knowT o s && knowT o t then finB bal0 (rsnB o s bal0 t) else 0
set_option maxHeartbeats 2000000 in
theorem kboCmp_any (o : Odr) (s t : Tm) (P Q A A2 : Option Addr) (pc qc c c2 : Nat) (w : World) (hM : OdrM w w.heap.size o P Q) (hf : I64 s.fn) (hg : I64 t.fn) (hn : s.size + t.size ≤ 1073741824) (hA : ArgsK w (· < w.heap.size) A c s.args) (hA2 : ArgsK w (· < w.heap.size) A2 c2 t.args) :
    Calls Tryz.prog 31 #[.agg #[.bool o.lpo, .slice P o.prec.length pc, .slice Q o.wts.length qc, .int .i64 o.var], .agg #[.int .i64 s.fn, .slice A s.args.length c], .agg #[.int .i64 t.fn, .slice A2 t.args.length c2]] w fun e w' => e = .returned (.int .i64 (cmpO o s t)) ∧ Below w.heap.size w w' := by
  have hmm : ∀ w : World, (Instr.makeMap 79 none).run Tryz.prog w = .ok (.map (some w.heap.size)) (w.alloc (.map #[] 0)) := fun _ => run_makeMap_plain (w := _) _
  obtain ⟨q0, q1, q2⟩ := heap3 w (.cells #[.bool o.lpo, .slice P o.prec.length pc, .slice Q o.wts.length qc, .int .i64 o.var] 24) (.cells #[.int .i64 s.fn, .slice A s.args.length c] 36) (.cells #[.int .i64 t.fn, .slice A2 t.args.length c2] 36)
  obtain ⟨W, hW⟩ : ∃ W, (((w.alloc (.cells #[.bool o.lpo, .slice P o.prec.length pc, .slice Q o.wts.length qc, .int .i64 o.var] 24)).alloc (.cells #[.int .i64 s.fn, .slice A s.args.length c] 36)).alloc (.cells #[.int .i64 t.fn, .slice A2 t.args.length c2] 36)) = W := ⟨_, rfl⟩
  have hB : Below w.heap.size w W := by rw [← hW]; exact (((Below.refl _ _).alloc (Nat.le_refl _) _).alloc (by simp) _).alloc (by simp; omega) _
  rw [hW] at q0 q1 q2
  have hWz : W.heap.size = w.heap.size + 3 := by rw [← hW]; simp
  have HK1 : Hid (∀ w1, Below W.heap.size W w1 → Calls Tryz.prog 47 #[.agg #[.bool o.lpo, .slice P o.prec.length pc, .slice Q o.wts.length qc, .int .i64 o.var], .agg #[.int .i64 s.fn, .slice A s.args.length c]] w1 fun e w' => e = .returned (.bool (knowT o s)) ∧ Below w1.heap.size w1 w') := Lib.hid fun w1 hb => kboKnows_any o s P Q A pc qc c w1 hf (hA.toA.on (hB.trans (hb.mono hB.size)))
  have HK2 : Hid (∀ w1, Below W.heap.size W w1 → Calls Tryz.prog 47 #[.agg #[.bool o.lpo, .slice P o.prec.length pc, .slice Q o.wts.length qc, .int .i64 o.var], .agg #[.int .i64 t.fn, .slice A2 t.args.length c2]] w1 fun e w' => e = .returned (.bool (knowT o t)) ∧ Below w1.heap.size w1 w') := Lib.hid fun w1 hb => kboKnows_any o t P Q A2 pc qc c2 w1 hg (hA2.toA.on (hB.trans (hb.mono hB.size)))
  have hS : ∀ w1, Below W.heap.size W w1 → w1.cell? ⟨w.heap.size, 0, none⟩ = some (.bool o.lpo) ∧ w1.cell? ⟨w.heap.size, 1, none⟩ = some (.slice P o.prec.length pc) ∧ w1.cell? ⟨w.heap.size, 2, none⟩ = some (.slice Q o.wts.length qc) ∧ w1.cell? ⟨w.heap.size, 3, none⟩ = some (.int .i64 o.var) ∧
      w1.cell? ⟨w.heap.size + 1, 0, none⟩ = some (.int .i64 s.fn) ∧ w1.cell? ⟨w.heap.size + 1, 1, none⟩ = some (.slice A s.args.length c) ∧ w1.cell? ⟨w.heap.size + 2, 0, none⟩ = some (.int .i64 t.fn) ∧ w1.cell? ⟨w.heap.size + 2, 1, none⟩ = some (.slice A2 t.args.length c2) := fun w1 hb => by
    obtain ⟨a0, a1, a2, a3⟩ := cells_four ((hb.block _ (by omega)).trans q0)
    obtain ⟨b0, b1, _, _⟩ := cells_two ((hb.block _ (by omega)).trans q1)
    obtain ⟨d0, d1, _, _⟩ := cells_two ((hb.block _ (by omega)).trans q2)
    exact ⟨a0, a1, a2, a3, b0, b1, d0, d1⟩
  have HS := Lib.hid hS
  obtain ⟨x0, x1, x2, x3, y0, y1, z0, z1⟩ := hS W (Below.refl _ _)
  have HM := Lib.hid hM
  have HA := Lib.hid hA
  have HA2 := Lib.hid hA2
  have HW := Lib.hid hW
  clear hS hM hA hA2 hW q0 q1 q2
  go_enter Tryz.func31, Tryz.ntmps31
  go_upto_region 1 with fail
  rw [HW.out]
  cases hks : knowT o s with
  | false =>
    have hfin := Lib.hid (show cmpO o s t = 0 by unfold cmpO; rw [hks]; rfl)
    have H1 := HK1.out W (Below.refl _ _)
    rw [hks] at H1
    have H1 := Lib.hid H1
    clear hks
    go_wp2_with (first
      | (go_at_call 47; (with_reducible refine H1.out.mono ?_); go_must (rintro e w1 ⟨rfl, hb1⟩))
      | fail)
    go_ret
    exact ⟨by rw [hfin.out]; rfl, hB.trans (hb1.mono hB.size)⟩
  | true =>
    have H1 := HK1.out W (Below.refl _ _)
    rw [hks] at H1
    have H1 := Lib.hid H1
    have Hks := Lib.hid hks
    clear hks
    cases hkt : knowT o t with
    | false =>
      have hfin := Lib.hid (show cmpO o s t = 0 by unfold cmpO; rw [hkt, Bool.and_false]; rfl)
      have H2 : Hid (∀ w1, Below W.heap.size W w1 → _) := Lib.hid fun w1 hb => HK2.out w1 hb
      rw [hkt] at H2
      clear hkt
      go_wp2_with (first
        | (go_at_call 47; (with_reducible refine H1.out.mono ?_); go_must (rintro e w1 ⟨rfl, hb1⟩; obtain ⟨u0, u1, u2, u3, u4, u5, u6, u7⟩ := HS.out w1 hb1; have h2 := Lib.hid (H2.out w1 hb1); clear H1))
        | (go_at_call 47; (with_reducible refine h2.out.mono ?_); go_must (rintro e w2 ⟨rfl, hb2⟩))
        | fail)
      go_ret
      exact ⟨by rw [hfin.out]; rfl, (hB.trans (hb1.mono hB.size)).trans (hb2.mono (Nat.le_trans hB.size hb1.size))⟩
    | true =>
      have H2 : Hid (∀ w1, Below W.heap.size W w1 → _) := Lib.hid fun w1 hb => HK2.out w1 hb
      rw [hkt] at H2
      have Hkt := Lib.hid hkt
      clear hkt
      go_upto_region 3 with (first
        | (go_at_call 47; (with_reducible refine H1.out.mono ?_); go_must (rintro e w1 ⟨rfl, hb1⟩; obtain ⟨u0, u1, u2, u3, u4, u5, u6, u7⟩ := HS.out w1 hb1; have h2 := Lib.hid (H2.out w1 hb1); clear H1))
        | (go_at_call 47; (with_reducible refine h2.out.mono ?_); go_must (rintro e w2 ⟨rfl, hb2⟩))
        | fail)
      have hbW : Below W.heap.size W w2 := hb1.trans (hb2.mono hb1.size)
      obtain ⟨v0, v1, v2, v3, v4, v5, v6, v7⟩ := HS.out w2 hbW
      clear u0 u1 u2 u3 u4 u5 u6 u7
      go_upto_region 4 with fail
      obtain ⟨p0, p1⟩ := heap2 w2 (.map #[] 0) (.cells #[.bool o.lpo, .slice P o.prec.length pc, .slice Q o.wts.length qc, .int .i64 o.var, .map (some w2.heap.size), .int .i64 0, .int .i64 0, .int .i64 0, .int .i64 0] 83)
      obtain ⟨W5, hW5⟩ : ∃ W5, ((w2.alloc (.map #[] 0)).alloc (.cells #[.bool o.lpo, .slice P o.prec.length pc, .slice Q o.wts.length qc, .int .i64 o.var, .map (some w2.heap.size), .int .i64 0, .int .i64 0, .int .i64 0, .int .i64 0] 83)) = W5 := ⟨_, rfl⟩
      have hB5 : Below w2.heap.size w2 W5 := by rw [← hW5]; exact ((Below.refl _ _).alloc (Nat.le_refl _) _).alloc (by simp) _
      rw [hW5] at p0 p1 ⊢
      have hz2 := hbW.size
      have hB0 : Below w.heap.size w W5 := (hB.trans (hbW.mono hB.size)).trans (hB5.mono (by omega))
      have hV : VMap W5 w2.heap.size 0 fun _ => 0 := (VMap.made w2).kept (p0.trans (heap_alloc_new w2 _).symm)
      have hI : BalW o P Q pc qc (w2.heap.size + 1) w2.heap.size w.heap.size bal0 W5 := ⟨⟨p1, hV, by omega⟩, HM.out.blw fun g hg => hB0.block g hg, by omega, by omega⟩
      have H3 := Lib.hid (cmp_any o P Q pc qc (w2.heap.size + 1) w2.heap.size w.heap.size s t bal0 A A2 c c2 W5 hI bal0_ok Hks.out Hkt.out (by show 0 + s.size + t.size ≤ _; omega) hf hg (HA.out.keep fun g hg => hB0.block g hg) (HA2.out.keep fun g hg => hB0.block g hg))
      have hfin := Lib.hid (show cmpO o s t = finB bal0 (rsnB o s bal0 t) by unfold cmpO; rw [Hks.out, Hkt.out]; rfl)
      obtain ⟨m0, m1, m2, m3, m4, m5, m6, m7⟩ := HS.out W5 (hbW.trans (hB5.mono hz2))
      have hz5 := hB5.size
      clear v0 v1 v2 v3 v4 v5 v6 v7 hI hV p0 p1 hW5 m0 m1 m2 m3
      go_wp2_with (first
        | (go_at_call 48; (with_reducible refine H3.out.mono ?_); go_must (rintro e w6 ⟨rfl, _, hk6⟩))
        | fail)
      go_ret
      refine ⟨by rw [hfin.out]; rfl, hB0.trans (hk6.below (by omega) fun g hg => by omega)⟩
end Go.Proofs.YthgglobfkkcdgaaGreat
namespace Go.Proofs.YthgglobfkkcdgaaGreat
open Go.RowKit Go.Shelf Go.Maps
set_option maxRecDepth 100000
mutual
def wsT (o : Odr) : Tm → Int
  | .node f xs => wtI o f + wsL o xs
def wsL (o : Odr) : List Tm → Int
  | [] => 0
  | t :: ts => wsT o t + wsL o ts
end
end Go.Proofs.YthgglobfkkcdgaaGreat
namespace Go.Proofs.YthgglobfkkcdgaaGreat
open Go.RowKit Go.Shelf Go.Maps
set_option maxRecDepth 100000
theorem knowL_append (o : Odr) : ∀ xs ys : List Tm, knowL o (xs ++ ys) = (knowL o xs && knowL o ys)
  | [], ys => by simp [knowL]
  | x :: xs, ys => by simp only [List.cons_append, knowL, knowL_append o xs ys, Bool.and_assoc]
theorem knowL_take {o : Odr} {xs : List Tm} {k : Nat} {u : Tm} (h : xs[k]? = some u) : knowL o (xs.take (k + 1)) = (knowL o (xs.take k) && knowT o u) := by
  rw [List.take_add_one, h, Option.toList_some, knowL_append]; simp [knowL]
def RKnow (o : Odr) (t : Tm) : Prop := ∀ (P Q A : Option Addr) (pc qc c : Nat) (w : World), I64 t.fn → Args w w.heap.size A t.args →
  Calls Tryz.prog 51 #[.agg #[.bool o.lpo, .slice P o.prec.length pc, .slice Q o.wts.length qc, .int .i64 o.var], .agg #[.int .i64 t.fn, .slice A t.args.length c]] w fun e w' => e = .returned (.bool (knowT o t)) ∧ Below w.heap.size w w'
set_option maxHeartbeats 2000000 in
theorem refKnows8_any (o : Odr) (t : Tm) : RKnow o t := by
  refine Tm.ind (P := RKnow o) (fun f xs ih => ?_) t
  intro P Q A pc qc c w hf hA
  simp only [Tm.fn, Tm.args] at hf hA ⊢
  have hlen := hA.len
  obtain ⟨W, hW⟩ : ∃ W, ((w.alloc (.cells #[.bool o.lpo, .slice P o.prec.length pc, .slice Q o.wts.length qc, .int .i64 o.var] 24)).alloc (.cells #[.int .i64 f, .slice A xs.length c] 36)) = W := ⟨_, rfl⟩
  obtain ⟨hB, hz, hS⟩ := box_ot hW
  have HW := Lib.hid hW
  obtain ⟨x0, x1, x2, x3, x4, x5⟩ := hS W (Below.refl _ _)
  have HS := Lib.hid hS
  have HA := Lib.hid hA
  clear hW hS hA
  by_cases hneg : f < 0
  · have hfin := Lib.hid (show knowT o (.node f xs) = (xs.length == 0) by
      rw [knowT]; unfold knowTop; rw [if_pos hneg]
      match xs with
      | [] => simp [knowL]
      | x :: xs => simp)
    go_enter Tryz.func51, Tryz.ntmps51
    go_upto_region 1 with fail
    rw [HW.out]
    go_wp2
    go_ret
    exact ⟨ret_bool (by rw [hfin.out, Bool.eq_iff_iff, beq_iff_eq, beq_iff_eq]; omega), hB⟩
  · by_cases h1 : f < (o.prec.length : Int) ∧ f < (o.wts.length : Int)
    · obtain ⟨h1, h2⟩ := h1
      have htop := Lib.hid (show knowT o (.node f xs) = knowL o xs by
        rw [knowT]; unfold knowTop; rw [if_neg hneg, decide_eq_true h1, decide_eq_true h2]; simp)
      have g1 : ¬ f ≥ (o.prec.length : Int) := by omega
      have g2 : ¬ f ≥ (o.wts.length : Int) := by omega
      go_enter Tryz.func51, Tryz.ntmps51
      go_upto_region 1 with fail
      rw [HW.out]
      go_wp2
      go_loopw [5] (fun i wr => ∃ k : Nat, k ≤ xs.length ∧ i = .int .i64 (k : Int) ∧ Below W.heap.size W wr ∧ Hid (knowL o (xs.take k) = true)) (fun i _ => xs.length - (intOf i).toNat)
      case atStart => exact ⟨0, Nat.zero_le _, rfl, Below.refl _ _, Lib.hid (by simp [knowL])⟩
      case round =>
        obtain ⟨k, hk, rfl, hBr, Hkn⟩ := hrel
        obtain ⟨y0, y1, y2, y3, y4, y5⟩ := HS.out wr hBr
        by_cases hkl : k < xs.length
        · obtain ⟨u, hu⟩ : ∃ u, xs[k]? = some u := ⟨_, List.getElem?_eq_getElem hkl⟩
          have hAr := HA.out.on (hB.trans (hBr.mono hB.size))
          obtain ⟨bb, off, A1, c1, hAA, ha⟩ := hAr.get hu
          have HI := Lib.hid (fun y : Later wr.heap.size wr => ih u (List.mem_of_getElem? hu) P Q A1 pc qc c1 y.w ha.hi ((ha.sub.blw y.h).more y.h.size))
          have hT := Lib.hid (knowL_take (o := o) hu)
          have m0 : ∀ y : Later wr.heap.size wr, y.w.cell? ⟨w.heap.size, 0, none⟩ = some (.bool o.lpo) := fun y => (HS.out y.w (hBr.trans (y.h.mono hBr.size))).1
          have m1 : ∀ y : Later wr.heap.size wr, y.w.cell? ⟨w.heap.size, 1, none⟩ = some (.slice P o.prec.length pc) := fun y => (HS.out y.w (hBr.trans (y.h.mono hBr.size))).2.1
          have m2 : ∀ y : Later wr.heap.size wr, y.w.cell? ⟨w.heap.size, 2, none⟩ = some (.slice Q o.wts.length qc) := fun y => (HS.out y.w (hBr.trans (y.h.mono hBr.size))).2.2.1
          have m3 : ∀ y : Later wr.heap.size wr, y.w.cell? ⟨w.heap.size, 3, none⟩ = some (.int .i64 o.var) := fun y => (HS.out y.w (hBr.trans (y.h.mono hBr.size))).2.2.2.1
          have m5 : ∀ y : Later wr.heap.size wr, y.w.cell? ⟨w.heap.size + 1, 1, none⟩ = some (.slice A xs.length c) := fun y => (HS.out y.w (hBr.trans (y.h.mono hBr.size))).2.2.2.2.2
          have m6 : ∀ y : Later wr.heap.size wr, y.w.cell? ⟨bb, off + k * 2, none⟩ = some (.int .i64 u.fn) := fun y => cell_on y.h ha.hb ha.c0
          have m7 : ∀ y : Later wr.heap.size wr, y.w.cell? ⟨bb, off + k * 2 + 1, none⟩ = some (.slice A1 u.args.length c1) := fun y => cell_on y.h ha.hb ha.c1
          subst hAA
          cases hku : knowT o u with
          | false =>
            have hfin := Lib.hid (show knowL o xs = false by
              cases h : knowL o xs with
              | false => rfl
              | true => rw [knowL_mem h (List.mem_of_getElem? hu)] at hku; cases hku)
            rw [hku] at HI
            clear hku hAr ha hu
            go_upto_region 8 with fail
            refine wp_region_later wr.heap.size wr (by kernel_rfl) (by kernel_rfl) (bl_drewN (Below.refl _ _) 1) ?_
            repeat (go_big_quiet_step (first | (go_at_call 51; with_reducible refine calls_later _ (Nat.le_refl _) (HI.out _)) | fail))
            refine wpQuiet_nil ?_
            rintro _ ⟨z, rfl⟩
            clear m0 m1 m2 m3 m5 m6 m7
            go_wp2
            go_ret
            exact ⟨by rw [htop.out, hfin.out]; rfl, (hB.trans (hBr.mono hB.size)).trans (z.h.mono (Nat.le_trans hB.size hBr.size))⟩
          | true =>
            rw [hku] at HI
            rw [hku, Hkn.out] at hT
            clear hku hAr ha hu
            go_upto_region 8 with fail
            refine wp_region_later wr.heap.size wr (by kernel_rfl) (by kernel_rfl) (bl_drewN (Below.refl _ _) 1) ?_
            repeat (go_big_quiet_step (first | (go_at_call 51; with_reducible refine calls_later _ (Nat.le_refl _) (HI.out _)) | fail))
            refine wpQuiet_nil ?_
            rintro _ ⟨z, rfl⟩
            clear m0 m1 m2 m3 m5 m6 m7
            go_wp2
            go_roundw
            case rel => exact ⟨k + 1, by omega, by go_num, hBr.trans (z.h.mono hBr.size), hT⟩
            case measure => simp [intOf]; omega
        · obtain rfl : k = xs.length := by omega
          have hfin := Lib.hid (show knowL o xs = true by have := Hkn.out; rwa [List.take_length] at this)
          go_wp2
          go_ret
          exact ⟨by rw [htop.out, hfin.out]; rfl, hB.trans (hBr.mono hB.size)⟩
    · have hfin := Lib.hid (show knowT o (.node f xs) = false by
        rw [knowT]; unfold knowTop; rw [if_neg hneg, Bool.and_eq_false_iff, Bool.and_eq_false_iff]
        left
        rcases Classical.em (f < (o.prec.length : Int)) with h | h
        · right; exact decide_eq_false (fun h' => h1 ⟨h, h'⟩)
        · left; exact decide_eq_false h)
      by_cases g1 : f < (o.prec.length : Int)
      · have g2 : f ≥ (o.wts.length : Int) := by have : ¬ f < (o.wts.length : Int) := fun h => h1 ⟨g1, h⟩; omega
        have g3 : ¬ f ≥ (o.prec.length : Int) := by omega
        clear h1
        go_enter Tryz.func51, Tryz.ntmps51
        go_upto_region 1 with fail
        rw [HW.out]
        go_wp2
        go_ret
        exact ⟨by rw [hfin.out]; rfl, hB⟩
      · have g3 : f ≥ (o.prec.length : Int) := by omega
        clear h1
        go_enter Tryz.func51, Tryz.ntmps51
        go_upto_region 1 with fail
        rw [HW.out]
        go_wp2
        go_ret
        exact ⟨by rw [hfin.out]; rfl, hB⟩
end Go.Proofs.YthgglobfkkcdgaaGreat
namespace Go.Proofs.YthgglobfkkcdgaaGreat
open Go.RowKit Go.Shelf Go.Maps
set_option maxRecDepth 100000
def sumI (a b : Int) : Int := min (a + capI b) 2147483647
theorem sumI_caps {x y : Int} (hx : 0 ≤ x) (hy : 0 ≤ y) : sumI (capI x) (capI y) = capI (x + y) := by unfold sumI capI; omega
theorem refSum_any (a b : Int) (ha : 0 ≤ a) (ha2 : a ≤ 2147483647) (w : World) : Calls Tryz.prog 95 #[.int .i64 a, .int .i64 b] w fun e w' => e = .returned (.int .i64 (sumI a b)) ∧ Below w.heap.size w w' := by
  by_cases h1 : 2147483647 < b
  · have hw : IntKind.i64.wrap (a + 2147483647) = a + 2147483647 := by rw [IntKind.wrap_i64]; omega
    by_cases h2 : 2147483647 < a + 2147483647
    · go_enter Tryz.func95, Tryz.ntmps95
      go_wp2
      go_ret
      exact ⟨ret_int (by unfold sumI capI; omega), Below.refl _ _⟩
    · go_enter Tryz.func95, Tryz.ntmps95
      go_wp2
      go_ret
      exact ⟨ret_int (by unfold sumI capI; omega), Below.refl _ _⟩
  · by_cases h2 : 0 < b
    · have hw : IntKind.i64.wrap (a + b) = a + b := by rw [IntKind.wrap_i64]; omega
      by_cases h3 : 2147483647 < a + b
      · go_enter Tryz.func95, Tryz.ntmps95
        go_wp2
        go_ret
        exact ⟨ret_int (by unfold sumI capI; omega), Below.refl _ _⟩
      · go_enter Tryz.func95, Tryz.ntmps95
        go_wp2
        go_ret
        exact ⟨ret_int (by unfold sumI capI; omega), Below.refl _ _⟩
    · have hw : IntKind.i64.wrap (a + 0) = a := by rw [IntKind.wrap_i64]; omega
      have hw' : IntKind.i64.wrap a = a := by rw [IntKind.wrap_i64]; omega
      by_cases h3 : 2147483647 < a
      · omega
      · go_enter Tryz.func95, Tryz.ntmps95
        go_wp2
        go_ret
        exact ⟨ret_int (by unfold sumI capI; omega), Below.refl _ _⟩
theorem wsL_append (o : Odr) : ∀ xs ys : List Tm, wsL o (xs ++ ys) = wsL o xs + wsL o ys
  | [], ys => by simp [wsL]
  | x :: xs, ys => by simp only [List.cons_append, wsL, wsL_append o xs ys]; omega
theorem wsL_take {o : Odr} {xs : List Tm} {k : Nat} {u : Tm} (h : xs[k]? = some u) : wsL o (xs.take (k + 1)) = wsL o (xs.take k) + wsT o u := by
  rw [List.take_add_one, h, Option.toList_some, wsL_append]; simp [wsL]
theorem wsT_lo (o : Odr) (t : Tm) : 0 ≤ wsT o t := by
  have key : ∀ xs : List Tm, (∀ t ∈ xs, 0 ≤ wsT o t) → 0 ≤ wsL o xs := by
    intro xs
    induction xs with
    | nil => intro _; rw [wsL]; omega
    | cons x xs ih => intro h; have h1 := h x (by simp); have h2 := ih fun t ht => h t (by simp [ht]); rw [wsL]; omega
  refine Tm.ind (P := fun t => 0 ≤ wsT o t) (fun f xs ih => ?_) t
  have h1 := key xs ih
  have h2 := (wtI_bd o f).1
  rw [wsT]; omega
theorem wsL_lo (o : Odr) : ∀ xs : List Tm, 0 ≤ wsL o xs
  | [] => by rw [wsL]; omega
  | x :: xs => by have h1 := wsT_lo o x; have h2 := wsL_lo o xs; rw [wsL]; omega
def RWgt (o : Odr) (t : Tm) : Prop := knowT o t = true → ∀ (P Q A : Option Addr) (pc qc c : Nat) (w : World), OdrM w w.heap.size o P Q → I64 t.fn → Args w w.heap.size A t.args →
  Calls Tryz.prog 76 #[.agg #[.bool o.lpo, .slice P o.prec.length pc, .slice Q o.wts.length qc, .int .i64 o.var], .agg #[.int .i64 t.fn, .slice A t.args.length c]] w fun e w' => e = .returned (.int .i64 (capI (wsT o t))) ∧ Below w.heap.size w w'
set_option maxHeartbeats 2000000 in
theorem refWgt_any (o : Odr) (t : Tm) : RWgt o t := by
  refine Tm.ind (P := RWgt o) (fun f xs ih => ?_) t
  intro hkn P Q A pc qc c w hM hf hA
  simp only [Tm.fn, Tm.args] at hf hA ⊢
  have hlen := hA.len
  obtain ⟨W, hW⟩ : ∃ W, ((w.alloc (.cells #[.bool o.lpo, .slice P o.prec.length pc, .slice Q o.wts.length qc, .int .i64 o.var] 24)).alloc (.cells #[.int .i64 f, .slice A xs.length c] 36)) = W := ⟨_, rfl⟩
  obtain ⟨hB, hz, hS⟩ := box_ot hW
  have HW := Lib.hid hW
  obtain ⟨x0, x1, x2, x3, x4, x5⟩ := hS W (Below.refl _ _)
  have HS := Lib.hid hS
  have HA := Lib.hid hA
  have HM := Lib.hid hM
  have hkn1 := know_node hkn
  have hwv := hM.v
  simp only [Tm.fn, Tm.args] at hkn1
  clear hW hS hA hM
  by_cases hneg : f < 0
  · have hx0 : xs = [] := by
      have := hkn1.1
      unfold knowTop at this
      rw [if_pos hneg] at this
      exact List.eq_nil_of_length_eq_zero (of_decide_eq_true this)
    have hfin := Lib.hid (show capI (wsT o (.node f xs)) = sumI 0 o.var by
      rw [wsT, hx0, wsL]; unfold wtI; rw [if_pos hneg]; unfold sumI capI; omega)
    have H1 := Lib.hid (refSum_any 0 o.var (by omega) (by omega) W)
    clear hx0
    go_enter Tryz.func76, Tryz.ntmps76
    go_upto_region 1 with fail
    rw [HW.out]
    go_wp2_with (first
      | (go_at_call 95; (with_reducible refine H1.out.mono ?_); go_must (rintro e w1 ⟨rfl, hb1⟩))
      | fail)
    go_ret
    exact ⟨by rw [hfin.out]; rfl, hB.trans (hb1.mono hB.size)⟩
  · obtain ⟨kf, rfl⟩ : ∃ kf : Nat, f = (kf : Int) := ⟨f.toNat, by omega⟩
    obtain ⟨htop, hkl⟩ := hkn1
    have hkw : (kf : Int) < (o.wts.length : Int) := by
      rcases (know_top htop).1 with h | h
      · omega
      · exact h
    have hkw' : kf < o.wts.length := by omega
    obtain ⟨x, hx⟩ : ∃ x, o.wts[kf]? = some x := ⟨_, List.getElem?_eq_getElem hkw'⟩
    have hwx : wtI o (kf : Int) = capI x := by unfold wtI; rw [if_neg hneg, List.getD_eq_getElem?_getD, show ((kf : Int).toNat) = kf from rfl, hx]; rfl
    obtain ⟨bq, oq, rfl, hbq, hcq⟩ := HM.out.q.get hx
    have hcW := cell_on hB hbq hcq
    have H1 := Lib.hid (refSum_any 0 x (by omega) (by omega) W)
    have hs0 : sumI 0 x = capI x := by unfold sumI capI; omega
    rw [hs0] at H1
    clear hs0 htop
    have Hx := Lib.hid hwx
    have Hkl := Lib.hid hkl
    clear hwx hx hkl hbq hcq hkn
    go_enter Tryz.func76, Tryz.ntmps76
    go_upto_region 1 with fail
    rw [HW.out]
    go_wp2_with (first
      | (go_at_call 95; (with_reducible refine H1.out.mono ?_); go_must (rintro e w1 ⟨rfl, hb1⟩))
      | fail)
    clear hcW
    go_loopw [5, 6] (fun n i wr => ∃ k : Nat, k ≤ xs.length ∧ i = .int .i64 (k : Int) ∧ n = .int .i64 (capI (wtI o (kf : Int) + wsL o (xs.take k))) ∧ Below W.heap.size W wr) (fun _ i _ => xs.length - (intOf i).toNat)
    case atStart => exact ⟨0, Nat.zero_le _, rfl, by rw [Hx.out, List.take_zero, wsL]; congr 1; unfold capI; omega, hb1⟩
    case round =>
      obtain ⟨k, hk, rfl, rfl, hBr⟩ := hrel
      obtain ⟨y0, y1, y2, y3, y4, y5⟩ := HS.out wr hBr
      by_cases hkl : k < xs.length
      · obtain ⟨u, hu⟩ : ∃ u, xs[k]? = some u := ⟨_, List.getElem?_eq_getElem hkl⟩
        have hAr := HA.out.on (hB.trans (hBr.mono hB.size))
        have hMr := HM.out.on (hB.trans (hBr.mono hB.size))
        obtain ⟨bb, off, A1, c1, hAA, ha⟩ := hAr.get hu
        have hku := knowL_mem Hkl.out (List.mem_of_getElem? hu)
        have HI := Lib.hid (fun y : Later wr.heap.size wr => ih u (List.mem_of_getElem? hu) hku P (some ⟨bq, oq, none⟩) A1 pc qc c1 y.w (hMr.on y.h) ha.hi ((ha.sub.blw y.h).more y.h.size))
        have hT := Lib.hid (wsL_take (o := o) hu)
        have hl1 := (wtI_bd o (kf : Int)).1
        have hl2 := wsL_lo o (xs.take k)
        have hl3 := wsT_lo o u
        obtain ⟨v, hv⟩ : ∃ v, wtI o (kf : Int) + wsL o (xs.take k) = v := ⟨_, rfl⟩
        obtain ⟨v2, hv2⟩ : ∃ v, wsT o u = v := ⟨_, rfl⟩
        have Hn : Hid (wtI o (kf : Int) + wsL o (xs.take (k + 1)) = v + v2) := Lib.hid (by rw [hT.out, ← hv, ← hv2]; omega)
        rw [hv]
        rw [hv2] at HI
        have HSm : Hid (∀ y : Later wr.heap.size wr, Calls Tryz.prog 95 #[.int .i64 (capI v), .int .i64 (capI v2)] y.w fun e w' => e = .returned (.int .i64 (capI (v + v2))) ∧ Below y.w.heap.size y.w w') := Lib.hid fun y => by
          have := refSum_any (capI v) (capI v2) (capI_bd v).1 (capI_bd v).2 y.w
          rwa [sumI_caps (by omega) (by omega)] at this
        have m0 : ∀ y : Later wr.heap.size wr, y.w.cell? ⟨w.heap.size, 0, none⟩ = some (.bool o.lpo) := fun y => (HS.out y.w (hBr.trans (y.h.mono hBr.size))).1
        have m1 : ∀ y : Later wr.heap.size wr, y.w.cell? ⟨w.heap.size, 1, none⟩ = some (.slice P o.prec.length pc) := fun y => (HS.out y.w (hBr.trans (y.h.mono hBr.size))).2.1
        have m2 : ∀ y : Later wr.heap.size wr, y.w.cell? ⟨w.heap.size, 2, none⟩ = some (.slice (some ⟨bq, oq, none⟩) o.wts.length qc) := fun y => (HS.out y.w (hBr.trans (y.h.mono hBr.size))).2.2.1
        have m3 : ∀ y : Later wr.heap.size wr, y.w.cell? ⟨w.heap.size, 3, none⟩ = some (.int .i64 o.var) := fun y => (HS.out y.w (hBr.trans (y.h.mono hBr.size))).2.2.2.1
        have m5 : ∀ y : Later wr.heap.size wr, y.w.cell? ⟨w.heap.size + 1, 1, none⟩ = some (.slice A xs.length c) := fun y => (HS.out y.w (hBr.trans (y.h.mono hBr.size))).2.2.2.2.2
        have m6 : ∀ y : Later wr.heap.size wr, y.w.cell? ⟨bb, off + k * 2, none⟩ = some (.int .i64 u.fn) := fun y => cell_on y.h ha.hb ha.c0
        have m7 : ∀ y : Later wr.heap.size wr, y.w.cell? ⟨bb, off + k * 2 + 1, none⟩ = some (.slice A1 u.args.length c1) := fun y => cell_on y.h ha.hb ha.c1
        subst hAA
        clear hku hAr hMr ha hu hv hv2 hl1 hl2 hl3 hT
        go_upto_region 7 with fail
        refine wp_region_later wr.heap.size wr (by kernel_rfl) (by kernel_rfl) (bl_drewN (Below.refl _ _) 1) ?_
        repeat (go_big_quiet_step (first | (go_at_call 76; with_reducible refine calls_later _ (Nat.le_refl _) (HI.out _)) | (go_at_call 95; with_reducible refine calls_later _ (Nat.le_refl _) (HSm.out _)) | fail))
        refine wpQuiet_nil ?_
        rintro _ ⟨z, rfl⟩
        clear m0 m1 m2 m3 m5 m6 m7
        go_wp2
        go_roundw
        case rel => exact ⟨k + 1, by omega, by go_num, by rw [Hn.out], hBr.trans (z.h.mono hBr.size)⟩
        case measure => simp [intOf]; omega
      · obtain rfl : k = xs.length := by omega
        have hfin := Lib.hid (show capI (wtI o (kf : Int) + wsL o (xs.take xs.length)) = capI (wsT o (.node (kf : Int) xs)) by rw [List.take_length, wsT])
        rw [hfin.out]
        go_wp2
        go_ret
        exact ⟨rfl, hB.trans (hBr.mono hB.size)⟩
end Go.Proofs.YthgglobfkkcdgaaGreat
namespace Go.Proofs.YthgglobfkkcdgaaGreat
open Go.RowKit Go.Shelf Go.Maps
set_option maxRecDepth 100000
def ROft (v : Int) (t : Tm) : Prop := t.size ≤ 1073741824 → ∀ (A : Option Addr) (c : Nat) (w : World), I64 t.fn → Args w w.heap.size A t.args →
  Calls Tryz.prog 94 #[.agg #[.int .i64 t.fn, .slice A t.args.length c], .int .i64 v] w fun e w' => e = .returned (.int .i64 (ofT v t : Int)) ∧ Below w.heap.size w w'
set_option maxHeartbeats 2000000 in
theorem refOften_any (v : Int) (t : Tm) : ROft v t := by
  refine Tm.ind (P := ROft v) (fun f xs ih => ?_) t
  intro hsz A c w hf hA
  simp only [Tm.fn, Tm.args] at hf hA ⊢
  have hlen := hA.len
  obtain ⟨W, hW⟩ : ∃ W, w.alloc (.cells #[.int .i64 f, .slice A xs.length c] 36) = W := ⟨_, rfl⟩
  obtain ⟨hB, hlt, hS⟩ := box_term hW
  have HW := Lib.hid hW
  have hszs : sizes xs + 1 ≤ 1073741824 := by simpa only [Tm.size] using hsz
  have HS := Lib.hid hS
  have HA := Lib.hid hA
  obtain ⟨x0, x1⟩ := hS W (Below.refl _ _)
  clear hW hS hA
  by_cases hfv : f = v
  · have hfin0 : ofT v (.node f xs) = 1 + ofL v xs := by rw [ofT, if_pos hfv]
    have Hfin := Lib.hid hfin0
    have g1 : (f == v) = true := by rw [beq_iff_eq]; exact hfv
    clear hfin0 hfv
    go_enter Tryz.func94, Tryz.ntmps94
    go_upto_region 2 with fail
    rw [HW.out]
    go_wp2
    clear g1
    go_loopw [5, 6] (fun n i wr => ∃ k : Nat, k ≤ xs.length ∧ i = .int .i64 (k : Int) ∧ n = .int .i64 ((1 + ofL v (xs.take k) : Nat) : Int) ∧ Below W.heap.size W wr) (fun _ i _ => xs.length - (intOf i).toNat)
    case atStart => exact ⟨0, Nat.zero_le _, rfl, by simp [ofL], Below.refl _ _⟩
    case round =>
      obtain ⟨k, hk, rfl, rfl, hBr⟩ := hrel
      obtain ⟨y0, y1⟩ := HS.out wr hBr
      by_cases hkl : k < xs.length
      · obtain ⟨u, hu⟩ : ∃ u, xs[k]? = some u := ⟨_, List.getElem?_eq_getElem hkl⟩
        obtain ⟨bb, off, A1, c1, rfl, ha⟩ := (HA.out.on (hB.trans (hBr.mono hB.size))).get hu
        have e0 := ha.c0
        have e1 := ha.c1
        have hsu := size_mem (List.mem_of_getElem? hu)
        have HI := Lib.hid (ih u (List.mem_of_getElem? hu) (by omega) A1 c1 wr ha.hi ha.sub)
        have hT := ofL_take (v := v) hu
        have hb1 := ofL_le v xs
        have hb2 := ofL_le v (xs.take (k + 1))
        have hb3 := sizes_le xs (k + 1)
        obtain ⟨m, hm⟩ : ∃ m, ofL v (xs.take k) = m := ⟨_, rfl⟩
        obtain ⟨j, hj⟩ : ∃ j, ofT v u = j := ⟨_, rfl⟩
        rw [hm, hj] at hT
        rw [hj] at HI
        rw [hm]
        have hwr2 : IntKind.i64.wrap (1 + (m : Int) + (j : Int)) = 1 + (m : Int) + (j : Int) := by rw [IntKind.wrap_i64]; omega
        have HT := Lib.hid hT
        clear hT hm hj hu ha hb1 hb2 hb3 hsu
        go_wp2_with (first
          | (go_at_call 94; (with_reducible refine HI.out.mono ?_); go_must (rintro e w1 ⟨rfl, hb1⟩; obtain ⟨z0, z1⟩ := HS.out w1 (hBr.trans (hb1.mono hBr.size))))
          | fail)
        go_roundw
        case rel => exact ⟨k + 1, by omega, by go_num, by rw [HT.out]; congr 1 <;> omega, hBr.trans (hb1.mono hBr.size)⟩
        case measure => simp [intOf]; omega
      · obtain rfl : k = xs.length := by omega
        have hfin := Lib.hid (show 1 + ofL v (xs.take xs.length) = ofT v (.node f xs) by rw [List.take_length, Hfin.out])
        rw [hfin.out]
        go_wp2
        go_ret
        exact ⟨rfl, hB.trans (hBr.mono hB.size)⟩
  · have hfin0 : ofT v (.node f xs) = ofL v xs := by rw [ofT, if_neg hfv]; omega
    have Hfin := Lib.hid hfin0
    have g1 : (f == v) = false := by simp [hfv]
    clear hfin0 hfv
    go_enter Tryz.func94, Tryz.ntmps94
    go_upto_region 2 with fail
    rw [HW.out]
    go_wp2
    clear g1
    go_loopw [5, 6] (fun n i wr => ∃ k : Nat, k ≤ xs.length ∧ i = .int .i64 (k : Int) ∧ n = .int .i64 ((ofL v (xs.take k) : Nat) : Int) ∧ Below W.heap.size W wr) (fun _ i _ => xs.length - (intOf i).toNat)
    case atStart => exact ⟨0, Nat.zero_le _, rfl, by simp [ofL], Below.refl _ _⟩
    case round =>
      obtain ⟨k, hk, rfl, rfl, hBr⟩ := hrel
      obtain ⟨y0, y1⟩ := HS.out wr hBr
      by_cases hkl : k < xs.length
      · obtain ⟨u, hu⟩ : ∃ u, xs[k]? = some u := ⟨_, List.getElem?_eq_getElem hkl⟩
        obtain ⟨bb, off, A1, c1, rfl, ha⟩ := (HA.out.on (hB.trans (hBr.mono hB.size))).get hu
        have e0 := ha.c0
        have e1 := ha.c1
        have hsu := size_mem (List.mem_of_getElem? hu)
        have HI := Lib.hid (ih u (List.mem_of_getElem? hu) (by omega) A1 c1 wr ha.hi ha.sub)
        have hT := ofL_take (v := v) hu
        have hb1 := ofL_le v xs
        have hb2 := ofL_le v (xs.take (k + 1))
        have hb3 := sizes_le xs (k + 1)
        obtain ⟨m, hm⟩ : ∃ m, ofL v (xs.take k) = m := ⟨_, rfl⟩
        obtain ⟨j, hj⟩ : ∃ j, ofT v u = j := ⟨_, rfl⟩
        rw [hm, hj] at hT
        rw [hj] at HI
        rw [hm]
        have hwr2 : IntKind.i64.wrap ((m : Int) + (j : Int)) = (m : Int) + (j : Int) := by rw [IntKind.wrap_i64]; omega
        have HT := Lib.hid hT
        clear hT hm hj hu ha hb1 hb2 hb3 hsu
        go_wp2_with (first
          | (go_at_call 94; (with_reducible refine HI.out.mono ?_); go_must (rintro e w1 ⟨rfl, hb1⟩; obtain ⟨z0, z1⟩ := HS.out w1 (hBr.trans (hb1.mono hBr.size))))
          | fail)
        go_roundw
        case rel => exact ⟨k + 1, by omega, by go_num, by rw [HT.out]; congr 1 <;> omega, hBr.trans (hb1.mono hBr.size)⟩
        case measure => simp [intOf]; omega
      · obtain rfl : k = xs.length := by omega
        have hfin := Lib.hid (show ofL v (xs.take xs.length) = ofT v (.node f xs) by rw [List.take_length, Hfin.out])
        rw [hfin.out]
        go_wp2
        go_ret
        exact ⟨rfl, hB.trans (hBr.mono hB.size)⟩
mutual
def covU (s t : Tm) : Tm → Bool
  | .node f xs => if f < 0 then decide (ofT f t ≤ ofT f s) else covL s t xs
def covL (s t : Tm) : List Tm → Bool
  | [] => true
  | u :: us => covU s t u && covL s t us
end
theorem covL_append (s t : Tm) : ∀ xs ys : List Tm, covL s t (xs ++ ys) = (covL s t xs && covL s t ys)
  | [], ys => by simp [covL]
  | x :: xs, ys => by simp only [List.cons_append, covL, covL_append s t xs ys, Bool.and_assoc]
theorem covL_take {s t : Tm} {xs : List Tm} {k : Nat} {u : Tm} (h : xs[k]? = some u) : covL s t (xs.take (k + 1)) = (covL s t (xs.take k) && covU s t u) := by
  rw [List.take_add_one, h, Option.toList_some, covL_append]; simp [covL]
theorem covL_mem {s t : Tm} : ∀ {xs : List Tm} {u : Tm}, covL s t xs = true → u ∈ xs → covU s t u = true
  | [], _, _, h => by simp at h
  | x :: xs, u, hk, h => by
    rw [covL, Bool.and_eq_true] at hk
    rcases List.mem_cons.1 h with rfl | h
    · exact hk.1
    · exact covL_mem hk.2 h
theorem box_ttt {w W : World} {s t : Tm} {f : Int} {A A2 A3 : Option Addr} {c c2 c3 n : Nat} (hW : ((w.alloc (.cells #[.int .i64 s.fn, .slice A s.args.length c] 36)).alloc (.cells #[.int .i64 t.fn, .slice A2 t.args.length c2] 36)).alloc (.cells #[.int .i64 f, .slice A3 n c3] 36) = W) :
    Below w.heap.size w W ∧ W.heap.size = w.heap.size + 3 ∧ ∀ w', Below W.heap.size W w' → w'.cell? ⟨w.heap.size, 0, none⟩ = some (.int .i64 s.fn) ∧ w'.cell? ⟨w.heap.size, 1, none⟩ = some (.slice A s.args.length c) ∧ w'.cell? ⟨w.heap.size + 1, 0, none⟩ = some (.int .i64 t.fn) ∧ w'.cell? ⟨w.heap.size + 1, 1, none⟩ = some (.slice A2 t.args.length c2) ∧
      w'.cell? ⟨w.heap.size + 2, 0, none⟩ = some (.int .i64 f) ∧ w'.cell? ⟨w.heap.size + 2, 1, none⟩ = some (.slice A3 n c3) := by
  obtain ⟨q0, q1, q2⟩ := heap3 w (.cells #[.int .i64 s.fn, .slice A s.args.length c] 36) (.cells #[.int .i64 t.fn, .slice A2 t.args.length c2] 36) (.cells #[.int .i64 f, .slice A3 n c3] 36)
  rw [hW] at q0 q1 q2
  have hz : W.heap.size = w.heap.size + 3 := by rw [← hW]; simp
  refine ⟨by rw [← hW]; exact (((Below.refl _ _).alloc (Nat.le_refl _) _).alloc (by simp) _).alloc (by simp; omega) _, hz, fun w' hb => ?_⟩
  obtain ⟨a0, a1, _, _⟩ := cells_two ((hb.block _ (by omega)).trans q0)
  obtain ⟨b0, b1, _, _⟩ := cells_two ((hb.block _ (by omega)).trans q1)
  obtain ⟨d0, d1, _, _⟩ := cells_two ((hb.block _ (by omega)).trans q2)
  exact ⟨a0, a1, b0, b1, d0, d1⟩
def RCov (s t u : Tm) : Prop := ∀ (A A2 A3 : Option Addr) (c c2 c3 : Nat) (w : World), I64 u.fn → Args w w.heap.size A s.args → Args w w.heap.size A2 t.args → Args w w.heap.size A3 u.args →
  Calls Tryz.prog 75 #[.agg #[.int .i64 s.fn, .slice A s.args.length c], .agg #[.int .i64 t.fn, .slice A2 t.args.length c2], .agg #[.int .i64 u.fn, .slice A3 u.args.length c3]] w fun e w' => e = .returned (.bool (covU s t u)) ∧ Below w.heap.size w w'
set_option maxHeartbeats 4000000 in
theorem refCovers_any (s t : Tm) (hs : s.size ≤ 1073741824) (ht : t.size ≤ 1073741824) (hfs : I64 s.fn) (hft : I64 t.fn) (u : Tm) : RCov s t u := by
  refine Tm.ind (P := RCov s t) (fun f xs ih => ?_) u
  intro A A2 A3 c c2 c3 w hf hA hA2 hA3
  change I64 f at hf
  change Args w w.heap.size A3 xs at hA3
  change Calls Tryz.prog 75 #[.agg #[.int .i64 s.fn, .slice A s.args.length c], .agg #[.int .i64 t.fn, .slice A2 t.args.length c2], .agg #[.int .i64 f, .slice A3 xs.length c3]] w fun e w' => e = .returned (.bool (covU s t (.node f xs))) ∧ Below w.heap.size w w'
  have hlen := hA3.len
  obtain ⟨W, hW⟩ : ∃ W, (((w.alloc (.cells #[.int .i64 s.fn, .slice A s.args.length c] 36)).alloc (.cells #[.int .i64 t.fn, .slice A2 t.args.length c2] 36)).alloc (.cells #[.int .i64 f, .slice A3 xs.length c3] 36)) = W := ⟨_, rfl⟩
  obtain ⟨hB, hz, hS⟩ := box_ttt hW
  have HW := Lib.hid hW
  obtain ⟨x0, x1, x2, x3, x4, x5⟩ := hS W (Below.refl _ _)
  have HS := Lib.hid hS
  have HA := Lib.hid hA
  have HA2 := Lib.hid hA2
  have HA3 := Lib.hid hA3
  clear hW hS hA hA2 hA3
  by_cases hneg : f < 0
  · have hfin := Lib.hid (show covU s t (.node f xs) = decide (ofT f t ≤ ofT f s) by rw [covU, if_pos hneg])
    have H1 : Hid (∀ y : Later W.heap.size W, Calls Tryz.prog 94 #[.agg #[.int .i64 s.fn, .slice A s.args.length c], .int .i64 f] y.w fun e w' => e = .returned (.int .i64 (ofT f s : Int)) ∧ Below y.w.heap.size y.w w') := Lib.hid fun y => refOften_any f s hs A c y.w hfs (HA.out.on (hB.trans (y.h.mono hB.size)))
    have H2 : Hid (∀ y : Later W.heap.size W, Calls Tryz.prog 94 #[.agg #[.int .i64 t.fn, .slice A2 t.args.length c2], .int .i64 f] y.w fun e w' => e = .returned (.int .i64 (ofT f t : Int)) ∧ Below y.w.heap.size y.w w') := Lib.hid fun y => refOften_any f t ht A2 c2 y.w hft (HA2.out.on (hB.trans (y.h.mono hB.size)))
    have m0 : ∀ y : Later W.heap.size W, y.w.cell? ⟨w.heap.size, 0, none⟩ = some (.int .i64 s.fn) := fun y => (HS.out y.w y.h).1
    have m1 : ∀ y : Later W.heap.size W, y.w.cell? ⟨w.heap.size, 1, none⟩ = some (.slice A s.args.length c) := fun y => (HS.out y.w y.h).2.1
    have m2 : ∀ y : Later W.heap.size W, y.w.cell? ⟨w.heap.size + 1, 0, none⟩ = some (.int .i64 t.fn) := fun y => (HS.out y.w y.h).2.2.1
    have m3 : ∀ y : Later W.heap.size W, y.w.cell? ⟨w.heap.size + 1, 1, none⟩ = some (.slice A2 t.args.length c2) := fun y => (HS.out y.w y.h).2.2.2.1
    have m4 : ∀ y : Later W.heap.size W, y.w.cell? ⟨w.heap.size + 2, 0, none⟩ = some (.int .i64 f) := fun y => (HS.out y.w y.h).2.2.2.2.1
    go_enter Tryz.func75, Tryz.ntmps75
    go_upto_region 1 with fail
    rw [HW.out]
    go_upto_region 2 with fail
    refine wp_region_later W.heap.size W (by kernel_rfl) (by kernel_rfl) (bl_drewN (Below.refl _ _) 1) ?_
    repeat (go_big_quiet_step (first | (go_at_call 94; first | (with_reducible refine calls_later _ (Nat.le_refl _) (H1.out _)) | (with_reducible refine calls_later _ (Nat.le_refl _) (H2.out _))) | fail))
    refine wpQuiet_nil ?_
    rintro _ ⟨z, rfl⟩
    clear m0 m1 m2 m3 m4
    go_wp2
    go_ret
    exact ⟨by rw [hfin.out]; rfl, hB.trans (z.h.mono hB.size)⟩
  · have htop := Lib.hid (show covU s t (.node f xs) = covL s t xs by rw [covU, if_neg hneg])
    go_enter Tryz.func75, Tryz.ntmps75
    go_upto_region 1 with fail
    rw [HW.out]
    go_wp2
    go_loopw [7] (fun i wr => ∃ k : Nat, k ≤ xs.length ∧ i = .int .i64 (k : Int) ∧ Below W.heap.size W wr ∧ Hid (covL s t (xs.take k) = true)) (fun i _ => xs.length - (intOf i).toNat)
    case atStart => exact ⟨0, Nat.zero_le _, rfl, Below.refl _ _, Lib.hid (by simp [covL])⟩
    case round =>
      obtain ⟨k, hk, rfl, hBr, Hkn⟩ := hrel
      obtain ⟨y0, y1, y2, y3, y4, y5⟩ := HS.out wr hBr
      by_cases hkl : k < xs.length
      · obtain ⟨u, hu⟩ : ∃ u, xs[k]? = some u := ⟨_, List.getElem?_eq_getElem hkl⟩
        have hBw := hB.trans (hBr.mono hB.size)
        obtain ⟨bb, off, A1, c1, hAA, ha⟩ := (HA3.out.on hBw).get hu
        have HI := Lib.hid (fun y : Later wr.heap.size wr => ih u (List.mem_of_getElem? hu) A A2 A1 c c2 c1 y.w ha.hi ((HA.out.on hBw).on y.h) ((HA2.out.on hBw).on y.h) (ha.sub.on y.h))
        have hT := Lib.hid (covL_take (s := s) (t := t) hu)
        have m0 : ∀ y : Later wr.heap.size wr, y.w.cell? ⟨w.heap.size, 0, none⟩ = some (.int .i64 s.fn) := fun y => (HS.out y.w (hBr.trans (y.h.mono hBr.size))).1
        have m1 : ∀ y : Later wr.heap.size wr, y.w.cell? ⟨w.heap.size, 1, none⟩ = some (.slice A s.args.length c) := fun y => (HS.out y.w (hBr.trans (y.h.mono hBr.size))).2.1
        have m2 : ∀ y : Later wr.heap.size wr, y.w.cell? ⟨w.heap.size + 1, 0, none⟩ = some (.int .i64 t.fn) := fun y => (HS.out y.w (hBr.trans (y.h.mono hBr.size))).2.2.1
        have m3 : ∀ y : Later wr.heap.size wr, y.w.cell? ⟨w.heap.size + 1, 1, none⟩ = some (.slice A2 t.args.length c2) := fun y => (HS.out y.w (hBr.trans (y.h.mono hBr.size))).2.2.2.1
        have m5 : ∀ y : Later wr.heap.size wr, y.w.cell? ⟨w.heap.size + 2, 1, none⟩ = some (.slice A3 xs.length c3) := fun y => (HS.out y.w (hBr.trans (y.h.mono hBr.size))).2.2.2.2.2
        have m6 : ∀ y : Later wr.heap.size wr, y.w.cell? ⟨bb, off + k * 2, none⟩ = some (.int .i64 u.fn) := fun y => cell_on y.h ha.hb ha.c0
        have m7 : ∀ y : Later wr.heap.size wr, y.w.cell? ⟨bb, off + k * 2 + 1, none⟩ = some (.slice A1 u.args.length c1) := fun y => cell_on y.h ha.hb ha.c1
        subst hAA
        cases hku : covU s t u with
        | false =>
          have hfin := Lib.hid (show covL s t xs = false by
            cases h : covL s t xs with
            | false => rfl
            | true => rw [covL_mem h (List.mem_of_getElem? hu)] at hku; cases hku)
          rw [hku] at HI
          clear hku ha hu
          go_upto_region 6 with fail
          refine wp_region_later wr.heap.size wr (by kernel_rfl) (by kernel_rfl) (bl_drewN (Below.refl _ _) 1) ?_
          repeat (go_big_quiet_step (first | (go_at_call 75; with_reducible refine calls_later _ (Nat.le_refl _) (HI.out _)) | fail))
          refine wpQuiet_nil ?_
          rintro _ ⟨z, rfl⟩
          clear m0 m1 m2 m3 m5 m6 m7
          go_wp2
          go_ret
          exact ⟨by rw [htop.out, hfin.out]; rfl, hBw.trans (z.h.mono hBw.size)⟩
        | true =>
          rw [hku] at HI
          rw [hku, Hkn.out] at hT
          clear hku ha hu
          go_upto_region 6 with fail
          refine wp_region_later wr.heap.size wr (by kernel_rfl) (by kernel_rfl) (bl_drewN (Below.refl _ _) 1) ?_
          repeat (go_big_quiet_step (first | (go_at_call 75; with_reducible refine calls_later _ (Nat.le_refl _) (HI.out _)) | fail))
          refine wpQuiet_nil ?_
          rintro _ ⟨z, rfl⟩
          clear m0 m1 m2 m3 m5 m6 m7
          go_wp2
          go_roundw
          case rel => exact ⟨k + 1, by omega, by go_num, hBr.trans (z.h.mono hBr.size), hT⟩
          case measure => simp [intOf]; omega
      · obtain rfl : k = xs.length := by omega
        have hfin := Lib.hid (show covL s t xs = true by have := Hkn.out; rwa [List.take_length] at this)
        go_wp2
        go_ret
        exact ⟨by rw [htop.out, hfin.out]; rfl, hB.trans (hBr.mono hB.size)⟩
end Go.Proofs.YthgglobfkkcdgaaGreat
namespace Go.Proofs.YthgglobfkkcdgaaGreat
open Go.RowKit
set_option maxRecDepth 100000
end Go.Proofs.YthgglobfkkcdgaaGreat
namespace Go.Proofs.YthgglobfkkcdgaaGreat
open Go.RowKit
set_option maxRecDepth 100000
theorem cmpT_h {f g : Int} {xs ys : List Tm} (h : ¬ headI f g = 0) : cmpT (.node f xs) (.node g ys) = headI f g := (cmpT_eq _ _).trans (if_pos h)
theorem cmpT_c {f g : Int} {xs ys : List Tm} (h : headI f g = 0) (h1 : ¬ cmpL xs ys = 0) : cmpT (.node f xs) (.node g ys) = cmpL xs ys := (cmpT_eq _ _).trans ((if_neg (fun e => e h)).trans (if_pos h1))
theorem cmpT_n {f g : Int} {xs ys : List Tm} (h : headI f g = 0) (h1 : cmpL xs ys = 0) : cmpT (.node f xs) (.node g ys) = numI xs.length ys.length := (cmpT_eq _ _).trans ((if_neg (fun e => e h)).trans (if_neg (fun e => e h1)))
end Go.Proofs.YthgglobfkkcdgaaGreat
