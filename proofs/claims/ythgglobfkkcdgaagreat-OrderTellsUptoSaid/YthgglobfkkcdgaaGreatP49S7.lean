import Derived.Test.YthgglobfkkcdgaaGreatP49S4
namespace Go.Proofs.YthgglobfkkcdgaaGreat
open Go.RowKit Go.Shelf Go.Maps
set_option maxRecDepth 100000
set_option maxHeartbeats 4000000 in
theorem count_neg10 (o : Odr) (b : Bal) (t : Tm) (P Q A : Option Addr) (pc qc c bx bm B0 : Nat) (w : World) (hM : BalM w bx bm o P pc Q qc b) (hO : OdrM w B0 o P Q) (hB0 : B0 ≤ w.heap.size) (hk : t.fn < 0 ∨ t.fn < (o.wts.length : Int)) (hOK : BalOK b) (hf64 : I64 t.fn) (hf : t.fn < 0) (hv : 0 ≤ -b.V t.fn) :
    Calls Tryz.prog 89 #[.pointer (some ⟨bx, 0, none⟩), .agg #[.int .i64 t.fn, .slice A t.args.length c], .int .i64 1] w (CntPost bx bm o P pc Q qc (cntB o 1 b t.fn) w) := by
  rw [cntB_neg10 hf hv]
  have hvb := hOK.V t.fn
  have hab := hOK.a1
  have hn30 := hOK.n
  have hix : (Instr.index 80 (.agg #[.int .i64 1, .int .i64 (-1)]) (.int .i64 1)).run Tryz.prog = fun w => .ok (.int .i64 (-1)) w := by funext w; kernel_rfl
  have hbxl := hM.box
  have hbx : bx < w.heap.size := (Array.getElem?_eq_some_iff.1 hbxl).1
  have hbm : bm < w.heap.size := hM.map.lt
  have hnebm := hM.ne
  have q0 := heap_alloc_new w (.cells #[.int .i64 t.fn, .slice A t.args.length c] 36)
  obtain ⟨W, hW⟩ : ∃ W, w.alloc (.cells #[.int .i64 t.fn, .slice A t.args.length c] 36) = W := ⟨_, rfl⟩
  have hB : Below w.heap.size w W := by rw [← hW]; exact (Below.refl _ _).alloc (Nat.le_refl _) _
  rw [hW] at q0
  have hWs : w.heap.size < W.heap.size := (Array.getElem?_eq_some_iff.1 q0).1
  have hMW := hM.keep (hB.block bx hbx) (hB.block bm hbm)
  have hSS : ∀ w', Below W.heap.size W w' → w'.cell? ⟨bx, 0, none⟩ = some (.bool o.lpo) ∧ w'.cell? ⟨bx, 1, none⟩ = some (.slice P o.prec.length pc) ∧ w'.cell? ⟨bx, 2, none⟩ = some (.slice Q o.wts.length qc) ∧ w'.cell? ⟨bx, 3, none⟩ = some (.int .i64 o.var) ∧ w'.cell? ⟨bx, 8, none⟩ = some (.int .i64 b.w1) ∧ w'.cell? ⟨w.heap.size, 0, none⟩ = some (.int .i64 t.fn) ∧ w'.cell? ⟨w.heap.size, 1, none⟩ = some (.slice A t.args.length c) ∧ w'.frozen? ⟨bx, 8, none⟩ = false := fun w' hb => by
    have hx := (hb.block bx (by omega)).trans hMW.box
    obtain ⟨c0, c1, c2, c3, c4, c5, c6, c7, c8⟩ := cells_9 hx
    obtain ⟨d0, d1, _, _⟩ := cells_two ((hb.block _ hWs).trans q0)
    exact ⟨c0, c1, c2, c3, c8, d0, d1, frozen_9 hx _⟩
  have hD := bl_drewN (Below.refl W.heap.size W) 1
  obtain ⟨i0, i1, i2, i3, i4, i5, i6, i7⟩ := hSS W.drew hD
  have H1 := Lib.hid (kboWeight1_any o t P Q A pc qc c W.drew ⟨((hO.p.more hB0).on hB).on hD, ((hO.q.more hB0).on hB).on hD, hO.v⟩ hk)
  have hwt := wtI_bd o t.fn
  have hw0 := hOK.w1
  have hnn := hOK.n
  have hsum : IntKind.i64.wrap (b.w1 + wtI o t.fn) = b.w1 + wtI o t.fn := by rw [IntKind.wrap_i64]; omega
  have HSS := Lib.hid hSS
  have HW := Lib.hid hW
  have HMW := Lib.hid hMW
  have Hq0 := Lib.hid q0
  have HOK := Lib.hid hOK
  obtain ⟨x, hx⟩ : ∃ x, wtI o t.fn = x := ⟨_, rfl⟩
  rw [hx] at H1 hsum hwt
  have Hx := Lib.hid hx
  clear hW hO hSS hMW q0 hM hbxl hx hOK
  go_enter Tryz.func89, Tryz.ntmps89
  go_upto_region 1 with fail
  rw [HW.out]
  go_region_law
    (first
      | (go_simp
         go_at_call 111
         with_reducible refine H1.out.mono ?_
         rintro e w1 ⟨rfl, hb1⟩
         have hB1 : Below W.heap.size W w1 := ⟨hb1.os, hb1.tape, hb1.output, hb1.size, hb1.block⟩
         obtain ⟨j0, j1, j2, j3, j4, j5, j6, j7⟩ := HSS.out w1 hB1
         dsimp only)
      | fail)
  all_goals
    have hge : decide (t.fn ≥ 0) = false := decide_eq_false (by omega)
    have hne : bx ≠ w.heap.size := by omega
    obtain ⟨X, hX⟩ : ∃ X, w1.setCell ⟨bx, 8, none⟩ (.int .i64 (b.w1 + x)) = X := ⟨_, rfl⟩
    have hXb : X.heap[bx]? = some (.cells #[.bool o.lpo, .slice P o.prec.length pc, .slice Q o.wts.length qc, .int .i64 o.var, .map (some bm), .int .i64 b.a0, .int .i64 b.a1, .int .i64 b.w0, .int .i64 (b.w1 + x)] 83) := by rw [← hX]; exact set_9 ((hB1.block bx (by omega)).trans HMW.out.box) 8 (.int .i64 (b.w1 + x))
    have hXm : X.heap[bm]? = W.heap[bm]? := by rw [← hX]; exact (heap_setCell_other _ _ _ _ (fun e => hnebm e.symm)).trans (hB1.block bm (by omega))
    have hXt : X.heap[w.heap.size]? = some (.cells #[.int .i64 t.fn, .slice A t.args.length c] 36) := by rw [← hX]; exact (heap_setCell_other _ _ _ _ (show w.heap.size ≠ bx by omega)).trans ((hB1.block _ hWs).trans Hq0.out)
    have hXs : W.heap.size ≤ X.heap.size := by rw [← hX]; simpa using hB1.size
    have hKX : KeepsC (fun g => g = bx ∨ g = bm) w X := by rw [← hX]; exact keepsC_set ((KeepsC.of_below hB).trans (KeepsC.of_below hB1)) _ _
    have hXV := HMW.out.map.kept hXm
    have HX := Lib.hid hX
    obtain ⟨v, hv'⟩ : ∃ v, b.V t.fn = v := ⟨_, rfl⟩
    rw [hv'] at hv hvb
    have Hv := Lib.hid hv'
    have hm1 : IntKind.i64.wrap v = v := by rw [IntKind.wrap_i64]; omega
    have hm2 : IntKind.i64.wrap (v * (-1)) = -v := by rw [IntKind.wrap_i64]; omega
    have hm3 : IntKind.i64.wrap (-v) = -v := by rw [IntKind.wrap_i64]; omega
    have hm4 : IntKind.i64.wrap (v + (-1)) = v + (-1) := by rw [IntKind.wrap_i64]; omega
    have hm5 : IntKind.i64.wrap (b.a1 + 1) = b.a1 + 1 := by rw [IntKind.wrap_i64]; omega
    have hs1 : IntKind.i64.wrap (1 - 1) = 0 := by decide
    have hs2 : IntKind.i64.wrap 0 = 0 := by decide
    have hdec : decide (-v ≥ 0) = true := decide_eq_true (by omega)
    have l0 : ∀ y : Later X.heap.size X, y.w.cell? ⟨bx, 4, none⟩ = some (.map (some bm)) := fun y => (cells_9 ((y.h.block bx (by omega)).trans hXb)).2.2.2.2.1
    have l1 : ∀ y : Later X.heap.size X, y.w.cell? ⟨w.heap.size, 0, none⟩ = some (.int .i64 t.fn) := fun y => (cells_two ((y.h.block _ (by omega)).trans hXt)).1
    have l2 : ∀ y : Later X.heap.size X, (Instr.lookup 79 (.map (some bm)) (.int .i64 t.fn) false).run Tryz.prog y.w = .ok (.int .i64 v) y.w := fun y => by rw [← hv']; exact (hXV.kept (y.h.block bm (by omega))).look hf64
    have l3 := (cells_two hXt).1
    clear i0 i1 i2 i3 i4 i5 i6 i7 j0 j1 j2 j3 j4 j5 j6 j7 hX hv'
    rw [HX.out]
    go_upto_region 4 with fail
    refine wp_region_later X.heap.size X (by kernel_rfl) (by kernel_rfl) (bl_drewN (Below.refl _ _) 1) ?_
    repeat (go_big_quiet_step (fail))
    refine wpQuiet_nil ?_
    rintro _ ⟨z, rfl⟩
    have hzb := (z.h.block bx (by omega)).trans hXb
    have hzm := z.h.block bm (show bm < X.heap.size by omega)
    have hzt := (z.h.block _ (show w.heap.size < X.heap.size by omega)).trans hXt
    have hzs := z.h.size
    obtain ⟨Z, hZ⟩ : ∃ Z, z.w = Z := ⟨_, rfl⟩
    have hKZ := hKX.trans (KeepsC.of_below z.h)
    rw [hZ] at hzb hzm hzt hzs hKZ ⊢
    have hzV := hXV.kept hzm
    clear l0 l1 l2 l3 hZ
    have d0 : Z.drew.cell? ⟨bx, 6, none⟩ = some (.int .i64 b.a1) := (cells_9 (show Z.drew.heap[bx]? = _ from hzb)).2.2.2.2.2.2.1
    have d1 := frozen_9 (show Z.drew.heap[bx]? = _ from hzb) 6
    have d2 : Z.drew.cell? ⟨w.heap.size, 0, none⟩ = some (.int .i64 t.fn) := (cells_two (show Z.drew.heap[w.heap.size]? = _ from hzt)).1
    go_upto_region 5 with fail
    go_region_law (fail)
    all_goals
      obtain ⟨Y, hY⟩ : ∃ Y, (Z.setCell ⟨bx, 6, none⟩ (.int .i64 (b.a1 + 1))).drew = Y := ⟨_, rfl⟩
      have hYb : Y.heap[bx]? = some (.cells #[.bool o.lpo, .slice P o.prec.length pc, .slice Q o.wts.length qc, .int .i64 o.var, .map (some bm), .int .i64 b.a0, .int .i64 (b.a1 + 1), .int .i64 b.w0, .int .i64 (b.w1 + x)] 83) := by rw [← hY]; exact set_9 hzb 6 (.int .i64 (b.a1 + 1))
      have hYm : Y.heap[bm]? = Z.heap[bm]? := by rw [← hY]; exact heap_setCell_other Z _ _ _ (fun e => hnebm e.symm)
      have hYt : Y.heap[w.heap.size]? = some (.cells #[.int .i64 t.fn, .slice A t.args.length c] 36) := by rw [← hY]; exact (heap_setCell_other Z _ _ _ (show w.heap.size ≠ bx by omega)).trans hzt
      have hKY : KeepsC (fun g => g = bx ∨ g = bm) w Y := by rw [← hY]; exact Keeps.trans (keepsC_set hKZ _ _) (Keeps.drewN _ (Z.setCell ⟨bx, 6, none⟩ (.int .i64 (b.a1 + 1))) 1)
      have hYV := hzV.kept hYm
      have HY := Lib.hid hY
      clear d0 d1 d2 hY
      rw [HY.out]
      have g0 : Y.drew.cell? ⟨bx, 4, none⟩ = some (.map (some bm)) := (cells_9 (show Y.drew.heap[bx]? = _ from hYb)).2.2.2.2.1
      have g1 : Y.drew.cell? ⟨w.heap.size, 0, none⟩ = some (.int .i64 t.fn) := (cells_two (show Y.drew.heap[w.heap.size]? = _ from hYt)).1
      have hYVd : VMap Y.drew bm b.n b.V := hYV
      have g2 := hYVd.look hf64
      rw [Hv.out] at g2
      obtain ⟨w9, hrun, hV9, hgr⟩ := hYVd.put (by omega) hf64 (v := v + (-1)) ⟨by omega, by omega⟩
      go_upto_region 7 with fail
      go_region_law (fail)
      all_goals
        go_wp2
        go_end0
        refine ⟨rfl, ⟨?_, ?_, hnebm⟩, ?_⟩
        · rw [hgr.block bx (show bx < Y.drew.heap.size from (Array.getElem?_eq_some_iff.1 hYb).1) (by simpa using hnebm)]
          rw [show Y.drew.heap[bx]? = _ from hYb, Hx.out]
        · rw [Hv.out]; exact hV9
        · exact Keeps.trans (Keeps.trans hKY (Keeps.drewN _ Y 1)) ((Keeps.of_grown hgr).mono fun g hg => ⟨by have := hKY.size; show g < Y.heap.size; omega, by have := hg.2; simp; intro e; exact this (.inr e)⟩)
end Go.Proofs.YthgglobfkkcdgaaGreat
