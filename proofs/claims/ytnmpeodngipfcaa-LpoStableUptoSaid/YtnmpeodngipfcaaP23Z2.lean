import Derived.Test.YtnmpeodngipfcaaP22Z12
import Derived.Test.YtnmpeodngipfcaaP23Z1
import Derived.Test.YtnmpeodngipfcaaP22Z13
/- LpoStable, the law. -/

namespace Go.Proofs.Ytnmpeodngipfcaa

open Go.RowKit Go.Shelf Go.Maps
set_option maxRecDepth 100000

set_option maxHeartbeats 8000000 in
theorem lpoStable_of (sy : List Sm) (o : Odr) (s t : Tm) (l : List Tm) (As P Q A A2 Al : Option Addr) (n cs pc qc c c2 cl : Nat) (w : World) (hS : Syms w w.heap.size As n sy) (hn : n * 32 ≤ 140737488351232) (hM : OdrM w w.heap.size o P Q) (hrk : o.prec.length ≤ 140737488351232) (hs : TmK w s A c) (ht : TmK w t A2 c2) (hl : ArgsK w (· < w.heap.size) Al cl l) (hzs : s.size ≤ 1048576) (hzt : t.size ≤ 1048576) (hzl : ∀ x ∈ l, x.size ≤ 1048576) :
    Calls Try.prog 11 #[.agg #[.slice As n cs], .agg #[.bool o.lpo, .slice P o.prec.length pc, .slice Q o.wts.length qc, .int .i64 o.var], .agg #[.int .i64 s.fn, .slice A s.args.length c], .agg #[.int .i64 t.fn, .slice A2 t.args.length c2], .slice Al l.length cl] w fun e w' => e = .returned (.bool true) ∧ Below w.heap.size w w' := by
  have hlen := hl.len
  obtain ⟨W, hW⟩ : ∃ W, ((((w.alloc (.cells #[.slice As n cs] 36)).alloc (.cells #[.bool o.lpo, .slice P o.prec.length pc, .slice Q o.wts.length qc, .int .i64 o.var] 24)).alloc (.cells #[.int .i64 s.fn, .slice A s.args.length c] 27)).alloc (.cells #[.int .i64 t.fn, .slice A2 t.args.length c2] 27)) = W := ⟨_, rfl⟩
  obtain ⟨hB, hX⟩ := box4_of hW
  have HW := Lib.hid hW
  have HX := Lib.hid hX
  have hsW := hs.on hB
  have htW := ht.on hB
  have hMW := hM.on hB
  have hSW := hS.on hB
  have hlW := hl.on hB
  have hb5 : Below W.heap.size W (W.alloc (.cells #[.int .i64 s.fn, .slice A s.args.length c, .int .i64 t.fn, .slice A2 t.args.length c2] 27)) := (Below.refl _ _).alloc (Nat.le_refl _) _
  have HB5 := Lib.hid hb5
  have HG : Hid (Calls Try.prog 27 #[.slice (some ⟨W.heap.size, 0, none⟩) 2 2] (W.alloc (.cells #[.int .i64 s.fn, .slice A s.args.length c, .int .i64 t.fn, .slice A2 t.args.length c2] 27)) fun e w' => e = .returned (.bool (decide (2000 < sizes [s, t]))) ∧ Below (W.alloc (.cells #[.int .i64 s.fn, .slice A s.args.length c, .int .i64 t.fn, .slice A2 t.args.length c2] 27)).heap.size (W.alloc (.cells #[.int .i64 s.fn, .slice A s.args.length c, .int .i64 t.fn, .slice A2 t.args.length c2] 27)) w') := Lib.hid (lpoGreat_any [s, t] (fun x hx => by simp at hx; rcases hx with rfl | rfl <;> omega) (some ⟨W.heap.size, 0, none⟩) 2 (W.alloc (.cells #[.int .i64 s.fn, .slice A s.args.length c, .int .i64 t.fn, .slice A2 t.args.length c2] 27)) (row_two hsW htW (Below.refl _ _)))
  have HG2 : Hid (∀ w1, Below W.heap.size W w1 → Calls Try.prog 27 #[.slice Al l.length cl] w1 fun e w' => e = .returned (.bool (decide (2000 < sizes l))) ∧ Below w1.heap.size w1 w') := Lib.hid fun w1 hb => lpoGreat_any l (fun x hx => by have := hzl x hx; omega) Al cl w1 (hlW.on hb).toA
  have HF : Hid (∀ w1, Below W.heap.size W w1 → Calls Try.prog 32 #[.agg #[.slice As n cs], .agg #[.bool o.lpo, .slice P o.prec.length pc, .slice Q o.wts.length qc, .int .i64 o.var], .slice (some ⟨w1.heap.size, 0, none⟩) 2 2] (w1.alloc (.cells #[.int .i64 s.fn, .slice A s.args.length c, .int .i64 t.fn, .slice A2 t.args.length c2] 27)) fun e w' => e = .returned (.bool (fitsQ sy o [s, t])) ∧ Below w1.heap.size w1 w') := Lib.hid fun w1 hb => by
    have hb1 : Below w1.heap.size w1 (w1.alloc (.cells #[.int .i64 s.fn, .slice A s.args.length c, .int .i64 t.fn, .slice A2 t.args.length c2] 27)) := (Below.refl _ _).alloc (Nat.le_refl _) _
    exact (lpoFits_any sy o [s, t] As P Q (some ⟨w1.heap.size, 0, none⟩) n cs pc qc 2 _ ((hSW.on hb).on hb1) hn ((hMW.on hb).on hb1) (fun x hx => by simp at hx; rcases hx with rfl | rfl <;> omega) (row_two hsW htW hb)).mono fun e w' ⟨he, hw⟩ => ⟨he, hb1.trans (hw.mono hb1.size)⟩
  have Hwk := Lib.hid lpoWakes_any
  have Gst := Lib.hid (lpoAbove_at (pc := pc) (qc := qc) hrk hMW hsW htW (by omega))
  have HBB : Hid (∀ w1, Below W.heap.size W w1 → Below w.heap.size w w1) := Lib.hid fun w1 h => hB.trans (h.mono hB.size)
  obtain ⟨⟨x0, x1, x2, x3, x4⟩, x5, x6, x7, x8⟩ := hX W (Below.refl _ _)
  have HsW := Lib.hid hsW
  have HtW := Lib.hid htW
  have HMW := Lib.hid hMW
  have HSW := Lib.hid hSW
  have HlW := Lib.hid hlW
  have HQ : Hid (∀ w1, Below W.heap.size W w1 → w1.heap[w.heap.size + 1 + 1]? = some (.cells #[.int .i64 s.fn, .slice A s.args.length c] 27) ∧ w1.heap[w.heap.size + 1 + 1 + 1]? = some (.cells #[.int .i64 t.fn, .slice A2 t.args.length c2] 27)) := Lib.hid fun w1 hb => by
    obtain ⟨_, _, q2, q3⟩ := heap4 w (.cells #[.slice As n cs] 36) (.cells #[.bool o.lpo, .slice P o.prec.length pc, .slice Q o.wts.length qc, .int .i64 o.var] 24) (.cells #[.int .i64 s.fn, .slice A s.args.length c] 27) (.cells #[.int .i64 t.fn, .slice A2 t.args.length c2] 27)
    rw [HW.out] at q2 q3
    have hz : w.heap.size + 4 = W.heap.size := by rw [← HW.out]; simp
    exact ⟨(hb.block _ (by omega)).trans q2, (hb.block _ (by omega)).trans q3⟩
  clear hW hX hS hM hs ht hsW htW hMW hSW hb5 hB hl hlW
  cases hgr : decide (2000 < sizes [s, t]) with
  | true =>
    rw [hgr] at HG
    clear hgr
    go_enter Try.func11, Try.ntmps11
    go_upto_region 1 with fail
    rw [HW.out]
    go_wp2_with (first
      | (go_at_call 27; ((with_reducible refine HG.out.mono ?_); rintro e w1 ⟨rfl, hb1⟩; have hbw1 := HB5.out.trans (hb1.mono HB5.out.size); obtain ⟨⟨y0, y1, y2, y3, y4⟩, y5, y6, y7, y8⟩ := HX.out w1 hbw1))
      | (go_at_call 28; go_must ((with_reducible refine (Hwk.out _).mono ?_); rintro e w9 ⟨rfl, hb9⟩))
      | fail)
    go_ret
    exact ⟨rfl, HBB.out _ (hbw1.trans (hb9.mono hbw1.size))⟩
  | false =>
    rw [hgr] at HG
    clear hgr
    by_cases h8 : 8 < l.length
    · have h8' : (8 : Int) < (l.length : Int) := by omega
      go_enter Try.func11, Try.ntmps11
      go_upto_region 1 with fail
      rw [HW.out]
      go_wp2_with (first
        | (go_at_call 27; ((with_reducible refine HG.out.mono ?_); rintro e w1 ⟨rfl, hb1⟩; have hbw1 := HB5.out.trans (hb1.mono HB5.out.size); obtain ⟨⟨y0, y1, y2, y3, y4⟩, y5, y6, y7, y8⟩ := HX.out w1 hbw1))
        | (go_at_call 28; go_must ((with_reducible refine (Hwk.out _).mono ?_); rintro e w9 ⟨rfl, hb9⟩))
        | fail)
      go_ret
      exact ⟨rfl, HBB.out _ (hbw1.trans (hb9.mono hbw1.size))⟩
    · have h8' : ¬ (8 : Int) < (l.length : Int) := by omega
      cases hgr2 : decide (2000 < sizes l) with
      | true =>
        rw [hgr2] at HG2
        clear hgr2
        go_enter Try.func11, Try.ntmps11
        go_upto_region 1 with fail
        rw [HW.out]
        go_wp2_with (first
          | (go_at_call 27; ((with_reducible refine HG.out.mono ?_); rintro e w1 ⟨rfl, hb1⟩; have hbw1 := HB5.out.trans (hb1.mono HB5.out.size); obtain ⟨⟨y0, y1, y2, y3, y4⟩, y5, y6, y7, y8⟩ := HX.out w1 hbw1))
          | (go_at_call 27; ((with_reducible refine (HG2.out w1 hbw1).mono ?_); rintro e w2 ⟨rfl, hb2⟩; have hbw2 := hbw1.trans (hb2.mono hbw1.size); obtain ⟨⟨z0, z1, z2, z3, z4⟩, z5, z6, z7, z8⟩ := HX.out w2 hbw2))
          | (go_at_call 28; go_must ((with_reducible refine (Hwk.out _).mono ?_); rintro e w9 ⟨rfl, hb9⟩))
          | fail)
        go_ret
        exact ⟨rfl, HBB.out _ (hbw2.trans (hb9.mono hbw2.size))⟩
      | false =>
        rw [hgr2] at HG2
        have hsl : sizes l ≤ 2000 := by simpa using hgr2
        clear hgr2
        cases hft : fitsQ sy o [s, t] with
        | false =>
          rw [hft] at HF
          clear hft
          go_enter Try.func11, Try.ntmps11
          go_upto_region 1 with fail
          rw [HW.out]
          go_wp2_with (first
            | (go_at_call 27; ((with_reducible refine HG.out.mono ?_); rintro e w1 ⟨rfl, hb1⟩; have hbw1 := HB5.out.trans (hb1.mono HB5.out.size); obtain ⟨⟨y0, y1, y2, y3, y4⟩, y5, y6, y7, y8⟩ := HX.out w1 hbw1))
            | (go_at_call 27; ((with_reducible refine (HG2.out w1 hbw1).mono ?_); rintro e w2 ⟨rfl, hb2⟩; have hbw2 := hbw1.trans (hb2.mono hbw1.size); obtain ⟨⟨z0, z1, z2, z3, z4⟩, z5, z6, z7, z8⟩ := HX.out w2 hbw2))
            | (go_at_call 32; go_must ((with_reducible refine (HF.out w2 hbw2).mono ?_); rintro e w3 ⟨rfl, hb3⟩; have hbw3 := hbw2.trans (hb3.mono hbw2.size); obtain ⟨⟨x0, x1, x2, x3, x4⟩, x5, x6, x7, x8⟩ := HX.out w3 hbw3))
            | (go_at_call 28; go_must ((with_reducible refine (Hwk.out _).mono ?_); rintro e w9 ⟨rfl, hb9⟩))
            | fail)
          go_ret
          exact ⟨rfl, HBB.out _ (hbw3.trans (hb9.mono hbw3.size))⟩
        | true =>
          rw [hft] at HF
          have Hft := Lib.hid hft
          clear hft
          go_enter Try.func11, Try.ntmps11
          go_upto_region 1 with fail
          rw [HW.out]
          go_upto_region 3 with (first
            | (go_at_call 27; ((with_reducible refine HG.out.mono ?_); rintro e w1 ⟨rfl, hb1⟩; have hbw1 := HB5.out.trans (hb1.mono HB5.out.size); obtain ⟨⟨y0, y1, y2, y3, y4⟩, y5, y6, y7, y8⟩ := HX.out w1 hbw1))
            | (go_at_call 27; ((with_reducible refine (HG2.out w1 hbw1).mono ?_); rintro e w2 ⟨rfl, hb2⟩; have hbw2 := hbw1.trans (hb2.mono hbw1.size); obtain ⟨⟨z0, z1, z2, z3, z4⟩, z5, z6, z7, z8⟩ := HX.out w2 hbw2))
            | (go_at_call 32; go_must ((with_reducible refine (HF.out w2 hbw2).mono ?_); rintro e w3 ⟨rfl, hb3⟩; have hbw3 := hbw2.trans (hb3.mono hbw2.size); obtain ⟨⟨x0, x1, x2, x3, x4⟩, x5, x6, x7, x8⟩ := HX.out w3 hbw3))
            | fail)
          obtain ⟨X, hX⟩ : ∃ X, putT l s = X := ⟨_, rfl⟩
          obtain ⟨Y, hY⟩ : ∃ Y, putT l t = Y := ⟨_, rfl⟩
          have hXz := putT_size l s
          have hYz := putT_size l t
          rw [hX] at hXz
          rw [hY] at hYz
          have HXY := Lib.hid (And.intro hX hY)
          have hp1 : ∀ w1, Below w3.drew.heap.size w3.drew w1 → Calls Try.prog 34 #[.agg #[.int .i64 s.fn, .slice A s.args.length c], .slice Al l.length cl] w1 (RPlPost w3.heap.size X w1) := fun w1 hb => by
            rw [← hX]
            have hb' : Below w3.heap.size w3 w1 := (Below.refl _ _).drew.trans (hb.mono (Nat.le_refl _))
            have h1 := HsW.out.on hbw3
            have h2 := HlW.out.on hbw3
            exact lpoPut_any l s (by omega) A Al c cl w3.heap.size w1 h1.i64 (h1.args.keep fun g hg => hb'.block g hg) (h2.keep fun g hg => hb'.block g hg) hb'.size
          have hp2 : ∀ w1, Below w3.drew.heap.size w3.drew w1 → Calls Try.prog 34 #[.agg #[.int .i64 t.fn, .slice A2 t.args.length c2], .slice Al l.length cl] w1 (RPlPost w3.heap.size Y w1) := fun w1 hb => by
            rw [← hY]
            have hb' : Below w3.heap.size w3 w1 := (Below.refl _ _).drew.trans (hb.mono (Nat.le_refl _))
            have h1 := HtW.out.on hbw3
            have h2 := HlW.out.on hbw3
            exact lpoPut_any l t (by omega) A2 Al c2 cl w3.heap.size w1 h1.i64 (h1.args.keep fun g hg => hb'.block g hg) (h2.keep fun g hg => hb'.block g hg) hb'.size
          clear hX hY
          obtain ⟨q2, q3⟩ := HQ.out w3 hbw3
          refine wp_region_facts3 8 (RR w3.heap.size 11 12 38 41 X Y) 70 [[(7, none)], [(4, none)], [(36, some 0), (37, some 1)], [(8, none)], [(4, none)], [(39, some 3), (40, some 4)], [], []] [Fct.eq (.agg #[.int .i64 s.fn, .slice A s.args.length c]), Fct.eq (.slice Al l.length cl), Fct.has, Fct.eq (.agg #[.int .i64 t.fn, .slice A2 t.args.length c2]), Fct.eq (.slice Al l.length cl), Fct.has, Fct.has, Fct.has] (by kernel_rfl) (by decide +kernel) (by decide +kernel) (by kernel_rfl) ?_ ?_ ?_
          · exact ⟨.inl rfl, .inl rfl, .inl rfl, .inl rfl, fun b e => by cases e⟩
          · exact ⟨sg_load rfl q2 (by decide) (by decide) (by decide) (by decide), sg_move rfl (by decide) (by decide) (by decide) (by decide), sg_call1 (enters_of Try.func34 (by kernel_rfl) rfl) hp1 rfl rfl (by decide) (by decide) (by decide) (by decide),
              sg_load rfl q3 (by decide) (by decide) (by decide) (by decide), sg_move rfl (by decide) (by decide) (by decide) (by decide), sg_call2 (enters_of Try.func34 (by kernel_rfl) rfl) hp2 rfl rfl (by decide) (by decide) (by decide) (by decide),
              sg_box1 (by decide) (by decide) (by decide) (by decide) (Nat.le_refl _), sg_box2 (by decide) (by decide) (by decide) (by decide) (Nat.le_refl _), trivial⟩
          · intro w4 hb4
            generalize hA0 : ({ tmps := _, defers := _ } : Act) = a0
            have hsz : a0.tmps.size = 70 := by rw [← hA0]; rfl
            simp only [List.take_succ_cons, List.take_zero, List.drop_succ_cons, List.drop_zero]
            refine FinS.some rfl fun u0 e0 => FinS.some rfl fun u1 e1 => FinS.some rfl fun u2 e2 => FinS.some rfl fun u3 e3 => FinS.some rfl fun u4 e4 => FinS.some rfl fun u5 e5 => FinS.some rfl fun u6 e6 => FinS.some rfl fun u7 e7 => FinS.nil fun hR => ?_
            have r1 := hR.g1
            have r2 := hR.g2
            have r3 := hR.p1
            have r4 := hR.p2
            have r5 := hR.ne
            clear hR
            have q38 : ((((((((a0.put (some 36) u0).put (some 37) u1).put (some 38) u2).put (some 39) u3).put (some 40) u4).put (some 41) u5).put (some 11) u6).put (some 12) u7).eval (.tmp 38) = u2 := by simp [Act.put, Act.eval, hsz]
            have q41 : ((((((((a0.put (some 36) u0).put (some 37) u1).put (some 38) u2).put (some 39) u3).put (some 40) u4).put (some 41) u5).put (some 11) u6).put (some 12) u7).eval (.tmp 41) = u5 := by simp [Act.put, Act.eval, hsz]
            have q11 : ((((((((a0.put (some 36) u0).put (some 37) u1).put (some 38) u2).put (some 39) u3).put (some 40) u4).put (some 41) u5).put (some 11) u6).put (some 12) u7).eval (.tmp 11) = u6 := by simp [Act.put, Act.eval, hsz]
            have q12 : ((((((((a0.put (some 36) u0).put (some 37) u1).put (some 38) u2).put (some 39) u3).put (some 40) u4).put (some 41) u5).put (some 11) u6).put (some 12) u7).eval (.tmp 12) = u7 := by simp [Act.put, Act.eval, hsz]
            rw [q38] at r1 r3 r4
            rw [q41] at r2 r3 r4
            rw [q11] at r3 r5
            rw [q12] at r4 r5
            obtain ⟨bx, by', B1, B2, d1, d2, V⟩ := two_of r1 r2 r3 r4 r5 e6 e7 e2 e5
            obtain ⟨rfl, rfl, rfl, rfl, hgx, hgy, hne, zx, zy, i1, i2, k1, k2⟩ := V
            clear r1 r2 r3 r4 r5 e6 e7 e2 e5
            have hbw4 : Below w3.heap.size w3 w4 := (Below.refl _ _).drew.trans (hb4.mono (Nat.le_refl _))
            have H5 := Lib.hid (two_stored hbw4 hgx hgy hne zx zy i1 i2 k1 k2)
            refine tail_stores (bx := bx) (by' := by') q11 q12 q38 q41 zx zy hne ?_
            obtain ⟨w5, hw5⟩ : ∃ w5, ((((w4.setCell ⟨bx, 0, none⟩ (.int .i64 X.fn)).setCell ⟨bx, 1, none⟩ (.slice B1 X.args.length d1)).setCell ⟨by', 0, none⟩ (.int .i64 Y.fn)).setCell ⟨by', 1, none⟩ (.slice B2 Y.args.length d2)) = w5 := ⟨_, rfl⟩
            rw [hw5] at H5 ⊢
            clear hw5 zx zy i1 i2 k1 k2 q11 q12 q38 q41
            subst hA0
            clear hsz
            simp only [Act.put]
            have hbw5 := hbw3.trans (H5.out.blw.mono hbw3.size)
            obtain ⟨⟨x0, x1, x2, x3, x4⟩, x5, x6, x7, x8⟩ := HX.out w5 hbw5
            have HC : Hid (∀ w1, Below w5.heap.size w5 w1 → w1.cell? ⟨bx, 0, none⟩ = some (.int .i64 X.fn) ∧ w1.cell? ⟨bx, 1, none⟩ = some (.slice B1 X.args.length d1) ∧ w1.cell? ⟨by', 0, none⟩ = some (.int .i64 Y.fn) ∧ w1.cell? ⟨by', 1, none⟩ = some (.slice B2 Y.args.length d2)) := Lib.hid fun w1 hb => by
              obtain ⟨m0, m1, _, _⟩ := cells_two ((hb.block _ (Array.getElem?_eq_some_iff.1 H5.out.bx).1).trans H5.out.bx)
              obtain ⟨m2, m3, _, _⟩ := cells_two ((hb.block _ (Array.getElem?_eq_some_iff.1 H5.out.by').1).trans H5.out.by')
              exact ⟨m0, m1, m2, m3⟩
            obtain ⟨m0, m1, m2, m3⟩ := HC.out w5 (Below.refl _ _)
            have hb6 : Below w5.heap.size w5 (w5.alloc (.cells #[.int .i64 X.fn, .slice B1 X.args.length d1, .int .i64 Y.fn, .slice B2 Y.args.length d2] 27)) := (Below.refl _ _).alloc (Nat.le_refl _) _
            have HB6 := Lib.hid hb6
            have hXl : X.size ≤ 4611686018427387904 := by
              have h1 : s.size * (1 + sizes l) ≤ 1048576 * 2001 := Nat.mul_le_mul hzs (by omega)
              omega
            have hYl : Y.size ≤ 4611686018427387904 := by
              have h1 : t.size * (1 + sizes l) ≤ 1048576 * 2001 := Nat.mul_le_mul hzt (by omega)
              omega
            have HG3 : Hid (Calls Try.prog 27 #[.slice (some ⟨w5.heap.size, 0, none⟩) 2 2] (w5.alloc (.cells #[.int .i64 X.fn, .slice B1 X.args.length d1, .int .i64 Y.fn, .slice B2 Y.args.length d2] 27)) fun e w' => e = .returned (.bool (decide (2000 < sizes [X, Y]))) ∧ Below (w5.alloc (.cells #[.int .i64 X.fn, .slice B1 X.args.length d1, .int .i64 Y.fn, .slice B2 Y.args.length d2] 27)).heap.size (w5.alloc (.cells #[.int .i64 X.fn, .slice B1 X.args.length d1, .int .i64 Y.fn, .slice B2 Y.args.length d2] 27)) w') := Lib.hid (lpoGreat_any [X, Y] (fun x hx => by simp at hx; rcases hx with rfl | rfl <;> assumption) (some ⟨w5.heap.size, 0, none⟩) 2 (w5.alloc (.cells #[.int .i64 X.fn, .slice B1 X.args.length d1, .int .i64 Y.fn, .slice B2 Y.args.length d2] 27)) (row_two H5.out.k1 H5.out.k2 (Below.refl _ _)))
            have HF3 : Hid (∀ w1, Below w5.heap.size w5 w1 → Calls Try.prog 32 #[.agg #[.slice As n cs], .agg #[.bool o.lpo, .slice P o.prec.length pc, .slice Q o.wts.length qc, .int .i64 o.var], .slice (some ⟨w1.heap.size, 0, none⟩) 2 2] (w1.alloc (.cells #[.int .i64 X.fn, .slice B1 X.args.length d1, .int .i64 Y.fn, .slice B2 Y.args.length d2] 27)) fun e w' => e = .returned (.bool (fitsQ sy o [X, Y])) ∧ Below w1.heap.size w1 w') := Lib.hid fun w1 hb => by
              have hb1 : Below w1.heap.size w1 (w1.alloc (.cells #[.int .i64 X.fn, .slice B1 X.args.length d1, .int .i64 Y.fn, .slice B2 Y.args.length d2] 27)) := (Below.refl _ _).alloc (Nat.le_refl _) _
              exact (lpoFits_any sy o [X, Y] As P Q (some ⟨w1.heap.size, 0, none⟩) n cs pc qc 2 _ (((HSW.out.on hbw5).on hb).on hb1) hn (((HMW.out.on hbw5).on hb).on hb1) (fun x hx => by simp at hx; rcases hx with rfl | rfl <;> assumption) (row_two H5.out.k1 H5.out.k2 hb)).mono fun e w' ⟨he, hw⟩ => ⟨he, hb1.trans (hw.mono hb1.size)⟩
            clear hb6 hXl hYl hXz hYz
            cases hg3 : decide (2000 < sizes [X, Y]) with
            | true =>
              rw [hg3] at HG3
              clear hg3
              go_wp2_with (first
                | (go_at_call 27; go_must ((with_reducible refine HG3.out.mono ?_); rintro e w6 ⟨rfl, hb6⟩; have hbw6 := HB6.out.trans (hb6.mono HB6.out.size); have hbW6 := hbw5.trans (hbw6.mono hbw5.size); obtain ⟨⟨y0, y1, y2, y3, y4⟩, y5, y6, y7, y8⟩ := HX.out w6 hbW6; obtain ⟨s0, s1, s2, s3⟩ := HC.out w6 hbw6))
                | (go_at_call 28; go_must ((with_reducible refine (Hwk.out _).mono ?_); rintro e w9 ⟨rfl, hb9⟩))
                | fail)
              go_ret
              exact ⟨rfl, HBB.out _ (hbW6.trans (hb9.mono hbW6.size))⟩
            | false =>
              rw [hg3] at HG3
              have hsz2 : X.size + Y.size ≤ 2000 := by
                have h := of_decide_eq_false hg3
                simp only [sizes] at h
                omega
              have GXY := Lib.hid (lpoAbove_at (pc := pc) (qc := qc) hrk (HMW.out.on hbw5) H5.out.k1 H5.out.k2 (by omega))
              clear hg3 hsz2
              cases hf3 : fitsQ sy o [X, Y] with
              | false =>
                rw [hf3] at HF3
                clear hf3
                go_wp2_with (first
                  | (go_at_call 27; go_must ((with_reducible refine HG3.out.mono ?_); rintro e w6 ⟨rfl, hb6⟩; have hbw6 := HB6.out.trans (hb6.mono HB6.out.size); have hbW6 := hbw5.trans (hbw6.mono hbw5.size); obtain ⟨⟨y0, y1, y2, y3, y4⟩, y5, y6, y7, y8⟩ := HX.out w6 hbW6; obtain ⟨s0, s1, s2, s3⟩ := HC.out w6 hbw6))
                  | (go_at_call 32; go_must ((with_reducible refine (HF3.out w6 hbw6).mono ?_); rintro e w7 ⟨rfl, hb7⟩; have hbw7 := hbw6.trans (hb7.mono hbw6.size); have hbW7 := hbw5.trans (hbw7.mono hbw5.size); obtain ⟨⟨z0, z1, z2, z3, z4⟩, z5, z6, z7, z8⟩ := HX.out w7 hbW7))
                  | (go_at_call 28; go_must ((with_reducible refine (Hwk.out _).mono ?_); rintro e w9 ⟨rfl, hb9⟩))
                  | fail)
                go_ret
                exact ⟨rfl, HBB.out _ (hbW7.trans (hb9.mono hbW7.size))⟩
              | true =>
                rw [hf3] at HF3
                obtain ⟨p1, hp1⟩ : ∃ p, (cmpP o.prec s t == 3) = p := ⟨_, rfl⟩
                obtain ⟨p2, hp2⟩ : ∃ p, (cmpP o.prec X Y == 3) = p := ⟨_, rfl⟩
                rw [hp1] at Gst
                rw [hp2] at GXY
                have HP : Hid (p1 = true → p2 = true) := Lib.hid (by
                  have hft := Hft.out
                  have hgd := fitsQ_gd hft
                  have hgd2 := fitsQ_gd hf3
                  have hK : AdmL o.prec (arL sy) := by
                    unfold fitsQ at hft
                    simp only [Bool.and_eq_true, decide_eq_true_eq] at hft
                    exact chkO_admL hft.2.1
                  intro h
                  rw [← hp1] at h
                  rw [← hp2]
                  simp only [beq_iff_eq] at h ⊢
                  have gs := hgd s (by simp)
                  have gt := hgd t (by simp)
                  have gX := hgd2 X (by simp)
                  have gY := hgd2 Y (by simp)
                  obtain ⟨hX, hY⟩ := HXY.out
                  rw [cmpP_three hK gs gt] at h
                  rw [cmpP_three hK gX gY]
                  rw [← hX] at gX ⊢
                  rw [← hY] at gY ⊢
                  exact lp_put _ s t (Nat.le_refl _) (wf_vn s gs.wf) (wf_vn t gt.wf) (wf_vn _ gX.wf) (wf_vn _ gY.wf) h)
                clear hp1 hp2 hf3
                cases p1 with
                | false =>
                  go_wp2_with (first
                    | (go_at_call 27; go_must ((with_reducible refine HG3.out.mono ?_); rintro e w6 ⟨rfl, hb6⟩; have hbw6 := HB6.out.trans (hb6.mono HB6.out.size); have hbW6 := hbw5.trans (hbw6.mono hbw5.size); obtain ⟨⟨y0, y1, y2, y3, y4⟩, y5, y6, y7, y8⟩ := HX.out w6 hbW6; obtain ⟨s0, s1, s2, s3⟩ := HC.out w6 hbw6))
                    | (go_at_call 32; go_must ((with_reducible refine (HF3.out w6 hbw6).mono ?_); rintro e w7 ⟨rfl, hb7⟩; have hbw7 := hbw6.trans (hb7.mono hbw6.size); have hbW7 := hbw5.trans (hbw7.mono hbw5.size); obtain ⟨⟨z0, z1, z2, z3, z4⟩, z5, z6, z7, z8⟩ := HX.out w7 hbW7))
                    | (go_at_call 31; ((with_reducible refine (Gst.out w7 hbW7).mono ?_); rintro e w8 ⟨rfl, hb8⟩; have hbw8 := hbw7.trans (hb8.mono hbw7.size); have hbW8 := hbw5.trans (hbw8.mono hbw5.size); obtain ⟨⟨v0, v1, v2, v3, v4⟩, v5, v6, v7, v8⟩ := HX.out w8 hbW8; obtain ⟨t0, t1, t2, t3⟩ := HC.out w8 hbw8))
                    | (go_at_call 28; go_must ((with_reducible refine (Hwk.out _).mono ?_); rintro e w9 ⟨rfl, hb9⟩))
                    | fail)
                  go_ret
                  exact ⟨rfl, HBB.out _ (hbW8.trans (hb9.mono hbW8.size))⟩
                | true =>
                  obtain rfl := HP.out rfl
                  go_wp2_with (first
                    | (go_at_call 27; go_must ((with_reducible refine HG3.out.mono ?_); rintro e w6 ⟨rfl, hb6⟩; have hbw6 := HB6.out.trans (hb6.mono HB6.out.size); have hbW6 := hbw5.trans (hbw6.mono hbw5.size); obtain ⟨⟨y0, y1, y2, y3, y4⟩, y5, y6, y7, y8⟩ := HX.out w6 hbW6; obtain ⟨s0, s1, s2, s3⟩ := HC.out w6 hbw6))
                    | (go_at_call 32; go_must ((with_reducible refine (HF3.out w6 hbw6).mono ?_); rintro e w7 ⟨rfl, hb7⟩; have hbw7 := hbw6.trans (hb7.mono hbw6.size); have hbW7 := hbw5.trans (hbw7.mono hbw5.size); obtain ⟨⟨z0, z1, z2, z3, z4⟩, z5, z6, z7, z8⟩ := HX.out w7 hbW7))
                    | (go_at_call 31; ((with_reducible refine (Gst.out w7 hbW7).mono ?_); rintro e w8 ⟨rfl, hb8⟩; have hbw8 := hbw7.trans (hb8.mono hbw7.size); have hbW8 := hbw5.trans (hbw8.mono hbw5.size); obtain ⟨⟨v0, v1, v2, v3, v4⟩, v5, v6, v7, v8⟩ := HX.out w8 hbW8; obtain ⟨t0, t1, t2, t3⟩ := HC.out w8 hbw8))
                    | (go_at_call 31; ((with_reducible refine (GXY.out w8 hbw8).mono ?_); rintro e w10 ⟨rfl, hb10⟩; have hbw10 := hbw8.trans (hb10.mono hbw8.size); have hbW10 := hbw5.trans (hbw10.mono hbw5.size)))
                    | (go_at_call 28; go_must ((with_reducible refine (Hwk.out _).mono ?_); rintro e w9 ⟨rfl, hb9⟩))
                    | fail)
                  go_ret
                  exact ⟨rfl, HBB.out _ (hbW10.trans (hb9.mono hbW10.size))⟩

end Go.Proofs.Ytnmpeodngipfcaa

/- A row of terms that is an argument; each has room for what it holds. -/

namespace Go.Proofs.Ytnmpeodngipfcaa

open Go.ChangeShapes Go.WideShapes Go.ChangeAt Go.RowKit
set_option maxRecDepth 20000

section

variable {H : Type} {enc : TypeId × Value → H} {W : World} {base : Nat} {held : Bool}

theorem trodk_terms {n : Nat} {c1 : Value} {x : DataW H × List MemPlace} (g1 : DataW.trod enc Try.prog W base (fun _ => true) held n 25 [c1] = some x) :
    ∃ (l : List Tm) (A : Option Addr) (c : Nat), c1 = .slice A l.length c ∧ ArgsK W (· < W.heap.size) A c l ∧ sizes l ≤ Rows.uptoBulk x.1 := by
  rcases DataW.trod_slice Try.underlying25 g1 with ⟨hv, e1⟩ | ⟨a, len, cap, elems, rest, m, hm, hv, e1, _, hl, hmax, hlenE, hel, _, _⟩
  · injection hv with hv
    subst hv
    refine ⟨[], none, 0, rfl, .nil none 0, ?_⟩
    simp [sizes]
  · injection hv with hv
    subst hv
    have each : ∀ i, i < len → ∃ q : Tm × Option Addr × Nat × DataW H, I64 q.1.fn ∧ W.cell? (a.add (i * 2)) = some (.int .i64 q.1.fn) ∧ W.cell? ((a.add (i * 2)).add 1) = some (.slice q.2.1 q.1.args.length q.2.2.1) ∧ ArgsK W (· < W.heap.size) q.2.1 q.2.2.1 q.1.args ∧ q.1.size ≤ Rows.uptoBulk q.2.2.2 ∧ (elems.map (·.1))[i]? = some q.2.2.2 := by
      intro i hi
      have h1 := hel i hi
      rw [cellsTerm] at h1
      rw [List.getElem?_eq_getElem (by omega)] at h1
      cases hc : W.cells? base (a.add (i * 2)) 2 with
      | none => rw [hc] at h1; cases h1
      | some cs' =>
        rw [hc] at h1
        simp only [Option.bind_some] at h1
        obtain ⟨t, A, c, rfl, ht64, hA, hb⟩ := trodk_term m cs' _ h1
        obtain ⟨_, _, hat⟩ := World.cells?_some hc
        refine ⟨(t, A, c, (elems[i]'(by omega)).1), ht64, ?_, hat 1 (by omega), hA, hb, by rw [List.getElem?_map, List.getElem?_eq_getElem (show i < elems.length by omega)]; rfl⟩
        have := hat 0 (by omega)
        simpa [Addr.add] using this
    haveI : Inhabited (Tm × Option Addr × Nat × DataW H) := ⟨(.node 0 [], none, 0, .nil)⟩
    obtain ⟨q, hq⟩ := Go.Deep.choose_lt each
    have hget : ∀ (i : Nat) (t : Tm), ((List.range len).map fun i => (q i).1)[i]? = some t → i < len ∧ t = (q i).1 := by
      intro i t e
      have hi : i < len := by have := (List.getElem?_eq_some_iff.1 e).1; simpa using this
      rw [List.getElem?_map, List.getElem?_range hi] at e
      simp at e
      exact ⟨hi, e.symm⟩
    refine ⟨(List.range len).map fun i => (q i).1, some a, cap, by simp, ?_, ?_⟩
    · rcases Nat.eq_zero_or_pos len with h0 | h0
      · subst h0; exact .nil _ _
      · have c00 := (hq 0 h0).2.1
        simp only [Nat.zero_mul, Addr.add, if_true] at c00
        obtain ⟨blk, off, spot⟩ := a
        obtain rfl : spot = none := cell_spot c00
        have hblk : blk < W.heap.size := by
          unfold World.cell? at c00
          rcases Nat.lt_or_ge blk W.heap.size with h1 | h1
          · exact h1
          · simp [Array.getElem?_eq_none h1] at c00
        refine .row blk off cap _ (fun i => (q i).2.1) (fun i => (q i).2.2.1) (by simpa using hl) hblk (by unfold maxLen at hmax; simp; omega) (fun i t e => ?_) (fun i t e => ?_) (fun i t e => ?_) (fun i t e => ?_)
        · obtain ⟨hi, rfl⟩ := hget i t e
          exact (hq i hi).1
        · obtain ⟨hi, rfl⟩ := hget i t e
          have := (hq i hi).2.1
          rwa [Addr.add_lit] at this
        · obtain ⟨hi, rfl⟩ := hget i t e
          have := (hq i hi).2.2.1
          rwa [Addr.add_lit, Addr.add_lit] at this
        · obtain ⟨hi, rfl⟩ := hget i t e
          exact (hq i hi).2.2.2.1
    · have hb : sizes ((List.range len).map fun i => (q i).1) ≤ Rows.uptoBulkAll (elems.map (·.1)) := by
        refine bulk_all _ _ (by simp [hlenE]) fun i t d e1 e2 => ?_
        obtain ⟨hi, rfl⟩ := hget i t e1
        have h5 := (hq i hi).2.2.2.2
        rw [h5.2] at e2
        cases e2
        exact h5.1
      simp only [e1, Rows.uptoBulk]
      omega

theorem openk_terms {r : Reach} {b0 : Nat} {v : Value} {d : DataW H} {ps : List MemPlace} (hv : Value.okWide Try.prog W r b0 25 v) (h : DataW.Trod enc Try.prog W base (fun _ => true) held 25 v d ps) :
    ∃ (l : List Tm) (A : Option Addr) (c : Nat), v = .slice A l.length c ∧ ArgsK W (· < W.heap.size) A c l ∧ sizes l ≤ Rows.uptoBulk d := by
  obtain ⟨a0, len0, cap0, rfl⟩ := okWide_slice Try.underlying25 hv
  obtain ⟨fuel, hf⟩ := h
  have hf' : DataW.trod enc Try.prog W base (fun _ => true) held fuel 25 [.slice a0 len0 cap0] = some (d, ps) := hf
  exact trodk_terms hf'

end

end Go.Proofs.Ytnmpeodngipfcaa

