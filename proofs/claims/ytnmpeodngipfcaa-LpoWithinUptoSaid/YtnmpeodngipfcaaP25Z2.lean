import Derived.Test.YtnmpeodngipfcaaP22Z12
import Derived.Test.YtnmpeodngipfcaaP25Z1
import Derived.Test.YtnmpeodngipfcaaP24Z3
import Derived.Test.YtnmpeodngipfcaaP24Z1
import Derived.Test.YtnmpeodngipfcaaP22Z7
/- LpoWithin, the law. -/

namespace Go.Proofs.Ytnmpeodngipfcaa

open Go.RowKit Go.Shelf Go.Maps
set_option maxRecDepth 100000

set_option maxHeartbeats 8000000 in
theorem lpoWithin_of (sy : List Sm) (o : Odr) (s t u : Tm) (which : Int) (As P Q A A2 A3 : Option Addr) (n cs pc qc c c2 c3 : Nat) (w : World) (hS : Syms w w.heap.size As n sy) (hn : n * 32 ≤ 140737488351232) (hM : OdrM w w.heap.size o P Q) (hrk : o.prec.length ≤ 140737488351232) (hs : TmK w s A c) (ht : TmK w t A2 c2) (hu : TmK w u A3 c3) (hzs : s.size ≤ 1048576) (hzt : t.size ≤ 1048576) (hzu : u.size ≤ 1048576) :
    Calls Try.prog 12 #[.agg #[.slice As n cs], .agg #[.bool o.lpo, .slice P o.prec.length pc, .slice Q o.wts.length qc, .int .i64 o.var], .agg #[.int .i64 s.fn, .slice A s.args.length c], .agg #[.int .i64 t.fn, .slice A2 t.args.length c2], .agg #[.int .i64 u.fn, .slice A3 u.args.length c3], .int .i64 which] w fun e w' => e = .returned (.bool true) ∧ Below w.heap.size w w' := by
  obtain ⟨W, hW⟩ : ∃ W, (((((w.alloc (.cells #[.slice As n cs] 36)).alloc (.cells #[.bool o.lpo, .slice P o.prec.length pc, .slice Q o.wts.length qc, .int .i64 o.var] 24)).alloc (.cells #[.int .i64 s.fn, .slice A s.args.length c] 27)).alloc (.cells #[.int .i64 t.fn, .slice A2 t.args.length c2] 27)).alloc (.cells #[.int .i64 u.fn, .slice A3 u.args.length c3] 27)) = W := ⟨_, rfl⟩
  obtain ⟨hB, hX⟩ := box5_of hW
  have HQ := Lib.hid (box5_heap hW)
  have HW := Lib.hid hW
  have HX := Lib.hid hX
  have hsW := hs.on hB
  have htW := ht.on hB
  have huW := hu.on hB
  have hMW := hM.on hB
  have hSW := hS.on hB
  have hb5 : Below W.heap.size W (W.alloc (.cells #[.int .i64 s.fn, .slice A s.args.length c, .int .i64 t.fn, .slice A2 t.args.length c2, .int .i64 u.fn, .slice A3 u.args.length c3] 27)) := (Below.refl _ _).alloc (Nat.le_refl _) _
  have HB5 := Lib.hid hb5
  have HG : Hid (Calls Try.prog 27 #[.slice (some ⟨W.heap.size, 0, none⟩) 3 3] (W.alloc (.cells #[.int .i64 s.fn, .slice A s.args.length c, .int .i64 t.fn, .slice A2 t.args.length c2, .int .i64 u.fn, .slice A3 u.args.length c3] 27)) fun e w' => e = .returned (.bool (decide (2000 < sizes [s, t, u]))) ∧ Below (W.alloc (.cells #[.int .i64 s.fn, .slice A s.args.length c, .int .i64 t.fn, .slice A2 t.args.length c2, .int .i64 u.fn, .slice A3 u.args.length c3] 27)).heap.size (W.alloc (.cells #[.int .i64 s.fn, .slice A s.args.length c, .int .i64 t.fn, .slice A2 t.args.length c2, .int .i64 u.fn, .slice A3 u.args.length c3] 27)) w') := Lib.hid (lpoGreat_any [s, t, u] (fun x hx => by simp at hx; rcases hx with rfl | rfl | rfl <;> omega) (some ⟨W.heap.size, 0, none⟩) 3 (W.alloc (.cells #[.int .i64 s.fn, .slice A s.args.length c, .int .i64 t.fn, .slice A2 t.args.length c2, .int .i64 u.fn, .slice A3 u.args.length c3] 27)) (row_three hsW htW huW (Below.refl _ _)))
  have HF : Hid (∀ w1, Below W.heap.size W w1 → Calls Try.prog 32 #[.agg #[.slice As n cs], .agg #[.bool o.lpo, .slice P o.prec.length pc, .slice Q o.wts.length qc, .int .i64 o.var], .slice (some ⟨w1.heap.size, 0, none⟩) 3 3] (w1.alloc (.cells #[.int .i64 s.fn, .slice A s.args.length c, .int .i64 t.fn, .slice A2 t.args.length c2, .int .i64 u.fn, .slice A3 u.args.length c3] 27)) fun e w' => e = .returned (.bool (fitsQ sy o [s, t, u])) ∧ Below w1.heap.size w1 w') := Lib.hid fun w1 hb => by
    have hb1 : Below w1.heap.size w1 (w1.alloc (.cells #[.int .i64 s.fn, .slice A s.args.length c, .int .i64 t.fn, .slice A2 t.args.length c2, .int .i64 u.fn, .slice A3 u.args.length c3] 27)) := (Below.refl _ _).alloc (Nat.le_refl _) _
    exact (lpoFits_any sy o [s, t, u] As P Q (some ⟨w1.heap.size, 0, none⟩) n cs pc qc 3 _ ((hSW.on hb).on hb1) hn ((hMW.on hb).on hb1) (fun x hx => by simp at hx; rcases hx with rfl | rfl | rfl <;> omega) (row_three hsW htW huW hb)).mono fun e w' ⟨he, hw⟩ => ⟨he, hb1.trans (hw.mono hb1.size)⟩
  have Hwk := Lib.hid lpoWakes_any
  have Hst := Lib.hid (lpoCmp_at (pc := pc) (qc := qc) hrk hMW hsW htW (by omega))
  have Gst := Lib.hid (lpoAbove_at (pc := pc) (qc := qc) hrk hMW hsW htW (by omega))
  have HVs : Hid (∀ w1, Below W.heap.size W w1 → Calls Try.prog 25 #[.agg #[.int .i64 s.fn, .slice A s.args.length c]] w1 fun e w' => ∃ A c, e = .returned (.slice A (nvT s) c) ∧ Below w1.heap.size w1 w') := Lib.hid fun w1 hb => vars_len s A c w1 hs.i64 (by omega) (hsW.on hb).args.toA
  have HVt : Hid (∀ w1, Below W.heap.size W w1 → Calls Try.prog 25 #[.agg #[.int .i64 t.fn, .slice A2 t.args.length c2]] w1 fun e w' => ∃ A c, e = .returned (.slice A (nvT t) c) ∧ Below w1.heap.size w1 w') := Lib.hid fun w1 hb => vars_len t A2 c2 w1 ht.i64 (by omega) (htW.on hb).args.toA
  have HPl : Hid (∀ w1, Below W.heap.size W w1 → Calls Try.prog 23 #[.agg #[.int .i64 u.fn, .slice A3 u.args.length c3]] w1 (RPlacesPostK u w1)) := Lib.hid fun w1 hb => refPlacesK_any u (by omega) A3 c3 w1 (huW.on hb).i64 (huW.on hb).args.toA
  have HBB : Hid (∀ w1, Below W.heap.size W w1 → Below w.heap.size w w1) := Lib.hid fun w1 h => hB.trans (h.mono hB.size)
  obtain ⟨⟨x0, x1, x2, x3, x4⟩, x5, x6, x7, x8, x9, x10⟩ := hX W (Below.refl _ _)
  have HsW := Lib.hid hsW
  have HtW := Lib.hid htW
  have HuW := Lib.hid huW
  have HMW := Lib.hid hMW
  have HSW := Lib.hid hSW
  clear hW hX hS hM hs ht hu hsW htW huW hMW hSW hb5 hB
  cases hgr : decide (2000 < sizes [s, t, u]) with
  | true =>
    rw [hgr] at HG
    clear hgr
    go_enter Try.func12, Try.ntmps12
    go_upto_region 1 with fail
    rw [HW.out]
    go_wp2_with (first
      | (go_at_call 27; go_must ((with_reducible refine HG.out.mono ?_); rintro e w1 ⟨rfl, hb1⟩; have hbw1 := HB5.out.trans (hb1.mono HB5.out.size); obtain ⟨⟨y0, y1, y2, y3, y4⟩, y5, y6, y7, y8, y9, y10⟩ := HX.out w1 hbw1))
      | (go_at_call 28; go_must ((with_reducible refine (Hwk.out _).mono ?_); rintro e w9 ⟨rfl, hb9⟩))
      | fail)
    go_ret
    exact ⟨rfl, HBB.out _ (hbw1.trans (hb9.mono hbw1.size))⟩
  | false =>
    rw [hgr] at HG
    clear hgr
    cases hft : fitsQ sy o [s, t, u] with
    | false =>
      rw [hft] at HF
      clear hft
      go_enter Try.func12, Try.ntmps12
      go_upto_region 1 with fail
      rw [HW.out]
      go_wp2_with (first
        | (go_at_call 27; go_must ((with_reducible refine HG.out.mono ?_); rintro e w1 ⟨rfl, hb1⟩; have hbw1 := HB5.out.trans (hb1.mono HB5.out.size); obtain ⟨⟨y0, y1, y2, y3, y4⟩, y5, y6, y7, y8, y9, y10⟩ := HX.out w1 hbw1))
        | (go_at_call 32; go_must ((with_reducible refine (HF.out w1 hbw1).mono ?_); rintro e w2 ⟨rfl, hb2⟩; have hbw2 := hbw1.trans (hb2.mono hbw1.size)))
        | (go_at_call 28; go_must ((with_reducible refine (Hwk.out _).mono ?_); rintro e w9 ⟨rfl, hb9⟩))
        | fail)
      go_ret
      exact ⟨rfl, HBB.out _ (hbw2.trans (hb9.mono hbw2.size))⟩
    | true =>
      rw [hft] at HF
      have hgd := fitsQ_gd hft
      have hK : AdmL o.prec (arL sy) := by
        unfold fitsQ at hft
        simp only [Bool.and_eq_true, decide_eq_true_eq] at hft
        exact chkO_admL hft.2.1
      have gs := hgd s (by simp)
      have gt := hgd t (by simp)
      have gu := hgd u (by simp)
      have HK := Lib.hid (And.intro hK (And.intro gs (And.intro gt gu)))
      obtain ⟨r, hr⟩ : ∃ r, cmpP o.prec s t = r := ⟨_, rfl⟩
      obtain ⟨bb, hbb⟩ : ∃ b, ((nvT s : Int) + (nvT t : Int) == 0) = b := ⟨_, rfl⟩
      have hr0 : bb = true → (r == 0) = false := by
        intro hb
        rw [← hbb] at hb
        simp only [beq_iff_eq] at hb
        have e1 : nvT s = 0 := by omega
        have e2 : nvT t = 0 := by omega
        have g1 := vn_grd s (fold_ne _ _ (List.eq_nil_of_length_eq_zero e1)).1
        have g2 := vn_grd t (fold_ne _ _ (List.eq_nil_of_length_eq_zero e2)).1
        rw [← hr, cmpP_gd hK gs gt]
        rcases lp_tot hK _ s t (Nat.le_refl _) gs.wf gt.wf g1 g2 with h | h | h
        · rw [if_pos (cmp_zero_iff.2 h)]; rfl
        · by_cases h0 : cmpT s t = 0
          · rw [if_pos h0]; rfl
          · rw [if_neg h0, if_pos h]; rfl
        · by_cases h0 : cmpT s t = 0
          · rw [if_pos h0]; rfl
          · by_cases h1 : lpT o.prec s t = true
            · rw [if_neg h0, if_pos h1]; rfl
            · rw [if_neg h0, if_neg h1, if_pos h]; rfl
      have hwr : IntKind.i64.wrap ((nvT s : Int) + (nvT t : Int)) = (nvT s : Int) + (nvT t : Int) := by
        have h1 : nvT s ≤ 0 + (vn s).length := fold_len (vn s) []
        have h2 : nvT t ≤ 0 + (vn t).length := fold_len (vn t) []
        have h3 := vn_len s
        have h4 := vn_len t
        rw [IntKind.wrap_i64]; omega
      rw [hr] at Hst Gst
      clear hft hgd hK gs gt gu
      have Hr := Lib.hid hr
      have Hwr := Lib.hid hwr
      have Hbb := Lib.hid hbb
      have Hr0 := Lib.hid hr0
      clear hr hwr hbb hr0
      go_enter Try.func12, Try.ntmps12
      go_upto_region 1 with fail
      rw [HW.out]
      go_upto_region 3 with (first
        | (go_at_call 27; go_must ((with_reducible refine HG.out.mono ?_); rintro e w1 ⟨rfl, hb1⟩; have hbw1 := HB5.out.trans (hb1.mono HB5.out.size); obtain ⟨⟨y0, y1, y2, y3, y4⟩, y5, y6, y7, y8, y9, y10⟩ := HX.out w1 hbw1))
        | (go_at_call 32; go_must ((with_reducible refine (HF.out w1 hbw1).mono ?_); rintro e w2 ⟨rfl, hb2⟩; have hbw2 := hbw1.trans (hb2.mono hbw1.size)))
        | fail)
      have hv1 : ∀ w1, Below w2.drew.heap.size w2.drew w1 → Calls Try.prog 25 #[.agg #[.int .i64 s.fn, .slice A s.args.length c]] w1 fun e w' => ∃ A c, e = .returned (.slice A (nvT s) c) ∧ Below w1.heap.size w1 w' := fun w1 hb => HVs.out w1 (hbw2.trans (((Below.refl _ _).drew.trans (hb.mono (Nat.le_refl _))).mono hbw2.size))
      have hv2 : ∀ w1, Below w2.drew.heap.size w2.drew w1 → Calls Try.prog 25 #[.agg #[.int .i64 t.fn, .slice A2 t.args.length c2]] w1 fun e w' => ∃ A c, e = .returned (.slice A (nvT t) c) ∧ Below w1.heap.size w1 w' := fun w1 hb => HVt.out w1 (hbw2.trans (((Below.refl _ _).drew.trans (hb.mono (Nat.le_refl _))).mono hbw2.size))
      have hcm : ∀ w1, Below w2.drew.heap.size w2.drew w1 → Calls Try.prog 30 #[.agg #[.bool o.lpo, .slice P o.prec.length pc, .slice Q o.wts.length qc, .int .i64 o.var], .agg #[.int .i64 s.fn, .slice A s.args.length c], .agg #[.int .i64 t.fn, .slice A2 t.args.length c2]] w1 fun e w' => e = .returned (.int .i64 r) ∧ Below w1.heap.size w1 w' := fun w1 hb => Hst.out w1 (hbw2.trans (((Below.refl _ _).drew.trans (hb.mono (Nat.le_refl _))).mono hbw2.size))
      obtain ⟨q1, q2, q3⟩ := HQ.out w2 hbw2
      refine wp_region_factsS 108 [[(8, none)], [(35, some 0)], [(36, some 1)], [(9, none)], [(38, some 3)], [(39, some 4)], [(37, some 2), (40, some 5)], [(41, some 6)], [(42, some 7)], [(7, none)], [(8, none)], [(9, none)], [(44, some 9), (45, some 10), (46, some 11)], [(47, some 12)], [(43, some 8), (48, some 13)]] [Fct.eq (.agg #[.int .i64 s.fn, .slice A s.args.length c]), lenF (nvT s), Fct.eq (.int .i64 (nvT s : Int)), Fct.eq (.agg #[.int .i64 t.fn, .slice A2 t.args.length c2]), lenF (nvT t), Fct.eq (.int .i64 (nvT t : Int)), Fct.eq (.int .i64 ((nvT s : Int) + (nvT t : Int))), Fct.eq (.bool bb), Fct.eq (.bool bb), if bb then Fct.eq (.agg #[.bool o.lpo, .slice P o.prec.length pc, .slice Q o.wts.length qc, .int .i64 o.var]) else Fct.any, if bb then Fct.eq (.agg #[.int .i64 s.fn, .slice A s.args.length c]) else Fct.any, if bb then Fct.eq (.agg #[.int .i64 t.fn, .slice A2 t.args.length c2]) else Fct.any, if bb then Fct.eq (.int .i64 r) else Fct.any, if bb then Fct.eq (.bool false) else Fct.any, Fct.eq (.bool false)] (by kernel_rfl) (by decide +kernel) (by kernel_rfl) ?_ ?_
      · have hwr := Hwr.out
        have hbb := Hbb.out
        have hr0 := Hr0.out
        cases bb
        · exact ⟨st_load2 gd_none rfl q2, st_vars hv1 gd_none rfl, st_len gd_none rfl, st_load2 gd_none rfl q3, st_vars hv2 gd_none rfl, st_len gd_none rfl, st_add gd_none rfl rfl hwr, st_eqv gd_none rfl hbb, st_move gd_none rfl, st_skip rfl rfl, st_skip rfl rfl, st_skip rfl rfl, st_skip rfl rfl, st_skip rfl rfl, st_pickF gd_none rfl, trivial⟩
        · exact ⟨st_load2 gd_none rfl q2, st_vars hv1 gd_none rfl, st_len gd_none rfl, st_load2 gd_none rfl q3, st_vars hv2 gd_none rfl, st_len gd_none rfl, st_add gd_none rfl rfl hwr, st_eqv gd_none rfl hbb, st_move gd_none rfl, st_load4 (gd_true rfl) rfl q1, st_load2 (gd_true rfl) rfl q2, st_load2 (gd_true rfl) rfl q3, st_call3 (enters_of Try.func30 (by kernel_rfl) rfl) hcm (gd_true rfl) rfl rfl rfl, st_eqr (gd_true rfl) rfl (hr0 rfl), st_pickT gd_none rfl rfl, trivial⟩
      · intro w4 hb4
        generalize hA0 : ({ tmps := _, defers := _ } : Act) = a0
        refine FinS.some rfl fun u0 e0 => FinS.some rfl fun u1 e1 => FinS.some rfl fun u2 e2 => FinS.some rfl fun u3 e3 => FinS.some rfl fun u4 e4 => FinS.some rfl fun u5 e5 => FinS.some rfl fun u6 e6 => FinS.some rfl fun u7 e7 => FinS.some rfl fun u8 e8 => FinS.some rfl fun u9 e9 => FinS.some rfl fun u10 e10 => FinS.some rfl fun u11 e11 => FinS.some rfl fun u12 e12 => FinS.some rfl fun u13 e13 => FinS.some rfl fun u14 e14 => FinS.nil ?_
        have f14 : u14 = .bool false := e14
        subst f14
        have hbw4 : Below W.heap.size W w4 := hbw2.trans (((Below.refl _ _).drew.trans (hb4.mono (Nat.le_refl _))).mono hbw2.size)
        clear hv1 hv2 hcm q1 q2 q3 e0 e1 e2 e3 e4 e5 e6 e7 e8 e9 e10 e11 e12 e13
        subst hA0
        clear e14
        simp only [Act.put, List.setIfInBounds_toArray, List.set_cons_succ, List.set_cons_zero]
        obtain ⟨⟨x0, x1, x2, x3, x4⟩, x5, x6, x7, x8, x9, x10⟩ := HX.out w4 hbw4
        clear y0 y1 y2 y3 y4 y5 y6 y7 y8 y9 y10
        go_upto_region 7 with (first
          | (go_at_call 23; go_must ((with_reducible refine (HPl.out w4 hbw4).mono ?_); rintro e w5 ⟨v5, L, rfl, hL, hRow, hb5⟩; have hbw5 := hbw4.trans (hb5.mono hbw4.size); obtain ⟨Av, cv, hv⟩ := row_slice hRow.row; subst hv; have hLn : L.length = u.size := (by have h := congrArg List.length hL; rwa [vis_len, List.length_map] at h); have hup := size_pos u; obtain ⟨j, hj, hjl⟩ := idx_of which L.length (by omega) (by omega); have hLz : ¬ L.length = 0 := (by omega); obtain ⟨x, hx⟩ : ∃ x, L[j]? = some x := ⟨_, List.getElem?_eq_getElem hjl⟩; obtain ⟨g, c5, hv5, hog, hgl, k0, k1, k2, hfx⟩ := hRow.get hx; injection hv5 with hA5 _ hc5; subst hA5 hc5; obtain ⟨⟨s0, s1, s2, s3, s4⟩, s5, s6, s7, s8, s9, s10⟩ := HX.out w5 hbw5; have HLx := Lib.hid (And.intro hL (And.intro hx hfx)); have HLn := Lib.hid hLn; clear hL hRow hx hfx hog hLn hup))
          | fail)
        obtain ⟨hL, hx, hfx⟩ := HLx.out
        have hmem : x.key ∈ vis [] u := by rw [← hL]; exact List.mem_map_of_mem (List.mem_of_getElem? hx)
        obtain ⟨r1, hr1, hr2⟩ := vis_sub u [] x.p x.t hmem
        have hso : (subT u x.p).isSome = true := by rw [hr1, List.nil_append, hr2]; rfl
        obtain ⟨X, hX⟩ : ∃ X, putO u x.p s = X := ⟨_, rfl⟩
        obtain ⟨Y, hY⟩ : ∃ Y, putO u x.p t = Y := ⟨_, rfl⟩
        have hXe : putT u x.p s = X := by rw [← hX, putO_some hso]
        have hYe : putT u x.p t = Y := by rw [← hY, putO_some hso]
        have hXz := putT_sz s x.p u
        have hYz := putT_sz t x.p u
        rw [hXe] at hXz
        rw [hYe] at hYz
        have HXY := Lib.hid (And.intro hXe hYe)
        have Hso := Lib.hid hso
        have hpos : ∀ w1, Below w5.heap.size w5 w1 → Ints w1 w1.heap.size x.Ap x.p := fun w1 hb => (hfx.pos.keep fun g e => hb.block g e.2.1).ints fun g e => Nat.lt_of_lt_of_le e.2.1 hb.size
        have HP1 : Hid (∀ w1, Below w5.heap.size w5 w1 → Calls Try.prog 26 #[.agg #[.int .i64 u.fn, .slice A3 u.args.length c3], .slice x.Ap x.p.length x.cp, .agg #[.int .i64 s.fn, .slice A s.args.length c]] w1 fun e w' => ∃ B d, e = .returned (.tuple #[.agg #[.int .i64 X.fn, .slice B X.args.length d], .bool true]) ∧ TmK w' X B d ∧ Below w1.heap.size w1 w') := Lib.hid fun w1 hb => by
          have hbW1 := hbw5.trans (hb.mono hbw5.size)
          refine (refPutK_any x.p u s A3 c3 x.Ap x.cp A c w1 (by omega) (by omega) HuW.out.i64 HsW.out.i64 (HuW.out.on hbW1).args.toA (hpos w1 hb) hfx.cap.1 hfx.cap.2 (HsW.out.on hbW1).args.toA).mono ?_
          rintro e w' ⟨B, d, rfl, hi, hA, hb'⟩
          rw [hX] at hi hA ⊢
          exact ⟨B, d, by rw [hso], ⟨hi, hA.wide fun g e => e.2⟩, hb'⟩
        have HP2 : Hid (∀ w1, Below w5.heap.size w5 w1 → Calls Try.prog 26 #[.agg #[.int .i64 u.fn, .slice A3 u.args.length c3], .slice x.Ap x.p.length x.cp, .agg #[.int .i64 t.fn, .slice A2 t.args.length c2]] w1 fun e w' => ∃ B d, e = .returned (.tuple #[.agg #[.int .i64 Y.fn, .slice B Y.args.length d], .bool true]) ∧ TmK w' Y B d ∧ Below w1.heap.size w1 w') := Lib.hid fun w1 hb => by
          have hbW1 := hbw5.trans (hb.mono hbw5.size)
          refine (refPutK_any x.p u t A3 c3 x.Ap x.cp A2 c2 w1 (by omega) (by omega) HuW.out.i64 HtW.out.i64 (HuW.out.on hbW1).args.toA (hpos w1 hb) hfx.cap.1 hfx.cap.2 (HtW.out.on hbW1).args.toA).mono ?_
          rintro e w' ⟨B, d, rfl, hi, hA, hb'⟩
          rw [hY] at hi hA ⊢
          exact ⟨B, d, by rw [hso], ⟨hi, hA.wide fun g e => e.2⟩, hb'⟩
        clear hX hY hXe hYe hso hr1 hr2 hmem hL hx hfx hpos x0 x1 x2 x3 x4 x5 x6 x7 x8 x9 x10
        go_upto_region 8 with (first
          | (go_at_call 26; go_must ((with_reducible refine (HP1.out w5 (Below.refl _ _)).mono ?_); rintro e w6 ⟨B1, d1, rfl, kX, hb6⟩))
          | fail)
        obtain ⟨W6, hW6⟩ : ∃ W6, w6.alloc (.cells #[.int .i64 X.fn, .slice B1 X.args.length d1] 27) = W6 := ⟨_, rfl⟩
        have hbA6 : Below w6.heap.size w6 W6 := by rw [← hW6]; exact (Below.refl _ _).alloc (Nat.le_refl _) _
        have qX : W6.heap[w6.heap.size]? = some (.cells #[.int .i64 X.fn, .slice B1 X.args.length d1] 27) := by rw [← hW6]; exact heap_alloc_new _ _
        rw [hW6]
        have hbw6 := hb6.trans (hbA6.mono hb6.size)
        have hbW6 := hbw5.trans (hbw6.mono hbw5.size)
        have kX6 := kX.on hbA6
        obtain ⟨⟨x0, x1, x2, x3, x4⟩, x5, x6, x7, x8, x9, x10⟩ := HX.out W6 hbW6
        clear hW6
        go_upto_region 9 with (first
          | (go_at_call 26; go_must ((with_reducible refine (HP2.out W6 hbw6).mono ?_); rintro e w7 ⟨B2, d2, rfl, kY, hb7⟩))
          | fail)
        obtain ⟨w8, hW8⟩ : ∃ w8, w7.alloc (.cells #[.int .i64 Y.fn, .slice B2 Y.args.length d2] 27) = w8 := ⟨_, rfl⟩
        have hbA8 : Below w7.heap.size w7 w8 := by rw [← hW8]; exact (Below.refl _ _).alloc (Nat.le_refl _) _
        have qY : w8.heap[w7.heap.size]? = some (.cells #[.int .i64 Y.fn, .slice B2 Y.args.length d2] 27) := by rw [← hW8]; exact heap_alloc_new _ _
        rw [hW8]
        have hb8 := hb7.trans (hbA8.mono hb7.size)
        have hbW8 := hbW6.trans (hb8.mono hbW6.size)
        have kX8 := kX6.on hb8
        have kY8 := kY.on hbA8
        have qX8 := (hb8.block _ (Array.getElem?_eq_some_iff.1 qX).1).trans qX
        clear hW8 x0 x1 x2 x3 x4 x5 x6 x7 x8 x9 x10
        obtain ⟨⟨x0, x1, x2, x3, x4⟩, x5, x6, x7, x8, x9, x10⟩ := HX.out w8 hbW8
        have HC : Hid (∀ w1, Below w8.heap.size w8 w1 → w1.cell? ⟨w6.heap.size, 0, none⟩ = some (.int .i64 X.fn) ∧ w1.cell? ⟨w6.heap.size, 1, none⟩ = some (.slice B1 X.args.length d1) ∧ w1.cell? ⟨w7.heap.size, 0, none⟩ = some (.int .i64 Y.fn) ∧ w1.cell? ⟨w7.heap.size, 1, none⟩ = some (.slice B2 Y.args.length d2)) := Lib.hid fun w1 hb => by
          obtain ⟨m0, m1, _, _⟩ := cells_two ((hb.block _ (Array.getElem?_eq_some_iff.1 qX8).1).trans qX8)
          obtain ⟨m2, m3, _, _⟩ := cells_two ((hb.block _ (Array.getElem?_eq_some_iff.1 qY).1).trans qY)
          exact ⟨m0, m1, m2, m3⟩
        obtain ⟨m0, m1, m2, m3⟩ := HC.out w8 (Below.refl _ _)
        have hbx : Below w8.heap.size w8 (w8.alloc (.cells #[.int .i64 X.fn, .slice B1 X.args.length d1, .int .i64 Y.fn, .slice B2 Y.args.length d2] 27)) := (Below.refl _ _).alloc (Nat.le_refl _) _
        have HB6 := Lib.hid hbx
        have HG3 : Hid (Calls Try.prog 27 #[.slice (some ⟨w8.heap.size, 0, none⟩) 2 2] (w8.alloc (.cells #[.int .i64 X.fn, .slice B1 X.args.length d1, .int .i64 Y.fn, .slice B2 Y.args.length d2] 27)) fun e w' => e = .returned (.bool (decide (2000 < sizes [X, Y]))) ∧ Below (w8.alloc (.cells #[.int .i64 X.fn, .slice B1 X.args.length d1, .int .i64 Y.fn, .slice B2 Y.args.length d2] 27)).heap.size (w8.alloc (.cells #[.int .i64 X.fn, .slice B1 X.args.length d1, .int .i64 Y.fn, .slice B2 Y.args.length d2] 27)) w') := Lib.hid (lpoGreat_any [X, Y] (fun y hy => by simp at hy; rcases hy with rfl | rfl <;> omega) (some ⟨w8.heap.size, 0, none⟩) 2 (w8.alloc (.cells #[.int .i64 X.fn, .slice B1 X.args.length d1, .int .i64 Y.fn, .slice B2 Y.args.length d2] 27)) (row_two kX8 kY8 (Below.refl _ _)))
        have HF3 : Hid (∀ w1, Below w8.heap.size w8 w1 → Calls Try.prog 32 #[.agg #[.slice As n cs], .agg #[.bool o.lpo, .slice P o.prec.length pc, .slice Q o.wts.length qc, .int .i64 o.var], .slice (some ⟨w1.heap.size, 0, none⟩) 2 2] (w1.alloc (.cells #[.int .i64 X.fn, .slice B1 X.args.length d1, .int .i64 Y.fn, .slice B2 Y.args.length d2] 27)) fun e w' => e = .returned (.bool (fitsQ sy o [X, Y])) ∧ Below w1.heap.size w1 w') := Lib.hid fun w1 hb => by
          have hb1 : Below w1.heap.size w1 (w1.alloc (.cells #[.int .i64 X.fn, .slice B1 X.args.length d1, .int .i64 Y.fn, .slice B2 Y.args.length d2] 27)) := (Below.refl _ _).alloc (Nat.le_refl _) _
          exact (lpoFits_any sy o [X, Y] As P Q (some ⟨w1.heap.size, 0, none⟩) n cs pc qc 2 _ (((HSW.out.on hbW8).on hb).on hb1) hn (((HMW.out.on hbW8).on hb).on hb1) (fun y hy => by simp at hy; rcases hy with rfl | rfl <;> omega) (row_two kX8 kY8 hb)).mono fun e w' ⟨he, hw⟩ => ⟨he, hb1.trans (hw.mono hb1.size)⟩
        have HK8 := Lib.hid (And.intro kX8 kY8)
        clear hbx hXz hYz kX kX6 kX8 kY kY8 qX qX8 qY hb7 hbA6 hbA8 hb8 hb6 hbw6 hbW6
        cases hg3 : decide (2000 < sizes [X, Y]) with
        | true =>
          rw [hg3] at HG3
          clear hg3
          go_wp2_with (first
            | (go_at_call 27; go_must ((with_reducible refine HG3.out.mono ?_); rintro e wa ⟨rfl, hba⟩; have hbwa := HB6.out.trans (hba.mono HB6.out.size); have hbWa := hbW8.trans (hbwa.mono hbW8.size); obtain ⟨⟨y0, y1, y2, y3, y4⟩, y5, y6, y7, y8, y9, y10⟩ := HX.out wa hbWa; obtain ⟨a0, a1, a2, a3⟩ := HC.out wa hbwa))
            | (go_at_call 28; go_must ((with_reducible refine (Hwk.out _).mono ?_); rintro e w9 ⟨rfl, hb9⟩))
            | fail)
          go_ret
          exact ⟨rfl, HBB.out _ (hbWa.trans (hb9.mono hbWa.size))⟩
        | false =>
          rw [hg3] at HG3
          have hsz2 : X.size + Y.size ≤ 2000 := by
            have h := of_decide_eq_false hg3
            simp only [sizes] at h
            omega
          have GXY := Lib.hid (lpoAbove_at (pc := pc) (qc := qc) hrk (HMW.out.on hbW8) HK8.out.1 HK8.out.2 (by omega))
          clear hg3 hsz2
          cases hf3 : fitsQ sy o [X, Y] with
          | false =>
            rw [hf3] at HF3
            clear hf3
            go_wp2_with (first
              | (go_at_call 27; go_must ((with_reducible refine HG3.out.mono ?_); rintro e wa ⟨rfl, hba⟩; have hbwa := HB6.out.trans (hba.mono HB6.out.size); have hbWa := hbW8.trans (hbwa.mono hbW8.size); obtain ⟨⟨y0, y1, y2, y3, y4⟩, y5, y6, y7, y8, y9, y10⟩ := HX.out wa hbWa; obtain ⟨a0, a1, a2, a3⟩ := HC.out wa hbwa))
              | (go_at_call 32; go_must ((with_reducible refine (HF3.out wa hbwa).mono ?_); rintro e wb ⟨rfl, hbb⟩; have hbwb := hbwa.trans (hbb.mono hbwa.size); have hbWb := hbW8.trans (hbwb.mono hbW8.size); obtain ⟨⟨z0, z1, z2, z3, z4⟩, z5, z6, z7, z8, z9, z10⟩ := HX.out wb hbWb))
              | (go_at_call 28; go_must ((with_reducible refine (Hwk.out _).mono ?_); rintro e w9 ⟨rfl, hb9⟩))
              | fail)
            go_ret
            exact ⟨rfl, HBB.out _ (hbWb.trans (hb9.mono hbWb.size))⟩
          | true =>
            rw [hf3] at HF3
            obtain ⟨p1, hp1⟩ : ∃ p, (r == 3) = p := ⟨_, rfl⟩
            obtain ⟨p2, hp2⟩ : ∃ p, (cmpP o.prec X Y == 3) = p := ⟨_, rfl⟩
            rw [hp1] at Gst
            rw [hp2] at GXY
            have HP : Hid (p1 = true → p2 = true) := Lib.hid (by
              obtain ⟨hK, gs, gt, _⟩ := HK.out
              have hgd2 := fitsQ_gd hf3
              intro h
              rw [← hp1, ← Hr.out] at h
              rw [← hp2]
              simp only [beq_iff_eq] at h ⊢
              have gX := hgd2 X (by simp)
              have gY := hgd2 Y (by simp)
              obtain ⟨hX, hY⟩ := HXY.out
              rw [cmpP_three hK gs gt] at h
              rw [cmpP_three hK gX gY]
              rw [← hX] at gX ⊢
              rw [← hY] at gY ⊢
              exact lp_at h x.p u Hso.out gX gY)
            clear hp1 hp2 hf3
            cases p1 with
            | false =>
              go_wp2_with (first
                | (go_at_call 27; go_must ((with_reducible refine HG3.out.mono ?_); rintro e wa ⟨rfl, hba⟩; have hbwa := HB6.out.trans (hba.mono HB6.out.size); have hbWa := hbW8.trans (hbwa.mono hbW8.size); obtain ⟨⟨y0, y1, y2, y3, y4⟩, y5, y6, y7, y8, y9, y10⟩ := HX.out wa hbWa; obtain ⟨a0, a1, a2, a3⟩ := HC.out wa hbwa))
                | (go_at_call 32; go_must ((with_reducible refine (HF3.out wa hbwa).mono ?_); rintro e wb ⟨rfl, hbb⟩; have hbwb := hbwa.trans (hbb.mono hbwa.size); have hbWb := hbW8.trans (hbwb.mono hbW8.size); obtain ⟨⟨z0, z1, z2, z3, z4⟩, z5, z6, z7, z8, z9, z10⟩ := HX.out wb hbWb))
                | (go_at_call 31; ((with_reducible refine (Gst.out wb hbWb).mono ?_); rintro e wc ⟨rfl, hbc⟩; have hbwc := hbwb.trans (hbc.mono hbwb.size); have hbWc := hbW8.trans (hbwc.mono hbW8.size); obtain ⟨⟨v0, v1, v2, v3, v4⟩, v5, v6, v7, v8, v9, v10⟩ := HX.out wc hbWc; obtain ⟨b0, b1, b2, b3⟩ := HC.out wc hbwc))
                | (go_at_call 28; go_must ((with_reducible refine (Hwk.out _).mono ?_); rintro e w9 ⟨rfl, hb9⟩))
                | fail)
              go_ret
              exact ⟨rfl, HBB.out _ (hbWc.trans (hb9.mono hbWc.size))⟩
            | true =>
              obtain rfl := HP.out rfl
              go_wp2_with (first
                | (go_at_call 27; go_must ((with_reducible refine HG3.out.mono ?_); rintro e wa ⟨rfl, hba⟩; have hbwa := HB6.out.trans (hba.mono HB6.out.size); have hbWa := hbW8.trans (hbwa.mono hbW8.size); obtain ⟨⟨y0, y1, y2, y3, y4⟩, y5, y6, y7, y8, y9, y10⟩ := HX.out wa hbWa; obtain ⟨a0, a1, a2, a3⟩ := HC.out wa hbwa))
                | (go_at_call 32; go_must ((with_reducible refine (HF3.out wa hbwa).mono ?_); rintro e wb ⟨rfl, hbb⟩; have hbwb := hbwa.trans (hbb.mono hbwa.size); have hbWb := hbW8.trans (hbwb.mono hbW8.size); obtain ⟨⟨z0, z1, z2, z3, z4⟩, z5, z6, z7, z8, z9, z10⟩ := HX.out wb hbWb))
                | (go_at_call 31; ((with_reducible refine (Gst.out wb hbWb).mono ?_); rintro e wc ⟨rfl, hbc⟩; have hbwc := hbwb.trans (hbc.mono hbwb.size); have hbWc := hbW8.trans (hbwc.mono hbW8.size); obtain ⟨⟨v0, v1, v2, v3, v4⟩, v5, v6, v7, v8, v9, v10⟩ := HX.out wc hbWc; obtain ⟨b0, b1, b2, b3⟩ := HC.out wc hbwc))
                | (go_at_call 31; ((with_reducible refine (GXY.out wc hbwc).mono ?_); rintro e wd ⟨rfl, hbd⟩; have hbwd := hbwc.trans (hbd.mono hbwc.size); have hbWd := hbW8.trans (hbwd.mono hbW8.size)))
                | (go_at_call 28; go_must ((with_reducible refine (Hwk.out _).mono ?_); rintro e w9 ⟨rfl, hb9⟩))
                | fail)
              go_ret
              exact ⟨rfl, HBB.out _ (hbWd.trans (hb9.mono hbWd.size))⟩

end Go.Proofs.Ytnmpeodngipfcaa

