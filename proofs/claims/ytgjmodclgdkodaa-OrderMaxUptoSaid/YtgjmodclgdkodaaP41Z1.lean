import Derived.Test.YtgjmodclgdkodaaP40Z20
/- OrderMax, the law. -/

namespace Go.Proofs.Ytgjmodclgdkodaa

open Go.RowKit Go.Shelf
set_option maxRecDepth 100000

/-- Is one of the first m maximal? -/
def somB (o : Odr) (l : List Li) (m : Nat) : Bool := decide (l.length = 0) || (List.range m).any fun i => match l[i]? with | some x => maxB o l i x false | none => false

theorem somB_succ {o : Odr} {l : List Li} {m : Nat} {x : Li} (h : l[m]? = some x) : somB o l (m + 1) = (somB o l m || maxB o l m x false) := by
  unfold somB
  rw [List.range_succ, List.any_append, ← Bool.or_assoc]
  simp [h]

theorem somB_done {sy : List Sm} {o : Odr} {l : List Li} (hc : chkO sy o = 0) (hg : ∀ x ∈ l, GdT sy x.l ∧ GdT sy x.r) : somB o l l.length = true := by
  unfold somB
  by_cases h : l = []
  · subst h; rfl
  · obtain ⟨i, x, hi, hm⟩ := max_some hc hg h
    rw [Bool.or_eq_true]
    refine .inr (List.any_eq_true.2 ⟨i, List.mem_range.2 (List.getElem?_eq_some_iff.1 hi).1, ?_⟩)
    rw [hi]; exact hm

set_option maxHeartbeats 8000000 in
theorem orderMax_of (sy : List Sm) (o : Odr) (l : List Li) (As P Q A : Option Addr) (n cs pc qc c : Nat) (w : World) (hS : Syms w w.heap.size As n sy) (hn : n * 32 ≤ 140737488351232) (hM : OdrM w w.heap.size o P Q) (hrk : o.prec.length ≤ 140737488351232)
    (hR : RpC (· < w.heap.size) w l (.slice A l.length c)) :
    Calls Try.prog 5 #[.agg #[.slice As n cs], .agg #[.bool o.lpo, .slice P o.prec.length pc, .slice Q o.wts.length qc, .int .i64 o.var], .slice A l.length c] w fun e w' => e = .returned (.bool true) ∧ Below w.heap.size w w' := by
  obtain ⟨A', c', ea, hL, hll, hzz⟩ := hR
  injection ea with ea1 _ ea2
  subst ea1; subst ea2
  obtain ⟨W, hW⟩ : ∃ W, (w.alloc (.cells #[.slice As n cs] 24)).alloc (.cells #[.bool o.lpo, .slice P o.prec.length pc, .slice Q o.wts.length qc, .int .i64 o.var] 27) = W := ⟨_, rfl⟩
  obtain ⟨hB, hl1, hX⟩ := box_so9 hW
  have HX := Lib.hid hX
  have HW := Lib.hid hW
  have hSW := hS.on hB
  have hMW := hM.on hB
  have hLW := hL.on hB
  have HF : Hid (Calls Try.prog 6 #[.agg #[.slice As n cs], .agg #[.bool o.lpo, .slice P o.prec.length pc, .slice Q o.wts.length qc, .int .i64 o.var], .slice (some ⟨W.heap.size, 0, none⟩) 1 1] (W.alloc (.cells #[.slice A l.length c] 29)) fun e w' => e = .returned (.bool (fitsC sy o [l])) ∧ Below W.heap.size W w') := Lib.hid (by
    have h1 : Below W.heap.size W (W.alloc (.cells #[.slice A l.length c] 29)) := (Below.refl _ _).alloc (Nat.le_refl _) _
    have h2 := heap_alloc_new W (.cells #[.slice A l.length c] 29)
    exact (oFits_any sy o [l] As P Q (some ⟨W.heap.size, 0, none⟩) n cs pc qc 1 _ (hSW.on h1) hn (hMW.on h1) (rowC_one h2 (Array.getElem?_eq_some_iff.1 h2).1 ⟨A, c, rfl, hLW.on h1, hll, hzz⟩)).mono fun e w' ⟨he, hw⟩ => ⟨he, h1.trans (hw.mono h1.size)⟩)
  have HLW := Lib.hid hLW
  have HMW := Lib.hid hMW
  have Hwk := Lib.hid oWakes_any
  have HBB : Hid (∀ w1, Below W.heap.size W w1 → Below w.heap.size w w1) := Lib.hid fun w1 h => hB.trans (h.mono hB.size)
  obtain ⟨x0, x1, x2, x3, x4⟩ := hX W (Below.refl _ _)
  clear hW hX hS hM hL hSW hMW hLW hB
  cases hft : fitsC sy o [l] with
  | false =>
    rw [hft] at HF
    clear hft
    go_enter Try.func5, Try.ntmps5
    go_upto_region 1 with fail
    rw [HW.out]
    go_wp2_with (first
      | (go_at_call 6; go_must ((with_reducible refine HF.out.mono ?_); rintro e w1 ⟨rfl, hb1⟩))
      | (go_at_call 7; go_must ((with_reducible refine (Hwk.out _).mono ?_); rintro e w9 ⟨rfl, hb9⟩))
      | fail)
    go_ret
    exact ⟨rfl, HBB.out _ (hb1.trans (hb9.mono hb1.size))⟩
  | true =>
    rw [hft] at HF
    obtain ⟨hck, hgd⟩ := fits_all hft
    have HG := Lib.hid (And.intro hck (hgd l (by simp)))
    clear hft hck hgd
    go_enter Try.func5, Try.ntmps5
    go_upto_region 1 with fail
    rw [HW.out]
    go_wp2_with (first
      | (go_at_call 6; go_must ((with_reducible refine HF.out.mono ?_); rintro e w1 ⟨rfl, hb1⟩))
      | fail)
    go_loopw [7, 22] (fun sm i wr => ∃ m : Nat, m ≤ l.length ∧ i = .int .i64 (m : Int) ∧ sm = .bool (somB o l m) ∧ Below W.heap.size W wr) (fun _ i _ => l.length - (intOf i).toNat)
    case atStart =>
      refine ⟨0, Nat.zero_le _, rfl, ?_, hb1⟩
      unfold somB
      by_cases h : l.length = 0
      · simp [h]
      · simp [h]
    case round =>
      obtain ⟨m, hm, rfl, rfl, hBr⟩ := hrel
      by_cases hlt : m < l.length
      · obtain ⟨x, hx⟩ : ∃ x, l[m]? = some x := ⟨_, List.getElem?_eq_getElem hlt⟩
        obtain ⟨b, off, A1, c1, A2, c2, rfl, hb, e0, e1, e2, e3, e4, hK⟩ := HLW.out.get hx
        have f0 := cell_on hBr hb e0
        have f1 := cell_on hBr hb e1
        have f2 := cell_on hBr hb e2
        have f3 := cell_on hBr hb e3
        have f4 := cell_on hBr hb e4
        have hwr1 : IntKind.i64.wrap ((m : Int) + 1) = (m : Int) + 1 := by rw [IntKind.wrap_i64]; omega
        have p0 := heap_alloc_new wr (.cells #[.bool x.neg, .int .i64 x.l.fn, .slice A1 x.l.args.length c1, .int .i64 x.r.fn, .slice A2 x.r.args.length c2] 41)
        obtain ⟨V, hV⟩ : ∃ V, wr.alloc (.cells #[.bool x.neg, .int .i64 x.l.fn, .slice A1 x.l.args.length c1, .int .i64 x.r.fn, .slice A2 x.r.args.length c2] 41) = V := ⟨_, rfl⟩
        have hBv : Below wr.heap.size wr V := by rw [← hV]; exact (Below.refl _ _).alloc (Nat.le_refl _) _
        rw [hV] at p0
        have hp := (Array.getElem?_eq_some_iff.1 p0).1
        have hBV := hBr.trans (hBv.mono hBr.size)
        have HXX : Hid (∀ w1, Below V.heap.size V w1 → BoxSO w1 w.heap.size o As P Q n cs pc qc ∧ w1.cell? ⟨wr.heap.size, 0, none⟩ = some (.bool x.neg) ∧ w1.cell? ⟨wr.heap.size, 1, none⟩ = some (.int .i64 x.l.fn) ∧ w1.cell? ⟨wr.heap.size, 2, none⟩ = some (.slice A1 x.l.args.length c1) ∧ w1.cell? ⟨wr.heap.size, 3, none⟩ = some (.int .i64 x.r.fn) ∧ w1.cell? ⟨wr.heap.size, 4, none⟩ = some (.slice A2 x.r.args.length c2)) := Lib.hid fun w1 h1 => ⟨HX.out w1 (hBV.trans (h1.mono hBV.size)), cells_5o ((h1.block _ hp).trans p0)⟩
        have hKV := (hK.on hBV)
        have Hf := Lib.hid fun w1 (h1 : Below V.heap.size V w1) => oMaximal_any o l m x false P Q (some ⟨b, off, none⟩) pc qc c w1 hrk (HMW.out.on (hBV.trans (h1.mono hBV.size))) (HLW.out.on (hBV.trans (h1.mono hBV.size))) hll hx
        have Ht := Lib.hid fun w1 (h1 : Below V.heap.size V w1) => oMaximal_any o l m x true P Q (some ⟨b, off, none⟩) pc qc c w1 hrk (HMW.out.on (hBV.trans (h1.mono hBV.size))) (HLW.out.on (hBV.trans (h1.mono hBV.size))) hll hx
        have hgx := HG.out.2 x (List.mem_of_getElem? hx)
        have HLt : Hid (∀ w1, Below V.heap.size V w1 → Calls Try.prog 13 #[.agg #[.bool o.lpo, .slice P o.prec.length pc, .slice Q o.wts.length qc, .int .i64 o.var], .agg #[.bool true, .int .i64 x.l.fn, .slice A1 x.l.args.length c1, .int .i64 x.r.fn, .slice A2 x.r.args.length c2], .agg #[.bool false, .int .i64 x.l.fn, .slice A1 x.l.args.length c1, .int .i64 x.r.fn, .slice A2 x.r.args.length c2]] w1 fun e w' => e = .returned (.int .i64 3) ∧ Below w1.heap.size w1 w') := Lib.hid fun w1 h1 => by
          have hk1 := hKV.on h1
          have := oLits_any o ⟨true, x.l, x.r⟩ ⟨false, x.l, x.r⟩ P Q A1 A2 A1 A2 pc qc c1 c2 c1 c2 w1 hrk (HMW.out.on (hBV.trans (h1.mono hBV.size))) ⟨hk1.il, hk1.ir, hk1.sl, hk1.sr, hk1.zl, hk1.zr⟩ ⟨hk1.il, hk1.ir, hk1.sl, hk1.sr, hk1.zl, hk1.zr⟩
          rwa [neg_lits HG.out.1 hgx] at this
        have hsm := Lib.hid (somB_succ (o := o) hx)
        have hwk := Lib.hid (max_weak (o := o) (c := l) (i := m) (x := x))
        have hVV : Below V.heap.size V V := Below.refl _ _
        obtain ⟨⟨_, a1, a2, a3, a4⟩, a5, a6, a7, a8, a9⟩ := HXX.out V hVV
        obtain ⟨y0, y1, y2, y3, y4⟩ := HX.out wr hBr
        have HV := Lib.hid hV
        clear hx hb e0 e1 e2 e3 e4 hK p0 hKV hgx hV
        go_upto_region 7 with fail
        rw [HV.out]
        clear f0 f1 f2 f3 f4 y0 y1 y2 y3 y4
        obtain ⟨mt, hmt⟩ : ∃ b, maxB o l m x true = b := ⟨_, rfl⟩
        obtain ⟨mf, hmf⟩ : ∃ b, maxB o l m x false = b := ⟨_, rfl⟩
        rw [hmt] at Ht hwk
        rw [hmf] at Hf hwk hsm
        clear hmt hmf
        cases hs : somB o l m with
        | true =>
          rw [hs] at hsm
          have hc1 := hVV
          have HL := Lib.hid (HLt.out V hVV)
          cases mt with
          | true =>
            obtain rfl : mf = true := hwk.out rfl
            go_wp2_with (first
              | (go_at_call 15; first
                | ((with_reducible refine HT.out.mono ?_); go_must (rintro e w3 ⟨rfl, hb3⟩; have hc3 := hc2.trans (hb3.mono hc2.size); obtain ⟨⟨_, r1, r2, r3, r4⟩, r5, r6, r7, r8, r9⟩ := HXX.out w3 hc3; have HF3 := Lib.hid (Hf.out w3 hc3)))
                | ((with_reducible refine HF3.out.mono ?_); go_must (rintro e w4 ⟨rfl, hb4⟩; have hc4 := hc3.trans (hb4.mono hc3.size))))
              | (go_at_call 13; (with_reducible refine HL.out.mono ?_); go_must (rintro e w2 ⟨rfl, hb2⟩; have hc2 := hc1.trans (hb2.mono hc1.size); obtain ⟨⟨_, q1, q2, q3, q4⟩, q5, q6, q7, q8, q9⟩ := HXX.out w2 hc2; have HT := Lib.hid (Ht.out w2 hc2)))
              | fail)
            go_roundw
            case rel => exact ⟨m + 1, by omega, by go_num, by simp [hsm.out], hBV.trans (hc4.mono hBV.size)⟩
            case measure => simp [intOf]; omega
          | false =>
            go_wp2_with (first
              | (go_at_call 15; first
                | ((with_reducible refine HT.out.mono ?_); go_must (rintro e w3 ⟨rfl, hb3⟩; have hc3 := hc2.trans (hb3.mono hc2.size); obtain ⟨⟨_, r1, r2, r3, r4⟩, r5, r6, r7, r8, r9⟩ := HXX.out w3 hc3; have HF3 := Lib.hid (Hf.out w3 hc3))))
              | (go_at_call 13; (with_reducible refine HL.out.mono ?_); go_must (rintro e w2 ⟨rfl, hb2⟩; have hc2 := hc1.trans (hb2.mono hc1.size); obtain ⟨⟨_, q1, q2, q3, q4⟩, q5, q6, q7, q8, q9⟩ := HXX.out w2 hc2; have HT := Lib.hid (Ht.out w2 hc2)))
              | fail)
            go_roundw
            case rel => exact ⟨m + 1, by omega, by go_num, by simp [hsm.out], hBV.trans (hc3.mono hBV.size)⟩
            case measure => simp [intOf]; omega
        | false =>
          rw [hs] at hsm
          cases mt with
          | true =>
            obtain rfl : mf = true := hwk.out rfl
            go_wp2_with (first
              | (go_at_call 15; first
                | ((with_reducible refine (Hf.out V hVV).mono ?_); go_must (rintro e w1 ⟨rfl, hb1⟩; obtain ⟨⟨_, p1, p2, p3, p4⟩, p5, p6, p7, p8, p9⟩ := HXX.out w1 hb1; have hc1 := hb1; have HL := Lib.hid (HLt.out w1 hc1)))
                | ((with_reducible refine HT.out.mono ?_); go_must (rintro e w3 ⟨rfl, hb3⟩; have hc3 := hc2.trans (hb3.mono hc2.size); obtain ⟨⟨_, r1, r2, r3, r4⟩, r5, r6, r7, r8, r9⟩ := HXX.out w3 hc3; have HF3 := Lib.hid (Hf.out w3 hc3)))
                | ((with_reducible refine HF3.out.mono ?_); go_must (rintro e w4 ⟨rfl, hb4⟩; have hc4 := hc3.trans (hb4.mono hc3.size))))
              | (go_at_call 13; (with_reducible refine HL.out.mono ?_); go_must (rintro e w2 ⟨rfl, hb2⟩; have hc2 := hc1.trans (hb2.mono hc1.size); obtain ⟨⟨_, q1, q2, q3, q4⟩, q5, q6, q7, q8, q9⟩ := HXX.out w2 hc2; have HT := Lib.hid (Ht.out w2 hc2)))
              | fail)
            go_roundw
            case rel => exact ⟨m + 1, by omega, by go_num, by simp [hsm.out], hBV.trans (hc4.mono hBV.size)⟩
            case measure => simp [intOf]; omega
          | false =>
            go_wp2_with (first
              | (go_at_call 15; first
                | ((with_reducible refine (Hf.out V hVV).mono ?_); go_must (rintro e w1 ⟨rfl, hb1⟩; obtain ⟨⟨_, p1, p2, p3, p4⟩, p5, p6, p7, p8, p9⟩ := HXX.out w1 hb1; have hc1 := hb1; have HL := Lib.hid (HLt.out w1 hc1)))
                | ((with_reducible refine HT.out.mono ?_); go_must (rintro e w3 ⟨rfl, hb3⟩; have hc3 := hc2.trans (hb3.mono hc2.size); obtain ⟨⟨_, r1, r2, r3, r4⟩, r5, r6, r7, r8, r9⟩ := HXX.out w3 hc3; have HF3 := Lib.hid (Hf.out w3 hc3))))
              | (go_at_call 13; (with_reducible refine HL.out.mono ?_); go_must (rintro e w2 ⟨rfl, hb2⟩; have hc2 := hc1.trans (hb2.mono hc1.size); obtain ⟨⟨_, q1, q2, q3, q4⟩, q5, q6, q7, q8, q9⟩ := HXX.out w2 hc2; have HT := Lib.hid (Ht.out w2 hc2)))
              | fail)
            go_roundw
            case rel => exact ⟨m + 1, by omega, by go_num, by simp [hsm.out], hBV.trans (hc3.mono hBV.size)⟩
            case measure => simp [intOf]; omega
      · obtain rfl : m = l.length := by omega
        have hsd := Lib.hid (somB_done HG.out.1 HG.out.2)
        rw [hsd.out]
        go_wp2_with (first
          | (go_at_call 7; go_must ((with_reducible refine (Hwk.out _).mono ?_); rintro e w9 ⟨rfl, hb9⟩))
          | fail)
        go_ret
        exact ⟨rfl, HBB.out _ (hBr.trans (hb9.mono hBr.size))⟩

end Go.Proofs.Ytgjmodclgdkodaa

