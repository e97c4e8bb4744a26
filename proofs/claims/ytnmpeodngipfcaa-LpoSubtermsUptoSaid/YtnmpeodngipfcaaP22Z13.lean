import Derived.Test.YtnmpeodngipfcaaP22Z12
import Derived.Test.YtnmpeodngipfcaaP22Z5
import Derived.Test.YtnmpeodngipfcaaP22Z2
import Derived.ChangeSlices
import Derived.Test.YtnmpeodngipfcaaRows
import Derived.ProofKit
import Derived.Below
import Derived.Carry
/- LpoOrders, the law. -/

namespace Go.Proofs.Ytnmpeodngipfcaa

open Go.RowKit Go.Shelf Go.Maps
set_option maxRecDepth 100000

set_option maxHeartbeats 4000000 in
theorem lpoOrders_of (l : List Sm) (o : Odr) (s t u : Tm) (As P Q A A2 A3 : Option Addr) (n cs pc qc c c2 c3 : Nat) (w : World) (hS : Syms w w.heap.size As n l) (hn : n * 32 ≤ 140737488351232) (hM : OdrM w w.heap.size o P Q) (hrk : o.prec.length ≤ 140737488351232) (hs : TmK w s A c) (ht : TmK w t A2 c2) (hu : TmK w u A3 c3) (hzs : s.size ≤ 1048576) (hzt : t.size ≤ 1048576) (hzu : u.size ≤ 1048576) :
    Calls Try.prog 9 #[.agg #[.slice As n cs], .agg #[.bool o.lpo, .slice P o.prec.length pc, .slice Q o.wts.length qc, .int .i64 o.var], .agg #[.int .i64 s.fn, .slice A s.args.length c], .agg #[.int .i64 t.fn, .slice A2 t.args.length c2], .agg #[.int .i64 u.fn, .slice A3 u.args.length c3]] w fun e w' => e = .returned (.bool true) ∧ Below w.heap.size w w' := by
  obtain ⟨W, hW⟩ : ∃ W, (((((w.alloc (.cells #[.slice As n cs] 36)).alloc (.cells #[.bool o.lpo, .slice P o.prec.length pc, .slice Q o.wts.length qc, .int .i64 o.var] 24)).alloc (.cells #[.int .i64 s.fn, .slice A s.args.length c] 27)).alloc (.cells #[.int .i64 t.fn, .slice A2 t.args.length c2] 27)).alloc (.cells #[.int .i64 u.fn, .slice A3 u.args.length c3] 27)) = W := ⟨_, rfl⟩
  obtain ⟨hB, hX⟩ := box5_of hW
  have HW := Lib.hid hW
  have HX := Lib.hid hX
  have hsW := hs.on hB
  have htW := ht.on hB
  have huW := hu.on hB
  have hMW := hM.on hB
  have hSW := hS.on hB
  have hb5 : Below W.heap.size W (W.alloc (.cells #[.int .i64 s.fn, .slice A s.args.length c, .int .i64 t.fn, .slice A2 t.args.length c2, .int .i64 u.fn, .slice A3 u.args.length c3] 27)) := (Below.refl _ _).alloc (Nat.le_refl _) _
  have HB5 := Lib.hid hb5
  have HG : Hid (Calls Try.prog 27 #[.slice (some ⟨W.heap.size, 0, none⟩) 3 3] (W.alloc (.cells #[.int .i64 s.fn, .slice A s.args.length c, .int .i64 t.fn, .slice A2 t.args.length c2, .int .i64 u.fn, .slice A3 u.args.length c3] 27)) fun e w' => e = .returned (.bool (decide (2000 < sizes [s, t, u]))) ∧ Below (W.alloc (.cells #[.int .i64 s.fn, .slice A s.args.length c, .int .i64 t.fn, .slice A2 t.args.length c2, .int .i64 u.fn, .slice A3 u.args.length c3] 27)).heap.size (W.alloc (.cells #[.int .i64 s.fn, .slice A s.args.length c, .int .i64 t.fn, .slice A2 t.args.length c2, .int .i64 u.fn, .slice A3 u.args.length c3] 27)) w') := Lib.hid (lpoGreat_any [s, t, u] (fun x hx => by simp at hx; rcases hx with rfl | rfl | rfl <;> omega) (some ⟨W.heap.size, 0, none⟩) 3 (W.alloc (.cells #[.int .i64 s.fn, .slice A s.args.length c, .int .i64 t.fn, .slice A2 t.args.length c2, .int .i64 u.fn, .slice A3 u.args.length c3] 27)) (row_three hsW htW huW (Below.refl _ _)))
  have HF : Hid (∀ w1, Below W.heap.size W w1 → Calls Try.prog 32 #[.agg #[.slice As n cs], .agg #[.bool o.lpo, .slice P o.prec.length pc, .slice Q o.wts.length qc, .int .i64 o.var], .slice (some ⟨w1.heap.size, 0, none⟩) 3 3] (w1.alloc (.cells #[.int .i64 s.fn, .slice A s.args.length c, .int .i64 t.fn, .slice A2 t.args.length c2, .int .i64 u.fn, .slice A3 u.args.length c3] 27)) fun e w' => e = .returned (.bool (fitsQ l o [s, t, u])) ∧ Below w1.heap.size w1 w') := Lib.hid fun w1 hb => by
    have hb1 : Below w1.heap.size w1 (w1.alloc (.cells #[.int .i64 s.fn, .slice A s.args.length c, .int .i64 t.fn, .slice A2 t.args.length c2, .int .i64 u.fn, .slice A3 u.args.length c3] 27)) := (Below.refl _ _).alloc (Nat.le_refl _) _
    exact (lpoFits_any l o [s, t, u] As P Q (some ⟨w1.heap.size, 0, none⟩) n cs pc qc 3 _ ((hSW.on hb).on hb1) hn ((hMW.on hb).on hb1) (fun x hx => by simp at hx; rcases hx with rfl | rfl | rfl <;> omega) (row_three hsW htW huW hb)).mono fun e w' ⟨he, hw⟩ => ⟨he, hb1.trans (hw.mono hb1.size)⟩
  have Hwk := Lib.hid lpoWakes_any
  have Hss := Lib.hid (lpoCmp_at (pc := pc) (qc := qc) hrk hMW hsW hsW (by omega))
  have Hts := Lib.hid (lpoCmp_at (pc := pc) (qc := qc) hrk hMW htW hsW (by omega))
  have Hst := Lib.hid (lpoCmp_at (pc := pc) (qc := qc) hrk hMW hsW htW (by omega))
  have Gst := Lib.hid (lpoAbove_at (pc := pc) (qc := qc) hrk hMW hsW htW (by omega))
  have Gtu := Lib.hid (lpoAbove_at (pc := pc) (qc := qc) hrk hMW htW huW (by omega))
  have Gsu := Lib.hid (lpoAbove_at (pc := pc) (qc := qc) hrk hMW hsW huW (by omega))
  have Hsm : Hid (∀ w1, Below W.heap.size W w1 → Calls Try.prog 22 #[.agg #[.int .i64 s.fn, .slice A s.args.length c], .agg #[.int .i64 t.fn, .slice A2 t.args.length c2]] w1 fun e w' => e = .returned (.bool (decide (cmpT s t = 0))) ∧ Below w1.heap.size w1 w') := Lib.hid fun w1 hb => ref2Same_any' s t A A2 c c2 w1 hs.i64 ht.i64 (hsW.on hb).args.toA (htW.on hb).args.toA
  have HBB : Hid (∀ w1, Below W.heap.size W w1 → Below w.heap.size w w1) := Lib.hid fun w1 h => hB.trans (h.mono hB.size)
  obtain ⟨⟨x0, x1, x2, x3, x4⟩, x5, x6, x7, x8, x9, x10⟩ := hX W (Below.refl _ _)
  clear hW hX hS hM hs ht hu hsW htW huW hMW hSW hb5 hB
  cases hgr : decide (2000 < sizes [s, t, u]) with
  | true =>
    rw [hgr] at HG
    clear hgr
    go_enter Try.func9, Try.ntmps9
    go_upto_region 1 with fail
    rw [HW.out]
    go_wp2_with (first
      | (go_at_call 27; go_must ((with_reducible refine HG.out.mono ?_); rintro e w1 ⟨rfl, hb1⟩; have hbw1 := HB5.out.trans (hb1.mono HB5.out.size)))
      | (go_at_call 28; go_must ((with_reducible refine (Hwk.out _).mono ?_); rintro e w9 ⟨rfl, hb9⟩))
      | fail)
    go_ret
    exact ⟨rfl, HBB.out _ (hbw1.trans (hb9.mono hbw1.size))⟩
  | false =>
    rw [hgr] at HG
    clear hgr
    cases hft : fitsQ l o [s, t, u] with
    | false =>
      rw [hft] at HF
      clear hft
      go_enter Try.func9, Try.ntmps9
      go_upto_region 1 with fail
      rw [HW.out]
      go_wp2_with (first
        | (go_at_call 27; go_must ((with_reducible refine HG.out.mono ?_); rintro e w1 ⟨rfl, hb1⟩; have hbw1 := HB5.out.trans (hb1.mono HB5.out.size); obtain ⟨⟨y0, y1, y2, y3, y4⟩, y5, y6, y7, y8, y9, y10⟩ := HX.out w1 hbw1))
        | (go_at_call 32; go_must ((with_reducible refine (HF.out w1 hbw1).mono ?_); rintro e w2 ⟨rfl, hb2⟩; have hbw2 := hbw1.trans (hb2.mono hbw1.size)))
        | (go_at_call 28; go_must ((with_reducible refine (Hwk.out _).mono ?_); rintro e w9 ⟨rfl, hb9⟩))
        | fail)
      go_ret
      exact ⟨rfl, HBB.out _ (hbw2.trans (hb9.mono hbw2.size))⟩
    | true =>
      rw [hft] at HF
      have hgd := fitsQ_gd hft
      have hK : AdmL o.prec (arL l) := by
        unfold fitsQ at hft
        simp only [Bool.and_eq_true, decide_eq_true_eq] at hft
        exact chkO_admL hft.2.1
      have gs := hgd s (by simp)
      have gt := hgd t (by simp)
      have gu := hgd u (by simp)
      have e1 := cmpP_self hK gs
      have e2 := cmpP_turn hK gs gt
      have e3 := cmpP_two hK gs gt
      have e4 := cmpP_trans hK gs gt gu
      rw [e1] at Hss
      rw [e2] at Hts
      obtain ⟨r, hr⟩ : ∃ r, cmpP o.prec s t = r := ⟨_, rfl⟩
      obtain ⟨r2, hr2⟩ : ∃ r, cmpP o.prec t u = r := ⟨_, rfl⟩
      obtain ⟨r3, hr3⟩ : ∃ r, cmpP o.prec s u = r := ⟨_, rfl⟩
      rw [hr] at Hst Hts Gst e3 e4
      rw [hr2] at Gtu e4
      rw [hr3] at Gsu e4
      obtain ⟨q, hq⟩ : ∃ q, decide (cmpT s t = 0) = q := ⟨_, rfl⟩
      rw [hq] at Hsm
      have hrq : (r == 2) = q := by
        rw [← hq]
        by_cases h : cmpT s t = 0
        · rw [e3.2 h, decide_eq_true h]; rfl
        · rw [decide_eq_false h]; simpa using fun e => h (e3.1 e)
      have Htn := Lib.hid (lpoTurned_any r)
      obtain ⟨r', hr'⟩ : ∃ r', turnI r = r' := ⟨_, rfl⟩
      rw [hr'] at Hts Htn
      obtain ⟨p1, hp1⟩ : ∃ p, (r == 3) = p := ⟨_, rfl⟩
      obtain ⟨p2, hp2⟩ : ∃ p, (r2 == 3) = p := ⟨_, rfl⟩
      obtain ⟨p3, hp3⟩ : ∃ p, (r3 == 3) = p := ⟨_, rfl⟩
      rw [hp1] at Gst
      rw [hp2] at Gtu
      rw [hp3] at Gsu
      have hp : p1 = true → p2 = true → p3 = true := by
        intro h1 h2
        rw [← hp3]
        rw [← hp1] at h1
        rw [← hp2] at h2
        simp only [beq_iff_eq] at h1 h2 ⊢
        exact e4 h1 h2
      have Hp := Lib.hid hp
      clear hp hp1 hp2 hp3 hr hr2 hr3 hr' hq e1 e2 e3 e4 gs gt gu hK hgd hft
      go_enter Try.func9, Try.ntmps9
      go_upto_region 1 with fail
      rw [HW.out]
      go_upto_region 3 with (first
        | (go_at_call 27; go_must ((with_reducible refine HG.out.mono ?_); rintro e w1 ⟨rfl, hb1⟩; have hbw1 := HB5.out.trans (hb1.mono HB5.out.size); obtain ⟨⟨y0, y1, y2, y3, y4⟩, y5, y6, y7, y8, y9, y10⟩ := HX.out w1 hbw1))
        | (go_at_call 32; go_must ((with_reducible refine (HF.out w1 hbw1).mono ?_); rintro e w2 ⟨rfl, hb2⟩; have hbw2 := hbw1.trans (hb2.mono hbw1.size)))
        | fail)
      have hy : ∀ y : Later w2.heap.size w2, Below W.heap.size W y.w := fun y => hbw2.trans (y.h.mono hbw2.size)
      have H1 := Lib.hid fun y : Later w2.heap.size w2 => Hss.out y.w (hy y)
      have H2 := Lib.hid fun y : Later w2.heap.size w2 => Hts.out y.w (hy y)
      have H3 := Lib.hid fun y : Later w2.heap.size w2 => Hst.out y.w (hy y)
      have H4 := Lib.hid fun y : Later w2.heap.size w2 => Hsm.out y.w (hy y)
      have H5 := Lib.hid fun y : Later w2.heap.size w2 => Htn.out y.w
      have m1 : ∀ y : Later w2.heap.size w2, y.w.cell? ⟨w.heap.size + 1, 0, none⟩ = some (.bool o.lpo) := fun y => (HX.out y.w (hy y)).so.o0
      have m2 : ∀ y : Later w2.heap.size w2, y.w.cell? ⟨w.heap.size + 1, 1, none⟩ = some (.slice P o.prec.length pc) := fun y => (HX.out y.w (hy y)).so.o1
      have m3 : ∀ y : Later w2.heap.size w2, y.w.cell? ⟨w.heap.size + 1, 2, none⟩ = some (.slice Q o.wts.length qc) := fun y => (HX.out y.w (hy y)).so.o2
      have m4 : ∀ y : Later w2.heap.size w2, y.w.cell? ⟨w.heap.size + 1, 3, none⟩ = some (.int .i64 o.var) := fun y => (HX.out y.w (hy y)).so.o3
      have m5 : ∀ y : Later w2.heap.size w2, y.w.cell? ⟨w.heap.size + 1 + 1, 0, none⟩ = some (.int .i64 s.fn) := fun y => (HX.out y.w (hy y)).s0
      have m6 : ∀ y : Later w2.heap.size w2, y.w.cell? ⟨w.heap.size + 1 + 1, 1, none⟩ = some (.slice A s.args.length c) := fun y => (HX.out y.w (hy y)).s1
      have m7 : ∀ y : Later w2.heap.size w2, y.w.cell? ⟨w.heap.size + 1 + 1 + 1, 0, none⟩ = some (.int .i64 t.fn) := fun y => (HX.out y.w (hy y)).t0
      have m8 : ∀ y : Later w2.heap.size w2, y.w.cell? ⟨w.heap.size + 1 + 1 + 1, 1, none⟩ = some (.slice A2 t.args.length c2) := fun y => (HX.out y.w (hy y)).t1
      clear hy x0 x1 x2 x3 x4 x5 x6 x7 x8 x9 x10 y0 y1 y2 y3 y4 y5 y6 y7 y8 y9 y10
      refine wp_region_later w2.heap.size w2 (by kernel_rfl) (by kernel_rfl) (bl_drewN (Below.refl _ _) 1) ?_
      repeat (go_big_quiet_step (first
        | (go_at_call 30; first
          | (with_reducible refine calls_later _ (Nat.le_refl _) (H1.out _))
          | (with_reducible refine calls_later _ (Nat.le_refl _) (H2.out _))
          | (with_reducible refine calls_later _ (Nat.le_refl _) (H3.out _)))
        | (go_at_call 33; with_reducible refine calls_later _ (Nat.le_refl _) (H5.out _))
        | (go_at_call 22; with_reducible refine calls_later _ (Nat.le_refl _) (H4.out _))
        | fail))
      refine wpQuiet_nil ?_
      rintro _ ⟨z, rfl⟩
      clear m1 m2 m3 m4 m5 m6 m7 m8 H1 H2 H3 H4 H5
      have hbz := hbw2.trans (z.h.mono hbw2.size)
      obtain ⟨⟨x0, x1, x2, x3, x4⟩, x5, x6, x7, x8, x9, x10⟩ := HX.out z.w hbz
      cases p1 with
      | false =>
        go_wp2_with (first
          | (go_at_call 31; ((with_reducible refine (Gst.out z.w hbz).mono ?_); rintro e w3 ⟨rfl, hb3⟩; have hbw3 := hbz.trans (hb3.mono hbz.size)))
          | (go_at_call 28; go_must ((with_reducible refine (Hwk.out _).mono ?_); rintro e w9 ⟨rfl, hb9⟩))
          | fail)
        go_ret
        exact ⟨rfl, HBB.out _ (hbw3.trans (hb9.mono hbw3.size))⟩
      | true =>
        cases p2 with
        | false =>
          go_wp2_with (first
            | (go_at_call 31; ((with_reducible refine (Gst.out z.w hbz).mono ?_); rintro e w3 ⟨rfl, hb3⟩; have hbw3 := hbz.trans (hb3.mono hbz.size); obtain ⟨⟨y0, y1, y2, y3, y4⟩, y5, y6, y7, y8, y9, y10⟩ := HX.out w3 hbw3))
            | (go_at_call 31; ((with_reducible refine (Gtu.out w3 hbw3).mono ?_); rintro e w4 ⟨rfl, hb4⟩; have hbw4 := hbw3.trans (hb4.mono hbw3.size)))
            | (go_at_call 28; go_must ((with_reducible refine (Hwk.out _).mono ?_); rintro e w9 ⟨rfl, hb9⟩))
            | fail)
          go_ret
          exact ⟨rfl, HBB.out _ (hbw4.trans (hb9.mono hbw4.size))⟩
        | true =>
          obtain rfl : p3 = true := Hp.out rfl rfl
          go_wp2_with (first
            | (go_at_call 31; ((with_reducible refine (Gst.out z.w hbz).mono ?_); rintro e w3 ⟨rfl, hb3⟩; have hbw3 := hbz.trans (hb3.mono hbz.size); obtain ⟨⟨y0, y1, y2, y3, y4⟩, y5, y6, y7, y8, y9, y10⟩ := HX.out w3 hbw3))
            | (go_at_call 31; ((with_reducible refine (Gtu.out w3 hbw3).mono ?_); rintro e w4 ⟨rfl, hb4⟩; have hbw4 := hbw3.trans (hb4.mono hbw3.size); obtain ⟨⟨v0, v1, v2, v3, v4⟩, v5, v6, v7, v8, v9, v10⟩ := HX.out w4 hbw4))
            | (go_at_call 31; ((with_reducible refine (Gsu.out w4 hbw4).mono ?_); rintro e w5 ⟨rfl, hb5⟩; have hbw5 := hbw4.trans (hb5.mono hbw4.size)))
            | (go_at_call 28; go_must ((with_reducible refine (Hwk.out _).mono ?_); rintro e w9 ⟨rfl, hb9⟩))
            | fail)
          go_ret
          exact ⟨rfl, HBB.out _ (hbw5.trans (hb9.mono hbw5.size))⟩

end Go.Proofs.Ytnmpeodngipfcaa

/- An order, and terms whose rows have room for what they hold, that are arguments. -/

namespace Go.Proofs.Ytnmpeodngipfcaa

open Go.ChangeShapes Go.WideShapes Go.ChangeAt Go.RowKit
set_option maxRecDepth 20000

section

variable {H : Type} {enc : TypeId × Value → H} {W : World} {base : Nat} {held : Bool}

theorem trodk_term : ∀ (n : Nat) (cs : List Value) (x : DataW H × List MemPlace), DataW.trod enc Try.prog W base (fun _ => true) held n 27 cs = some x →
    ∃ (t : Tm) (A : Option Addr) (c : Nat), cs = [.int .i64 t.fn, .slice A t.args.length c] ∧ I64 t.fn ∧ ArgsK W (· < W.heap.size) A c t.args ∧ t.size ≤ Rows.uptoBulk x.1 := by
  intro n
  induction n using Nat.strongRecOn with
  | ind n ih =>
    intro cs x h
    obtain ⟨xs, n', rfl, hx, hlen, hxs, hf⟩ := DataW.trod_struct Try.underlying27 h
    rw [cellsTerm] at hlen
    match cs, hlen with
    | [c0, c1], _ =>
      have hx2 : xs.length = 2 := by rw [hxs]; rfl
      match xs, hx2 with
      | [x0, x1], _ =>
        have g0 := hf 0 _ rfl
        have g1 := hf 1 _ rfl
        simp [cellsInt] at g0
        simp [cellsTerms] at g1
        obtain ⟨f, hfv, ef, hw⟩ := DataW.trod_int Try.underlying3 g0
        injection hfv with hfv
        subst hfv
        have hf64 : I64 f := by
          have := hw
          simp [Lit.wf, IntKind.min, IntKind.max, IntKind.signed, IntKind.bits] at this
          exact this
        rcases DataW.trod_slice Try.underlying25 g1 with ⟨hv, e1⟩ | ⟨a, len, cap, elems, rest, m, hm, hv, e1, _, hl, hmax, hlenE, hel, _, _⟩
        · injection hv with hv
          subst hv
          refine ⟨.node f [], none, 0, rfl, hf64, .nil none 0, ?_⟩
          subst hx
          simp [ef, e1, Tm.size, sizes, Rows.uptoBulk, Rows.uptoBulkAll]
        · injection hv with hv
          subst hv
          have each : ∀ i, i < len → ∃ q : Tm × Option Addr × Nat × DataW H, I64 q.1.fn ∧ W.cell? (a.add (i * 2)) = some (.int .i64 q.1.fn) ∧ W.cell? ((a.add (i * 2)).add 1) = some (.slice q.2.1 q.1.args.length q.2.2.1) ∧ ArgsK W (· < W.heap.size) q.2.1 q.2.2.1 q.1.args ∧ q.1.size ≤ Rows.uptoBulk q.2.2.2 ∧ (elems.map (·.1))[i]? = some q.2.2.2 := by
            intro i hi
            have h1 := hel i hi
            rw [cellsTerm] at h1
            rw [List.getElem?_eq_getElem (by omega)] at h1
            cases hc : W.cells? base (a.add (i * 2)) 2 with
            | none => rw [hc] at h1; cases h1
            | some cs' =>
              rw [hc] at h1
              simp only [Option.bind_some] at h1
              obtain ⟨t, A, c, rfl, ht64, hA, hb⟩ := ih m (by omega) cs' _ h1
              obtain ⟨_, _, hat⟩ := World.cells?_some hc
              refine ⟨(t, A, c, (elems[i]'(by omega)).1), ht64, ?_, hat 1 (by omega), hA, hb, by rw [List.getElem?_map, List.getElem?_eq_getElem (show i < elems.length by omega)]; rfl⟩
              have := hat 0 (by omega)
              simpa [Addr.add] using this
          haveI : Inhabited (Tm × Option Addr × Nat × DataW H) := ⟨(.node 0 [], none, 0, .nil)⟩
          obtain ⟨q, hq⟩ := Go.Deep.choose_lt each
          have hget : ∀ (i : Nat) (t : Tm), ((List.range len).map fun i => (q i).1)[i]? = some t → i < len ∧ t = (q i).1 := by
            intro i t e
            have hi : i < len := by have := (List.getElem?_eq_some_iff.1 e).1; simpa using this
            rw [List.getElem?_map, List.getElem?_range hi] at e
            simp at e
            exact ⟨hi, e.symm⟩
          refine ⟨.node f ((List.range len).map fun i => (q i).1), some a, cap, by simp [Tm.fn, Tm.args], hf64, ?_, ?_⟩
          · rcases Nat.eq_zero_or_pos len with h0 | h0
            · subst h0; exact .nil _ _
            · have c00 := (hq 0 h0).2.1
              simp only [Nat.zero_mul, Addr.add, if_true] at c00
              obtain ⟨blk, off, spot⟩ := a
              obtain rfl : spot = none := cell_spot c00
              have hblk : blk < W.heap.size := by
                unfold World.cell? at c00
                rcases Nat.lt_or_ge blk W.heap.size with h1 | h1
                · exact h1
                · simp [Array.getElem?_eq_none h1] at c00
              simp only [Tm.args]
              refine .row blk off cap _ (fun i => (q i).2.1) (fun i => (q i).2.2.1) (by simpa using hl) hblk (by unfold maxLen at hmax; simp; omega) (fun i t e => ?_) (fun i t e => ?_) (fun i t e => ?_) (fun i t e => ?_)
              · obtain ⟨hi, rfl⟩ := hget i t e
                exact (hq i hi).1
              · obtain ⟨hi, rfl⟩ := hget i t e
                have := (hq i hi).2.1
                rwa [Addr.add_lit] at this
              · obtain ⟨hi, rfl⟩ := hget i t e
                have := (hq i hi).2.2.1
                rwa [Addr.add_lit, Addr.add_lit] at this
              · obtain ⟨hi, rfl⟩ := hget i t e
                exact (hq i hi).2.2.2.1
          · subst hx
            have hb : sizes ((List.range len).map fun i => (q i).1) ≤ Rows.uptoBulkAll (elems.map (·.1)) := by
              refine bulk_all _ _ (by simp [hlenE]) fun i t d e1 e2 => ?_
              obtain ⟨hi, rfl⟩ := hget i t e1
              have h5 := (hq i hi).2.2.2.2
              rw [h5.2] at e2
              cases e2
              exact h5.1
            simp only [ef, e1, Tm.size, List.map_cons, List.map_nil, Rows.uptoBulk, Rows.uptoBulkAll]
            omega

/-- A term that is an argument. -/
theorem openk_term {r : Reach} {b0 : Nat} {v : Value} {d : DataW H} {ps : List MemPlace} (hv : Value.okWide Try.prog W r b0 27 v) (h : DataW.Trod enc Try.prog W base (fun _ => true) held 27 v d ps) :
    ∃ (t : Tm) (A : Option Addr) (c : Nat), v = .agg #[.int .i64 t.fn, .slice A t.args.length c] ∧ I64 t.fn ∧ ArgsK W (· < W.heap.size) A c t.args ∧ t.size ≤ Rows.uptoBulk d := by
  obtain ⟨cs, rfl, _⟩ := okWide_struct Try.underlying27 hv
  obtain ⟨fuel, hf⟩ := h
  obtain ⟨t, A, c, hcs, h1, h2, h3⟩ := trodk_term _ _ _ hf
  refine ⟨t, A, c, ?_, h1, h2, h3⟩
  have hcs' : cs.toList = [.int .i64 t.fn, .slice A t.args.length c] := hcs
  rw [show cs = #[.int .i64 t.fn, .slice A t.args.length c] from Array.toList_inj.1 (by rw [hcs'])]

theorem cellsInts1 : Try.prog.cellsOf 22 = 1 := by kernel_rfl

theorem cellsBool2 : Try.prog.cellsOf 4 = 1 := by kernel_rfl

theorem cellsOrder : Try.prog.cellsOf 24 = 4 := by kernel_rfl

theorem trod_ints1 {n : Nat} {c0 : Value} {x : DataW H × List MemPlace} (hf : DataW.trod enc Try.prog W base (fun _ => true) held n 22 [c0] = some x) :
    ∃ (p : List Int) (A : Option Addr) (c : Nat), c0 = .slice A p.length c ∧ p.length ≤ c ∧ Ints W W.heap.size A p := by
  rcases open_ints Try.underlying22 Try.underlying3 cellsInt hf with ⟨hcs, _⟩ | ⟨ad, len, cap, zs, hcs, _, hn, hmax, hzl, _, hcell, hwf⟩
  · injection hcs with hcs _
    exact ⟨[], none, 0, hcs, Nat.le_refl _, ⟨by simp, by simp, fun h => by simp at h⟩⟩
  · injection hcs with hcs _
    subst hcs
    simp only [if_true] at hzl
    have hl : (zs.take len).length = len := by rw [List.length_take]; omega
    refine ⟨zs.take len, some ad, cap, by rw [hl], by omega, ⟨by unfold maxLen at hmax; omega, fun x hx => ?_, fun hpos => ?_⟩⟩
    · have := hwf x (List.mem_of_mem_take hx)
      simp [Lit.wf, IntKind.min, IntKind.max, IntKind.signed, IntKind.bits] at this
      exact this
    · have c0 := hcell 0 (by omega)
      obtain ⟨blk, off, spot⟩ := ad
      simp only [Addr.add, if_true] at c0
      obtain rfl : spot = none := cell_spot c0
      refine ⟨blk, off, rfl, World.block_lt_of_cell? W _ c0, fun i x hi => ?_⟩
      have hil := (List.getElem?_eq_some_iff.1 hi).1
      have h1 := hcell i (by omega)
      rw [Addr.add_lit] at h1
      rw [h1]
      rw [List.getElem?_take] at hi
      split at hi
      · rw [List.getD_eq_getElem?_getD, hi]; rfl
      · cases hi

theorem open_order {r : Reach} {b0 : Nat} {v : Value} {d : DataW H} {ps : List MemPlace} (hv : Value.okWide Try.prog W r b0 24 v) (h : DataW.Trod enc Try.prog W base (fun _ => true) held 24 v d ps) :
    ∃ (o : Odr) (P Q : Option Addr) (pc qc : Nat), v = .agg #[.bool o.lpo, .slice P o.prec.length pc, .slice Q o.wts.length qc, .int .i64 o.var] ∧ OdrM W W.heap.size o P Q ∧ o.prec.length ≤ pc ∧ o.wts.length ≤ qc := by
  obtain ⟨cs, rfl, _⟩ := okWide_struct Try.underlying24 hv
  obtain ⟨fuel, hf⟩ := h
  have hf' : DataW.trod enc Try.prog W base (fun _ => true) held fuel 24 cs.toList = some (d, ps) := hf
  obtain ⟨xs, n', _, hx, hlen, hxs, hg⟩ := DataW.trod_struct Try.underlying24 hf'
  rw [cellsOrder] at hlen
  obtain ⟨l, hl⟩ : ∃ l, cs.toList = l := ⟨_, rfl⟩
  rw [hl] at hlen hg
  match l, hlen, hl with
  | [c0, c1, c2, c3], _, hl =>
    have hx2 : xs.length = 4 := by rw [hxs]; rfl
    match xs, hx2 with
    | [x0, x1, x2, x3], _ =>
      have g0 := hg 0 _ rfl
      have g1 := hg 1 _ rfl
      have g2 := hg 2 _ rfl
      have g3 := hg 3 _ rfl
      simp [cellsBool2] at g0
      simp [cellsInts1] at g1
      simp [cellsInts1] at g2
      simp [cellsInt] at g3
      obtain ⟨b, hbv, _⟩ := DataW.trod_bool Try.underlying4 g0
      injection hbv with hbv
      subst hbv
      obtain ⟨p, P, pc, rfl, h1, h2⟩ := trod_ints1 g1
      obtain ⟨q, Q, qc, rfl, h3, h4⟩ := trod_ints1 g2
      obtain ⟨f, hfv, _, hw⟩ := DataW.trod_int Try.underlying3 g3
      injection hfv with hfv
      subst hfv
      have hf64 : I64 f := by
        have := hw
        simp [Lit.wf, IntKind.min, IntKind.max, IntKind.signed, IntKind.bits] at this
        exact this
      refine ⟨⟨b, p, q, f⟩, P, Q, pc, qc, ?_, ⟨h2, h4, hf64⟩, h1, h3⟩
      rw [show cs = #[.bool b, .slice P p.length pc, .slice Q q.length qc, .int .i64 f] from Array.toList_inj.1 (by rw [hl])]

end

end Go.Proofs.Ytnmpeodngipfcaa

/- A signature that is an argument: its length is bounded by what the arguments hold together. -/

namespace Go.Proofs.Ytnmpeodngipfcaa

open Go.ChangeShapes Go.WideShapes Go.ChangeAt Go.RowKit
set_option maxRecDepth 20000

theorem bulk_pos {H : Type} (d : DataW H) : 1 ≤ Rows.uptoBulk d := by
  cases d with
  | lit l => cases l <;> simp [Rows.uptoBulk]
  | _ => simp [Rows.uptoBulk]

theorem bulk_length {H : Type} : ∀ ds : List (DataW H), ds.length ≤ Rows.uptoBulkAll ds
  | [] => by simp
  | d :: ds => by
    have h1 := bulk_pos d
    have h2 := bulk_length ds
    simp only [Rows.uptoBulkAll, List.length_cons]; omega

theorem sig_bulk {H : Type} {d : DataW H} {len : Nat} (hl : len = 0 ∨ ∃ elems spare, d = .agg [.slice elems spare] ∧ elems.length = len) : len ≤ Rows.uptoBulk d := by
  rcases hl with rfl | ⟨elems, spare, rfl, rfl⟩
  · omega
  · have := bulk_length elems
    simp only [Rows.uptoBulk, Rows.uptoBulkAll]; omega

theorem trodAll_five {H : Type} {enc : TypeId × Value → H} {P : Program} {w : World} {base : Nat} {spare : Nat → Bool} {held : Bool} {t0 t1 t2 t3 t4 : TypeId} {args : Array Value} {ds : List (DataW H)} {ps : List MemPlace} (h : DataW.TrodAll enc P w base spare held [t0, t1, t2, t3, t4] args.toList ds ps) :
    ∃ v0 v1 v2 v3 v4 d0 d1 d2 d3 d4 p0 p1 p2 p3 p4, args = #[v0, v1, v2, v3, v4] ∧ ds = [d0, d1, d2, d3, d4] ∧ ps = p0 ++ (p1 ++ (p2 ++ (p3 ++ (p4)))) ∧ DataW.Trod enc P w base spare held t0 v0 d0 p0 ∧ DataW.Trod enc P w base spare held t1 v1 d1 p1 ∧ DataW.Trod enc P w base spare held t2 v2 d2 p2 ∧ DataW.Trod enc P w base spare held t3 v3 d3 p3 ∧ DataW.Trod enc P w base spare held t4 v4 d4 p4 := by
  obtain ⟨v0, w0, d0, e0, p0, q0, hargs, rfl, rfl, k0, r0⟩ := trodAll_cons h
  obtain ⟨v1, w1, d1, e1, p1, q1, rfl, rfl, rfl, k1, r1⟩ := trodAll_cons r0
  obtain ⟨v2, w2, d2, e2, p2, q2, rfl, rfl, rfl, k2, r2⟩ := trodAll_cons r1
  obtain ⟨v3, w3, d3, e3, p3, q3, rfl, rfl, rfl, k3, r3⟩ := trodAll_cons r2
  obtain ⟨v4, w4, d4, e4, p4, q4, rfl, rfl, rfl, k4, r4⟩ := trodAll_cons r3
  obtain ⟨rfl, rfl, rfl⟩ := trodAll_nil r4
  exact ⟨v0, v1, v2, v3, v4, d0, d1, d2, d3, d4, p0, p1, p2, p3, p4, by cases args; simp_all, rfl, by simp, k0, k1, k2, k3, k4⟩

theorem trodAll_six {H : Type} {enc : TypeId × Value → H} {P : Program} {w : World} {base : Nat} {spare : Nat → Bool} {held : Bool} {t0 t1 t2 t3 t4 t5 : TypeId} {args : Array Value} {ds : List (DataW H)} {ps : List MemPlace} (h : DataW.TrodAll enc P w base spare held [t0, t1, t2, t3, t4, t5] args.toList ds ps) :
    ∃ v0 v1 v2 v3 v4 v5 d0 d1 d2 d3 d4 d5 p0 p1 p2 p3 p4 p5, args = #[v0, v1, v2, v3, v4, v5] ∧ ds = [d0, d1, d2, d3, d4, d5] ∧ ps = p0 ++ (p1 ++ (p2 ++ (p3 ++ (p4 ++ (p5))))) ∧ DataW.Trod enc P w base spare held t0 v0 d0 p0 ∧ DataW.Trod enc P w base spare held t1 v1 d1 p1 ∧ DataW.Trod enc P w base spare held t2 v2 d2 p2 ∧ DataW.Trod enc P w base spare held t3 v3 d3 p3 ∧ DataW.Trod enc P w base spare held t4 v4 d4 p4 ∧ DataW.Trod enc P w base spare held t5 v5 d5 p5 := by
  obtain ⟨v0, w0, d0, e0, p0, q0, hargs, rfl, rfl, k0, r0⟩ := trodAll_cons h
  obtain ⟨v1, w1, d1, e1, p1, q1, rfl, rfl, rfl, k1, r1⟩ := trodAll_cons r0
  obtain ⟨v2, w2, d2, e2, p2, q2, rfl, rfl, rfl, k2, r2⟩ := trodAll_cons r1
  obtain ⟨v3, w3, d3, e3, p3, q3, rfl, rfl, rfl, k3, r3⟩ := trodAll_cons r2
  obtain ⟨v4, w4, d4, e4, p4, q4, rfl, rfl, rfl, k4, r4⟩ := trodAll_cons r3
  obtain ⟨v5, w5, d5, e5, p5, q5, rfl, rfl, rfl, k5, r5⟩ := trodAll_cons r4
  obtain ⟨rfl, rfl, rfl⟩ := trodAll_nil r5
  exact ⟨v0, v1, v2, v3, v4, v5, d0, d1, d2, d3, d4, d5, p0, p1, p2, p3, p4, p5, by cases args; simp_all, rfl, by simp, k0, k1, k2, k3, k4, k5⟩

end Go.Proofs.Ytnmpeodngipfcaa

/- An order among the arguments: its ranks are no more than the argument's values. -/

namespace Go.Proofs.Ytnmpeodngipfcaa

open Go.ChangeShapes Go.WideShapes Go.ChangeAt Go.RowKit
set_option maxRecDepth 20000

section

variable {H : Type} {enc : TypeId × Value → H} {W : World} {base : Nat} {held : Bool}

theorem trod_ints1L {n : Nat} {c0 : Value} {x : DataW H × List MemPlace} (hf : DataW.trod enc Try.prog W base (fun _ => true) held n 22 [c0] = some x) :
    ∃ (p : List Int) (A : Option Addr) (c : Nat), c0 = .slice A p.length c ∧ p.length ≤ c ∧ Ints W W.heap.size A p ∧ p.length ≤ Rows.uptoBulk x.1 := by
  rcases open_ints Try.underlying22 Try.underlying3 cellsInt hf with ⟨hcs, hx⟩ | ⟨ad, len, cap, zs, hcs, _, hn, hmax, hzl, hx, hcell, hwf⟩
  · injection hcs with hcs _
    exact ⟨[], none, 0, hcs, Nat.le_refl _, ⟨by simp, by simp, fun h => by simp at h⟩, Nat.zero_le _⟩
  · injection hcs with hcs _
    subst hcs
    simp only [if_true] at hzl
    have hl : (zs.take len).length = len := by rw [List.length_take]; omega
    refine ⟨zs.take len, some ad, cap, by rw [hl], by omega, ⟨by unfold maxLen at hmax; omega, fun x hx => ?_, fun hpos => ?_⟩, ?_⟩
    · have := hwf x (List.mem_of_mem_take hx)
      simp [Lit.wf, IntKind.min, IntKind.max, IntKind.signed, IntKind.bits] at this
      exact this
    · have c0 := hcell 0 (by omega)
      obtain ⟨blk, off, spot⟩ := ad
      simp only [Addr.add, if_true] at c0
      obtain rfl : spot = none := cell_spot c0
      refine ⟨blk, off, rfl, World.block_lt_of_cell? W _ c0, fun i x hi => ?_⟩
      have hil := (List.getElem?_eq_some_iff.1 hi).1
      have h1 := hcell i (by omega)
      rw [Addr.add_lit] at h1
      rw [h1]
      rw [List.getElem?_take] at hi
      split at hi
      · rw [List.getD_eq_getElem?_getD, hi]; rfl
      · cases hi
    · rw [hx]
      have h1 := bulk_length (lits (H := H) .i64 (zs.take len))
      have h2 : (lits (H := H) .i64 (zs.take len)).length = (zs.take len).length := by simp [lits]
      simp only [Rows.uptoBulk]
      omega

theorem open_orderL {r : Reach} {b0 : Nat} {v : Value} {d : DataW H} {ps : List MemPlace} (hv : Value.okWide Try.prog W r b0 24 v) (h : DataW.Trod enc Try.prog W base (fun _ => true) held 24 v d ps) :
    ∃ (o : Odr) (P Q : Option Addr) (pc qc : Nat), v = .agg #[.bool o.lpo, .slice P o.prec.length pc, .slice Q o.wts.length qc, .int .i64 o.var] ∧ OdrM W W.heap.size o P Q ∧ o.prec.length ≤ Rows.uptoBulk d := by
  obtain ⟨cs, rfl, _⟩ := okWide_struct Try.underlying24 hv
  obtain ⟨fuel, hf⟩ := h
  have hf' : DataW.trod enc Try.prog W base (fun _ => true) held fuel 24 cs.toList = some (d, ps) := hf
  obtain ⟨xs, n', _, hx, hlen, hxs, hg⟩ := DataW.trod_struct Try.underlying24 hf'
  rw [cellsOrder] at hlen
  obtain ⟨l, hl⟩ : ∃ l, cs.toList = l := ⟨_, rfl⟩
  rw [hl] at hlen hg
  match l, hlen, hl with
  | [c0, c1, c2, c3], _, hl =>
    have hx2 : xs.length = 4 := by rw [hxs]; rfl
    match xs, hx2 with
    | [x0, x1, x2, x3], _ =>
      have g0 := hg 0 _ rfl
      have g1 := hg 1 _ rfl
      have g2 := hg 2 _ rfl
      have g3 := hg 3 _ rfl
      simp [cellsBool2] at g0
      simp [cellsInts1] at g1
      simp [cellsInts1] at g2
      simp [cellsInt] at g3
      obtain ⟨b, hbv, _⟩ := DataW.trod_bool Try.underlying4 g0
      injection hbv with hbv
      subst hbv
      obtain ⟨p, P, pc, rfl, h1, h2, h5⟩ := trod_ints1L g1
      obtain ⟨q, Q, qc, rfl, h3, h4⟩ := trod_ints1 g2
      obtain ⟨f, hfv, _, hw⟩ := DataW.trod_int Try.underlying3 g3
      injection hfv with hfv
      subst hfv
      have hf64 : I64 f := by
        have := hw
        simp [Lit.wf, IntKind.min, IntKind.max, IntKind.signed, IntKind.bits] at this
        exact this
      refine ⟨⟨b, p, q, f⟩, P, Q, pc, qc, ?_, ⟨h2, h4, hf64⟩, ?_⟩
      rw [show cs = #[.bool b, .slice P p.length pc, .slice Q q.length qc, .int .i64 f] from Array.toList_inj.1 (by rw [hl])]
      injection hx with hx _
      rw [hx]
      simp only [Rows.uptoBulk, Rows.uptoBulkAll, List.map_cons, List.map_nil]
      show p.length ≤ _
      omega

end

end Go.Proofs.Ytnmpeodngipfcaa

/- A law's last step, whatever its arguments: it answered true, and below the heap's old size nothing has turned. -/

namespace Go.Proofs.Ytnmpeodngipfcaa

open Go.ChangeShapes Go.WideShapes Go.ChangeAt Go.RowKit

section

variable {H : Type} {enc : TypeId × Value → H} {P : Program}

theorem trodAll_later (hl : laidOutB P = true) {W W' : World} (hb : Below W.heap.size W W') : ∀ {ts : List TypeId} {vs : List Value} {ds : List (DataW H)} {ps : List MemPlace},
    (ts.all fun t => P.readableRec t && decide (t < P.types.size)) = true → (∀ x ∈ ps, x.block < W.heap.size) → DataW.TrodAll enc P W 0 (fun _ => true) true ts vs ds ps → DataW.TrodAll enc P W' 0 (fun b => decide (b < W.heap.size)) true ts vs ds ps
  | [], [], [], _, _, _, h => h
  | [], [], _ :: _, _, _, _, h => h.elim
  | [], _ :: _, _, _, _, _, h => h.elim
  | _ :: _, [], _, _, _, _, h => h.elim
  | _ :: _, _ :: _, [], _, _, _, h => h.elim
  | t :: ts, v :: vs, d :: ds, ps, hr, hlt, h => by
    obtain ⟨p, q, h1, h2, rfl⟩ := h
    simp only [List.all_cons, Bool.and_eq_true, decide_eq_true_eq] at hr
    exact ⟨p, q, Below.trod hl hr.1.1 hr.1.2 h1 hb (fun x hx => hlt x (List.mem_append_left _ hx)), trodAll_later hl hb hr.2 (fun x hx => hlt x (List.mem_append_right _ hx)) h2, rfl⟩

theorem law_post (hl : laidOutB P = true) {f : Func} {s : ChangeSpec} {tb : TypeId} (hv : s.vars = []) (hrt : f.resultTypes = #[tb]) (htb : P.underlying tb = some .bool)
    (hread : (f.params.toList.all fun t => P.readableRec t && decide (t < P.types.size)) = true) {W W' : World} {args : Array Value} {ds gs : List (DataW H)} {before : List MemPlace}
    (hW : DataW.Whole enc P f.params.toList s.vars false W args.toList ds gs before) (hfn : s.fn H (ds ++ gs) = { results := [.lit (.bool true)], args := ds }) (hb : Below W.heap.size W W') :
    s.post enc P f false true false false W args (.bool true) W' := by
  have hlt := hW.lt
  have hW' := hW
  obtain ⟨p, q, hA, hV, rfl, hfz, _⟩ := hW'
  have hV' : gs = [] ∧ q = [] := by
    rw [hv] at hV
    cases gs with
    | nil => exact ⟨rfl, hV⟩
    | cons _ _ => exact hV.elim
  obtain ⟨rfl, rfl⟩ := hV'
  have hold : ∀ x ∈ p, x.block < W.heap.size := fun x hx => hlt x (by simp [hx])
  refine ⟨ds, [], p ++ [], [], p, [], hW, ?_, ?_, ?_, World.keptBut_mono (fun x hx => ⟨hx, ?_⟩) (hb.frame (· ∈ p ++ [])), fun h => by cases h⟩
  · rw [hfn, hrt]
    exact trodAll_mk1 (shut_bool htb _)
  · rw [hfn]
    exact trodAll_later hl hb hread hold hA
  · rw [hfn, hv]
    rfl
  · rw [List.append_nil] at hx
    exact .inr (.inl hx)

end

end Go.Proofs.Ytnmpeodngipfcaa

