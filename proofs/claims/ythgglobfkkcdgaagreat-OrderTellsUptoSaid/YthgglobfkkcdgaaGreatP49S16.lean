import Derived.Test.YthgglobfkkcdgaaGreatP49S15
import Derived.Test.YthgglobfkkcdgaaGreatP49S14
import Derived.Test.YthgglobfkkcdgaaGreatP49S1
import Derived.Test.YthgglobfkkcdgaaGreatP49S10
import Derived.Test.YthgglobfkkcdgaaGreatP49S2
import Derived.Test.YthgglobfkkcdgaaGreatP49S9
import Derived.Deep.OwnRows
import Derived.Laws.EntriesVeiled
import Derived.Test.YthgglobfkkcdgaaGreatP49S13
namespace Go.Proofs.YthgglobfkkcdgaaGreat
open Go.RowKit Go.Shelf Go.Maps
set_option maxRecDepth 100000
theorem cells2p {W : World} {b : Nat} {x y x' y' : Value} {t : TypeId} (h : W.heap[b]? = some (.cells #[x, y] t)) : ((W.setCell ⟨b, 0, none⟩ x').setCell ⟨b, 1, none⟩ y').heap[b]? = some (.cells #[x', y'] t) :=
  heap_setCell_same _ _ 1 _ _ _ (heap_setCell_same W _ 0 _ _ _ h)
theorem two_res {w1 : World} {b6 b7 : Nat} {a b a' b' : Value} {ty ty' : TypeId} (hne : b6 ≠ b7) (h6 : w1.heap[b6]? = some (.cells #[a, b] ty)) (h7 : w1.heap[b7]? = some (.cells #[a', b'] ty')) (x y x' y' : Value) :
    ((((w1.setCell ⟨b6, 0, none⟩ x).setCell ⟨b6, 1, none⟩ y).setCell ⟨b7, 0, none⟩ x').setCell ⟨b7, 1, none⟩ y').cell? ⟨b6, 0, none⟩ = some x ∧ ((((w1.setCell ⟨b6, 0, none⟩ x).setCell ⟨b6, 1, none⟩ y).setCell ⟨b7, 0, none⟩ x').setCell ⟨b7, 1, none⟩ y').cell? ⟨b6, 1, none⟩ = some y ∧
    ((((w1.setCell ⟨b6, 0, none⟩ x).setCell ⟨b6, 1, none⟩ y).setCell ⟨b7, 0, none⟩ x').setCell ⟨b7, 1, none⟩ y').cell? ⟨b7, 0, none⟩ = some x' ∧ ((((w1.setCell ⟨b6, 0, none⟩ x).setCell ⟨b6, 1, none⟩ y).setCell ⟨b7, 0, none⟩ x').setCell ⟨b7, 1, none⟩ y').cell? ⟨b7, 1, none⟩ = some y' := by
  have e6 := cells2p (x' := x) (y' := y) h6
  have o : ∀ W : World, ((W.setCell ⟨b7, 0, none⟩ x').setCell ⟨b7, 1, none⟩ y').heap[b6]? = W.heap[b6]? := fun W => (heap_setCell_other _ _ _ _ hne).trans (heap_setCell_other _ _ _ _ hne)
  have e7 : ((w1.setCell ⟨b6, 0, none⟩ x).setCell ⟨b6, 1, none⟩ y).heap[b7]? = some (.cells #[a', b'] ty') := ((heap_setCell_other _ _ _ _ (Ne.symm hne)).trans (heap_setCell_other _ _ _ _ (Ne.symm hne))).trans h7
  obtain ⟨c0, c1, _, _⟩ := cells_two ((o _).trans e6)
  obtain ⟨d0, d1, _, _⟩ := cells_two (cells2p (x' := x') (y' := y') e7)
  exact ⟨c0, c1, d0, d1⟩
set_option maxHeartbeats 4000000 in
theorem lpoLay_any (o : Odr) (s t : Tm) (P Q A A2 : Option Addr) (pc qc c c2 : Nat) (w : World) (hM : OdrM w w.heap.size o P Q) (hrk : o.prec.length ≤ 140737488351232) (hf : I64 s.fn) (hg : I64 t.fn) (hn : s.size + t.size ≤ 1099511627776) (hA : ArgsN w (· < w.heap.size) A s.args) (hA2 : ArgsN w (· < w.heap.size) A2 t.args) :
    Calls Tryz.prog 44 #[.agg #[.bool o.lpo, .slice P o.prec.length pc, .slice Q o.wts.length qc, .int .i64 o.var], .agg #[.int .i64 s.fn, .slice A s.args.length c], .agg #[.int .i64 t.fn, .slice A2 t.args.length c2]] w (LayTwo w o.prec s t) := by
  have hmm1 : ∀ w : World, (Instr.makeMap 90 none).run Tryz.prog w = .ok (.map (some w.heap.size)) (w.alloc (.map #[] 0)) := fun _ => run_makeMap_plain (w := _) _
  have hmm2 : ∀ w : World, (Instr.makeMap 91 none).run Tryz.prog w = .ok (.map (some w.heap.size)) (w.alloc (.map #[] 0)) := fun _ => run_makeMap_plain (w := _) _
  obtain ⟨q0, q1, q2, q3, q4⟩ := heap5 w (.cells #[.bool o.lpo, .slice P o.prec.length pc, .slice Q o.wts.length qc, .int .i64 o.var] 24) (.cells #[.int .i64 s.fn, .slice A s.args.length c] 36) (.cells #[.int .i64 t.fn, .slice A2 t.args.length c2] 36) (.cells #[.pointer none, .int .i64 0] 74) (.cells #[.pointer none, .int .i64 0] 74)
  obtain ⟨W, hW⟩ : ∃ W, (((((w.alloc (.cells #[.bool o.lpo, .slice P o.prec.length pc, .slice Q o.wts.length qc, .int .i64 o.var] 24)).alloc (.cells #[.int .i64 s.fn, .slice A s.args.length c] 36)).alloc (.cells #[.int .i64 t.fn, .slice A2 t.args.length c2] 36)).alloc (.cells #[.pointer none, .int .i64 0] 74)).alloc (.cells #[.pointer none, .int .i64 0] 74)) = W := ⟨_, rfl⟩
  have hB : Below w.heap.size w W := by rw [← hW]; exact below5 _ _ _ _ _ _
  rw [hW] at q0 q1 q2 q3 q4
  have hWz : W.heap.size = w.heap.size + 5 := by rw [← hW]; simp
  obtain ⟨x0, x1, x2, x3⟩ := cells_four q0
  obtain ⟨m0, m1, m2⟩ := heap3 W (.map #[] 0) (.map #[] 0) (.cells #[.slice P o.prec.length pc, .slice none 0 0, .map (some W.heap.size), .map (some (W.heap.size + 1))] 94)
  obtain ⟨X, hX⟩ : ∃ X, (((W.alloc (.map #[] 0)).alloc (.map #[] 0)).alloc (.cells #[.slice P o.prec.length pc, .slice none 0 0, .map (some W.heap.size), .map (some (W.heap.size + 1))] 94)) = X := ⟨_, rfl⟩
  have hBX : Below W.heap.size W X := by rw [← hX]; exact (((Below.refl _ _).alloc (Nat.le_refl _) _).alloc (by simp) _).alloc (by simp; omega) _
  rw [hX] at m0 m1 m2
  have hXz : X.heap.size = W.heap.size + 3 := by rw [← hX]; simp
  have hBwX : Below w.heap.size w X := hB.trans (hBX.mono hB.size)
  have hLM : LMap X W.heap.size o.prec.length [] := (LMap.made W o.prec.length).kept (by rw [m0, heap_alloc_new])
  have hFM : ∀ F, FMap X (W.heap.size + 1) [] F := fun F => by
    have h1 := FMap.made (W.alloc (.map #[] 0)) F
    have hz : (W.alloc (.map #[] 0)).heap.size = W.heap.size + 1 := by simp
    rw [hz] at h1
    exact h1.kept (by rw [m1, ← hz, heap_alloc_new])
  have hP := prL_made (bm := W.heap.size) (bp := W.heap.size + 1 + 1) (bf := W.heap.size + 1) (B0 := w.heap.size) m2 (hM.p.blw hBwX) hLM (by omega) (by omega) (by omega)
  have hAX := hA.keep fun g hg => hBwX.block g hg
  have hAX2 := hA2.keep fun g hg => hBwX.block g hg
  have h1 := lpLay_all (B0 := w.heap.size) (bp := W.heap.size + 1 + 1) (bm := W.heap.size) (P := P) (rk := o.prec) (pc := pc) (mf := .map (some (W.heap.size + 1))) s X _ [] [] A c hP (by simp; omega) (by simp; omega) hf hAX
  have y0 := (hBX.block (w.heap.size + 1) (by omega)).trans q1
  obtain ⟨s0, s1, _, _⟩ := cells_two y0
  have HW := Lib.hid hW
  have HX := Lib.hid hX
  have HB := Lib.hid hB
  have HBX := Lib.hid hBX
  have Q2 := Lib.hid ((hBX.block (w.heap.size + 1 + 1) (by omega)).trans q2)
  have Q3 := Lib.hid ((hBX.block (w.heap.size + 1 + 1 + 1) (by omega)).trans q3)
  have Q4 := Lib.hid ((hBX.block (w.heap.size + 1 + 1 + 1 + 1) (by omega)).trans q4)
  have HBw := Lib.hid hBwX
  have HFM := Lib.hid hFM
  have HA2 := Lib.hid hAX2
  have HM := Lib.hid hM
  have HWz := Lib.hid hWz
  have HXz := Lib.hid hXz
  unfold LayPost at h1
  have HK : ∀ (v : Value) (w1 : World), (∀ g, v.ownBlock = some g → X.heap.size ≤ g) → KeepsC (CsP (W.heap.size + 1 + 1) W.heap.size v) X w1 → ∀ g, g < W.heap.size → w1.heap[g]? = X.heap[g]? := fun v w1 hv hk g hg => hk.block (by omega) (by rintro (e | e | e); omega; omega; have := hv g e; omega)
  have HKh := Lib.hid HK
  clear hW hX hB hBX q0 q1 q2 q3 q4 m0 m1 m2 hM hA hA2 hP hAX hAX2 hLM hFM y0 HK hBwX hWz hXz
  go_enter Tryz.func44, Tryz.ntmps44
  go_upto_region 1 with fail
  rw [HW.out]
  go_upto_region 2 with fail
  rw [HX.out]
  have hb0 : ∀ (w1 : World), KeepsC (CsP (W.heap.size + 1 + 1) W.heap.size (.slice none 0 0)) X w1 → Below w.heap.size w w1 := fun w1 hk => HBw.out.trans (hk.below HBw.out.size fun g hg => by have := HWz.out; rintro (e | e | e); omega; omega; cases e)
  have Hb0 := Lib.hid hb0
  clear hb0
  have hne : ¬ w.heap.size + 1 + 1 + 1 = w.heap.size + 1 + 1 + 1 + 1 := by omega
  cases hks : layK o.prec.length s with
  | false =>
    rw [hks] at h1
    have H1 := Lib.hid h1
    have Hks := Lib.hid hks
    clear h1 hks
    go_wp2_with (first
      | (go_at_call 64; (with_reducible refine H1.out.mono ?_); go_must (rintro e w1 ⟨rfl, v1, H1, L1, p1, k1, n1, _⟩; have r3 := (HKh.out _ w1 (fun g e => by cases e) k1 _ (by have := HWz.out; omega)).trans Q3.out; have r4 := (HKh.out _ w1 (fun g e => by cases e) k1 _ (by have := HWz.out; omega)).trans Q4.out; obtain ⟨u0, u1, u2, u3⟩ := cells_two r3; obtain ⟨v0, v1, v2, v3⟩ := cells_two r4; have HR := Lib.hid (two_res hne r3 r4 (.pointer none) (.int .i64 0) (.pointer none) (.int .i64 0)); have Hbw := Lib.hid (Hb0.out w1 k1); clear p1 k1 n1 r3 r4))
      | fail)
    obtain ⟨e0, e1, e2, e3⟩ := HR.out
    refine bodyPost_ret (v := .tuple #[.agg #[.pointer none, .int .i64 0], .agg #[.pointer none, .int .i64 0], .bool false]) (by simp [results, Tryz.results44, go_sem, e0, e1, e2, e3]) rfl ⟨?_, fun h => ?_, fun _ => rfl⟩
    · exact (((Hbw.out.setCell (show w.heap.size ≤ w.heap.size + 1 + 1 + 1 by omega) _).setCell (show w.heap.size ≤ w.heap.size + 1 + 1 + 1 by omega) _).setCell (show w.heap.size ≤ w.heap.size + 1 + 1 + 1 + 1 by omega) _).setCell (show w.heap.size ≤ w.heap.size + 1 + 1 + 1 + 1 by omega) _
    · rw [Hks.out] at h; cases h.1
  | true =>
    rw [hks] at h1
    have H1 := Lib.hid h1
    have Hks := Lib.hid hks
    clear h1 hks
    go_upto_region 5 with (first
      | (go_at_call 64; (with_reducible refine H1.out.mono ?_); go_must (
        rintro e w1 ⟨rfl, v1, Hd1, L1, p1, k1, n1, e1x⟩
        obtain ⟨e1, l1⟩ := e1x rfl
        clear e1x
        rw [List.nil_append] at e1
        have hz1 := k1.size
        have hlen1 : Hd1.length = s.size := by rw [e1, hdT_len]
        have hL1 : L1.length + 1 ≤ s.size := by have := nm_len o.prec.length s []; rw [← l1] at this; simpa using this
        obtain ⟨A3, c3, rfl, _⟩ := p1.pair (by omega)
        have hv3 : ∀ g, (Value.slice A3 Hd1.length c3).ownBlock = some g → X.heap.size ≤ g := fun g e => by
          rcases n1 g e with a | a
          · cases a
          · exact a
        have r2 := (HKh.out _ w1 (fun g e => by cases e) k1 _ (by have := HWz.out; omega)).trans Q2.out
        have r3 := (HKh.out _ w1 (fun g e => by cases e) k1 _ (by have := HWz.out; omega)).trans Q3.out
        have r4 := (HKh.out _ w1 (fun g e => by cases e) k1 _ (by have := HWz.out; omega)).trans Q4.out
        obtain ⟨t0, t1, _, _⟩ := cells_two r2
        obtain ⟨_, b1, _, _⟩ := cells_four p1.box
        have hA1 := HA2.out.keep fun g (hg : g < w.heap.size) => HKh.out _ w1 (fun g e => by cases e) k1 g (by have := HWz.out; omega)
        have h2 := lpLay_all (B0 := w.heap.size) (bp := W.heap.size + 1 + 1) (bm := W.heap.size) (P := P) (rk := o.prec) (pc := pc) (mf := .map (some (W.heap.size + 1))) t w1 _ Hd1 L1 A2 c2 p1 (by omega) (by omega) hg hA1
        unfold LayPost at h2
        have P1 := Lib.hid p1
        have K1 := Lib.hid k1
        have N1 := Lib.hid n1
        have E1 := Lib.hid e1
        have F1 := Lib.hid l1
        have R3 := Lib.hid r3
        have R4 := Lib.hid r4
        have Hv3 := Lib.hid hv3
        have HL := Lib.hid hlen1
        clear p1 k1 n1 e1 l1 r2 r3 r4 hA1 hv3 hlen1))
      | fail)
    have HKK : Hid (∀ w2, KeepsC (CsP (W.heap.size + 1 + 1) W.heap.size (.slice A3 Hd1.length c3)) w1 w2 → (∀ g, g < W.heap.size → w2.heap[g]? = w1.heap[g]?) ∧ Below w.heap.size w w2) := Lib.hid fun w2 hk => by
      have h1 := HWz.out
      have h2 := HXz.out
      have hc : ∀ g, g < W.heap.size → ¬ CsP (W.heap.size + 1 + 1) W.heap.size (.slice A3 Hd1.length c3) g := fun g hg => by
        rintro (e | e | e)
        · omega
        · omega
        · have := Hv3.out g e; omega
      exact ⟨fun g hg => hk.block (by omega) (hc g hg), (Hb0.out w1 K1.out).trans (hk.below (by omega) fun g hg => hc g (by omega))⟩
    cases hkt : layK o.prec.length t with
    | false =>
      rw [hkt] at h2
      have H2 := Lib.hid h2
      have Hkt := Lib.hid hkt
      clear h2 hkt
      go_wp2_with (first
        | (go_at_call 64; (with_reducible refine H2.out.mono ?_); go_must (rintro e w2 ⟨rfl, v2, H2', L2, p2, k2, n2, _⟩; obtain ⟨kb, kw⟩ := HKK.out w2 k2; have r3 := (kb _ (by have := HWz.out; omega)).trans R3.out; have r4 := (kb _ (by have := HWz.out; omega)).trans R4.out; obtain ⟨u0, u1, u2, u3⟩ := cells_two r3; obtain ⟨v0, v1', v2', v3⟩ := cells_two r4; have HR := Lib.hid (two_res hne r3 r4 (.pointer none) (.int .i64 0) (.pointer none) (.int .i64 0)); have Hbw := Lib.hid kw; clear p2 k2 n2 r3 r4 kb kw))
        | fail)
      obtain ⟨e0, e1, e2, e3⟩ := HR.out
      refine bodyPost_ret (v := .tuple #[.agg #[.pointer none, .int .i64 0], .agg #[.pointer none, .int .i64 0], .bool false]) (by simp [results, Tryz.results44, go_sem, e0, e1, e2, e3]) rfl ⟨?_, fun h => ?_, fun _ => rfl⟩
      · exact (((Hbw.out.setCell (show w.heap.size ≤ w.heap.size + 1 + 1 + 1 by omega) _).setCell (show w.heap.size ≤ w.heap.size + 1 + 1 + 1 by omega) _).setCell (show w.heap.size ≤ w.heap.size + 1 + 1 + 1 + 1 by omega) _).setCell (show w.heap.size ≤ w.heap.size + 1 + 1 + 1 + 1 by omega) _
      · rw [Hkt.out] at h; cases h.2
    | true =>
      rw [hkt] at h2
      have H2 := Lib.hid h2
      have Hkt := Lib.hid hkt
      clear h2 hkt
      go_wp2_with (first
        | (go_at_call 64; (with_reducible refine H2.out.mono ?_); go_must (rintro e w2 ⟨rfl, v2, H2', L2, p2, k2, n2, e2x⟩; obtain ⟨e2, l2⟩ := e2x rfl; clear e2x; obtain ⟨kb, kw⟩ := HKK.out w2 k2; have r3 := (kb _ (by have := HWz.out; omega)).trans R3.out; have r4 := (kb _ (by have := HWz.out; omega)).trans R4.out; obtain ⟨u0, u1, u2, u3⟩ := cells_two r3; obtain ⟨v0, v1', v2', v3⟩ := cells_two r4; have HR := Lib.hid (two_res hne r3 r4 (.pointer (some ⟨W.heap.size + 1 + 1, 0, none⟩)) (.int .i64 0) (.pointer (some ⟨W.heap.size + 1 + 1, 0, none⟩)) (.int .i64 (Hd1.length : Int))); have Hbw := Lib.hid kw; have P2 := Lib.hid p2; have K2 := Lib.hid k2; have N2 := Lib.hid n2; have E2 := Lib.hid e2; have F2 := Lib.hid l2; clear p2 k2 n2 e2 l2 r3 r4 kb kw))
        | fail)
      obtain ⟨e0, e1, e2, e3⟩ := HR.out
      obtain ⟨Wf, hWf⟩ : ∃ Wf, ((((w2.setCell ⟨w.heap.size + 1 + 1 + 1, 0, none⟩ (.pointer (some ⟨W.heap.size + 1 + 1, 0, none⟩))).setCell ⟨w.heap.size + 1 + 1 + 1, 1, none⟩ (.int .i64 0)).setCell ⟨w.heap.size + 1 + 1 + 1 + 1, 0, none⟩ (.pointer (some ⟨W.heap.size + 1 + 1, 0, none⟩))).setCell ⟨w.heap.size + 1 + 1 + 1 + 1, 1, none⟩ (.int .i64 (Hd1.length : Int))) = Wf := ⟨_, rfl⟩
      refine bodyPost_ret (v := .tuple #[.agg #[.pointer (some ⟨W.heap.size + 1 + 1, 0, none⟩), .int .i64 0], .agg #[.pointer (some ⟨W.heap.size + 1 + 1, 0, none⟩), .int .i64 (Hd1.length : Int)], .bool true]) (by simp [results, Tryz.results44, go_sem, e0, e1, e2, e3]) rfl ⟨?_, fun h => ?_, fun h => absurd ⟨Hks.out, Hkt.out⟩ h⟩
      · exact (((Hbw.out.setCell (show w.heap.size ≤ w.heap.size + 1 + 1 + 1 by omega) _).setCell (show w.heap.size ≤ w.heap.size + 1 + 1 + 1 by omega) _).setCell (show w.heap.size ≤ w.heap.size + 1 + 1 + 1 + 1 by omega) _).setCell (show w.heap.size ≤ w.heap.size + 1 + 1 + 1 + 1 by omega) _
      · have hWzz := HWz.out
        have hXzz := HXz.out
        have k1 := K1.out
        have k2 := K2.out
        have hs1 := k1.size
        have hs2 := k2.size
        have hz : Wf.heap.size = w2.heap.size := by rw [← hWf]; simp
        have hoth : ∀ g, g ≠ w.heap.size + 1 + 1 + 1 → g ≠ w.heap.size + 1 + 1 + 1 + 1 → Wf.heap[g]? = w2.heap[g]? := fun g h3 h4 => by
          rw [← hWf]
          exact (heap_setCell_other _ _ _ _ h4).trans ((heap_setCell_other _ _ _ _ h4).trans ((heap_setCell_other _ _ _ _ h3).trans (heap_setCell_other _ _ _ _ h3)))
        have hv2 : ∀ g, v2.ownBlock = some g → X.heap.size ≤ g := fun g e => by
          rcases N2.out g e with a | a
          · exact Hv3.out g a
          · omega
        have pf : PrL Wf w.heap.size (W.heap.size + 1 + 1) W.heap.size P o.prec pc (.map (some (W.heap.size + 1))) v2 H2' L2 := P2.out.keep fun g hg => hoth g (by
          rcases hg with e | e | e | e
          · omega
          · omega
          · omega
          · have := hv2 g e; omega) (by
          rcases hg with e | e | e | e
          · omega
          · omega
          · omega
          · have := hv2 g e; omega)
        have hfm : Wf.heap[W.heap.size + 1]? = X.heap[W.heap.size + 1]? := (hoth _ (by omega) (by omega)).trans ((k2.block (by omega) (by
          rintro (e | e | e)
          · omega
          · omega
          · have := Hv3.out _ e; omega)).trans (k1.block (by omega) (by
          rintro (e | e | e)
          · omega
          · omega
          · cases e)))
        obtain ⟨A', hc', hT⟩ := two_of_laid (w := w) (X := X) (w1 := w1) (w2 := Wf) (bf := W.heap.size + 1) (F := fdF o.prec o.prec.length L2) (by omega) (Nat.le_refl _) (by omega) (by omega) ((HFM.out _).kept hfm) hs1 (by omega) rfl Hks.out Hkt.out (layK_vn s Hks.out) (layK_vn t Hkt.out) hn N1.out E1.out F1.out pf (fun g e => N2.out g e) E2.out F2.out
        rw [hWf]
        refine ⟨_, _, _, _, _, _, _, _, _, _, ?_, hT⟩
        rw [HL.out]
end Go.Proofs.YthgglobfkkcdgaaGreat
namespace Go.Proofs.YthgglobfkkcdgaaGreat
open Go.RowKit Go.Shelf Go.Maps
set_option maxRecDepth 100000
set_option maxHeartbeats 1000000 in
theorem lpoCmp_any (o : Odr) (s t : Tm) (P Q A A2 : Option Addr) (pc qc c c2 : Nat) (w : World) (hM : OdrM w w.heap.size o P Q) (hrk : o.prec.length ≤ 140737488351232) (hf : I64 s.fn) (hg : I64 t.fn) (hn : s.size + t.size ≤ 1073741824) (hA : ArgsK w (· < w.heap.size) A c s.args) (hA2 : ArgsK w (· < w.heap.size) A2 c2 t.args) :
    Calls Tryz.prog 30 #[.agg #[.bool o.lpo, .slice P o.prec.length pc, .slice Q o.wts.length qc, .int .i64 o.var], .agg #[.int .i64 s.fn, .slice A s.args.length c], .agg #[.int .i64 t.fn, .slice A2 t.args.length c2]] w fun e w' => e = .returned (.int .i64 (cmpP o.prec s t)) ∧ Below w.heap.size w w' := by
  obtain ⟨q0, q1, q2⟩ := heap3 w (.cells #[.bool o.lpo, .slice P o.prec.length pc, .slice Q o.wts.length qc, .int .i64 o.var] 24) (.cells #[.int .i64 s.fn, .slice A s.args.length c] 36) (.cells #[.int .i64 t.fn, .slice A2 t.args.length c2] 36)
  obtain ⟨W, hW⟩ : ∃ W, (((w.alloc (.cells #[.bool o.lpo, .slice P o.prec.length pc, .slice Q o.wts.length qc, .int .i64 o.var] 24)).alloc (.cells #[.int .i64 s.fn, .slice A s.args.length c] 36)).alloc (.cells #[.int .i64 t.fn, .slice A2 t.args.length c2] 36)) = W := ⟨_, rfl⟩
  have hB : Below w.heap.size w W := by rw [← hW]; exact (((Below.refl _ _).alloc (Nat.le_refl _) _).alloc (by simp) _).alloc (by simp; omega) _
  rw [hW] at q0 q1 q2
  obtain ⟨x0, x1, x2, x3⟩ := cells_four q0
  obtain ⟨y0, y1, _, _⟩ := cells_two q1
  obtain ⟨z0, z1, _, _⟩ := cells_two q2
  have hL := lpoLay_any o s t P Q A A2 pc qc c c2 W (hM.on hB) hrk hf hg (by omega) ((hA.on hB).toN) ((hA2.on hB).toN)
  have HL := Lib.hid hL
  have HW := Lib.hid hW
  have HB := Lib.hid hB
  clear hW hB q0 q1 q2 hM hA hA2 hL
  by_cases hk : layK o.prec.length s = true ∧ layK o.prec.length t = true
  · have hcm : cmpP o.prec s t = (if cmpT s t = 0 then 2 else if lpT o.prec s t then 3 else if lpT o.prec t s then 1 else 0) := by unfold cmpP; rw [hk.1, hk.2]; rfl
    go_enter Tryz.func30, Tryz.ntmps30
    go_upto_region 1 with fail
    rw [HW.out]
    go_upto_region 4 with (first
      | (go_at_call 44; (with_reducible refine HL.out.mono ?_); go_must (rintro e w1 ⟨hb1, hyes, _⟩; obtain ⟨bp, P3, pc3, n, bf, A3, H, hc, ml, M, rfl, hT⟩ := hyes hk; have hb1 := Lib.hid hb1; have HT := Lib.hid hT; clear hT hyes))
      | fail)
    obtain ⟨p0, p1⟩ := heap2 w1 (.cells #[.pointer (some ⟨bp, 0, none⟩), .int .i64 0] 74) (.cells #[.pointer (some ⟨bp, 0, none⟩), .int .i64 (s.size : Int)] 74)
    obtain ⟨X, hX⟩ : ∃ X, (w1.alloc (.cells #[.pointer (some ⟨bp, 0, none⟩), .int .i64 0] 74)).alloc (.cells #[.pointer (some ⟨bp, 0, none⟩), .int .i64 (s.size : Int)] 74) = X := ⟨_, rfl⟩
    have hBX : Below w1.heap.size w1 X := by rw [← hX]; exact ((Below.refl _ _).alloc (Nat.le_refl _) _).alloc (by simp) _
    rw [hX] at p0 p1 ⊢
    have hT := HT.out
    have hXl := (Array.getElem?_eq_some_iff.1 p1).1
    have hIX := hT.fd.on hBX
    have hbf1 := hT.fd.lf
    have hnl1 := hT.fd.nl
    have hnb := hT.nb
    have hWs := HB.out.size
    have hw1 := hb1.out.size
    obtain ⟨u0, u1, _, _⟩ := cells_two p0
    obtain ⟨v0, v1, _, _⟩ := cells_two p1
    have hHl : H.length ≤ 1073741824 := by rw [hT.len]; exact hn
    have AB : Hid (∀ w2, FdW w2 n bp bf P3 o.prec pc3 A3 H hc ml (fdF o.prec o.prec.length M) → Calls Tryz.prog 46 #[.agg #[.pointer (some ⟨bp, 0, none⟩), .int .i64 0], .agg #[.pointer (some ⟨bp, 0, none⟩), .int .i64 (s.size : Int)]] w2 fun e w' => e = .returned (.bool (lpT o.prec s t)) ∧ KeepsC (· = bf) w2 w' ∧ FdW w' n bp bf P3 o.prec pc3 A3 H hc ml (fdF o.prec o.prec.length M)) := Lib.hid fun w2 h2 => abv_all hT.nd hHl (s.size + t.size) s t 0 s.size w2 (Nat.le_refl _) hT.os hT.ot hT.a1 hT.a2 h2
    have BA : Hid (∀ w2, FdW w2 n bp bf P3 o.prec pc3 A3 H hc ml (fdF o.prec o.prec.length M) → Calls Tryz.prog 46 #[.agg #[.pointer (some ⟨bp, 0, none⟩), .int .i64 (s.size : Int)], .agg #[.pointer (some ⟨bp, 0, none⟩), .int .i64 0]] w2 fun e w' => e = .returned (.bool (lpT o.prec t s)) ∧ KeepsC (· = bf) w2 w' ∧ FdW w' n bp bf P3 o.prec pc3 A3 H hc ml (fdF o.prec o.prec.length M)) := Lib.hid fun w2 h2 => abv_all hT.nd hHl (t.size + s.size) t s s.size 0 w2 (Nat.le_refl _) hT.ot hT.os hT.a2 hT.a1 h2
    have hsm : Calls Tryz.prog 45 #[.agg #[.pointer (some ⟨bp, 0, none⟩), .int .i64 0], .agg #[.pointer (some ⟨bp, 0, none⟩), .int .i64 (s.size : Int)]] X fun e w' => e = .returned (.bool (decide (cmpT s t = 0))) ∧ Below X.heap.size X w' := by
      have := lpoSame_any X hIX.pr hT.a1.top' hT.a2.top'
      rwa [topH_same hT.nd hT.os hT.ot] at this
    have HIX := Lib.hid hIX
    have P0 := Lib.hid p0
    have P1 := Lib.hid p1
    have hend : Hid (∀ wf, KeepsC (· = bf) X wf → Below w.heap.size w wf) := Lib.hid fun wf hk => by
      have h1 : Below w.heap.size w X := (HB.out.trans (hb1.out.mono HB.out.size)).trans (hBX.mono (by omega))
      exact h1.trans (hk.below h1.size fun g hg => by omega)
    have hBXs := hBX.size
    clear hT hIX p0 p1 hX hBX HT hHl
    by_cases hc0 : cmpT s t = 0
    · have hfin := Lib.hid (show cmpP o.prec s t = 2 by rw [hcm, if_pos hc0])
      rw [decide_eq_true hc0] at hsm
      have HS := Lib.hid hsm
      clear hsm hc0 hcm
      go_wp2_with (first
        | (go_at_call 45; (with_reducible refine HS.out.mono ?_); go_must (rintro e w2 ⟨rfl, hb2⟩))
        | fail)
      go_ret
      exact ⟨ret_int hfin.out.symm, hend.out _ (KeepsC.of_below hb2)⟩
    · rw [decide_eq_false hc0] at hsm
      rw [if_neg hc0] at hcm
      have HS := Lib.hid hsm
      clear hsm hc0
      go_upto_region 6 with (first
        | (go_at_call 45; (with_reducible refine HS.out.mono ?_); go_must (rintro e w2 ⟨rfl, hb2⟩; obtain ⟨a0, a1, _, _⟩ := cells_two ((hb2.block _ (show w1.heap.size < X.heap.size by omega)).trans P0.out); obtain ⟨d0, d1, _, _⟩ := cells_two ((hb2.block _ hXl).trans P1.out)))
        | fail)
      have hI2 := HIX.out.on hb2
      have hA1 := AB.out w2 hI2
      have hz2 := hb2.size
      cases hst : lpT o.prec s t with
      | true =>
        rw [hst] at hA1
        rw [hst, if_pos rfl] at hcm
        have hfin := Lib.hid hcm
        have HA1 := Lib.hid hA1
        clear hcm hst hA1 hI2
        go_wp2_with (first
          | (go_at_call 46; (with_reducible refine HA1.out.mono ?_); go_must (rintro e w3 ⟨rfl, hk3, hI3⟩; have hI3 := Lib.hid hI3))
          | fail)
        go_ret
        exact ⟨ret_int hfin.out.symm, hend.out _ ((KeepsC.of_below hb2).trans hk3)⟩
      | false =>
        rw [hst] at hA1
        rw [hst, if_neg (by simp)] at hcm
        have HA1 := Lib.hid hA1
        clear hst hA1 hI2
        go_upto_region 8 with (first
          | (go_at_call 46; (with_reducible refine HA1.out.mono ?_); go_must (rintro e w3 ⟨rfl, hk3, hI3⟩; have hI3 := Lib.hid hI3; have hk23 := (KeepsC.of_below (C := (· = bf)) hb2).trans hk3; obtain ⟨r0, r1, _, _⟩ := cells_two ((hk23.block (show w1.heap.size < X.heap.size by omega) (show ¬ w1.heap.size = bf by omega)).trans P0.out); obtain ⟨s0, s1, _, _⟩ := cells_two ((hk23.block hXl (show ¬ w1.heap.size + 1 = bf by omega)).trans P1.out)))
          | fail)
        have hB1 := BA.out w3 hI3.out
        cases hts : lpT o.prec t s with
        | true =>
          rw [hts] at hB1
          rw [hts, if_pos rfl] at hcm
          have hfin := Lib.hid hcm
          have HB1 := Lib.hid hB1
          clear hcm hts hB1
          go_wp2_with (first
            | (go_at_call 46; (with_reducible refine HB1.out.mono ?_); go_must (rintro e w4 ⟨rfl, hk4, hI4⟩; have hI4 := Lib.hid hI4))
            | fail)
          go_ret
          exact ⟨ret_int hfin.out.symm, hend.out _ (hk23.trans hk4)⟩
        | false =>
          rw [hts] at hB1
          rw [hts, if_neg (by simp)] at hcm
          have hfin := Lib.hid hcm
          have HB1 := Lib.hid hB1
          clear hcm hts hB1
          go_wp2_with (first
            | (go_at_call 46; (with_reducible refine HB1.out.mono ?_); go_must (rintro e w4 ⟨rfl, hk4, hI4⟩; have hI4 := Lib.hid hI4))
            | fail)
          go_ret
          exact ⟨ret_int hfin.out.symm, hend.out _ (hk23.trans hk4)⟩
  · have hfin := Lib.hid (show cmpP o.prec s t = 0 by
      unfold cmpP
      rw [if_neg (by simpa using hk)])
    go_enter Tryz.func30, Tryz.ntmps30
    go_upto_region 1 with fail
    rw [HW.out]
    go_wp2_with (first
      | (go_at_call 44; (with_reducible refine HL.out.mono ?_); go_must (rintro e w1 ⟨hb1, _, hno⟩; obtain rfl := hno hk; have hb1 := Lib.hid hb1))
      | fail)
    go_ret
    exact ⟨ret_int hfin.out.symm, (HB.out.trans (hb1.out.mono HB.out.size)).trans (((Below.refl _ _).alloc (Nat.le_trans HB.out.size hb1.out.size) _).alloc (by simp; have := HB.out.size; have := hb1.out.size; omega) _)⟩
end Go.Proofs.YthgglobfkkcdgaaGreat
namespace Go.Proofs.YthgglobfkkcdgaaGreat
open Go.RowKit Go.Shelf Go.Maps
set_option maxRecDepth 100000
theorem lpoCmp_at {W : World} {o : Odr} {s t : Tm} {P Q A A2 : Option Addr} {pc qc c c2 : Nat} (hrk : o.prec.length ≤ 140737488351232) (hM : OdrM W W.heap.size o P Q) (hs : TmK W s A c) (ht : TmK W t A2 c2) (hz : s.size + t.size ≤ 1073741824) : ∀ w1, Below W.heap.size W w1 →
    Calls Tryz.prog 30 #[.agg #[.bool o.lpo, .slice P o.prec.length pc, .slice Q o.wts.length qc, .int .i64 o.var], .agg #[.int .i64 s.fn, .slice A s.args.length c], .agg #[.int .i64 t.fn, .slice A2 t.args.length c2]] w1 fun e w' => e = .returned (.int .i64 (cmpP o.prec s t)) ∧ Below w1.heap.size w1 w' := fun w1 hb => by
  exact lpoCmp_any o s t P Q A A2 pc qc c c2 w1 (hM.on hb) hrk hs.i64 ht.i64 hz (hs.on hb).args (ht.on hb).args
end Go.Proofs.YthgglobfkkcdgaaGreat
namespace Go.Proofs.YthgglobfkkcdgaaGreat
open Go.RowKit
set_option maxRecDepth 20000
def ordV (o : Odr) (s t : Tm) : Int := if o.lpo = true then cmpP o.prec s t else cmpR o s t
def tmI (o : Odr) (s t : Tm) : Int := if cmpT s t = 0 then 2 else ordV o s t
theorem ordV_in4 (o : Odr) (s t : Tm) : In4 (ordV o s t) := by
  unfold ordV cmpP cmpR In4
  split <;> (split <;> (try split) <;> (try split) <;> (try split) <;> simp)
theorem tmI_in4 (o : Odr) (s t : Tm) : In4 (tmI o s t) := by
  unfold tmI
  split
  · unfold In4; simp
  · exact ordV_in4 o s t
section
variable {l : List Sm} {o : Odr} (hc : chkO l o = 0)
include hc
end
def sdR (o : Odr) : List Tm → List Tm → Int := mulR (tmI o)
def ltR (o : Odr) : List (List Tm) → List (List Tm) → Int := mulR (sdR o)
def clR (o : Odr) : List (List (List Tm)) → List (List (List Tm)) → Int := mulR (ltR o)
end Go.Proofs.YthgglobfkkcdgaaGreat
namespace Go.Proofs.YthgglobfkkcdgaaGreat
open Go.RowKit Go.Shelf
set_option maxRecDepth 100000
def RpT (N : Nat → Prop) (w : World) (t : Tm) (v : Value) : Prop := ∃ A c, v = .agg #[.int .i64 t.fn, .slice A t.args.length c] ∧ I64 t.fn ∧ ArgsK w N A c t.args ∧ t.size ≤ 536870912
structure RowTm (N : Nat → Prop) (w : World) (A : Option Addr) (m : List Tm) : Prop where
  len : m.length ≤ 1048576
  ad : 0 < m.length → ∃ b off, A = some ⟨b, off, none⟩ ∧ N b ∧ ∀ (i : Nat) (t : Tm), m[i]? = some t → ∃ A1 c1, w.cell? ⟨b, off + i * 2, none⟩ = some (.int .i64 t.fn) ∧ w.cell? ⟨b, off + i * 2 + 1, none⟩ = some (.slice A1 t.args.length c1) ∧ I64 t.fn ∧ ArgsK w N A1 c1 t.args ∧ t.size ≤ 536870912
structure RowV {α : Type} (Rp : (Nat → Prop) → World → List α → Value → Prop) (N : Nat → Prop) (w : World) (A : Option Addr) (m : List (List α)) : Prop where
  len : m.length ≤ 1048576
  ad : 0 < m.length → ∃ b off, A = some ⟨b, off, none⟩ ∧ N b ∧ ∀ (i : Nat) (x : List α), m[i]? = some x → ∃ A1 c1, w.cell? ⟨b, off + i, none⟩ = some (.slice A1 x.length c1) ∧ Rp N w x (.slice A1 x.length c1)
def Rp1 (N : Nat → Prop) (w : World) (m : List Tm) (v : Value) : Prop := ∃ A c, v = .slice A m.length c ∧ RowTm N w A m
def Rp2 (N : Nat → Prop) (w : World) (m : List (List Tm)) (v : Value) : Prop := ∃ A c, v = .slice A m.length c ∧ RowV Rp1 N w A m
def Rp3 (N : Nat → Prop) (w : World) (m : List (List (List Tm))) (v : Value) : Prop := ∃ A c, v = .slice A m.length c ∧ RowV Rp2 N w A m
theorem RowTm.to {N M : Nat → Prop} {w w' : World} {A : Option Addr} {m : List Tm} (h : RowTm N w A m) (hk : ∀ g, N g → w'.heap[g]? = w.heap[g]?) (hm : ∀ g, N g → M g) : RowTm M w' A m :=
  ⟨h.len, fun hp => by
    obtain ⟨b, off, hA, hb, hc⟩ := h.ad hp
    refine ⟨b, off, hA, hm b hb, fun i t e => ?_⟩
    obtain ⟨A1, c1, h0, h1, h2, h3, h4⟩ := hc i t e
    exact ⟨A1, c1, (cell_of_heap (hk b hb)).trans h0, (cell_of_heap (hk b hb)).trans h1, h2, (h3.keep hk).wide hm, h4⟩⟩
theorem RpT.to {N M : Nat → Prop} {w w' : World} {t : Tm} {v : Value} (h : RpT N w t v) (hk : ∀ g, N g → w'.heap[g]? = w.heap[g]?) (hm : ∀ g, N g → M g) : RpT M w' t v := by
  obtain ⟨A, c, rfl, h1, h2, h3⟩ := h
  exact ⟨A, c, rfl, h1, (h2.keep hk).wide hm, h3⟩
theorem Rp1.to {N M : Nat → Prop} {w w' : World} {m : List Tm} {v : Value} (h : Rp1 N w m v) (hk : ∀ g, N g → w'.heap[g]? = w.heap[g]?) (hm : ∀ g, N g → M g) : Rp1 M w' m v := by
  obtain ⟨A, c, rfl, h⟩ := h
  exact ⟨A, c, rfl, h.to hk hm⟩
theorem RowV.to {α : Type} {Rp : (Nat → Prop) → World → List α → Value → Prop} (hR : ∀ {N M : Nat → Prop} {w w' : World} {x : List α} {v : Value}, Rp N w x v → (∀ g, N g → w'.heap[g]? = w.heap[g]?) → (∀ g, N g → M g) → Rp M w' x v)
    {N M : Nat → Prop} {w w' : World} {A : Option Addr} {m : List (List α)} (h : RowV Rp N w A m) (hk : ∀ g, N g → w'.heap[g]? = w.heap[g]?) (hm : ∀ g, N g → M g) : RowV Rp M w' A m :=
  ⟨h.len, fun hp => by
    obtain ⟨b, off, hA, hb, hc⟩ := h.ad hp
    refine ⟨b, off, hA, hm b hb, fun i x e => ?_⟩
    obtain ⟨A1, c1, h0, h1⟩ := hc i x e
    exact ⟨A1, c1, (cell_of_heap (hk b hb)).trans h0, hR h1 hk hm⟩⟩
theorem Rp2.to {N M : Nat → Prop} {w w' : World} {m : List (List Tm)} {v : Value} (h : Rp2 N w m v) (hk : ∀ g, N g → w'.heap[g]? = w.heap[g]?) (hm : ∀ g, N g → M g) : Rp2 M w' m v := by
  obtain ⟨A, c, rfl, h⟩ := h
  exact ⟨A, c, rfl, RowV.to (Rp := Rp1) Rp1.to h hk hm⟩
theorem Rp3.to {N M : Nat → Prop} {w w' : World} {m : List (List (List Tm))} {v : Value} (h : Rp3 N w m v) (hk : ∀ g, N g → w'.heap[g]? = w.heap[g]?) (hm : ∀ g, N g → M g) : Rp3 M w' m v := by
  obtain ⟨A, c, rfl, h⟩ := h
  exact ⟨A, c, rfl, RowV.to (Rp := Rp2) Rp2.to h hk hm⟩
theorem RowTm.get {N : Nat → Prop} {w : World} {A : Option Addr} {m : List Tm} (h : RowTm N w A m) {i : Nat} {t : Tm} (e : m[i]? = some t) : ∃ b off A1 c1, A = some ⟨b, off, none⟩ ∧ N b ∧ w.cell? ⟨b, off + i * 2, none⟩ = some (.int .i64 t.fn) ∧ w.cell? ⟨b, off + i * 2 + 1, none⟩ = some (.slice A1 t.args.length c1) ∧ RpT N w t (.agg #[.int .i64 t.fn, .slice A1 t.args.length c1]) := by
  have hlt := (List.getElem?_eq_some_iff.1 e).1
  obtain ⟨b, off, hA, hb, hc⟩ := h.ad (by omega)
  obtain ⟨A1, c1, h0, h1, h2, h3, h4⟩ := hc i t e
  exact ⟨b, off, A1, c1, hA, hb, h0, h1, A1, c1, rfl, h2, h3, h4⟩
theorem RowV.get {α : Type} {Rp : (Nat → Prop) → World → List α → Value → Prop} {N : Nat → Prop} {w : World} {A : Option Addr} {m : List (List α)} (h : RowV Rp N w A m) {i : Nat} {x : List α} (e : m[i]? = some x) : ∃ b off A1 c1, A = some ⟨b, off, none⟩ ∧ N b ∧ w.cell? ⟨b, off + i, none⟩ = some (.slice A1 x.length c1) ∧ Rp N w x (.slice A1 x.length c1) := by
  have hlt := (List.getElem?_eq_some_iff.1 e).1
  obtain ⟨b, off, hA, hb, hc⟩ := h.ad (by omega)
  obtain ⟨A1, c1, h0, h1⟩ := hc i x e
  exact ⟨b, off, A1, c1, hA, hb, h0, h1⟩
structure CmpC {α : Type} (Rp : (Nat → Prop) → World → α → Value → Prop) (rel : α → α → Int) (k : FuncId) (fs cv : Array Value) (n0 : Nat) (W : World) : Prop where
  ent : ∀ (args : Array Value) (w : World), (callFunc k args).run Tryz.prog w = .ok (.enter k args) w
  call : ∀ (x y : α) (vx vy : Value) (w : World), Below n0 W w → Rp (· < w.heap.size) w x vx → Rp (· < w.heap.size) w y vy → Calls Tryz.prog k (fs ++ (#[vx, vy] ++ cv)) w fun e w' => e = .returned (.int .i64 (rel x y)) ∧ Below w.heap.size w w'
theorem CmpC.later {α : Type} {Rp : (Nat → Prop) → World → α → Value → Prop} {rel : α → α → Int} {k : FuncId} {fs cv : Array Value} {n0 : Nat} {W w : World} (h : CmpC Rp rel k fs cv n0 W) (hb : Below n0 W w) : CmpC Rp rel k fs cv n0 w := ⟨h.ent, fun x y vx vy w1 hb1 => h.call x y vx vy w1 (hb.trans hb1)⟩
section
variable {k : FuncId} {fs cv : Array Value} {n0 : Nat}
theorem oCol1_any {rel : Tm → Tm → Int} {W : World} (hC : CmpC RpT rel k fs cv n0 W) {bc ba bn j : Nat} {a y : Tm} {n : List (Tm)} {A B : Option Addr} {c cb : Nat} (w : World) (hw : Below n0 W w) (hn0 : n0 ≤ w.heap.size) (h0 : w.cell? ⟨bc, 0, none⟩ = some (.func (.func k) fs cv)) (h1 : w.cell? ⟨ba, 0, none⟩ = some (.int .i64 a.fn)) (h1b : w.cell? ⟨ba, 1, none⟩ = some (.slice A a.args.length c)) (h2 : w.cell? ⟨bn, 0, none⟩ = some (.slice B n.length cb))
    (ha : RpT (· < w.heap.size) w a (.agg #[.int .i64 a.fn, .slice A a.args.length c])) (hn : RowTm (· < w.heap.size) w B n) (hj : n[j]? = some y) :
    Calls Tryz.prog 60 #[.int .i64 (j : Int), .pointer (some ⟨bc, 0, none⟩), .pointer (some ⟨ba, 0, none⟩), .pointer (some ⟨bn, 0, none⟩)] w fun e w' => e = .returned (.int .i64 (rel a y)) ∧ Below w.heap.size w w' := by
  have hjl := (List.getElem?_eq_some_iff.1 hj).1
  have hnl := hn.len
  obtain ⟨b, off, A1, c1, rfl, hb, e0, e1, hy⟩ := hn.get hj
  have hbc := World.block_lt_of_cell? w _ h0
  have hba := World.block_lt_of_cell? w _ h1
  have hbn := World.block_lt_of_cell? w _ h2
  have hent := hC.ent
  have H := Lib.hid fun x : Later w.heap.size w => hC.call a y (.agg #[.int .i64 a.fn, .slice A a.args.length c]) (.agg #[.int .i64 y.fn, .slice A1 y.args.length c1]) x.w (hw.trans (x.h.mono hn0)) (ha.to (fun g e => x.h.block g e) fun g e => Nat.lt_of_lt_of_le e x.h.size) (hy.to (fun g e => x.h.block g e) fun g e => Nat.lt_of_lt_of_le e x.h.size)
  have m1 : ∀ x : Later w.heap.size w, x.w.cell? ⟨bc, 0, none⟩ = some (.func (.func k) fs cv) := fun x => cell_on x.h hbc h0
  have m2 : ∀ x : Later w.heap.size w, x.w.cell? ⟨bn, 0, none⟩ = some (.slice (some ⟨b, off, none⟩) n.length cb) := fun x => cell_on x.h hbn h2
  have m3 : ∀ x : Later w.heap.size w, x.w.cell? ⟨ba, 0, none⟩ = some (.int .i64 a.fn) := fun x => cell_on x.h hba h1
  have m4 : ∀ x : Later w.heap.size w, x.w.cell? ⟨ba, 1, none⟩ = some (.slice A a.args.length c) := fun x => cell_on x.h hba h1b
  have m5 : ∀ x : Later w.heap.size w, x.w.cell? ⟨b, off + j * 2, none⟩ = some (.int .i64 y.fn) := fun x => cell_on x.h hb e0
  have m6 : ∀ x : Later w.heap.size w, x.w.cell? ⟨b, off + j * 2 + 1, none⟩ = some (.slice A1 y.args.length c1) := fun x => cell_on x.h hb e1
  clear hC hw hn0 h0 h2 ha hn hj hy h1 h1b e0 e1
  go_enter Tryz.func60, Tryz.ntmps60
  go_upto_region 1 with fail
  refine wp_region_later w.heap.size w (by kernel_rfl) (by kernel_rfl) (bl_drewN (Below.refl _ _) 1) ?_
  repeat (go_big_quiet_step (first
    | (with_reducible refine calls_later _ (Nat.le_refl _) (H.out _))
    | fail))
  refine wpQuiet_nil ?_
  rintro _ ⟨z, rfl⟩
  clear m1 m2 m3 m4 m5 m6
  go_wp2
  go_ret
  exact ⟨rfl, z.h⟩
theorem oCol2_any {rel : List Tm → List Tm → Int} {W : World} (hC : CmpC Rp1 rel k fs cv n0 W) {bc ba bn j : Nat} {a y : List Tm} {n : List (List Tm)} {A B : Option Addr} {c cb : Nat} (w : World) (hw : Below n0 W w) (hn0 : n0 ≤ w.heap.size) (h0 : w.cell? ⟨bc, 0, none⟩ = some (.func (.func k) fs cv)) (h1 : w.cell? ⟨ba, 0, none⟩ = some (.slice A a.length c)) (h2 : w.cell? ⟨bn, 0, none⟩ = some (.slice B n.length cb))
    (ha : Rp1 (· < w.heap.size) w a (.slice A a.length c)) (hn : RowV Rp1 (· < w.heap.size) w B n) (hj : n[j]? = some y) :
    Calls Tryz.prog 58 #[.int .i64 (j : Int), .pointer (some ⟨bc, 0, none⟩), .pointer (some ⟨ba, 0, none⟩), .pointer (some ⟨bn, 0, none⟩)] w fun e w' => e = .returned (.int .i64 (rel a y)) ∧ Below w.heap.size w w' := by
  have hjl := (List.getElem?_eq_some_iff.1 hj).1
  have hnl := hn.len
  obtain ⟨b, off, A1, c1, rfl, hb, e0, hy⟩ := hn.get hj
  have hbc := World.block_lt_of_cell? w _ h0
  have hba := World.block_lt_of_cell? w _ h1
  have hbn := World.block_lt_of_cell? w _ h2
  have hent := hC.ent
  have H := Lib.hid fun x : Later w.heap.size w => hC.call a y (.slice A a.length c) (.slice A1 y.length c1) x.w (hw.trans (x.h.mono hn0)) (ha.to (fun g e => x.h.block g e) fun g e => Nat.lt_of_lt_of_le e x.h.size) (hy.to (fun g e => x.h.block g e) fun g e => Nat.lt_of_lt_of_le e x.h.size)
  have m1 : ∀ x : Later w.heap.size w, x.w.cell? ⟨bc, 0, none⟩ = some (.func (.func k) fs cv) := fun x => cell_on x.h hbc h0
  have m2 : ∀ x : Later w.heap.size w, x.w.cell? ⟨bn, 0, none⟩ = some (.slice (some ⟨b, off, none⟩) n.length cb) := fun x => cell_on x.h hbn h2
  have m3 : ∀ x : Later w.heap.size w, x.w.cell? ⟨ba, 0, none⟩ = some (.slice A a.length c) := fun x => cell_on x.h hba h1
  have m5 : ∀ x : Later w.heap.size w, x.w.cell? ⟨b, off + j, none⟩ = some (.slice A1 y.length c1) := fun x => cell_on x.h hb e0
  clear hC hw hn0 h0 h2 ha hn hj hy h1 e0
  go_enter Tryz.func58, Tryz.ntmps58
  go_upto_region 1 with fail
  refine wp_region_later w.heap.size w (by kernel_rfl) (by kernel_rfl) (bl_drewN (Below.refl _ _) 1) ?_
  repeat (go_big_quiet_step (first
    | (with_reducible refine calls_later _ (Nat.le_refl _) (H.out _))
    | fail))
  refine wpQuiet_nil ?_
  rintro _ ⟨z, rfl⟩
  clear m1 m2 m3 m5
  go_wp2
  go_ret
  exact ⟨rfl, z.h⟩
theorem oCol3_any {rel : List (List Tm) → List (List Tm) → Int} {W : World} (hC : CmpC Rp2 rel k fs cv n0 W) {bc ba bn j : Nat} {a y : List (List Tm)} {n : List (List (List Tm))} {A B : Option Addr} {c cb : Nat} (w : World) (hw : Below n0 W w) (hn0 : n0 ≤ w.heap.size) (h0 : w.cell? ⟨bc, 0, none⟩ = some (.func (.func k) fs cv)) (h1 : w.cell? ⟨ba, 0, none⟩ = some (.slice A a.length c)) (h2 : w.cell? ⟨bn, 0, none⟩ = some (.slice B n.length cb))
    (ha : Rp2 (· < w.heap.size) w a (.slice A a.length c)) (hn : RowV Rp2 (· < w.heap.size) w B n) (hj : n[j]? = some y) :
    Calls Tryz.prog 38 #[.int .i64 (j : Int), .pointer (some ⟨bc, 0, none⟩), .pointer (some ⟨ba, 0, none⟩), .pointer (some ⟨bn, 0, none⟩)] w fun e w' => e = .returned (.int .i64 (rel a y)) ∧ Below w.heap.size w w' := by
  have hjl := (List.getElem?_eq_some_iff.1 hj).1
  have hnl := hn.len
  obtain ⟨b, off, A1, c1, rfl, hb, e0, hy⟩ := hn.get hj
  have hbc := World.block_lt_of_cell? w _ h0
  have hba := World.block_lt_of_cell? w _ h1
  have hbn := World.block_lt_of_cell? w _ h2
  have hent := hC.ent
  have H := Lib.hid fun x : Later w.heap.size w => hC.call a y (.slice A a.length c) (.slice A1 y.length c1) x.w (hw.trans (x.h.mono hn0)) (ha.to (fun g e => x.h.block g e) fun g e => Nat.lt_of_lt_of_le e x.h.size) (hy.to (fun g e => x.h.block g e) fun g e => Nat.lt_of_lt_of_le e x.h.size)
  have m1 : ∀ x : Later w.heap.size w, x.w.cell? ⟨bc, 0, none⟩ = some (.func (.func k) fs cv) := fun x => cell_on x.h hbc h0
  have m2 : ∀ x : Later w.heap.size w, x.w.cell? ⟨bn, 0, none⟩ = some (.slice (some ⟨b, off, none⟩) n.length cb) := fun x => cell_on x.h hbn h2
  have m3 : ∀ x : Later w.heap.size w, x.w.cell? ⟨ba, 0, none⟩ = some (.slice A a.length c) := fun x => cell_on x.h hba h1
  have m5 : ∀ x : Later w.heap.size w, x.w.cell? ⟨b, off + j, none⟩ = some (.slice A1 y.length c1) := fun x => cell_on x.h hb e0
  clear hC hw hn0 h0 h2 ha hn hj hy h1 e0
  go_enter Tryz.func38, Tryz.ntmps38
  go_upto_region 1 with fail
  refine wp_region_later w.heap.size w (by kernel_rfl) (by kernel_rfl) (bl_drewN (Below.refl _ _) 1) ?_
  repeat (go_big_quiet_step (first
    | (with_reducible refine calls_later _ (Nat.le_refl _) (H.out _))
    | fail))
  refine wpQuiet_nil ?_
  rintro _ ⟨z, rfl⟩
  clear m1 m2 m3 m5
  go_wp2
  go_ret
  exact ⟨rfl, z.h⟩
end
end Go.Proofs.YthgglobfkkcdgaaGreat
namespace Go.Proofs.YthgglobfkkcdgaaGreat
open Go.RowKit Go.Shelf
set_option maxRecDepth 100000
theorem info_bool9 : (Tryz.prog.info? 4).map (fun i => (i.zero, i.size, i.bytes)) = some (some (.bool false), 1, 1) := by kernel_rfl
theorem grd_new (W1 : World) (n : Nat) (hn : n ≤ 1048576) :
    GrdW ((W1.alloc (.cells (madeCells #[.bool false] n) 4)).alloc (.cells #[.slice none 0 0, .slice none 0 0, .slice (some ⟨W1.heap.size, 0, none⟩) n n] 63)) (fun g => W1.heap.size ≤ g) (W1.heap.size + 1) (.slice none 0 0) (.slice none 0 0) (.slice (some ⟨W1.heap.size, 0, none⟩) n n) [] [] (List.replicate n false) ∧
    Below W1.heap.size W1 ((W1.alloc (.cells (madeCells #[.bool false] n) 4)).alloc (.cells #[.slice none 0 0, .slice none 0 0, .slice (some ⟨W1.heap.size, 0, none⟩) n n] 63)) := by
  obtain ⟨h1, h2⟩ := heap2 W1 (.cells (madeCells #[.bool false] n) 4) (.cells #[.slice none 0 0, .slice none 0 0, .slice (some ⟨W1.heap.size, 0, none⟩) n n] 63)
  refine ⟨⟨h2, ⟨by simp, .inl ⟨rfl, rfl⟩⟩, ⟨by simp, .inl ⟨rfl, rfl⟩⟩, ⟨by simp, .inr ⟨W1.heap.size, n, madeCells #[.bool false] n, by simp, Nat.zero_le _, h1, by simp, by unfold maxLen; omega, by simp [madeCells], ?_⟩⟩, fun g hg => ?_⟩, ((Below.refl _ _).alloc (Nat.le_refl _) _).alloc (by simp) _⟩
  · rw [List.length_replicate, Nat.mul_one, List.map_replicate]
    refine List.ext_getElem? fun i => ?_
    by_cases hi : i < n
    · simp [madeCells, hi, Nat.mod_one]
    · simp [madeCells, hi]
  · rcases hg with rfl | e | e | e
    · exact Nat.le_succ _
    · cases e
    · cases e
    · simp [Value.ownBlock] at e; show W1.heap.size ≤ g; omega
theorem GInv.bd {α : Type} {rel : α → α → Int} {m n : List α} {i : Nat} {R : List α} {rels rows : List Int} {gone : List Bool} (h : GInv rel m n i R rels rows gone) (hm : m.length ≤ 1048576) (hn : n.length ≤ 1048576) (hi : i ≤ m.length) :
    rels.length ≤ 1099511627776 ∧ rows.length ≤ 1099511627776 ∧ (∀ x ∈ rows, I64 x) ∧ (i < m.length → rels.length + gone.length ≤ 1099511627776) := by
  have h1 : R.length * n.length ≤ 1048576 * 1048576 := Nat.mul_le_mul (by have := h.ri; omega) hn
  have hr := h.rl
  have hw := h.wl
  have hri := h.ri
  refine ⟨by omega, by omega, fun x hx => ?_, fun hlt => ?_⟩
  · obtain ⟨k, hk, rfl⟩ := h.row.1 hx
    have h2 : k * n.length ≤ 1048576 * 1048576 := Nat.mul_le_mul (by omega) hn
    exact ⟨by omega, by omega⟩
  · have h2 : (R.length + 1) * n.length ≤ 1048576 * 1048576 := Nat.mul_le_mul (by omega) hn
    rw [Nat.add_mul, Nat.one_mul] at h2
    rw [hr, h.gl]; omega
section
variable {k : FuncId} {fs cv : Array Value} {n0 : Nat}
set_option maxHeartbeats 4000000 in
theorem oMulF1_any {rel : Tm → Tm → Int} {W : World} (hC : CmpC RpT rel k fs cv n0 W) (h4 : ∀ x y, In4 (rel x y)) {bc : Nat} {A B : Option Addr} {ca cb : Nat} (m n : List (Tm)) (w : World) (hw : Below n0 W w) (hn0 : n0 ≤ w.heap.size) (h0 : w.cell? ⟨bc, 0, none⟩ = some (.func (.func k) fs cv)) (hm : RowTm (· < w.heap.size) w A m) (hn : RowTm (· < w.heap.size) w B n) :
    Calls Tryz.prog 59 #[.slice A m.length ca, .slice B n.length cb, .pointer (some ⟨bc, 0, none⟩)] w fun e w' => e = .returned (.int .i64 (mulR rel m n)) ∧ Below w.heap.size w w' := by
  have hml := hm.len
  have hnl := hn.len
  have q0 := heap_alloc_new w (.cells #[.slice B n.length cb] 34)
  obtain ⟨W1, hW⟩ : ∃ W1, w.alloc (.cells #[.slice B n.length cb] 34) = W1 := ⟨_, rfl⟩
  have hB : Below w.heap.size w W1 := by rw [← hW]; exact (Below.refl _ _).alloc (Nat.le_refl _) _
  have hWz : W1.heap.size = w.heap.size + 1 := by rw [← hW]; simp
  rw [hW] at q0
  have HWz := Lib.hid hWz
  have hbc := World.block_lt_of_cell? w _ h0
  obtain ⟨x0, _⟩ := cells_one q0
  have hent := hC.ent
  have HW := Lib.hid hW
  have hbn : w.heap.size < W1.heap.size := by omega
  by_cases h11 : m.length = 1 ∧ n.length = 1
  · have g0 : ((m.length : Int) == 1) = true := by rw [h11.1]; rfl
    have g1 : ((n.length : Int) == 1) = true := by rw [h11.2]; rfl
    have hm0' : 0 < m.length := by omega
    have hn0'' : 0 < n.length := by omega
    obtain ⟨a, hm0⟩ : ∃ a, m[0]? = some a := ⟨_, List.getElem?_eq_getElem hm0'⟩
    obtain ⟨y, hn0'⟩ : ∃ y, n[0]? = some y := ⟨_, List.getElem?_eq_getElem hn0''⟩
    obtain ⟨b, off, A1, c1, rfl, hb, e0, e1, hav⟩ := hm.get hm0
    obtain ⟨b', off', A2, c2, rfl, hb', e2, e3, hyv⟩ := hn.get hn0'
    rw [Nat.zero_mul, Nat.add_zero] at e0 e1 e2 e3
    have hres : Hid (mulR rel m n = rel a y) := Lib.hid (by
      have e1 : m = [a] := by
        match m, h11.1, hm0 with
        | [x], _, e => simp at e; rw [e]
      have e2 : n = [y] := by
        match n, h11.2, hn0' with
        | [x], _, e => simp at e; rw [e]
      rw [e1, e2, mulR_one (h4 a y)])
    have H := Lib.hid fun x : Later W1.heap.size W1 => hC.call a y (.agg #[.int .i64 a.fn, .slice A1 a.args.length c1]) (.agg #[.int .i64 y.fn, .slice A2 y.args.length c2]) x.w (hw.trans ((hB.trans (x.h.mono hB.size)).mono hn0)) (hav.to (fun g e => (hB.trans (x.h.mono hB.size)).block g e) fun g e => Nat.lt_of_lt_of_le e (hB.trans (x.h.mono hB.size)).size) (hyv.to (fun g e => (hB.trans (x.h.mono hB.size)).block g e) fun g e => Nat.lt_of_lt_of_le e (hB.trans (x.h.mono hB.size)).size)
    have m0 : ∀ x : Later W1.heap.size W1, x.w.cell? ⟨bc, 0, none⟩ = some (.func (.func k) fs cv) := fun x => cell_on (hB.trans (x.h.mono hB.size)) hbc h0
    have m1 : ∀ x : Later W1.heap.size W1, x.w.cell? ⟨w.heap.size, 0, none⟩ = some (.slice (some ⟨b', off', none⟩) n.length cb) := fun x => cell_on x.h hbn x0
    have m2 : ∀ x : Later W1.heap.size W1, x.w.cell? ⟨b, off, none⟩ = some (.int .i64 a.fn) := fun x => cell_on (hB.trans (x.h.mono hB.size)) hb e0
    have m3 : ∀ x : Later W1.heap.size W1, x.w.cell? ⟨b, off + 1, none⟩ = some (.slice A1 a.args.length c1) := fun x => cell_on (hB.trans (x.h.mono hB.size)) hb e1
    have m4 : ∀ x : Later W1.heap.size W1, x.w.cell? ⟨b', off', none⟩ = some (.int .i64 y.fn) := fun x => cell_on (hB.trans (x.h.mono hB.size)) hb' e2
    have m5 : ∀ x : Later W1.heap.size W1, x.w.cell? ⟨b', off' + 1, none⟩ = some (.slice A2 y.args.length c2) := fun x => cell_on (hB.trans (x.h.mono hB.size)) hb' e3
    clear hC hw hn0 h0 hm hn hm0 hn0' hav hyv hW q0 hWz h11 e0 e1 e2 e3
    go_enter Tryz.func59, Tryz.ntmps59
    go_upto_region 1 with fail
    rw [HW.out]
    go_upto_region 2 with fail
    refine wp_region_later W1.heap.size W1 (by kernel_rfl) (by kernel_rfl) (bl_drewN (Below.refl _ _) 1) ?_
    repeat (go_big_quiet_step (first
      | (with_reducible refine calls_later _ (Nat.le_refl _) (H.out _))
      | fail))
    refine wpQuiet_nil ?_
    rintro _ ⟨z, rfl⟩
    clear m0 m1 m2 m3 m4 m5
    go_wp2
    go_ret
    exact ⟨ret_int hres.out.symm, hB.trans (z.h.mono hB.size)⟩
  · obtain ⟨i0, hi, hz0, hz1, hz2⟩ := info_parts info_bool9
    have hmk : ∀ w : World, (Instr.makeSlice 52 (.int .i64 (n.length : Int)) (.int .i64 (n.length : Int))).run Tryz.prog w = .ok (.slice (some ⟨w.heap.size, 0, none⟩) n.length n.length) (w.alloc (.cells (madeCells #[.bool false] n.length) 4)) := fun w => run_make_row _ _ i0 _ Tryz.underlying52 hi hz0 hz1 rfl _ _ n.length (by rw [hz2]; omega) (by omega) w
    obtain ⟨Wg, hWg⟩ : ∃ Wg, (W1.alloc (.cells (madeCells #[.bool false] n.length) 4)).alloc (.cells #[.slice none 0 0, .slice none 0 0, .slice (some ⟨W1.heap.size, 0, none⟩) n.length n.length] 63) = Wg := ⟨_, rfl⟩
    have HG0 : Hid (GrdW Wg (fun g => W1.heap.size ≤ g) (W1.heap.size + 1) (.slice none 0 0) (.slice none 0 0) (.slice (some ⟨W1.heap.size, 0, none⟩) n.length n.length) [] [] (List.replicate n.length false) ∧ Below W1.heap.size W1 Wg) := Lib.hid (by rw [← hWg]; exact grd_new W1 n.length (by omega))
    have HWg := Lib.hid hWg
    have Hm := Lib.hid hm
    have Hn := Lib.hid hn
    have HC := Lib.hid hC
    have Hw := Lib.hid hw
    have H0 := Lib.hid h0
    have Hq0 := Lib.hid q0
    have H4 := Lib.hid h4
    have HB := Lib.hid hB
    have hcase : (((m.length : Int) == 1) = true ∧ ((n.length : Int) == 1) = false) ∨ ((m.length : Int) == 1) = false := by
      by_cases e : m.length = 1
      · exact .inl ⟨by rw [e]; rfl, by have : ¬ n.length = 1 := fun e2 => h11 ⟨e, e2⟩; simpa using fun e3 : (n.length : Int) = 1 => this (by omega)⟩
      · exact .inr (by simpa using fun e3 : (m.length : Int) = 1 => e (by omega))
    clear hC hw h0 hm hn hW q0 hWz hWg h11 h4 hB hi hz0 hz1 hz2
    rcases hcase with ⟨g0, g1⟩ | g0
    all_goals (
      go_enter Tryz.func59, Tryz.ntmps59
      go_upto_region 1 with fail
      rw [HW.out]
      go_upto_region 4 with fail
      rw [HWg.out]
      go_wp2
      go_loopw [31] (fun i wr => ∃ (j : Nat) (v1 v2 : Value), j ≤ m.length ∧ i = .int .i64 (j : Int) ∧ Hid (∃ R rels rows gone, GInv rel m n j R rels rows gone ∧ GrdW wr (fun g => W1.heap.size ≤ g) (W1.heap.size + 1) v1 v2 (.slice (some ⟨W1.heap.size, 0, none⟩) n.length n.length) rels rows gone ∧ Below W1.heap.size W1 wr)) (fun i _ => m.length - (intOf i).toNat)
      case atStart => exact ⟨0, _, _, Nat.zero_le _, rfl, Lib.hid ⟨[], [], [], _, GInv.start rel m n, HG0.out.1, HG0.out.2⟩⟩
      case round =>
        obtain ⟨j, v1, v2, hj, rfl, HR⟩ := hrel
        by_cases hlt : j < m.length
        · obtain ⟨a, hx⟩ : ∃ x, m[j]? = some x := ⟨_, List.getElem?_eq_getElem hlt⟩
          obtain ⟨R, rels, rows, gone, hI, hG, hBr⟩ := HR.out
          have HI := Lib.hid hI
          have HG := Lib.hid hG
          have hBw := HB.out.trans (hBr.mono HB.out.size)
          obtain ⟨b, off, A1, c1, rfl, hb, e0, e1, hav⟩ := Hm.out.get hx
          have c0 := cell_on hBw hb e0
          have c1e := cell_on hBw hb e1
          have hwr1 : IntKind.i64.wrap ((j : Int) + 1) = (j : Int) + 1 := by rw [IntKind.wrap_i64]; omega
          have p0 := heap_alloc_new wr (.cells #[.int .i64 a.fn, .slice A1 a.args.length c1] 36)
          have hADD : Hid (Calls Tryz.prog 37 #[.pointer (some ⟨W1.heap.size + 1, 0, none⟩), .func (.func 60) #[] #[.pointer (some ⟨bc, 0, none⟩), .pointer (some ⟨wr.heap.size, 0, none⟩), .pointer (some ⟨w.heap.size, 0, none⟩)]] (wr.alloc (.cells #[.int .i64 a.fn, .slice A1 a.args.length c1] 36)) (AddPost (qOf rel n a) (fun g => W1.heap.size ≤ g ∧ g ≠ wr.heap.size) (W1.heap.size + 1) v1 v2 (.slice (some ⟨W1.heap.size, 0, none⟩) n.length n.length) rels rows gone (wr.alloc (.cells #[.int .i64 a.fn, .slice A1 a.args.length c1] 36)))) := Lib.hid (by
            have hbd := hI.bd hml hnl (by omega)
            refine gAdd_any (N := fun g => g < W1.heap.size ∨ g = wr.heap.size) _ ((hG.on ((Below.refl _ _).alloc (Nat.le_refl _) _)).wide fun g hg => ⟨hG.s g hg, by have := hG.lt g hg; omega⟩) ⟨fun args w => by kernel_rfl, fun i w3 hi hk => ?_⟩ (fun g hg => ⟨?_, fun ho => ?_⟩) (fun g hg => ?_) (hbd.2.2.2 hlt) hbd.2.1
            · rw [hI.gl] at hi
              obtain ⟨y, hy⟩ : ∃ y, n[i]? = some y := ⟨_, List.getElem?_eq_getElem hi⟩
              rw [qOf_at hy]
              have hbA : Below W1.heap.size wr (wr.alloc (.cells #[.int .i64 a.fn, .slice A1 a.args.length c1] 36)) := (Below.refl _ _).alloc hBr.size _
              have hb3 : Below W1.heap.size W1 w3 := (hBr.trans hbA).trans (hk.below fun g e => .inl e)
              have hbw3 : Below w.heap.size w w3 := HB.out.trans (hb3.mono HB.out.size)
              have h3 : w3.heap[wr.heap.size]? = _ := (hk.block wr.heap.size (.inr rfl)).trans p0
              exact oCol1_any (bn := w.heap.size) HC.out w3 (Hw.out.trans (hbw3.mono hn0)) (Nat.le_trans hn0 hbw3.size) (cell_on hbw3 hbc H0.out) (cells_two h3).1 (cells_two h3).2.1 (cells_one ((hb3.block _ hbn).trans Hq0.out)).1 (hav.to (fun g e => hbw3.block g e) fun g e => Nat.lt_of_lt_of_le e hbw3.size) (Hn.out.to (fun g e => hbw3.block g e) fun g e => Nat.lt_of_lt_of_le e hbw3.size) hy
            · have h1 := hBr.size
              have h2 : (wr.alloc (.cells #[.int .i64 a.fn, .slice A1 a.args.length c1] 36)).heap.size = wr.heap.size + 1 := by simp
              rcases hg with hg | hg <;> omega
            · have h1 : W1.heap.size ≤ g := hG.s g ho
              have h2 := hG.lt g ho
              rcases hg with hg | hg <;> omega
            · have h1 := hBr.size
              have h2 : (wr.alloc (.cells #[.int .i64 a.fn, .slice A1 a.args.length c1] 36)).heap.size = wr.heap.size + 1 := by simp
              rw [h2] at hg
              exact ⟨by omega, by omega⟩)
          have Hx := Lib.hid hx
          have hbs : Hid (Below W1.heap.size W1 (wr.alloc (.cells #[.int .i64 a.fn, .slice A1 a.args.length c1] 36))) := Lib.hid (hBr.trans ((Below.refl _ _).alloc hBr.size _))
          clear hx hav hI hG hBr e0 e1 hb p0
          go_wp2_with (first
            | (go_at_call 37; (with_reducible refine hADD.out.mono ?_); go_must (rintro e w1 ⟨rfl, v1', v2', rels', rows', gone', hG', hP', hK'⟩; have HN : Hid (∃ R rels rows gone, GInv rel m n (j + 1) R rels rows gone ∧ GrdW w1 (fun g => W1.heap.size ≤ g) (W1.heap.size + 1) v1' v2' (.slice (some ⟨W1.heap.size, 0, none⟩) n.length n.length) rels rows gone ∧ Below W1.heap.size W1 w1) := Lib.hid (by
                obtain ⟨R', hI'⟩ := HI.out.step Hx.out (fun x y _ _ => H4.out x y) hP'
                exact ⟨R', rels', rows', gone', hI', hG'.wide fun g hg => (hG'.s g hg).1, hbs.out.trans (hK'.below hbs.out.size fun g hg ho => by have := HG.out.s g ho; omega)⟩); clear hG' hP' hK'))
            | fail)
          go_roundw
          case rel => exact ⟨j + 1, v1', v2', by omega, by go_num, HN⟩
          case measure => simp [intOf]; omega
        · obtain rfl : j = m.length := by omega
          obtain ⟨R, rels, rows, gone, hI, hG, hBr⟩ := HR.out
          have hbd := hI.bd hml hnl (Nat.le_refl _)
          have HRel := Lib.hid (gRelation_any wr hG hI.plc hI.i4 hbd.2.2.1 (by rw [hI.gl]; omega) (by omega) hbd.2.1)
          have hfin := Lib.hid hI.done
          have hBw := HB.out.trans (hBr.mono HB.out.size)
          clear hI hG hbd
          go_wp2_with (first
            | (go_at_call 39; (with_reducible refine HRel.out.mono ?_); go_must (rintro e w1 ⟨rfl, hb1⟩))
            | fail)
          go_ret
          exact ⟨ret_int hfin.out, hBw.trans (hb1.mono hBw.size)⟩)
end
end Go.Proofs.YthgglobfkkcdgaaGreat
namespace Go.Proofs.YthgglobfkkcdgaaGreat
open Go.RowKit Go.Shelf
set_option maxRecDepth 100000
section
variable {k : FuncId} {fs cv : Array Value} {n0 : Nat}
set_option maxHeartbeats 4000000 in
theorem oMulF2_any {rel : List Tm → List Tm → Int} {W : World} (hC : CmpC Rp1 rel k fs cv n0 W) (h4 : ∀ x y, In4 (rel x y)) {bc : Nat} {A B : Option Addr} {ca cb : Nat} (m n : List (List Tm)) (w : World) (hw : Below n0 W w) (hn0 : n0 ≤ w.heap.size) (h0 : w.cell? ⟨bc, 0, none⟩ = some (.func (.func k) fs cv)) (hm : RowV Rp1 (· < w.heap.size) w A m) (hn : RowV Rp1 (· < w.heap.size) w B n) :
    Calls Tryz.prog 57 #[.slice A m.length ca, .slice B n.length cb, .pointer (some ⟨bc, 0, none⟩)] w fun e w' => e = .returned (.int .i64 (mulR rel m n)) ∧ Below w.heap.size w w' := by
  have hml := hm.len
  have hnl := hn.len
  have q0 := heap_alloc_new w (.cells #[.slice B n.length cb] 47)
  obtain ⟨W1, hW⟩ : ∃ W1, w.alloc (.cells #[.slice B n.length cb] 47) = W1 := ⟨_, rfl⟩
  have hB : Below w.heap.size w W1 := by rw [← hW]; exact (Below.refl _ _).alloc (Nat.le_refl _) _
  have hWz : W1.heap.size = w.heap.size + 1 := by rw [← hW]; simp
  rw [hW] at q0
  have HWz := Lib.hid hWz
  have hbc := World.block_lt_of_cell? w _ h0
  obtain ⟨x0, _⟩ := cells_one q0
  have hent := hC.ent
  have HW := Lib.hid hW
  have hbn : w.heap.size < W1.heap.size := by omega
  by_cases h11 : m.length = 1 ∧ n.length = 1
  · have g0 : ((m.length : Int) == 1) = true := by rw [h11.1]; rfl
    have g1 : ((n.length : Int) == 1) = true := by rw [h11.2]; rfl
    have hm0' : 0 < m.length := by omega
    have hn0'' : 0 < n.length := by omega
    obtain ⟨a, hm0⟩ : ∃ a, m[0]? = some a := ⟨_, List.getElem?_eq_getElem hm0'⟩
    obtain ⟨y, hn0'⟩ : ∃ y, n[0]? = some y := ⟨_, List.getElem?_eq_getElem hn0''⟩
    obtain ⟨b, off, A1, c1, rfl, hb, e0, hav⟩ := hm.get hm0
    obtain ⟨b', off', A2, c2, rfl, hb', e2, hyv⟩ := hn.get hn0'
    rw [Nat.add_zero] at e0 e2
    have hres : Hid (mulR rel m n = rel a y) := Lib.hid (by
      have e1 : m = [a] := by
        match m, h11.1, hm0 with
        | [x], _, e => simp at e; rw [e]
      have e2 : n = [y] := by
        match n, h11.2, hn0' with
        | [x], _, e => simp at e; rw [e]
      rw [e1, e2, mulR_one (h4 a y)])
    have H := Lib.hid fun x : Later W1.heap.size W1 => hC.call a y (.slice A1 a.length c1) (.slice A2 y.length c2) x.w (hw.trans ((hB.trans (x.h.mono hB.size)).mono hn0)) (hav.to (fun g e => (hB.trans (x.h.mono hB.size)).block g e) fun g e => Nat.lt_of_lt_of_le e (hB.trans (x.h.mono hB.size)).size) (hyv.to (fun g e => (hB.trans (x.h.mono hB.size)).block g e) fun g e => Nat.lt_of_lt_of_le e (hB.trans (x.h.mono hB.size)).size)
    have m0 : ∀ x : Later W1.heap.size W1, x.w.cell? ⟨bc, 0, none⟩ = some (.func (.func k) fs cv) := fun x => cell_on (hB.trans (x.h.mono hB.size)) hbc h0
    have m1 : ∀ x : Later W1.heap.size W1, x.w.cell? ⟨w.heap.size, 0, none⟩ = some (.slice (some ⟨b', off', none⟩) n.length cb) := fun x => cell_on x.h hbn x0
    have m2 : ∀ x : Later W1.heap.size W1, x.w.cell? ⟨b, off, none⟩ = some (.slice A1 a.length c1) := fun x => cell_on (hB.trans (x.h.mono hB.size)) hb e0
    have m4 : ∀ x : Later W1.heap.size W1, x.w.cell? ⟨b', off', none⟩ = some (.slice A2 y.length c2) := fun x => cell_on (hB.trans (x.h.mono hB.size)) hb' e2
    clear hC hw hn0 h0 hm hn hm0 hn0' hav hyv hW q0 hWz h11 e0 e2
    go_enter Tryz.func57, Tryz.ntmps57
    go_upto_region 1 with fail
    rw [HW.out]
    go_upto_region 2 with fail
    refine wp_region_later W1.heap.size W1 (by kernel_rfl) (by kernel_rfl) (bl_drewN (Below.refl _ _) 1) ?_
    repeat (go_big_quiet_step (first
      | (with_reducible refine calls_later _ (Nat.le_refl _) (H.out _))
      | fail))
    refine wpQuiet_nil ?_
    rintro _ ⟨z, rfl⟩
    clear m0 m1 m2 m4
    go_wp2
    go_ret
    exact ⟨ret_int hres.out.symm, hB.trans (z.h.mono hB.size)⟩
  · obtain ⟨i0, hi, hz0, hz1, hz2⟩ := info_parts info_bool9
    have hmk : ∀ w : World, (Instr.makeSlice 52 (.int .i64 (n.length : Int)) (.int .i64 (n.length : Int))).run Tryz.prog w = .ok (.slice (some ⟨w.heap.size, 0, none⟩) n.length n.length) (w.alloc (.cells (madeCells #[.bool false] n.length) 4)) := fun w => run_make_row _ _ i0 _ Tryz.underlying52 hi hz0 hz1 rfl _ _ n.length (by rw [hz2]; omega) (by omega) w
    obtain ⟨Wg, hWg⟩ : ∃ Wg, (W1.alloc (.cells (madeCells #[.bool false] n.length) 4)).alloc (.cells #[.slice none 0 0, .slice none 0 0, .slice (some ⟨W1.heap.size, 0, none⟩) n.length n.length] 63) = Wg := ⟨_, rfl⟩
    have HG0 : Hid (GrdW Wg (fun g => W1.heap.size ≤ g) (W1.heap.size + 1) (.slice none 0 0) (.slice none 0 0) (.slice (some ⟨W1.heap.size, 0, none⟩) n.length n.length) [] [] (List.replicate n.length false) ∧ Below W1.heap.size W1 Wg) := Lib.hid (by rw [← hWg]; exact grd_new W1 n.length (by omega))
    have HWg := Lib.hid hWg
    have Hm := Lib.hid hm
    have Hn := Lib.hid hn
    have HC := Lib.hid hC
    have Hw := Lib.hid hw
    have H0 := Lib.hid h0
    have Hq0 := Lib.hid q0
    have H4 := Lib.hid h4
    have HB := Lib.hid hB
    have hcase : (((m.length : Int) == 1) = true ∧ ((n.length : Int) == 1) = false) ∨ ((m.length : Int) == 1) = false := by
      by_cases e : m.length = 1
      · exact .inl ⟨by rw [e]; rfl, by have : ¬ n.length = 1 := fun e2 => h11 ⟨e, e2⟩; simpa using fun e3 : (n.length : Int) = 1 => this (by omega)⟩
      · exact .inr (by simpa using fun e3 : (m.length : Int) = 1 => e (by omega))
    clear hC hw h0 hm hn hW q0 hWz hWg h11 h4 hB hi hz0 hz1 hz2
    rcases hcase with ⟨g0, g1⟩ | g0
    all_goals (
      go_enter Tryz.func57, Tryz.ntmps57
      go_upto_region 1 with fail
      rw [HW.out]
      go_upto_region 4 with fail
      rw [HWg.out]
      go_wp2
      go_loopw [31] (fun i wr => ∃ (j : Nat) (v1 v2 : Value), j ≤ m.length ∧ i = .int .i64 (j : Int) ∧ Hid (∃ R rels rows gone, GInv rel m n j R rels rows gone ∧ GrdW wr (fun g => W1.heap.size ≤ g) (W1.heap.size + 1) v1 v2 (.slice (some ⟨W1.heap.size, 0, none⟩) n.length n.length) rels rows gone ∧ Below W1.heap.size W1 wr)) (fun i _ => m.length - (intOf i).toNat)
      case atStart => exact ⟨0, _, _, Nat.zero_le _, rfl, Lib.hid ⟨[], [], [], _, GInv.start rel m n, HG0.out.1, HG0.out.2⟩⟩
      case round =>
        obtain ⟨j, v1, v2, hj, rfl, HR⟩ := hrel
        by_cases hlt : j < m.length
        · obtain ⟨a, hx⟩ : ∃ x, m[j]? = some x := ⟨_, List.getElem?_eq_getElem hlt⟩
          obtain ⟨R, rels, rows, gone, hI, hG, hBr⟩ := HR.out
          have HI := Lib.hid hI
          have HG := Lib.hid hG
          have hBw := HB.out.trans (hBr.mono HB.out.size)
          obtain ⟨b, off, A1, c1, rfl, hb, e0, hav⟩ := Hm.out.get hx
          have c0 := cell_on hBw hb e0
          have hwr1 : IntKind.i64.wrap ((j : Int) + 1) = (j : Int) + 1 := by rw [IntKind.wrap_i64]; omega
          have p0 := heap_alloc_new wr (.cells #[.slice A1 a.length c1] 34)
          have hADD : Hid (Calls Tryz.prog 37 #[.pointer (some ⟨W1.heap.size + 1, 0, none⟩), .func (.func 58) #[] #[.pointer (some ⟨bc, 0, none⟩), .pointer (some ⟨wr.heap.size, 0, none⟩), .pointer (some ⟨w.heap.size, 0, none⟩)]] (wr.alloc (.cells #[.slice A1 a.length c1] 34)) (AddPost (qOf rel n a) (fun g => W1.heap.size ≤ g ∧ g ≠ wr.heap.size) (W1.heap.size + 1) v1 v2 (.slice (some ⟨W1.heap.size, 0, none⟩) n.length n.length) rels rows gone (wr.alloc (.cells #[.slice A1 a.length c1] 34)))) := Lib.hid (by
            have hbd := hI.bd hml hnl (by omega)
            refine gAdd_any (N := fun g => g < W1.heap.size ∨ g = wr.heap.size) _ ((hG.on ((Below.refl _ _).alloc (Nat.le_refl _) _)).wide fun g hg => ⟨hG.s g hg, by have := hG.lt g hg; omega⟩) ⟨fun args w => by kernel_rfl, fun i w3 hi hk => ?_⟩ (fun g hg => ⟨?_, fun ho => ?_⟩) (fun g hg => ?_) (hbd.2.2.2 hlt) hbd.2.1
            · rw [hI.gl] at hi
              obtain ⟨y, hy⟩ : ∃ y, n[i]? = some y := ⟨_, List.getElem?_eq_getElem hi⟩
              rw [qOf_at hy]
              have hbA : Below W1.heap.size wr (wr.alloc (.cells #[.slice A1 a.length c1] 34)) := (Below.refl _ _).alloc hBr.size _
              have hb3 : Below W1.heap.size W1 w3 := (hBr.trans hbA).trans (hk.below fun g e => .inl e)
              have hbw3 : Below w.heap.size w w3 := HB.out.trans (hb3.mono HB.out.size)
              have h3 : w3.heap[wr.heap.size]? = _ := (hk.block wr.heap.size (.inr rfl)).trans p0
              exact oCol2_any (bn := w.heap.size) HC.out w3 (Hw.out.trans (hbw3.mono hn0)) (Nat.le_trans hn0 hbw3.size) (cell_on hbw3 hbc H0.out) (cells_one h3).1 (cells_one ((hb3.block _ hbn).trans Hq0.out)).1 (hav.to (fun g e => hbw3.block g e) fun g e => Nat.lt_of_lt_of_le e hbw3.size) (RowV.to (Rp := Rp1) Rp1.to Hn.out (fun g e => hbw3.block g e) fun g e => Nat.lt_of_lt_of_le e hbw3.size) hy
            · have h1 := hBr.size
              have h2 : (wr.alloc (.cells #[.slice A1 a.length c1] 34)).heap.size = wr.heap.size + 1 := by simp
              rcases hg with hg | hg <;> omega
            · have h1 : W1.heap.size ≤ g := hG.s g ho
              have h2 := hG.lt g ho
              rcases hg with hg | hg <;> omega
            · have h1 := hBr.size
              have h2 : (wr.alloc (.cells #[.slice A1 a.length c1] 34)).heap.size = wr.heap.size + 1 := by simp
              rw [h2] at hg
              exact ⟨by omega, by omega⟩)
          have Hx := Lib.hid hx
          have hbs : Hid (Below W1.heap.size W1 (wr.alloc (.cells #[.slice A1 a.length c1] 34))) := Lib.hid (hBr.trans ((Below.refl _ _).alloc hBr.size _))
          clear hx hav hI hG hBr e0 hb p0
          go_wp2_with (first
            | (go_at_call 37; (with_reducible refine hADD.out.mono ?_); go_must (rintro e w1 ⟨rfl, v1', v2', rels', rows', gone', hG', hP', hK'⟩; have HN : Hid (∃ R rels rows gone, GInv rel m n (j + 1) R rels rows gone ∧ GrdW w1 (fun g => W1.heap.size ≤ g) (W1.heap.size + 1) v1' v2' (.slice (some ⟨W1.heap.size, 0, none⟩) n.length n.length) rels rows gone ∧ Below W1.heap.size W1 w1) := Lib.hid (by
                obtain ⟨R', hI'⟩ := HI.out.step Hx.out (fun x y _ _ => H4.out x y) hP'
                exact ⟨R', rels', rows', gone', hI', hG'.wide fun g hg => (hG'.s g hg).1, hbs.out.trans (hK'.below hbs.out.size fun g hg ho => by have := HG.out.s g ho; omega)⟩); clear hG' hP' hK'))
            | fail)
          go_roundw
          case rel => exact ⟨j + 1, v1', v2', by omega, by go_num, HN⟩
          case measure => simp [intOf]; omega
        · obtain rfl : j = m.length := by omega
          obtain ⟨R, rels, rows, gone, hI, hG, hBr⟩ := HR.out
          have hbd := hI.bd hml hnl (Nat.le_refl _)
          have HRel := Lib.hid (gRelation_any wr hG hI.plc hI.i4 hbd.2.2.1 (by rw [hI.gl]; omega) (by omega) hbd.2.1)
          have hfin := Lib.hid hI.done
          have hBw := HB.out.trans (hBr.mono HB.out.size)
          clear hI hG hbd
          go_wp2_with (first
            | (go_at_call 39; (with_reducible refine HRel.out.mono ?_); go_must (rintro e w1 ⟨rfl, hb1⟩))
            | fail)
          go_ret
          exact ⟨ret_int hfin.out, hBw.trans (hb1.mono hBw.size)⟩)
end
end Go.Proofs.YthgglobfkkcdgaaGreat
namespace Go.Proofs.YthgglobfkkcdgaaGreat
open Go.RowKit Go.Shelf
set_option maxRecDepth 100000
section
variable {k : FuncId} {fs cv : Array Value} {n0 : Nat}
set_option maxHeartbeats 4000000 in
theorem oMulF3_any {rel : List (List Tm) → List (List Tm) → Int} {W : World} (hC : CmpC Rp2 rel k fs cv n0 W) (h4 : ∀ x y, In4 (rel x y)) {bc : Nat} {A B : Option Addr} {ca cb : Nat} (m n : List (List (List Tm))) (w : World) (hw : Below n0 W w) (hn0 : n0 ≤ w.heap.size) (h0 : w.cell? ⟨bc, 0, none⟩ = some (.func (.func k) fs cv)) (hm : RowV Rp2 (· < w.heap.size) w A m) (hn : RowV Rp2 (· < w.heap.size) w B n) :
    Calls Tryz.prog 36 #[.slice A m.length ca, .slice B n.length cb, .pointer (some ⟨bc, 0, none⟩)] w fun e w' => e = .returned (.int .i64 (mulR rel m n)) ∧ Below w.heap.size w w' := by
  have hml := hm.len
  have hnl := hn.len
  have q0 := heap_alloc_new w (.cells #[.slice B n.length cb] 50)
  obtain ⟨W1, hW⟩ : ∃ W1, w.alloc (.cells #[.slice B n.length cb] 50) = W1 := ⟨_, rfl⟩
  have hB : Below w.heap.size w W1 := by rw [← hW]; exact (Below.refl _ _).alloc (Nat.le_refl _) _
  have hWz : W1.heap.size = w.heap.size + 1 := by rw [← hW]; simp
  rw [hW] at q0
  have HWz := Lib.hid hWz
  have hbc := World.block_lt_of_cell? w _ h0
  obtain ⟨x0, _⟩ := cells_one q0
  have hent := hC.ent
  have HW := Lib.hid hW
  have hbn : w.heap.size < W1.heap.size := by omega
  by_cases h11 : m.length = 1 ∧ n.length = 1
  · have g0 : ((m.length : Int) == 1) = true := by rw [h11.1]; rfl
    have g1 : ((n.length : Int) == 1) = true := by rw [h11.2]; rfl
    have hm0' : 0 < m.length := by omega
    have hn0'' : 0 < n.length := by omega
    obtain ⟨a, hm0⟩ : ∃ a, m[0]? = some a := ⟨_, List.getElem?_eq_getElem hm0'⟩
    obtain ⟨y, hn0'⟩ : ∃ y, n[0]? = some y := ⟨_, List.getElem?_eq_getElem hn0''⟩
    obtain ⟨b, off, A1, c1, rfl, hb, e0, hav⟩ := hm.get hm0
    obtain ⟨b', off', A2, c2, rfl, hb', e2, hyv⟩ := hn.get hn0'
    rw [Nat.add_zero] at e0 e2
    have hres : Hid (mulR rel m n = rel a y) := Lib.hid (by
      have e1 : m = [a] := by
        match m, h11.1, hm0 with
        | [x], _, e => simp at e; rw [e]
      have e2 : n = [y] := by
        match n, h11.2, hn0' with
        | [x], _, e => simp at e; rw [e]
      rw [e1, e2, mulR_one (h4 a y)])
    have H := Lib.hid fun x : Later W1.heap.size W1 => hC.call a y (.slice A1 a.length c1) (.slice A2 y.length c2) x.w (hw.trans ((hB.trans (x.h.mono hB.size)).mono hn0)) (hav.to (fun g e => (hB.trans (x.h.mono hB.size)).block g e) fun g e => Nat.lt_of_lt_of_le e (hB.trans (x.h.mono hB.size)).size) (hyv.to (fun g e => (hB.trans (x.h.mono hB.size)).block g e) fun g e => Nat.lt_of_lt_of_le e (hB.trans (x.h.mono hB.size)).size)
    have m0 : ∀ x : Later W1.heap.size W1, x.w.cell? ⟨bc, 0, none⟩ = some (.func (.func k) fs cv) := fun x => cell_on (hB.trans (x.h.mono hB.size)) hbc h0
    have m1 : ∀ x : Later W1.heap.size W1, x.w.cell? ⟨w.heap.size, 0, none⟩ = some (.slice (some ⟨b', off', none⟩) n.length cb) := fun x => cell_on x.h hbn x0
    have m2 : ∀ x : Later W1.heap.size W1, x.w.cell? ⟨b, off, none⟩ = some (.slice A1 a.length c1) := fun x => cell_on (hB.trans (x.h.mono hB.size)) hb e0
    have m4 : ∀ x : Later W1.heap.size W1, x.w.cell? ⟨b', off', none⟩ = some (.slice A2 y.length c2) := fun x => cell_on (hB.trans (x.h.mono hB.size)) hb' e2
    clear hC hw hn0 h0 hm hn hm0 hn0' hav hyv hW q0 hWz h11 e0 e2
    go_enter Tryz.func36, Tryz.ntmps36
    go_upto_region 1 with fail
    rw [HW.out]
    go_upto_region 2 with fail
    refine wp_region_later W1.heap.size W1 (by kernel_rfl) (by kernel_rfl) (bl_drewN (Below.refl _ _) 1) ?_
    repeat (go_big_quiet_step (first
      | (with_reducible refine calls_later _ (Nat.le_refl _) (H.out _))
      | fail))
    refine wpQuiet_nil ?_
    rintro _ ⟨z, rfl⟩
    clear m0 m1 m2 m4
    go_wp2
    go_ret
    exact ⟨ret_int hres.out.symm, hB.trans (z.h.mono hB.size)⟩
  · obtain ⟨i0, hi, hz0, hz1, hz2⟩ := info_parts info_bool9
    have hmk : ∀ w : World, (Instr.makeSlice 52 (.int .i64 (n.length : Int)) (.int .i64 (n.length : Int))).run Tryz.prog w = .ok (.slice (some ⟨w.heap.size, 0, none⟩) n.length n.length) (w.alloc (.cells (madeCells #[.bool false] n.length) 4)) := fun w => run_make_row _ _ i0 _ Tryz.underlying52 hi hz0 hz1 rfl _ _ n.length (by rw [hz2]; omega) (by omega) w
    obtain ⟨Wg, hWg⟩ : ∃ Wg, (W1.alloc (.cells (madeCells #[.bool false] n.length) 4)).alloc (.cells #[.slice none 0 0, .slice none 0 0, .slice (some ⟨W1.heap.size, 0, none⟩) n.length n.length] 63) = Wg := ⟨_, rfl⟩
    have HG0 : Hid (GrdW Wg (fun g => W1.heap.size ≤ g) (W1.heap.size + 1) (.slice none 0 0) (.slice none 0 0) (.slice (some ⟨W1.heap.size, 0, none⟩) n.length n.length) [] [] (List.replicate n.length false) ∧ Below W1.heap.size W1 Wg) := Lib.hid (by rw [← hWg]; exact grd_new W1 n.length (by omega))
    have HWg := Lib.hid hWg
    have Hm := Lib.hid hm
    have Hn := Lib.hid hn
    have HC := Lib.hid hC
    have Hw := Lib.hid hw
    have H0 := Lib.hid h0
    have Hq0 := Lib.hid q0
    have H4 := Lib.hid h4
    have HB := Lib.hid hB
    have hcase : (((m.length : Int) == 1) = true ∧ ((n.length : Int) == 1) = false) ∨ ((m.length : Int) == 1) = false := by
      by_cases e : m.length = 1
      · exact .inl ⟨by rw [e]; rfl, by have : ¬ n.length = 1 := fun e2 => h11 ⟨e, e2⟩; simpa using fun e3 : (n.length : Int) = 1 => this (by omega)⟩
      · exact .inr (by simpa using fun e3 : (m.length : Int) = 1 => e (by omega))
    clear hC hw h0 hm hn hW q0 hWz hWg h11 h4 hB hi hz0 hz1 hz2
    rcases hcase with ⟨g0, g1⟩ | g0
    all_goals (
      go_enter Tryz.func36, Tryz.ntmps36
      go_upto_region 1 with fail
      rw [HW.out]
      go_upto_region 4 with fail
      rw [HWg.out]
      go_wp2
      go_loopw [31] (fun i wr => ∃ (j : Nat) (v1 v2 : Value), j ≤ m.length ∧ i = .int .i64 (j : Int) ∧ Hid (∃ R rels rows gone, GInv rel m n j R rels rows gone ∧ GrdW wr (fun g => W1.heap.size ≤ g) (W1.heap.size + 1) v1 v2 (.slice (some ⟨W1.heap.size, 0, none⟩) n.length n.length) rels rows gone ∧ Below W1.heap.size W1 wr)) (fun i _ => m.length - (intOf i).toNat)
      case atStart => exact ⟨0, _, _, Nat.zero_le _, rfl, Lib.hid ⟨[], [], [], _, GInv.start rel m n, HG0.out.1, HG0.out.2⟩⟩
      case round =>
        obtain ⟨j, v1, v2, hj, rfl, HR⟩ := hrel
        by_cases hlt : j < m.length
        · obtain ⟨a, hx⟩ : ∃ x, m[j]? = some x := ⟨_, List.getElem?_eq_getElem hlt⟩
          obtain ⟨R, rels, rows, gone, hI, hG, hBr⟩ := HR.out
          have HI := Lib.hid hI
          have HG := Lib.hid hG
          have hBw := HB.out.trans (hBr.mono HB.out.size)
          obtain ⟨b, off, A1, c1, rfl, hb, e0, hav⟩ := Hm.out.get hx
          have c0 := cell_on hBw hb e0
          have hwr1 : IntKind.i64.wrap ((j : Int) + 1) = (j : Int) + 1 := by rw [IntKind.wrap_i64]; omega
          have p0 := heap_alloc_new wr (.cells #[.slice A1 a.length c1] 47)
          have hADD : Hid (Calls Tryz.prog 37 #[.pointer (some ⟨W1.heap.size + 1, 0, none⟩), .func (.func 38) #[] #[.pointer (some ⟨bc, 0, none⟩), .pointer (some ⟨wr.heap.size, 0, none⟩), .pointer (some ⟨w.heap.size, 0, none⟩)]] (wr.alloc (.cells #[.slice A1 a.length c1] 47)) (AddPost (qOf rel n a) (fun g => W1.heap.size ≤ g ∧ g ≠ wr.heap.size) (W1.heap.size + 1) v1 v2 (.slice (some ⟨W1.heap.size, 0, none⟩) n.length n.length) rels rows gone (wr.alloc (.cells #[.slice A1 a.length c1] 47)))) := Lib.hid (by
            have hbd := hI.bd hml hnl (by omega)
            refine gAdd_any (N := fun g => g < W1.heap.size ∨ g = wr.heap.size) _ ((hG.on ((Below.refl _ _).alloc (Nat.le_refl _) _)).wide fun g hg => ⟨hG.s g hg, by have := hG.lt g hg; omega⟩) ⟨fun args w => by kernel_rfl, fun i w3 hi hk => ?_⟩ (fun g hg => ⟨?_, fun ho => ?_⟩) (fun g hg => ?_) (hbd.2.2.2 hlt) hbd.2.1
            · rw [hI.gl] at hi
              obtain ⟨y, hy⟩ : ∃ y, n[i]? = some y := ⟨_, List.getElem?_eq_getElem hi⟩
              rw [qOf_at hy]
              have hbA : Below W1.heap.size wr (wr.alloc (.cells #[.slice A1 a.length c1] 47)) := (Below.refl _ _).alloc hBr.size _
              have hb3 : Below W1.heap.size W1 w3 := (hBr.trans hbA).trans (hk.below fun g e => .inl e)
              have hbw3 : Below w.heap.size w w3 := HB.out.trans (hb3.mono HB.out.size)
              have h3 : w3.heap[wr.heap.size]? = _ := (hk.block wr.heap.size (.inr rfl)).trans p0
              exact oCol3_any (bn := w.heap.size) HC.out w3 (Hw.out.trans (hbw3.mono hn0)) (Nat.le_trans hn0 hbw3.size) (cell_on hbw3 hbc H0.out) (cells_one h3).1 (cells_one ((hb3.block _ hbn).trans Hq0.out)).1 (hav.to (fun g e => hbw3.block g e) fun g e => Nat.lt_of_lt_of_le e hbw3.size) (RowV.to (Rp := Rp2) Rp2.to Hn.out (fun g e => hbw3.block g e) fun g e => Nat.lt_of_lt_of_le e hbw3.size) hy
            · have h1 := hBr.size
              have h2 : (wr.alloc (.cells #[.slice A1 a.length c1] 47)).heap.size = wr.heap.size + 1 := by simp
              rcases hg with hg | hg <;> omega
            · have h1 : W1.heap.size ≤ g := hG.s g ho
              have h2 := hG.lt g ho
              rcases hg with hg | hg <;> omega
            · have h1 := hBr.size
              have h2 : (wr.alloc (.cells #[.slice A1 a.length c1] 47)).heap.size = wr.heap.size + 1 := by simp
              rw [h2] at hg
              exact ⟨by omega, by omega⟩)
          have Hx := Lib.hid hx
          have hbs : Hid (Below W1.heap.size W1 (wr.alloc (.cells #[.slice A1 a.length c1] 47))) := Lib.hid (hBr.trans ((Below.refl _ _).alloc hBr.size _))
          clear hx hav hI hG hBr e0 hb p0
          go_wp2_with (first
            | (go_at_call 37; (with_reducible refine hADD.out.mono ?_); go_must (rintro e w1 ⟨rfl, v1', v2', rels', rows', gone', hG', hP', hK'⟩; have HN : Hid (∃ R rels rows gone, GInv rel m n (j + 1) R rels rows gone ∧ GrdW w1 (fun g => W1.heap.size ≤ g) (W1.heap.size + 1) v1' v2' (.slice (some ⟨W1.heap.size, 0, none⟩) n.length n.length) rels rows gone ∧ Below W1.heap.size W1 w1) := Lib.hid (by
                obtain ⟨R', hI'⟩ := HI.out.step Hx.out (fun x y _ _ => H4.out x y) hP'
                exact ⟨R', rels', rows', gone', hI', hG'.wide fun g hg => (hG'.s g hg).1, hbs.out.trans (hK'.below hbs.out.size fun g hg ho => by have := HG.out.s g ho; omega)⟩); clear hG' hP' hK'))
            | fail)
          go_roundw
          case rel => exact ⟨j + 1, v1', v2', by omega, by go_num, HN⟩
          case measure => simp [intOf]; omega
        · obtain rfl : j = m.length := by omega
          obtain ⟨R, rels, rows, gone, hI, hG, hBr⟩ := HR.out
          have hbd := hI.bd hml hnl (Nat.le_refl _)
          have HRel := Lib.hid (gRelation_any wr hG hI.plc hI.i4 hbd.2.2.1 (by rw [hI.gl]; omega) (by omega) hbd.2.1)
          have hfin := Lib.hid hI.done
          have hBw := HB.out.trans (hBr.mono HB.out.size)
          clear hI hG hbd
          go_wp2_with (first
            | (go_at_call 39; (with_reducible refine HRel.out.mono ?_); go_must (rintro e w1 ⟨rfl, hb1⟩))
            | fail)
          go_ret
          exact ⟨ret_int hfin.out, hBw.trans (hb1.mono hBw.size)⟩)
end
end Go.Proofs.YthgglobfkkcdgaaGreat
namespace Go.Proofs.YthgglobfkkcdgaaGreat
open Go.RowKit Go.Shelf
set_option maxRecDepth 100000
def OSame (t : Tm) : Prop := ∀ (u : Tm) (A A2 : Option Addr) (c c2 : Nat) (w : World), I64 t.fn → I64 u.fn → Args w w.heap.size A t.args → Args w w.heap.size A2 u.args →
  Calls Tryz.prog 62 #[.agg #[.int .i64 t.fn, .slice A t.args.length c], .agg #[.int .i64 u.fn, .slice A2 u.args.length c2]] w fun e w' => e = .returned (.bool (decide (cmpT t u = 0))) ∧ Below w.heap.size w w'
set_option maxHeartbeats 2000000 in
theorem oEqF_any (xs ys : List Tm) (ih : ∀ x ∈ xs, OSame x) (A A2 : Option Addr) (c c2 : Nat) (w : World) (hA : Args w w.heap.size A xs) (hA2 : Args w w.heap.size A2 ys) :
    Calls Tryz.prog 80 #[.slice A xs.length c, .slice A2 ys.length c2, .func (.func 62) #[] #[]] w fun e w' => ∃ b, e = .returned (.bool b) ∧ (b = true ↔ xs = ys) ∧ Below w.heap.size w w' := by
  have hl1 := hA.len
  have hl2 := hA2.len
  by_cases hlen : xs.length = ys.length
  · have HA := Lib.hid hA
    have HA2 := Lib.hid hA2
    have HL := Lib.hid hlen
    have hne : ((xs.length : Int) != (ys.length : Int)) = false := by rw [hlen]; simp
    clear hA hA2 hlen
    go_enter Tryz.func80, Tryz.ntmps80
    go_wp2
    go_loopw [17] (fun i wr => ∃ k : Nat, k ≤ xs.length ∧ i = .int .i64 (k : Int) ∧ Below w.heap.size w wr ∧ Hid (xs.take k = ys.take k)) (fun i _ => xs.length - (intOf i).toNat)
    case atStart => exact ⟨0, Nat.zero_le _, rfl, Below.refl _ _, Lib.hid (by simp)⟩
    case round =>
      obtain ⟨k, hk, rfl, hBr, H⟩ := hrel
      by_cases hlt : k < xs.length
      · obtain ⟨x, hx⟩ : ∃ x, xs[k]? = some x := ⟨_, List.getElem?_eq_getElem hlt⟩
        obtain ⟨y, hy⟩ : ∃ y, ys[k]? = some y := ⟨_, List.getElem?_eq_getElem (by have := HL.out; omega)⟩
        obtain ⟨b, off, A', c', rfl, h⟩ := HA.out.get hx
        obtain ⟨b2, off2, A2', c2', rfl, h2⟩ := HA2.out.get hy
        have e0 := cell_on hBr h.hb h.c0
        have e1 := cell_on hBr h.hb h.c1
        obtain ⟨q0, q1⟩ := heap2 wr (.cells #[.int .i64 x.fn, .slice A' x.args.length c'] 36) (.cells #[.int .i64 y.fn, .slice A2' y.args.length c2'] 36)
        have hBx : Below wr.heap.size wr ((wr.alloc (.cells #[.int .i64 x.fn, .slice A' x.args.length c'] 36)).alloc (.cells #[.int .i64 y.fn, .slice A2' y.args.length c2'] 36)) := ((Below.refl _ _).alloc (Nat.le_refl _) _).alloc (by simp) _
        have hB1 : Below w.heap.size w (wr.alloc (.cells #[.int .i64 x.fn, .slice A' x.args.length c'] 36)) := hBr.alloc hBr.size _
        have d0 := cell_on hB1 h2.hb h2.c0
        have d1 := cell_on hB1 h2.hb h2.c1
        obtain ⟨W, hW⟩ : ∃ W, ((wr.alloc (.cells #[.int .i64 x.fn, .slice A' x.args.length c'] 36)).alloc (.cells #[.int .i64 y.fn, .slice A2' y.args.length c2'] 36)) = W := ⟨_, rfl⟩
        rw [hW] at q0 q1 hBx
        obtain ⟨f0, f1, _, _⟩ := cells_two q0
        obtain ⟨g0, g1, _, _⟩ := cells_two q1
        have hBW := hBr.trans (hBx.mono hBr.size)
        have HS := Lib.hid (ih x (List.mem_of_getElem? hx) y A' A2' c' c2' W h.hi h2.hi (h.sub.on hBW) (h2.sub.on hBW))
        have HW := Lib.hid hW
        have Hx := Lib.hid hx
        have Hy := Lib.hid hy
        have hkl2 : (k : Int) < (ys.length : Int) := by have := HL.out; omega
        clear hx hy h h2 hW
        go_upto_region 7 with fail
        rw [HW.out]
        clear e0 e1 d0 d1
        by_cases hc : cmpT x y = 0
        · rw [decide_eq_true hc] at HS
          have hnx : Hid (xs.take (k + 1) = ys.take (k + 1)) := Lib.hid (by rw [List.take_add_one, List.take_add_one, Hx.out, Hy.out, H.out, cmp_zero_iff.1 hc])
          clear hc
          go_wp2_with (first
            | (go_at_call 62; (with_reducible refine HS.out.mono ?_); go_must (rintro e w1 ⟨rfl, hb1⟩))
            | fail)
          have hBz := hBW.trans (hb1.mono hBW.size)
          first
            | (go_roundw
               case rel => exact ⟨k + 1, by omega, by go_num, hBz, hnx⟩
               case measure => simp [intOf]; omega)
            | exact ⟨⟨k + 1, by omega, by go_num, hBz, hnx⟩, by simp [intOf]; omega⟩
        · rw [decide_eq_false hc] at HS
          have hres : Hid (¬ xs = ys) := Lib.hid (fun e => hc (by
            have h1 := Hx.out
            rw [e, Hy.out] at h1
            injection h1 with h1
            exact cmp_zero_iff.2 h1.symm))
          clear hc
          go_wp2_with (first
            | (go_at_call 62; (with_reducible refine HS.out.mono ?_); go_must (rintro e w1 ⟨rfl, hb1⟩))
            | fail)
          go_ret
          exact ⟨_, rfl, ⟨fun e => (by cases e), fun e => absurd e hres.out⟩, hBW.trans (hb1.mono hBW.size)⟩
      · obtain rfl : k = xs.length := by omega
        have hres : Hid (xs = ys) := Lib.hid (by
          have := H.out
          rwa [List.take_length, HL.out, List.take_length] at this)
        go_wp2
        go_ret
        exact ⟨_, rfl, ⟨fun _ => hres.out, fun _ => rfl⟩, hBr⟩
  · have hne : ((xs.length : Int) != (ys.length : Int)) = true := by
      simp only [bne_iff_ne, ne_eq]; omega
    have hres : Hid (¬ xs = ys) := Lib.hid fun e => hlen (by rw [e])
    clear hlen hA hA2
    go_enter Tryz.func80, Tryz.ntmps80
    go_wp2
    go_ret
    exact ⟨_, rfl, ⟨fun e => (by cases e), fun e => absurd e hres.out⟩, Below.refl _ _⟩
set_option maxHeartbeats 1000000 in
theorem oSame_any (t : Tm) : OSame t := by
  refine Tm.ind (P := OSame) (fun f xs ih => ?_) t
  intro u A A2 c c2 w hf hg hA hA2
  obtain ⟨g, ys⟩ := u
  simp only [Tm.fn, Tm.args] at hf hg hA hA2 ⊢
  have hBx : Below w.heap.size w ((w.alloc (.cells #[.int .i64 f, .slice A xs.length c] 36)).alloc (.cells #[.int .i64 g, .slice A2 ys.length c2] 36)) := ((Below.refl _ _).alloc (Nat.le_refl _) _).alloc (by simp) _
  have H := Lib.hid (oEqF_any xs ys ih A A2 c c2 _ (hA.on hBx) (hA2.on hBx))
  have HB := Lib.hid hBx
  clear hA hA2 hBx ih
  by_cases hfg : f = g
  · have e : ((f : Int) == g) = true := by simpa using hfg
    have Hfg := Lib.hid hfg
    clear hfg
    go_enter Tryz.func62, Tryz.ntmps62
    go_wp2_with (first
      | (go_at_call 80; (with_reducible refine H.out.mono ?_); go_must (rintro e w1 ⟨b, rfl, hb, hb1⟩; have Hb := Lib.hid hb; clear hb))
      | fail)
    go_ret
    refine ⟨ret_bool ?_, HB.out.trans (hb1.mono HB.out.size)⟩
    rw [Bool.eq_iff_iff, Hb.out, decide_eq_true_eq, cmp_zero_iff, Hfg.out]
    simp
  · have e : ((f : Int) == g) = false := by simpa using hfg
    have hres : Hid (decide (cmpT (.node f xs) (.node g ys) = 0) = false) := Lib.hid (decide_eq_false fun e => hfg (by have := cmp_zero_iff.1 e; injection this))
    clear hfg
    go_enter Tryz.func62, Tryz.ntmps62
    go_wp2
    go_ret
    exact ⟨ret_bool hres.out.symm, HB.out⟩
theorem box_ott9 {w W : World} {o : Odr} {s t : Tm} {P Q A A2 : Option Addr} {pc qc c c2 : Nat} (hW : (((w.alloc (.cells #[.bool o.lpo, .slice P o.prec.length pc, .slice Q o.wts.length qc, .int .i64 o.var] 24)).alloc (.cells #[.int .i64 s.fn, .slice A s.args.length c] 36)).alloc (.cells #[.int .i64 t.fn, .slice A2 t.args.length c2] 36)) = W) :
    Below w.heap.size w W ∧ W.heap[w.heap.size]? = some (.cells #[.bool o.lpo, .slice P o.prec.length pc, .slice Q o.wts.length qc, .int .i64 o.var] 24) ∧ W.heap[w.heap.size + 1]? = some (.cells #[.int .i64 s.fn, .slice A s.args.length c] 36) ∧ W.heap[w.heap.size + 2]? = some (.cells #[.int .i64 t.fn, .slice A2 t.args.length c2] 36) := by
  have e0 := heap_alloc_new w (.cells #[.bool o.lpo, .slice P o.prec.length pc, .slice Q o.wts.length qc, .int .i64 o.var] 24)
  obtain ⟨e1, e2⟩ := heap2 (w.alloc (.cells #[.bool o.lpo, .slice P o.prec.length pc, .slice Q o.wts.length qc, .int .i64 o.var] 24)) (.cells #[.int .i64 s.fn, .slice A s.args.length c] 36) (.cells #[.int .i64 t.fn, .slice A2 t.args.length c2] 36)
  have hz : (w.alloc (.cells #[.bool o.lpo, .slice P o.prec.length pc, .slice Q o.wts.length qc, .int .i64 o.var] 24)).heap.size = w.heap.size + 1 := by simp
  rw [hz] at e1 e2
  rw [← hW]
  refine ⟨(((Below.refl _ _).alloc (Nat.le_refl _) _).alloc (by simp) _).alloc (by simp; omega) _, ?_, e1, e2⟩
  rw [Below.heap_alloc _ _ _ (by simp; omega), Below.heap_alloc _ _ _ (by simp)]
  exact e0
theorem oCmp_any (o : Odr) (s t : Tm) (P Q A A2 : Option Addr) (pc qc c c2 : Nat) (w : World) (hrk : o.prec.length ≤ 140737488351232) (hM : OdrM w w.heap.size o P Q) (hs : TmK w s A c) (ht : TmK w t A2 c2) (hz : s.size + t.size ≤ 1073741824) :
    Calls Tryz.prog 13 #[.agg #[.bool o.lpo, .slice P o.prec.length pc, .slice Q o.wts.length qc, .int .i64 o.var], .agg #[.int .i64 s.fn, .slice A s.args.length c], .agg #[.int .i64 t.fn, .slice A2 t.args.length c2]] w fun e w' => e = .returned (.int .i64 (ordV o s t)) ∧ Below w.heap.size w w' := by
  obtain ⟨W, hW⟩ : ∃ W, (((w.alloc (.cells #[.bool o.lpo, .slice P o.prec.length pc, .slice Q o.wts.length qc, .int .i64 o.var] 24)).alloc (.cells #[.int .i64 s.fn, .slice A s.args.length c] 36)).alloc (.cells #[.int .i64 t.fn, .slice A2 t.args.length c2] 36)) = W := ⟨_, rfl⟩
  obtain ⟨hB, q0, q1, q2⟩ := box_ott9 hW
  have HL := Lib.hid (lpoCmp_at (pc := pc) (qc := qc) hrk (hM.on hB) (hs.on hB) (ht.on hB) hz W (Below.refl _ _))
  have HK := Lib.hid (kboCmp_at (pc := pc) (qc := qc) (hM.on hB) (hs.on hB) (ht.on hB) hz W (Below.refl _ _))
  have HW := Lib.hid hW
  obtain ⟨a0, a1, a2, a3⟩ := cells_four q0
  obtain ⟨b0, b1, _, _⟩ := cells_two q1
  obtain ⟨c0, c1, _, _⟩ := cells_two q2
  clear hW hM hs ht q0 q1 q2
  unfold ordV
  cases hl : o.lpo with
  | true =>
    rw [hl] at a0 HL
    go_enter Tryz.func13, Tryz.ntmps13
    go_upto_region 1 with fail
    rw [hl] at HW
    rw [HW.out]
    go_wp2_with (first
      | (go_at_call 30; (with_reducible refine HL.out.mono ?_); go_must (rintro e w1 ⟨rfl, hb1⟩))
      | fail)
    go_ret
    exact ⟨rfl, hB.trans (hb1.mono hB.size)⟩
  | false =>
    rw [hl] at a0 HK
    go_enter Tryz.func13, Tryz.ntmps13
    go_upto_region 1 with fail
    rw [hl] at HW
    rw [HW.out]
    go_wp2_with (first
      | (go_at_call 31; (with_reducible refine HK.out.mono ?_); go_must (rintro e w1 ⟨rfl, hb1⟩))
      | fail)
    go_ret
    exact ⟨rfl, hB.trans (hb1.mono hB.size)⟩
end Go.Proofs.YthgglobfkkcdgaaGreat
namespace Go.Proofs.YthgglobfkkcdgaaGreat
open Go.RowKit Go.Shelf
set_option maxRecDepth 100000
theorem Ints.at {w w' : World} {n B : Nat} {A : Option Addr} {l : List Int} (h : Ints w n A l) (hb : Below n w w') (hn : n ≤ B) : Ints w' B A l :=
  ⟨h.len, h.i64, fun hp => by
    obtain ⟨b, off, hA, hlt, hc⟩ := h.ad hp
    exact ⟨b, off, hA, Nat.lt_of_lt_of_le hlt hn, fun i x hx => cell_on hb hlt (hc i x hx)⟩⟩
theorem OdrM.at {w w' : World} {n B : Nat} {o : Odr} {P Q : Option Addr} (h : OdrM w n o P Q) (hb : Below n w w') (hn : n ≤ B) : OdrM w' B o P Q := ⟨h.p.at hb hn, h.q.at hb hn, h.v⟩
section
variable {o : Odr} {P Q : Option Addr} {pc qc n0 : Nat} {W : World}
theorem oTerms1_cmp {bo : Nat} (hrk : o.prec.length ≤ 140737488351232) (hbo : W.heap[bo]? = some (.cells #[.bool o.lpo, .slice P o.prec.length pc, .slice Q o.wts.length qc, .int .i64 o.var] 24)) (hlt : bo < n0) (hM : OdrM W n0 o P Q) (hn : n0 ≤ W.heap.size) : CmpC RpT (tmI o) 61 #[] #[.pointer (some ⟨bo, 0, none⟩)] n0 W := by
  refine ⟨fun args w => by kernel_rfl, fun x y vx vy w hb hx hy => ?_⟩
  obtain ⟨A, c, rfl, h1, h2, h3⟩ := hx
  obtain ⟨A2, c2, rfl, g1, g2, g3⟩ := hy
  show Calls _ 61 #[.agg #[.int .i64 x.fn, .slice A x.args.length c], .agg #[.int .i64 y.fn, .slice A2 y.args.length c2], .pointer (some ⟨bo, 0, none⟩)] w _
  have hnw : n0 ≤ w.heap.size := Nat.le_trans hn hb.size
  have hMw := hM.at hb hnw
  have hbw := (hb.block bo hlt).trans hbo
  have hbwl : bo < w.heap.size := Nat.lt_of_lt_of_le hlt hnw
  obtain ⟨q0, q1⟩ := heap2 w (.cells #[.int .i64 x.fn, .slice A x.args.length c] 36) (.cells #[.int .i64 y.fn, .slice A2 y.args.length c2] 36)
  obtain ⟨V, hV⟩ : ∃ V, (w.alloc (.cells #[.int .i64 x.fn, .slice A x.args.length c] 36)).alloc (.cells #[.int .i64 y.fn, .slice A2 y.args.length c2] 36) = V := ⟨_, rfl⟩
  have hB : Below w.heap.size w V := by rw [← hV]; exact ((Below.refl _ _).alloc (Nat.le_refl _) _).alloc (by simp) _
  rw [hV] at q0 q1
  have hTx : TmK w x A c := ⟨h1, h2⟩
  have hTy : TmK w y A2 c2 := ⟨g1, g2⟩
  have HS := Lib.hid (oSame_any x y A A2 c c2 V h1 g1 (h2.toA.on hB) (g2.toA.on hB))
  have HC := Lib.hid fun V1 (hb1 : Below V.heap.size V V1) => oCmp_any o x y P Q A A2 pc qc c c2 V1 hrk (hMw.on (hB.trans (hb1.mono hB.size))) ((hTx.on hB).on hb1) ((hTy.on hB).on hb1) (by omega)
  obtain ⟨a0, a1, _, _⟩ := cells_two q0
  obtain ⟨b0, b1, _, _⟩ := cells_two q1
  have hl0 := (Array.getElem?_eq_some_iff.1 q0).1
  have hl1 := (Array.getElem?_eq_some_iff.1 q1).1
  obtain ⟨o0, o1, o2, o3⟩ := cells_four ((hB.block bo hbwl).trans hbw)
  have hbV : bo < V.heap.size := Nat.lt_of_lt_of_le hbwl hB.size
  have HW := Lib.hid hV
  unfold tmI
  clear hV hM hMw hbo hbw hTx hTy h2 g2 q0 q1
  by_cases e : cmpT x y = 0
  · rw [decide_eq_true e] at HS
    rw [if_pos e]
    clear e
    go_enter Tryz.func61, Tryz.ntmps61
    go_upto_region 1 with fail
    rw [HW.out]
    go_wp2_with (first
      | (go_at_call 62; (with_reducible refine HS.out.mono ?_); go_must (rintro e w1 ⟨rfl, hb1⟩))
      | fail)
    go_ret
    exact ⟨rfl, hB.trans (hb1.mono hB.size)⟩
  · rw [decide_eq_false e] at HS
    rw [if_neg e]
    clear e
    go_enter Tryz.func61, Tryz.ntmps61
    go_upto_region 1 with fail
    rw [HW.out]
    go_wp2_with (first
      | (go_at_call 62; (with_reducible refine HS.out.mono ?_); go_must (rintro e w1 ⟨rfl, hb1⟩; have d0 := cell_on hb1 hl0 a0; have d1 := cell_on hb1 hl0 a1; have d2 := cell_on hb1 hl1 b0; have d3 := cell_on hb1 hl1 b1; have p0 := cell_on hb1 hbV o0; have p1 := cell_on hb1 hbV o1; have p2 := cell_on hb1 hbV o2; have p3 := cell_on hb1 hbV o3; have HC1 := Lib.hid (HC.out w1 hb1)))
      | (go_at_call 13; (with_reducible refine HC1.out.mono ?_); go_must (rintro e w2 ⟨rfl, hb2⟩))
      | fail)
    go_ret
    exact ⟨rfl, (hB.trans (hb1.mono hB.size)).trans (hb2.mono (Nat.le_trans hB.size hb1.size))⟩
end
theorem mul_cmp1 {rel : Tm → Tm → Int} {k : FuncId} {fs cv : Array Value} {n0 b : Nat} {W : World} (hC : CmpC RpT rel k fs cv n0 W) (h4 : ∀ x y, In4 (rel x y)) (hb : W.cell? ⟨b, 0, none⟩ = some (.func (.func k) fs cv)) (hlt : b < n0) (hn : n0 ≤ W.heap.size) :
    CmpC Rp1 (mulR rel) 59 #[] #[.pointer (some ⟨b, 0, none⟩)] n0 W := by
  refine ⟨fun args w => by kernel_rfl, fun x y vx vy w hbw hx hy => ?_⟩
  obtain ⟨A, c, rfl, hx⟩ := hx
  obtain ⟨A2, c2, rfl, hy⟩ := hy
  exact oMulF1_any hC h4 x y w hbw (Nat.le_trans hn hbw.size) (cell_on hbw hlt hb) hx hy
theorem oMul1_eq (k : FuncId) (fs cv : Array Value) (w : World) : Calls Tryz.prog 41 #[.func (.func k) fs cv] w fun e w' => e = .returned (.func (.func 59) #[] #[.pointer (some ⟨w.heap.size, 0, none⟩)]) ∧ w' = w.alloc (.cells #[.func (.func k) fs cv] 69) := by
  go_enter Tryz.func41, Tryz.ntmps41
  go_wp2
  go_ret
  exact ⟨rfl, rfl⟩
theorem mul_cmp2 {rel : List Tm → List Tm → Int} {k : FuncId} {fs cv : Array Value} {n0 b : Nat} {W : World} (hC : CmpC Rp1 rel k fs cv n0 W) (h4 : ∀ x y, In4 (rel x y)) (hb : W.cell? ⟨b, 0, none⟩ = some (.func (.func k) fs cv)) (hlt : b < n0) (hn : n0 ≤ W.heap.size) :
    CmpC Rp2 (mulR rel) 57 #[] #[.pointer (some ⟨b, 0, none⟩)] n0 W := by
  refine ⟨fun args w => by kernel_rfl, fun x y vx vy w hbw hx hy => ?_⟩
  obtain ⟨A, c, rfl, hx⟩ := hx
  obtain ⟨A2, c2, rfl, hy⟩ := hy
  exact oMulF2_any hC h4 x y w hbw (Nat.le_trans hn hbw.size) (cell_on hbw hlt hb) hx hy
theorem oMul2_eq (k : FuncId) (fs cv : Array Value) (w : World) : Calls Tryz.prog 40 #[.func (.func k) fs cv] w fun e w' => e = .returned (.func (.func 57) #[] #[.pointer (some ⟨w.heap.size, 0, none⟩)]) ∧ w' = w.alloc (.cells #[.func (.func k) fs cv] 67) := by
  go_enter Tryz.func40, Tryz.ntmps40
  go_wp2
  go_ret
  exact ⟨rfl, rfl⟩
theorem mul_cmp3 {rel : List (List Tm) → List (List Tm) → Int} {k : FuncId} {fs cv : Array Value} {n0 b : Nat} {W : World} (hC : CmpC Rp2 rel k fs cv n0 W) (h4 : ∀ x y, In4 (rel x y)) (hb : W.cell? ⟨b, 0, none⟩ = some (.func (.func k) fs cv)) (hlt : b < n0) (hn : n0 ≤ W.heap.size) :
    CmpC Rp3 (mulR rel) 36 #[] #[.pointer (some ⟨b, 0, none⟩)] n0 W := by
  refine ⟨fun args w => by kernel_rfl, fun x y vx vy w hbw hx hy => ?_⟩
  obtain ⟨A, c, rfl, hx⟩ := hx
  obtain ⟨A2, c2, rfl, hy⟩ := hy
  exact oMulF3_any hC h4 x y w hbw (Nat.le_trans hn hbw.size) (cell_on hbw hlt hb) hx hy
theorem oMul3_eq (k : FuncId) (fs cv : Array Value) (w : World) : Calls Tryz.prog 20 #[.func (.func k) fs cv] w fun e w' => e = .returned (.func (.func 36) #[] #[.pointer (some ⟨w.heap.size, 0, none⟩)]) ∧ w' = w.alloc (.cells #[.func (.func k) fs cv] 48) := by
  go_enter Tryz.func20, Tryz.ntmps20
  go_wp2
  go_ret
  exact ⟨rfl, rfl⟩
theorem oTerms_eq (vs : Array Value) (w : World) (l : Bool) (p q v : Value) (h1 : ∃ A n c, p = .slice A n c) (h2 : ∃ A n c, q = .slice A n c) (h3 : ∃ i, v = .int .i64 i) (hvs : vs = #[.bool l, p, q, v]) : Calls Tryz.prog 42 #[.agg vs] w fun e w' => e = .returned (.func (.func 61) #[] #[.pointer (some ⟨w.heap.size, 0, none⟩)]) ∧ w' = w.alloc (.cells vs 24) := by
  obtain ⟨A, n, c, rfl⟩ := h1
  obtain ⟨B, m, d, rfl⟩ := h2
  obtain ⟨i, rfl⟩ := h3
  subst hvs
  go_enter Tryz.func42, Tryz.ntmps42
  go_wp2
  go_ret
  exact ⟨rfl, rfl⟩
theorem oLiterals_any (o : Odr) (P Q : Option Addr) (pc qc : Nat) (w : World) (hrk : o.prec.length ≤ 140737488351232) (hM : OdrM w w.heap.size o P Q) :
    Calls Tryz.prog 21 #[.agg #[.bool o.lpo, .slice P o.prec.length pc, .slice Q o.wts.length qc, .int .i64 o.var]] w fun e w' => ∃ b, e = .returned (.func (.func 57) #[] #[.pointer (some ⟨b, 0, none⟩)]) ∧ CmpC Rp2 (ltR o) 57 #[] #[.pointer (some ⟨b, 0, none⟩)] w'.heap.size w' ∧ Below w.heap.size w w' := by
  obtain ⟨c0, c1, c2, c3⟩ := cells_four (heap_alloc_new w (.cells #[.bool o.lpo, .slice P o.prec.length pc, .slice Q o.wts.length qc, .int .i64 o.var] 24))
  obtain ⟨W, hW⟩ : ∃ W, w.alloc (.cells #[.bool o.lpo, .slice P o.prec.length pc, .slice Q o.wts.length qc, .int .i64 o.var] 24) = W := ⟨_, rfl⟩
  have hWz : W.heap.size = w.heap.size + 1 := by rw [← hW]; simp
  have hB : Below w.heap.size w W := by rw [← hW]; exact (Below.refl _ _).alloc (Nat.le_refl _) _
  rw [hW] at c0 c1 c2 c3
  have HW := Lib.hid hW
  have HT := Lib.hid (oTerms_eq _ W o.lpo (.slice P o.prec.length pc) (.slice Q o.wts.length qc) (.int .i64 o.var) ⟨_, _, _, rfl⟩ ⟨_, _, _, rfl⟩ ⟨_, rfl⟩ rfl)
  have HF : Hid (∀ W1 W2 W3, W1 = W.alloc (.cells #[.bool o.lpo, .slice P o.prec.length pc, .slice Q o.wts.length qc, .int .i64 o.var] 24) → W2 = W1.alloc (.cells #[.func (.func 61) #[] #[.pointer (some ⟨W.heap.size, 0, none⟩)]] 69) → W3 = W2.alloc (.cells #[.func (.func 59) #[] #[.pointer (some ⟨W1.heap.size, 0, none⟩)]] 67) →
      CmpC Rp2 (ltR o) 57 #[] #[.pointer (some ⟨W2.heap.size, 0, none⟩)] W3.heap.size W3 ∧ Below w.heap.size w W3) := Lib.hid fun W1 W2 W3 e1 e2 e3 => by
    have z1 : W1.heap.size = W.heap.size + 1 := by rw [e1]; simp
    have z2 : W2.heap.size = W1.heap.size + 1 := by rw [e2]; simp
    have z3 : W3.heap.size = W2.heap.size + 1 := by rw [e3]; simp
    have b1 : Below W.heap.size W W1 := by rw [e1]; exact (Below.refl _ _).alloc (Nat.le_refl _) _
    have b2 : Below W1.heap.size W1 W2 := by rw [e2]; exact (Below.refl _ _).alloc (Nat.le_refl _) _
    have b3 : Below W2.heap.size W2 W3 := by rw [e3]; exact (Below.refl _ _).alloc (Nat.le_refl _) _
    have p1 : W1.heap[W.heap.size]? = some (.cells #[.bool o.lpo, .slice P o.prec.length pc, .slice Q o.wts.length qc, .int .i64 o.var] 24) := by rw [e1]; exact heap_alloc_new W _
    have p2 : W2.heap[W1.heap.size]? = some (.cells #[.func (.func 61) #[] #[.pointer (some ⟨W.heap.size, 0, none⟩)]] 69) := by rw [e2]; exact heap_alloc_new W1 _
    have p3 : W3.heap[W2.heap.size]? = some (.cells #[.func (.func 59) #[] #[.pointer (some ⟨W1.heap.size, 0, none⟩)]] 67) := by rw [e3]; exact heap_alloc_new W2 _
    have b13 : Below W1.heap.size W1 W3 := b2.trans (b3.mono b2.size)
    have b03 : Below w.heap.size w W3 := (hB.trans (b1.mono hB.size)).trans (b13.mono (Nat.le_trans hB.size b1.size))
    refine ⟨?_, b03⟩
    have C0 := oTerms1_cmp (W := W3) (n0 := W3.heap.size) hrk ((b13.block _ (by omega)).trans p1) (by omega) (hM.on b03) (Nat.le_refl _)
    have C1 := mul_cmp1 C0 (tmI_in4 o) (cells_one ((b3.block _ (by omega)).trans p2)).1 (by omega) (Nat.le_refl _)
    exact mul_cmp2 C1 (mulR_in4 _) (cells_one p3).1 (by omega) (Nat.le_refl _)
  clear hW hM hWz
  go_enter Tryz.func21, Tryz.ntmps21
  go_upto_region 1 with fail
  rw [HW.out]
  go_wp2_with (first
    | (go_at_call 42; (with_reducible refine HT.out.mono ?_); go_must (rintro e w1 ⟨rfl, h1⟩; have H1 := Lib.hid h1; clear h1))
    | (go_at_call 41; (with_reducible refine (oMul1_eq _ _ _ w1).mono ?_); go_must (rintro e w2 ⟨rfl, h2⟩; have H2 := Lib.hid h2; clear h2))
    | (go_at_call 40; (with_reducible refine (oMul2_eq _ _ _ w2).mono ?_); go_must (rintro e w3 ⟨rfl, h3⟩; have H3 := Lib.hid h3; clear h3))
    | fail)
  go_ret
  obtain ⟨h1, h2⟩ := HF.out w1 w2 w3 H1.out H2.out H3.out
  exact ⟨_, rfl, h1, h2⟩
end Go.Proofs.YthgglobfkkcdgaaGreat
namespace Go.Proofs.YthgglobfkkcdgaaGreat
open Go.RowKit Go.Shelf Go.Maps
set_option maxRecDepth 100000
set_option maxRecDepth 100000
theorem IntsR.ints {w : World} {base : Nat} {A : Option Addr} {n c : Nat} {l : List Int} (h : IntsR w base (.slice A n c) l) (hl : l.length ≤ 9223372036854775807) : Ints w w.heap.size A l := by
  refine ⟨hl, h.i64, fun hn => ?_⟩
  obtain ⟨x, hx⟩ : ∃ x, l[0]? = some x := ⟨_, List.getElem?_eq_getElem hn⟩
  obtain ⟨g, c', hv, hg, _⟩ := h.get hx
  injection hv with hA
  refine ⟨g, 0, hA, hg, fun i y hy => ?_⟩
  obtain ⟨g2, c2, hv2, _, hc⟩ := h.get hy
  injection hv2 with hA2
  rw [hA] at hA2
  injection hA2 with hA2
  injection hA2 with hA2
  rw [hA2, Nat.zero_add]
  exact hc
theorem finF_last {P : Program} {Q : Act → World → Prop} {w : World} {d : Nat} {v : Value} : ∀ (l : List Oper) (pl : List Fct) (a : Act), l.length = pl.length → d < a.tmps.size → (∃ o, l.getLast? = some o ∧ o.dst = some d) → pl.getLast? = some (Fct.eq v) → (∀ a' : Act, a'.defers = a.defers → a'.tmps.size = a.tmps.size → a'.eval (.tmp d) = v → Q a' w) → finF Q w l pl a
  | [], _, _, _, _, ⟨_, h, _⟩, _, _ => by simp at h
  | _ :: _, [], _, h, _, _, _, _ => by simp at h
  | [o], [p], a, _, hd, ⟨o', h1, h2⟩, h3, h => by
    simp at h1 h3
    subst h1 h3
    unfold finF
    rw [h2]
    intro u hu
    have hu : u = v := hu
    subst hu
    unfold finF
    exact h _ rfl (by simp [Act.put]) (by simp [Act.put, Act.eval, hd])
  | [o], _ :: _ :: _, a, h0, _, _, _, _ => by simp at h0
  | _ :: _ :: _, [_], a, h0, _, _, _, _ => by simp at h0
  | o :: o2 :: l, p :: p2 :: pl, a, h0, hd, h1, h3, h => by
    have hg : ∀ a' : Act, a'.defers = a.defers → a'.tmps.size = a.tmps.size → finF Q w (o2 :: l) (p2 :: pl) a' := fun a' e1 e2 =>
      finF_last (P := P) (o2 :: l) (p2 :: pl) a' (by simpa using h0) (by rw [e2]; exact hd) (by simpa using h1) (by simpa using h3) fun a2 e3 e4 => h a2 (e3.trans e1) (e4.trans e2)
    unfold finF
    cases o.dst with
    | none => exact hg a rfl rfl
    | some d' => intro u _; exact hg _ rfl (by simp [Act.put])
theorem i64s (n : Int) (h1 : -100 ≤ n) (h2 : n ≤ 100) : I64 n := ⟨by omega, by omega⟩
end Go.Proofs.YthgglobfkkcdgaaGreat
namespace Go.Proofs.YthgglobfkkcdgaaGreat
open Go.RowKit Go.Shelf
set_option maxRecDepth 100000
structure Li where
  neg : Bool
  l : Tm
  r : Tm
def Li.mb (x : Li) : List (List Tm) := membs x.neg x.l x.r
structure LiK (w : World) (N : Nat → Prop) (x : Li) (A1 : Option Addr) (c1 : Nat) (A2 : Option Addr) (c2 : Nat) : Prop where
  il : I64 x.l.fn
  ir : I64 x.r.fn
  sl : ArgsK w N A1 c1 x.l.args
  sr : ArgsK w N A2 c2 x.r.args
  zl : x.l.size ≤ 536870912
  zr : x.r.size ≤ 536870912
theorem LiK.to {w w' : World} {N M : Nat → Prop} {x : Li} {A1 A2 : Option Addr} {c1 c2 : Nat} (h : LiK w N x A1 c1 A2 c2) (hk : ∀ g, N g → w'.heap[g]? = w.heap[g]?) (hm : ∀ g, N g → M g) : LiK w' M x A1 c1 A2 c2 :=
  ⟨h.il, h.ir, (h.sl.keep hk).wide hm, (h.sr.keep hk).wide hm, h.zl, h.zr⟩
theorem LiK.on {w w' : World} {x : Li} {A1 A2 : Option Addr} {c1 c2 : Nat} (h : LiK w (· < w.heap.size) x A1 c1 A2 c2) (hb : Below w.heap.size w w') : LiK w' (· < w'.heap.size) x A1 c1 A2 c2 :=
  h.to (fun g e => hb.block g e) fun _ e => Nat.lt_of_lt_of_le e hb.size
structure ClsK (w : World) (N : Nat → Prop) (A : Option Addr) (l : List Li) : Prop where
  ad : 0 < l.length → ∃ b off, A = some ⟨b, off, none⟩ ∧ N b ∧ ∀ (i : Nat) (x : Li), l[i]? = some x → ∃ A1 c1 A2 c2, w.cell? ⟨b, off + i * 5, none⟩ = some (.bool x.neg) ∧ w.cell? ⟨b, off + i * 5 + 1, none⟩ = some (.int .i64 x.l.fn) ∧ w.cell? ⟨b, off + i * 5 + 2, none⟩ = some (.slice A1 x.l.args.length c1) ∧ w.cell? ⟨b, off + i * 5 + 3, none⟩ = some (.int .i64 x.r.fn) ∧ w.cell? ⟨b, off + i * 5 + 4, none⟩ = some (.slice A2 x.r.args.length c2) ∧ LiK w N x A1 c1 A2 c2
theorem ClsK.get {w : World} {N : Nat → Prop} {A : Option Addr} {l : List Li} (h : ClsK w N A l) {i : Nat} {x : Li} (e : l[i]? = some x) : ∃ b off A1 c1 A2 c2, A = some ⟨b, off, none⟩ ∧ N b ∧ w.cell? ⟨b, off + i * 5, none⟩ = some (.bool x.neg) ∧ w.cell? ⟨b, off + i * 5 + 1, none⟩ = some (.int .i64 x.l.fn) ∧ w.cell? ⟨b, off + i * 5 + 2, none⟩ = some (.slice A1 x.l.args.length c1) ∧ w.cell? ⟨b, off + i * 5 + 3, none⟩ = some (.int .i64 x.r.fn) ∧ w.cell? ⟨b, off + i * 5 + 4, none⟩ = some (.slice A2 x.r.args.length c2) ∧ LiK w N x A1 c1 A2 c2 := by
  have hlt := (List.getElem?_eq_some_iff.1 e).1
  obtain ⟨b, off, hA, hb, hc⟩ := h.ad (by omega)
  obtain ⟨A1, c1, A2, c2, h⟩ := hc i x e
  exact ⟨b, off, A1, c1, A2, c2, hA, hb, h⟩
theorem ClsK.to {w w' : World} {N M : Nat → Prop} {A : Option Addr} {l : List Li} (h : ClsK w N A l) (hk : ∀ g, N g → w'.heap[g]? = w.heap[g]?) (hm : ∀ g, N g → M g) : ClsK w' M A l :=
  ⟨fun hp => by
    obtain ⟨b, off, hA, hb, hc⟩ := h.ad hp
    refine ⟨b, off, hA, hm b hb, fun i x e => ?_⟩
    obtain ⟨A1, c1, A2, c2, h0, h1, h2, h3, h4, h5⟩ := hc i x e
    have k := fun o v (h : w.cell? ⟨b, o, none⟩ = some v) => (cell_of_heap (hk b hb)).trans h
    exact ⟨A1, c1, A2, c2, k _ _ h0, k _ _ h1, k _ _ h2, k _ _ h3, k _ _ h4, h5.to hk hm⟩⟩
theorem ClsK.on {w w' : World} {A : Option Addr} {l : List Li} (h : ClsK w (· < w.heap.size) A l) (hb : Below w.heap.size w w') : ClsK w' (· < w'.heap.size) A l :=
  h.to (fun g e => hb.block g e) fun _ e => Nat.lt_of_lt_of_le e hb.size
theorem rp1_one {w : World} {N : Nat → Prop} {b : Nat} {t : Tm} {A : Option Addr} {c : Nat} {ty : TypeId} (h : w.heap[b]? = some (.cells #[.int .i64 t.fn, .slice A t.args.length c] ty)) (hN : N b) (h1 : I64 t.fn) (h2 : ArgsK w N A c t.args) (h3 : t.size ≤ 536870912) : Rp1 N w [t] (.slice (some ⟨b, 0, none⟩) 1 1) := by
  obtain ⟨z0, z1, _, _⟩ := cells_two h
  refine ⟨_, 1, rfl, by simp, fun _ => ⟨b, 0, rfl, hN, fun i u e => ?_⟩⟩
  match i, e with
  | 0, e => simp at e; subst e; exact ⟨A, c, z0, z1, h1, h2, h3⟩
  | i + 1, e => simp at e
theorem rp1_two {w : World} {N : Nat → Prop} {b : Nat} {t u : Tm} {A B : Option Addr} {c d : Nat} {ty : TypeId} (h : w.heap[b]? = some (.cells #[.int .i64 t.fn, .slice A t.args.length c, .int .i64 u.fn, .slice B u.args.length d] ty)) (hN : N b) (h1 : I64 t.fn) (h2 : ArgsK w N A c t.args) (h3 : t.size ≤ 536870912) (g1 : I64 u.fn) (g2 : ArgsK w N B d u.args) (g3 : u.size ≤ 536870912) : Rp1 N w [t, u] (.slice (some ⟨b, 0, none⟩) 2 2) := by
  obtain ⟨z0, z1, z2, z3⟩ := cells_four h
  refine ⟨_, 2, rfl, by simp, fun _ => ⟨b, 0, rfl, hN, fun i v e => ?_⟩⟩
  match i, e with
  | 0, e => simp at e; subst e; exact ⟨A, c, z0, z1, h1, h2, h3⟩
  | 1, e => simp at e; subst e; exact ⟨B, d, z2, z3, g1, g2, g3⟩
  | i + 2, e => simp at e
theorem rp2_one {w : World} {N : Nat → Prop} {b : Nat} {m : List Tm} {A : Option Addr} {c : Nat} {ty : TypeId} (h : w.heap[b]? = some (.cells #[.slice A m.length c] ty)) (hN : N b) (h1 : Rp1 N w m (.slice A m.length c)) : Rp2 N w [m] (.slice (some ⟨b, 0, none⟩) 1 1) := by
  obtain ⟨z0, _⟩ := cells_one h
  refine ⟨_, 1, rfl, by simp, fun _ => ⟨b, 0, rfl, hN, fun i u e => ?_⟩⟩
  match i, e with
  | 0, e => simp at e; subst e; exact ⟨A, c, z0, h1⟩
  | i + 1, e => simp at e
theorem rp2_two {w : World} {N : Nat → Prop} {b : Nat} {m n : List Tm} {A B : Option Addr} {c d : Nat} {ty : TypeId} (h : w.heap[b]? = some (.cells #[.slice A m.length c, .slice B n.length d] ty)) (hN : N b) (h1 : Rp1 N w m (.slice A m.length c)) (h2 : Rp1 N w n (.slice B n.length d)) : Rp2 N w [m, n] (.slice (some ⟨b, 0, none⟩) 2 2) := by
  obtain ⟨z0, z1, _, _⟩ := cells_two h
  refine ⟨_, 2, rfl, by simp, fun _ => ⟨b, 0, rfl, hN, fun i u e => ?_⟩⟩
  match i, e with
  | 0, e => simp at e; subst e; exact ⟨A, c, z0, h1⟩
  | 1, e => simp at e; subst e; exact ⟨B, d, z1, h2⟩
  | i + 2, e => simp at e
theorem cells_5o {W : World} {b : Nat} {x y z u v : Value} {t : TypeId} (h : W.heap[b]? = some (.cells #[x, y, z, u, v] t)) : W.cell? ⟨b, 0, none⟩ = some x ∧ W.cell? ⟨b, 1, none⟩ = some y ∧ W.cell? ⟨b, 2, none⟩ = some z ∧ W.cell? ⟨b, 3, none⟩ = some u ∧ W.cell? ⟨b, 4, none⟩ = some v := by
  refine ⟨?_, ?_, ?_, ?_, ?_⟩ <;> simp [World.cell?, h]
theorem mb_neg {C : Nat → Prop} {w W : World} {x : Li} {A1 A2 : Option Addr} {c1 c2 : Nat} {ty ty2 : TypeId} (hC : ∀ g, C g → g < w.heap.size) (h : LiK w (fun g => g < w.heap.size ∧ ¬ C g) x A1 c1 A2 c2) (hW : (w.alloc (.cells #[.int .i64 x.l.fn, .slice A1 x.l.args.length c1, .int .i64 x.r.fn, .slice A2 x.r.args.length c2] ty)).alloc (.cells #[.slice (some ⟨w.heap.size, 0, none⟩) 2 2] ty2) = W) (hn : x.neg = true) :
    Rp2 (fun g => g < W.heap.size ∧ ¬ C g) W x.mb (.slice (some ⟨w.heap.size + 1, 0, none⟩) 1 1) ∧ Below w.heap.size w W := by
  obtain ⟨e1, e2⟩ := heap2 w (.cells #[.int .i64 x.l.fn, .slice A1 x.l.args.length c1, .int .i64 x.r.fn, .slice A2 x.r.args.length c2] ty) (.cells #[.slice (some ⟨w.heap.size, 0, none⟩) 2 2] ty2)
  have hB : Below w.heap.size w W := by rw [← hW]; exact ((Below.refl _ _).alloc (Nat.le_refl _) _).alloc (by simp) _
  rw [hW] at e1 e2
  have l1 := (Array.getElem?_eq_some_iff.1 e1).1
  have l2 := (Array.getElem?_eq_some_iff.1 e2).1
  have hk := h.to (M := fun g => g < W.heap.size ∧ ¬ C g) (fun g e => hB.block g e.1) fun _ e => ⟨Nat.lt_of_lt_of_le e.1 hB.size, e.2⟩
  refine ⟨?_, hB⟩
  unfold Li.mb membs
  rw [if_pos hn]
  exact rp2_one (m := [x.l, x.r]) e2 ⟨l2, fun e => by have := hC _ e; omega⟩ (rp1_two e1 ⟨l1, fun e => by have := hC _ e; omega⟩ hk.il hk.sl hk.zl hk.ir hk.sr hk.zr)
theorem mb_pos {C : Nat → Prop} {w W : World} {x : Li} {A1 A2 : Option Addr} {c1 c2 : Nat} {ty ty2 : TypeId} (hC : ∀ g, C g → g < w.heap.size) (h : LiK w (fun g => g < w.heap.size ∧ ¬ C g) x A1 c1 A2 c2) (hW : ((w.alloc (.cells #[.int .i64 x.l.fn, .slice A1 x.l.args.length c1] ty)).alloc (.cells #[.int .i64 x.r.fn, .slice A2 x.r.args.length c2] ty)).alloc (.cells #[.slice (some ⟨w.heap.size, 0, none⟩) 1 1, .slice (some ⟨w.heap.size + 1, 0, none⟩) 1 1] ty2) = W) (hn : x.neg = false) :
    Rp2 (fun g => g < W.heap.size ∧ ¬ C g) W x.mb (.slice (some ⟨w.heap.size + 2, 0, none⟩) 2 2) ∧ Below w.heap.size w W := by
  have e1 := heap_alloc_new w (.cells #[.int .i64 x.l.fn, .slice A1 x.l.args.length c1] ty)
  obtain ⟨e2, e3⟩ := heap2 (w.alloc (.cells #[.int .i64 x.l.fn, .slice A1 x.l.args.length c1] ty)) (.cells #[.int .i64 x.r.fn, .slice A2 x.r.args.length c2] ty) (.cells #[.slice (some ⟨w.heap.size, 0, none⟩) 1 1, .slice (some ⟨w.heap.size + 1, 0, none⟩) 1 1] ty2)
  have hz2 : (w.alloc (.cells #[.int .i64 x.l.fn, .slice A1 x.l.args.length c1] ty)).heap.size = w.heap.size + 1 := by simp
  rw [hz2] at e2 e3
  have e1' : W.heap[w.heap.size]? = some (.cells #[.int .i64 x.l.fn, .slice A1 x.l.args.length c1] ty) := by
    rw [← hW, Below.heap_alloc _ _ _ (by simp; omega), Below.heap_alloc _ _ _ (by simp)]
    exact e1
  have hB : Below w.heap.size w W := by rw [← hW]; exact (((Below.refl _ _).alloc (Nat.le_refl _) _).alloc (by simp) _).alloc (by simp; omega) _
  rw [hW] at e2 e3
  have l1 := (Array.getElem?_eq_some_iff.1 e1').1
  have l2 := (Array.getElem?_eq_some_iff.1 e2).1
  have l3 := (Array.getElem?_eq_some_iff.1 e3).1
  have hk := h.to (M := fun g => g < W.heap.size ∧ ¬ C g) (fun g e => hB.block g e.1) fun _ e => ⟨Nat.lt_of_lt_of_le e.1 hB.size, e.2⟩
  refine ⟨?_, hB⟩
  unfold Li.mb membs
  rw [if_neg (by rw [hn]; decide)]
  exact rp2_two (m := [x.l]) (n := [x.r]) e3 ⟨l3, fun e => by have := hC _ e; omega⟩ (rp1_one e1' ⟨l1, fun e => by have := hC _ e; omega⟩ hk.il hk.sl hk.zl) (rp1_one e2 ⟨l2, fun e => by have := hC _ e; omega⟩ hk.ir hk.sr hk.zr)
theorem oMembersK_any (x : Li) (A1 A2 : Option Addr) (c1 c2 : Nat) (w : World) (C : Nat → Prop) (hC : ∀ g, C g → g < w.heap.size) (h : LiK w (fun g => g < w.heap.size ∧ ¬ C g) x A1 c1 A2 c2) :
    Calls Tryz.prog 26 #[.agg #[.bool x.neg, .int .i64 x.l.fn, .slice A1 x.l.args.length c1, .int .i64 x.r.fn, .slice A2 x.r.args.length c2]] w fun e w' => ∃ A c, e = .returned (.slice A x.mb.length c) ∧ Rp2 (fun g => g < w'.heap.size ∧ ¬ C g) w' x.mb (.slice A x.mb.length c) ∧ Below w.heap.size w w' := by
  have q0 := heap_alloc_new w (.cells #[.bool x.neg, .int .i64 x.l.fn, .slice A1 x.l.args.length c1, .int .i64 x.r.fn, .slice A2 x.r.args.length c2] 38)
  obtain ⟨W, hW⟩ : ∃ W, w.alloc (.cells #[.bool x.neg, .int .i64 x.l.fn, .slice A1 x.l.args.length c1, .int .i64 x.r.fn, .slice A2 x.r.args.length c2] 38) = W := ⟨_, rfl⟩
  have hB : Below w.heap.size w W := by rw [← hW]; exact (Below.refl _ _).alloc (Nat.le_refl _) _
  rw [hW] at q0
  have hq := (Array.getElem?_eq_some_iff.1 q0).1
  obtain ⟨a0, a1, a2, a3, a4⟩ := cells_5o q0
  have H := Lib.hid (h.to (M := fun g => g < W.heap.size ∧ ¬ C g) (fun g e => hB.block g e.1) fun _ e => ⟨Nat.lt_of_lt_of_le e.1 hB.size, e.2⟩)
  have HC := Lib.hid fun g (e : C g) => Nat.lt_of_lt_of_le (hC g e) hB.size
  have HW := Lib.hid hW
  clear h q0 hW hC
  cases hn : x.neg with
  | true =>
    have hl : Hid (x.mb.length = 1) := Lib.hid (by unfold Li.mb membs; rw [hn]; rfl)
    have Hn := Lib.hid hn
    rw [hn] at a0 HW
    clear hn
    go_enter Tryz.func26, Tryz.ntmps26
    go_upto_region 1 with fail
    rw [HW.out]
    go_wp2
    go_ret
    obtain ⟨h1, h2⟩ := mb_neg HC.out H.out rfl Hn.out
    exact ⟨some ⟨W.heap.size + 1, 0, none⟩, 1, by rw [hl.out]; rfl, by rw [hl.out]; exact h1, hB.trans (h2.mono hB.size)⟩
  | false =>
    have hl : Hid (x.mb.length = 2) := Lib.hid (by unfold Li.mb membs; rw [hn]; rfl)
    have Hn := Lib.hid hn
    rw [hn] at a0 HW
    clear hn
    go_enter Tryz.func26, Tryz.ntmps26
    go_upto_region 1 with fail
    rw [HW.out]
    go_wp2
    go_ret
    obtain ⟨h1, h2⟩ := mb_pos HC.out H.out rfl Hn.out
    exact ⟨some ⟨W.heap.size + 2, 0, none⟩, 2, by rw [hl.out]; rfl, by rw [hl.out]; exact h1, hB.trans (h2.mono hB.size)⟩
theorem oMembers_any (x : Li) (A1 A2 : Option Addr) (c1 c2 : Nat) (w : World) (h : LiK w (· < w.heap.size) x A1 c1 A2 c2) :
    Calls Tryz.prog 26 #[.agg #[.bool x.neg, .int .i64 x.l.fn, .slice A1 x.l.args.length c1, .int .i64 x.r.fn, .slice A2 x.r.args.length c2]] w fun e w' => ∃ A c, e = .returned (.slice A x.mb.length c) ∧ Rp2 (· < w'.heap.size) w' x.mb (.slice A x.mb.length c) ∧ Below w.heap.size w w' :=
  (oMembersK_any x A1 A2 c1 c2 w (fun _ => False) (fun _ e => e.elim) (h.to (fun _ _ => rfl) fun _ e => ⟨e, id⟩)).mono fun _ _ ⟨A, c, he, hR, hb⟩ => ⟨A, c, he, hR.to (fun _ _ => rfl) fun _ e => e.1, hb⟩
end Go.Proofs.YthgglobfkkcdgaaGreat
namespace Go.Proofs.YthgglobfkkcdgaaGreat
open Go.RowKit Go.Shelf
set_option maxRecDepth 100000
theorem info_rows9 : (Tryz.prog.info? 47).map (fun i => (i.zero, i.size, i.bytes)) = some (some (.slice none 0 0), 1, 24) := by kernel_rfl
structure EaW (w : World) (base : Nat) (v : Value) (l : List Li) (k : Nat) (vs : List Value) : Prop where
  row : w.ownsRow base 47 1 v k vs
  at_ : ∀ (i : Nat) (x : Li), i < k → l[i]? = some x → ∃ A c, vs[i]? = some (.slice A x.mb.length c) ∧ Rp2 (fun g => g < w.heap.size ∧ v.ownBlock ≠ some g) w x.mb (.slice A x.mb.length c)
theorem EaW.next {w w1 w5 : World} {base : Nat} {v v5 : Value} {l : List Li} {k : Nat} {vs : List Value} {x : Li} {A : Option Addr} {c : Nat} {ob : Obj} (h : EaW w base v l k vs) (hb : Below w.heap.size w w1) (hx : l[k]? = some x) (hR : Rp2 (fun g => g < w1.heap.size ∧ v.ownBlock ≠ some g) w1 x.mb (.slice A x.mb.length c))
    (hown : w5.ownsRow base 47 1 v5 (k + 1) (vs ++ [.slice A x.mb.length c])) (hgr : (w1.alloc ob).grownBy w5 v.ownBlock) (hat : v5.ownBlock = v.ownBlock ∨ v5.ownBlock = some (w1.alloc ob).heap.size) : EaW w5 base v5 l (k + 1) (vs ++ [.slice A x.mb.length c]) := by
  have hs : w1.heap.size + 1 ≤ w5.heap.size := by have := hgr.size; simpa using this
  have hkeep : ∀ g, g < w1.heap.size ∧ v.ownBlock ≠ some g → w5.heap[g]? = w1.heap[g]? := fun g hg => (hgr.block g (by simp; omega) (fun e => hg.2 e.symm)).trans (Below.heap_alloc w1 ob g hg.1)
  have hnew : ∀ g, g < w1.heap.size ∧ v.ownBlock ≠ some g → g < w5.heap.size ∧ v5.ownBlock ≠ some g := fun g hg => ⟨by omega, fun e => by
    rcases hat with h' | h'
    · rw [h'] at e; exact hg.2 e
    · rw [h'] at e; injection e with e; simp at e; omega⟩
  have hlen : vs.length = k := by have := h.row.1; omega
  refine ⟨hown, fun i y hi hy => ?_⟩
  by_cases e : i = k
  · subst e
    rw [hx] at hy; injection hy with hy; subst hy
    refine ⟨A, c, ?_, hR.to hkeep hnew⟩
    rw [← hlen, List.getElem?_append_right (Nat.le_refl _), Nat.sub_self]; rfl
  · obtain ⟨A', c', h1, h2⟩ := h.at_ i y (by omega) hy
    refine ⟨A', c', by rw [List.getElem?_append_left (by omega)]; exact h1, (h2.to (M := fun g => g < w1.heap.size ∧ v.ownBlock ≠ some g) (fun g hg => hb.block g hg.1) fun g hg => ⟨Nat.lt_of_lt_of_le hg.1 hb.size, hg.2⟩).to hkeep hnew⟩
theorem EaW.done {w : World} {base : Nat} {v : Value} {l : List Li} {vs : List Value} (h : EaW w base v l l.length vs) (hl : l.length ≤ 1048576) : ∃ A c, v = .slice A (l.map Li.mb).length c ∧ Rp3 (· < w.heap.size) w (l.map Li.mb) (.slice A (l.map Li.mb).length c) := by
  have hlm : (l.map Li.mb).length = l.length := by simp
  rcases h.row.2 with ⟨rfl, h0⟩ | ⟨g, cap, cur, rfl, hb, hg, hn, hm, hs, ht⟩
  · refine ⟨none, 0, by rw [hlm, h0], none, 0, rfl, by rw [hlm]; exact hl, fun hp => by rw [hlm] at hp; omega⟩
  · refine ⟨some ⟨g, 0, none⟩, cap, by rw [hlm], _, _, rfl, by rw [hlm]; exact hl, fun _ => ⟨g, 0, rfl, (Array.getElem?_eq_some_iff.1 hg).1, fun i m e => ?_⟩⟩
    rw [List.getElem?_map] at e
    cases hy : l[i]? with
    | none => rw [hy] at e; cases e
    | some y =>
      rw [hy] at e; simp at e; subst e
      have hi := (List.getElem?_eq_some_iff.1 hy).1
      obtain ⟨A', c', h1, h2⟩ := h.at_ i y hi hy
      refine ⟨A', c', ?_, h2.to (fun _ _ => rfl) fun g hg => hg.1⟩
      rw [Nat.zero_add, h.row.cellAt i (by have := h.row.1; omega), h1]
set_option maxHeartbeats 2000000 in
theorem oEach_any (l : List Li) (A : Option Addr) (c : Nat) (w : World) (hL : ClsK w (· < w.heap.size) A l) (hl : l.length ≤ 1048576) :
    Calls Tryz.prog 22 #[.slice A l.length c] w fun e w' => ∃ A' c', e = .returned (.slice A' (l.map Li.mb).length c') ∧ Rp3 (· < w'.heap.size) w' (l.map Li.mb) (.slice A' (l.map Li.mb).length c') ∧ Below w.heap.size w w' := by
  obtain ⟨i0, hi, hz0, hz1, hz2⟩ := info_parts info_rows9
  have H0 : Hid (EaW w w.heap.size (.slice none 0 0) l 0 []) := Lib.hid ⟨⟨rfl, .inl ⟨rfl, rfl⟩⟩, fun i x hi => absurd hi (Nat.not_lt_zero _)⟩
  have HL := Lib.hid hL
  clear hL
  go_enter Tryz.func22, Tryz.ntmps22
  go_wp2
  go_loopw [3, 8] (fun v i wr => ∃ (k : Nat) (vs : List Value), k ≤ l.length ∧ i = .int .i64 (k : Int) ∧ Below w.heap.size w wr ∧ Hid (EaW wr w.heap.size v l k vs)) (fun _ i _ => l.length - (intOf i).toNat)
  case atStart => exact ⟨0, [], Nat.zero_le _, rfl, Below.refl _ _, H0⟩
  case round =>
    obtain ⟨k, vs, hk, rfl, hBr, HE⟩ := hrel
    obtain ⟨Av, cv, rfl⟩ := row_slice HE.out.row
    by_cases hlt : k < l.length
    · obtain ⟨x, hx⟩ : ∃ x, l[k]? = some x := ⟨_, List.getElem?_eq_getElem hlt⟩
      obtain ⟨b, off, A1, c1, A2, c2, rfl, hb, e0, e1, e2, e3, e4, hK⟩ := HL.out.get hx
      have f0 := cell_on hBr hb e0
      have f1 := cell_on hBr hb e1
      have f2 := cell_on hBr hb e2
      have f3 := cell_on hBr hb e3
      have f4 := cell_on hBr hb e4
      have hwr1 : IntKind.i64.wrap ((k : Int) + 1) = (k : Int) + 1 := by rw [IntKind.wrap_i64]; omega
      have q0 := heap_alloc_new wr (.cells #[.bool x.neg, .int .i64 x.l.fn, .slice A1 x.l.args.length c1, .int .i64 x.r.fn, .slice A2 x.r.args.length c2] 38)
      obtain ⟨V, hV⟩ : ∃ V, wr.alloc (.cells #[.bool x.neg, .int .i64 x.l.fn, .slice A1 x.l.args.length c1, .int .i64 x.r.fn, .slice A2 x.r.args.length c2] 38) = V := ⟨_, rfl⟩
      have hBv : Below wr.heap.size wr V := by rw [← hV]; exact (Below.refl _ _).alloc (Nat.le_refl _) _
      rw [hV] at q0
      obtain ⟨a0, a1, a2, a3, a4⟩ := cells_5o q0
      have hBw := hBr.trans (hBv.mono hBr.size)
      have hrl := row_lt HE.out.row
      have HM : Hid (Calls Tryz.prog 26 #[.agg #[.bool x.neg, .int .i64 x.l.fn, .slice A1 x.l.args.length c1, .int .i64 x.r.fn, .slice A2 x.r.args.length c2]] V fun e w' => ∃ A c, e = .returned (.slice A x.mb.length c) ∧ Rp2 (fun g => g < w'.heap.size ∧ (Value.slice Av k cv).ownBlock ≠ some g) w' x.mb (.slice A x.mb.length c) ∧ Below V.heap.size V w') := Lib.hid (oMembersK_any x A1 A2 c1 c2 V (fun g => (Value.slice Av k cv).ownBlock = some g) (fun g e => Nat.lt_of_lt_of_le (hrl g e).2 hBv.size) (hK.to (fun g e => hBw.block g e) fun g e => ⟨Nat.lt_of_lt_of_le e hBw.size, fun h => by have := (hrl g h).1; omega⟩))
      have HV := Lib.hid hV
      have Hx := Lib.hid hx
      clear hx hb e0 e1 e2 e3 e4 hK q0 hV
      go_upto_region 5 with fail
      rw [HV.out]
      clear f0 f1 f2 f3 f4
      go_wp2_with (first
        | (at_builtin
           go_must (
           refine wpList_append_own_at _ rfl _ _ 50 rfl w.heap.size 47 i0 (.slice none 0 0) 1 24 Tryz.underlying50 hi hz0 hz1 hz2 rfl (by decide) (.slice Av k cv) k _ rfl (row_keep HE.out.row fun g e => (Below.heap_alloc w1 _ g (Nat.lt_of_lt_of_le (hrl g e).2 hB1.size)).trans (hB1.block g (hrl g e).2)) ⟨w1.heap.size, 0, none⟩ 1 1 [.slice A' x.mb.length c'] rfl rfl (cell_one_new _ _ _) (by simp [Value.oneCell']) (by unfold maxLen; omega) (by omega) (by have := hBr.size; have := hB1.size; simp; omega) ?_
           intro v5 w5 hown5 hgr5 _ hat5
           obtain ⟨A5, c5, rfl⟩ := row_slice hown5
           have HN := Lib.hid (HE.out.next hB1 Hx.out HR.out hown5 hgr5 hat5)
           have HB5 : Hid (Below w.heap.size w w5) := Lib.hid (((hBr.trans (hB1.mono hBr.size)).alloc (Nat.le_trans hBr.size hB1.size) _).trans ⟨hgr5.os, hgr5.tape, hgr5.output, hgr5.size, fun g hg => hgr5.block g (by have := hBr.size; have := hB1.size; simp; omega) fun e => by have := (hrl g e.symm).1; omega⟩)
           clear hown5 hgr5 hat5))
        | (go_at_call 26; (with_reducible refine HM.out.mono ?_); go_must (rintro e w1 ⟨A', c', rfl, hR, hb1⟩; have HR := Lib.hid hR; have hB1 := hBv.trans (hb1.mono hBv.size); clear hR))
        | fail)
      go_roundw
      case rel => exact ⟨k + 1, _, by omega, by go_num, HB5.out, HN⟩
      case measure => simp [intOf]; omega
    · obtain rfl : k = l.length := by omega
      have hlm : Hid ((l.map Li.mb).length = l.length) := Lib.hid (by simp)
      go_wp2
      go_ret
      obtain ⟨A', c', hv, hR⟩ := HE.out.done hl
      exact ⟨A', c', by rw [← hv]; rfl, hR, hBr⟩
end Go.Proofs.YthgglobfkkcdgaaGreat
namespace Go.Proofs.YthgglobfkkcdgaaGreat
open Go.RowKit Go.Shelf
set_option maxRecDepth 100000
def lfF (o : Odr) : Fct := ⟨fun v w => ∃ b n0, v = .func (.func 57) #[] #[.pointer (some ⟨b, 0, none⟩)] ∧ n0 ≤ w.heap.size ∧ CmpC Rp2 (ltR o) 57 #[] #[.pointer (some ⟨b, 0, none⟩)] n0 w,
  fun ⟨b, n0, hv, hn, hC⟩ hb => ⟨b, n0, hv, Nat.le_trans hn hb.size, hC.later (hb.mono hn)⟩⟩
def mbF (x : Li) : Fct := ⟨fun v w => ∃ A c, v = .slice A x.mb.length c ∧ Rp2 (· < w.heap.size) w x.mb (.slice A x.mb.length c),
  fun ⟨A, c, hv, hR⟩ hb => ⟨A, c, hv, hR.to (fun g e => hb.block g e) fun _ e => Nat.lt_of_lt_of_le e hb.size⟩⟩
section
variable {Fs : List Fct} {a0 : Act} {W : World} {dst : Option Tmp} {ty : TypeId} {pos : String} {after : Array Edge} {guard : Option (Nat × Bool)}
theorem st_load5 {s b : Nat} {x y z u v : Value} (hg : ∀ j want, guard = some (j, want) → ∀ v w, (Fs.getD j Fct.any).p v w → v = .bool want) (hs : a0.eval (.tmp s) = .pointer (some ⟨b, 0, none⟩)) (hW : W.heap[b]? = some (.cells #[x, y, z, u, v] 38)) :
    stepF Tryz.prog Fs a0 W ⟨dst, .load 38 (.tmp s), ty, pos, after, guard⟩ [(s, none)] (Fct.eq (.agg #[x, y, z, u, v])) := by
  refine .inl ⟨hg, fun a w hb hl => ?_⟩
  have h1 := ev_get (hl.1.trans hs)
  obtain ⟨c0, c1, c2, c3, c4⟩ := cells_5o ((hb.block b (Array.getElem?_eq_some_iff.1 hW).1).trans hW)
  simp [go_sem, leaves, h1, c0, c1, c2, c3, c4]
  exact ⟨Below.refl _ _, rfl⟩
theorem st_literals {o : Odr} {P Q : Option Addr} {pc qc s j : Nat} (hg : ∀ j want, guard = some (j, want) → ∀ v w, (Fs.getD j Fct.any).p v w → v = .bool want) (hrk : o.prec.length ≤ 140737488351232) (hM : OdrM W W.heap.size o P Q) (hF : Fs.getD j Fct.any = Fct.eq (.agg #[.bool o.lpo, .slice P o.prec.length pc, .slice Q o.wts.length qc, .int .i64 o.var])) :
    stepF Tryz.prog Fs a0 W ⟨dst, .call ⟨.value (.func 21), #[.tmp s], #[24]⟩, ty, pos, after, guard⟩ [(s, some j)] (lfF o) := by
  refine .inl ⟨hg, fun a w hb hl => ?_⟩
  have h0 := hl.1
  rw [hF] at h0
  have h1 := ev_get h0
  simp [go_sem, leaves, h1]
  refine (oLiterals_any o P Q pc qc w hrk (hM.on hb)).mono fun e w' h => ?_
  obtain ⟨b, he, hC, hbw⟩ := h
  exact ⟨_, he, hbw, b, w'.heap.size, rfl, Nat.le_refl _, hC⟩
theorem st_members {x : Li} {A1 A2 : Option Addr} {c1 c2 s j : Nat} (hg : ∀ j want, guard = some (j, want) → ∀ v w, (Fs.getD j Fct.any).p v w → v = .bool want) (hK : LiK W (· < W.heap.size) x A1 c1 A2 c2) (hF : Fs.getD j Fct.any = Fct.eq (.agg #[.bool x.neg, .int .i64 x.l.fn, .slice A1 x.l.args.length c1, .int .i64 x.r.fn, .slice A2 x.r.args.length c2])) :
    stepF Tryz.prog Fs a0 W ⟨dst, .call ⟨.value (.func 26), #[.tmp s], #[38]⟩, ty, pos, after, guard⟩ [(s, some j)] (mbF x) := by
  refine .inl ⟨hg, fun a w hb hl => ?_⟩
  have h0 := hl.1
  rw [hF] at h0
  have h1 := ev_get h0
  simp [go_sem, leaves, h1]
  refine (oMembers_any x A1 A2 c1 c2 w (hK.on hb)).mono fun e w' h => ?_
  obtain ⟨A, c, he, hR, hbw⟩ := h
  exact ⟨_, he, hbw, A, c, rfl, hR⟩
theorem st_compare {o : Odr} {x y : Li} {s0 s1 s2 j0 j1 j2 : Nat} {k : Int} (hg : ∀ j want, guard = some (j, want) → ∀ v w, (Fs.getD j Fct.any).p v w → v = .bool want) (hk : ltR o x.mb y.mb = k)
    (hF0 : Fs.getD j0 Fct.any = lfF o) (hF1 : Fs.getD j1 Fct.any = mbF x) (hF2 : Fs.getD j2 Fct.any = mbF y) :
    stepF Tryz.prog Fs a0 W ⟨dst, .call ⟨.value (.tmp s0), #[.tmp s1, .tmp s2], #[47, 47]⟩, ty, pos, after, guard⟩ [(s0, some j0), (s1, some j1), (s2, some j2)] (Fct.eq (.int .i64 k)) := by
  refine .inl ⟨hg, fun a w hb hl => ?_⟩
  obtain ⟨h0, h1, h2, _⟩ := hl
  rw [hF0] at h0
  rw [hF1] at h1
  rw [hF2] at h2
  obtain ⟨b, n0, hv, hn, hC⟩ := h0
  obtain ⟨A, c, hv1, hR1⟩ := h1
  obtain ⟨A', c', hv2, hR2⟩ := h2
  have e0 := ev_get hv
  have e1 := ev_get hv1
  have e2 := ev_get hv2
  simp [go_sem, leaves, e0, e1, e2]
  refine (show Calls Tryz.prog 57 #[.slice A x.mb.length c, .slice A' y.mb.length c', .pointer (some ⟨b, 0, none⟩)] w _ from hC.call x.mb y.mb _ _ w (Below.refl _ _) hR1 hR2).mono fun e w' h => ?_
  exact ⟨_, h.1, h.2, by rw [hk]; rfl⟩
end
theorem heap3o (w : World) (o1 o2 o3 : Obj) : (((w.alloc o1).alloc o2).alloc o3).heap[w.heap.size]? = some o1 ∧ (((w.alloc o1).alloc o2).alloc o3).heap[w.heap.size + 1]? = some o2 ∧ (((w.alloc o1).alloc o2).alloc o3).heap[w.heap.size + 2]? = some o3 := by
  have e0 := heap_alloc_new w o1
  obtain ⟨e1, e2⟩ := heap2 (w.alloc o1) o2 o3
  have hz : (w.alloc o1).heap.size = w.heap.size + 1 := by simp
  rw [hz] at e1 e2
  refine ⟨?_, e1, e2⟩
  rw [Below.heap_alloc _ _ _ (by simp; omega), Below.heap_alloc _ _ _ (by simp)]
  exact e0
def litsO (o : Odr) (x y : Li) : Int := ltR o x.mb y.mb
set_option maxHeartbeats 2000000 in
theorem oLits_any (o : Odr) (x y : Li) (P Q A1 A2 B1 B2 : Option Addr) (pc qc c1 c2 d1 d2 : Nat) (w : World) (hrk : o.prec.length ≤ 140737488351232) (hM : OdrM w w.heap.size o P Q) (hx : LiK w (· < w.heap.size) x A1 c1 A2 c2) (hy : LiK w (· < w.heap.size) y B1 d1 B2 d2) :
    Calls Tryz.prog 11 #[.agg #[.bool o.lpo, .slice P o.prec.length pc, .slice Q o.wts.length qc, .int .i64 o.var], .agg #[.bool x.neg, .int .i64 x.l.fn, .slice A1 x.l.args.length c1, .int .i64 x.r.fn, .slice A2 x.r.args.length c2], .agg #[.bool y.neg, .int .i64 y.l.fn, .slice B1 y.l.args.length d1, .int .i64 y.r.fn, .slice B2 y.r.args.length d2]] w fun e w' => e = .returned (.int .i64 (litsO o x y)) ∧ Below w.heap.size w w' := by
  obtain ⟨q0, q1, q2⟩ := heap3o w (.cells #[.bool o.lpo, .slice P o.prec.length pc, .slice Q o.wts.length qc, .int .i64 o.var] 24) (.cells #[.bool x.neg, .int .i64 x.l.fn, .slice A1 x.l.args.length c1, .int .i64 x.r.fn, .slice A2 x.r.args.length c2] 38) (.cells #[.bool y.neg, .int .i64 y.l.fn, .slice B1 y.l.args.length d1, .int .i64 y.r.fn, .slice B2 y.r.args.length d2] 38)
  obtain ⟨W, hW⟩ : ∃ W, ((w.alloc (.cells #[.bool o.lpo, .slice P o.prec.length pc, .slice Q o.wts.length qc, .int .i64 o.var] 24)).alloc (.cells #[.bool x.neg, .int .i64 x.l.fn, .slice A1 x.l.args.length c1, .int .i64 x.r.fn, .slice A2 x.r.args.length c2] 38)).alloc (.cells #[.bool y.neg, .int .i64 y.l.fn, .slice B1 y.l.args.length d1, .int .i64 y.r.fn, .slice B2 y.r.args.length d2] 38) = W := ⟨_, rfl⟩
  have hB : Below w.heap.size w W := by rw [← hW]; exact (((Below.refl _ _).alloc (Nat.le_refl _) _).alloc (by simp) _).alloc (by simp; omega) _
  rw [hW] at q0 q1 q2
  have hM1 := (hM.on hB).on (Below.refl _ _).drew
  have hx1 := (hx.on hB).on (Below.refl _ _).drew
  have hy1 := (hy.on hB).on (Below.refl _ _).drew
  have HF := Lib.hid (And.intro q0 (And.intro q1 (And.intro q2 (And.intro hM1 (And.intro hx1 hy1)))))
  have HW := Lib.hid hW
  have HB := Lib.hid hB
  obtain ⟨k, hk⟩ : ∃ k, litsO o x y = k := ⟨_, rfl⟩
  rw [hk]
  have Hk := Lib.hid hk
  clear hW hM hx hy hM1 hx1 hy1 q0 q1 q2 hB hk
  go_enter Tryz.func11, Tryz.ntmps11
  go_upto_region 1 with fail
  rw [HW.out]
  obtain ⟨h1, h2, h3, hM, hx, hy⟩ := HF.out
  refine wp_region_facts 14 [[(3, none)], [(7, some 0)], [(4, none)], [(9, some 2)], [(5, none)], [(11, some 4)], [(8, some 1), (10, some 3), (12, some 5)], [(13, some 6)]] [Fct.eq (.agg #[.bool o.lpo, .slice P o.prec.length pc, .slice Q o.wts.length qc, .int .i64 o.var]), lfF o, Fct.eq (.agg #[.bool x.neg, .int .i64 x.l.fn, .slice A1 x.l.args.length c1, .int .i64 x.r.fn, .slice A2 x.r.args.length c2]), mbF x, Fct.eq (.agg #[.bool y.neg, .int .i64 y.l.fn, .slice B1 y.l.args.length d1, .int .i64 y.r.fn, .slice B2 y.r.args.length d2]), mbF y, Fct.eq (.int .i64 k), Fct.eq (.int .i64 k)] (by kernel_rfl) (by kernel_rfl) (by kernel_rfl) ?_ ?_
  · exact ⟨st_load4 gd_none rfl h1, st_literals gd_none hrk hM rfl, st_load5 gd_none rfl h2, st_members gd_none hx rfl, st_load5 gd_none rfl h3, st_members gd_none hy rfl, st_compare gd_none Hk.out rfl rfl rfl, st_assign gd_none rfl, trivial⟩
  · intro w' hb'
    refine finF_last (P := Tryz.prog) (d := 6) (v := .int .i64 k) _ _ _ (by kernel_rfl) (Nat.lt_of_lt_of_eq (show 6 < 14 by decide) (by kernel_rfl)) ⟨_, rfl, rfl⟩ rfl ?_
    intro a' hd ha he
    have HFw := Lib.hid (HB.out.trans (((Below.refl _ _).drew.trans (hb'.mono (Nat.le_refl _))).mono HB.out.size))
    have hd2 : a'.defers = [] := hd
    clear hd ha hb' h1 h2 h3 hM hx hy HF
    go_wp2
    have he2 := ev_get he
    exact bodyPost_ret (v := .int .i64 k) (by simp [results, Tryz.results11, go_sem, he2]) hd2 ⟨rfl, HFw.out⟩
def clsO (o : Odr) (a b : List Li) : Int := clR o (a.map Li.mb) (b.map Li.mb)
theorem oClauses_any (o : Odr) (a b : List Li) (P Q A B : Option Addr) (pc qc c d : Nat) (w : World) (hrk : o.prec.length ≤ 140737488351232) (hM : OdrM w w.heap.size o P Q) (ha : ClsK w (· < w.heap.size) A a) (hb : ClsK w (· < w.heap.size) B b) (hla : a.length ≤ 1048576) (hlb : b.length ≤ 1048576) :
    Calls Tryz.prog 7 #[.agg #[.bool o.lpo, .slice P o.prec.length pc, .slice Q o.wts.length qc, .int .i64 o.var], .slice A a.length c, .slice B b.length d] w fun e w' => e = .returned (.int .i64 (clsO o a b)) ∧ Below w.heap.size w w' := by
  obtain ⟨c0, c1, c2, c3⟩ := cells_four (heap_alloc_new w (.cells #[.bool o.lpo, .slice P o.prec.length pc, .slice Q o.wts.length qc, .int .i64 o.var] 24))
  obtain ⟨W, hW⟩ : ∃ W, w.alloc (.cells #[.bool o.lpo, .slice P o.prec.length pc, .slice Q o.wts.length qc, .int .i64 o.var] 24) = W := ⟨_, rfl⟩
  have hB : Below w.heap.size w W := by rw [← hW]; exact (Below.refl _ _).alloc (Nat.le_refl _) _
  rw [hW] at c0 c1 c2 c3
  have HW := Lib.hid hW
  have HL := Lib.hid (oLiterals_any o P Q pc qc W hrk (hM.on hB))
  have Ha := fun w1 (h : Below W.heap.size W w1) => oEach_any a A c w1 ((ha.on hB).on h) hla
  simp only [List.length_map] at Ha
  replace Ha := Lib.hid Ha
  have Hb := fun w1 (h : Below W.heap.size W w1) => oEach_any b B d w1 ((hb.on hB).on h) hlb
  simp only [List.length_map] at Hb
  replace Hb := Lib.hid Hb
  have HC : Hid (∀ b1 w1 w2, CmpC Rp2 (ltR o) 57 #[] #[.pointer (some ⟨b1, 0, none⟩)] w1.heap.size w1 → w2 = w1.alloc (.cells #[.func (.func 57) #[] #[.pointer (some ⟨b1, 0, none⟩)]] 48) →
      Below w1.heap.size w1 w2 ∧ ∀ A' c' B' d' w3 w4, Below w2.heap.size w2 w3 → Below w3.heap.size w3 w4 → Rp3 (· < w3.heap.size) w3 (a.map Li.mb) (.slice A' a.length c') → Rp3 (· < w4.heap.size) w4 (b.map Li.mb) (.slice B' b.length d') →
        Calls Tryz.prog 36 #[.slice A' a.length c', .slice B' b.length d', .pointer (some ⟨w1.heap.size, 0, none⟩)] w4 fun e w' => e = .returned (.int .i64 (clsO o a b)) ∧ Below w4.heap.size w4 w') := Lib.hid fun b1 w1 w2 hC e2 => by
    have hb2 : Below w1.heap.size w1 w2 := by rw [e2]; exact (Below.refl _ _).alloc (Nat.le_refl _) _
    have z2 : w2.heap.size = w1.heap.size + 1 := by rw [e2]; simp
    have p2 : w2.heap[w1.heap.size]? = some (.cells #[.func (.func 57) #[] #[.pointer (some ⟨b1, 0, none⟩)]] 48) := by rw [e2]; exact heap_alloc_new w1 _
    refine ⟨hb2, fun A' c' B' d' w3 w4 h3 h4 hR1 hR2 => ?_⟩
    have C2 : CmpC Rp2 (ltR o) 57 #[] #[.pointer (some ⟨b1, 0, none⟩)] w2.heap.size w2 := ⟨hC.ent, fun x y vx vy v hb => hC.call x y vx vy v (hb2.trans (hb.mono hb2.size))⟩
    have C3 := mul_cmp3 C2 (mulR_in4 _) (cells_one p2).1 (by omega) (Nat.le_refl _)
    have h24 := h3.trans (h4.mono h3.size)
    exact C3.call (a.map Li.mb) (b.map Li.mb) _ _ w4 h24 (hR1.to (fun g e => h4.block g e) fun _ e => Nat.lt_of_lt_of_le e h4.size) hR2
  clear hW hM ha hb
  go_enter Tryz.func7, Tryz.ntmps7
  go_upto_region 1 with fail
  rw [HW.out]
  go_wp2_with (first
    | (go_at_call 21; (with_reducible refine HL.out.mono ?_); go_must (rintro e w1 ⟨b1, rfl, hC, hb1⟩; have HC1 := Lib.hid hC; clear hC))
    | (go_at_call 20; (with_reducible refine (oMul3_eq _ _ _ w1).mono ?_); go_must (rintro e w2 ⟨rfl, h2⟩; obtain ⟨hb2, hc2⟩ := HC.out b1 w1 w2 HC1.out h2; have HC2 := Lib.hid hc2; have hB2 := hb1.trans (hb2.mono hb1.size); have Ha2 := Lib.hid (Ha.out w2 hB2); clear h2 hc2))
    | (go_at_call 22; first
      | ((with_reducible refine Ha2.out.mono ?_); go_must (rintro e w3 ⟨A', c', rfl, hR, hb3⟩; have HR3 := Lib.hid hR; have hB3 := hB2.trans (hb3.mono hB2.size); have Hb3 := Lib.hid (Hb.out w3 hB3); clear hR Ha2))
      | ((with_reducible refine Hb3.out.mono ?_); go_must (rintro e w4 ⟨B', d', rfl, hR, hb4⟩; have HD := Lib.hid (HC2.out A' c' B' d' w3 w4 hb3 hb4 HR3.out hR); have hB4 := hB3.trans (hb4.mono hB3.size); clear hR)))
    | (go_at_call 36; (with_reducible refine HD.out.mono ?_); go_must (rintro e w5 ⟨rfl, hb5⟩))
    | fail)
  go_ret
  exact ⟨rfl, hB.trans ((hB4.trans (hb5.mono hB4.size)).mono hB.size)⟩
end Go.Proofs.YthgglobfkkcdgaaGreat
