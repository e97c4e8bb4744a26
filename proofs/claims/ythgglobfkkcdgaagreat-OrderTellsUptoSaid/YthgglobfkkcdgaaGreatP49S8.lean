import Derived.Test.YthgglobfkkcdgaaGreatP49S4
import Derived.Test.YthgglobfkkcdgaaGreatP49S5
import Derived.Test.YthgglobfkkcdgaaGreatP49S6
import Derived.Test.YthgglobfkkcdgaaGreatP49S7
import Derived.Test.YthgglobfkkcdgaaGreatP49S2
namespace Go.Proofs.YthgglobfkkcdgaaGreat
open Go.RowKit Go.Shelf Go.Maps
set_option maxRecDepth 100000
set_option maxHeartbeats 4000000 in
theorem count_neg11 (o : Odr) (b : Bal) (t : Tm) (P Q A : Option Addr) (pc qc c bx bm B0 : Nat) (w : World) (hM : BalM w bx bm o P pc Q qc b) (hO : OdrM w B0 o P Q) (hB0 : B0 ≤ w.heap.size) (hk : t.fn < 0 ∨ t.fn < (o.wts.length : Int)) (hOK : BalOK b) (hf64 : I64 t.fn) (hf : t.fn < 0) (hv : ¬ 0 ≤ -b.V t.fn) :
    Calls Tryz.prog 89 #[.pointer (some ⟨bx, 0, none⟩), .agg #[.int .i64 t.fn, .slice A t.args.length c], .int .i64 1] w (CntPost bx bm o P pc Q qc (cntB o 1 b t.fn) w) := by
  rw [cntB_neg11 hf hv]
  have hvb := hOK.V t.fn
  have hab := hOK.a0
  have hn30 := hOK.n
  have hix : (Instr.index 80 (.agg #[.int .i64 1, .int .i64 (-1)]) (.int .i64 1)).run Tryz.prog = fun w => .ok (.int .i64 (-1)) w := by funext w; kernel_rfl
  have hbxl := hM.box
  have hbx : bx < w.heap.size := (Array.getElem?_eq_some_iff.1 hbxl).1
  have hbm : bm < w.heap.size := hM.map.lt
  have hnebm := hM.ne
  have q0 := heap_alloc_new w (.cells #[.int .i64 t.fn, .slice A t.args.length c] 36)
  obtain ⟨W, hW⟩ : ∃ W, w.alloc (.cells #[.int .i64 t.fn, .slice A t.args.length c] 36) = W := ⟨_, rfl⟩
  have hB : Below w.heap.size w W := by rw [← hW]; exact (Below.refl _ _).alloc (Nat.le_refl _) _
  rw [hW] at q0
  have hWs : w.heap.size < W.heap.size := (Array.getElem?_eq_some_iff.1 q0).1
  have hMW := hM.keep (hB.block bx hbx) (hB.block bm hbm)
  have hSS : ∀ w', Below W.heap.size W w' → w'.cell? ⟨bx, 0, none⟩ = some (.bool o.lpo) ∧ w'.cell? ⟨bx, 1, none⟩ = some (.slice P o.prec.length pc) ∧ w'.cell? ⟨bx, 2, none⟩ = some (.slice Q o.wts.length qc) ∧ w'.cell? ⟨bx, 3, none⟩ = some (.int .i64 o.var) ∧ w'.cell? ⟨bx, 8, none⟩ = some (.int .i64 b.w1) ∧ w'.cell? ⟨w.heap.size, 0, none⟩ = some (.int .i64 t.fn) ∧ w'.cell? ⟨w.heap.size, 1, none⟩ = some (.slice A t.args.length c) ∧ w'.frozen? ⟨bx, 8, none⟩ = false := fun w' hb => by
    have hx := (hb.block bx (by omega)).trans hMW.box
    obtain ⟨c0, c1, c2, c3, c4, c5, c6, c7, c8⟩ := cells_9 hx
    obtain ⟨d0, d1, _, _⟩ := cells_two ((hb.block _ hWs).trans q0)
    exact ⟨c0, c1, c2, c3, c8, d0, d1, frozen_9 hx _⟩
  have hD := bl_drewN (Below.refl W.heap.size W) 1
  obtain ⟨i0, i1, i2, i3, i4, i5, i6, i7⟩ := hSS W.drew hD
  have H1 := Lib.hid (kboWeight1_any o t P Q A pc qc c W.drew ⟨((hO.p.more hB0).on hB).on hD, ((hO.q.more hB0).on hB).on hD, hO.v⟩ hk)
  have hwt := wtI_bd o t.fn
  have hw0 := hOK.w1
  have hnn := hOK.n
  have hsum : IntKind.i64.wrap (b.w1 + wtI o t.fn) = b.w1 + wtI o t.fn := by rw [IntKind.wrap_i64]; omega
  have HSS := Lib.hid hSS
  have HW := Lib.hid hW
  have HMW := Lib.hid hMW
  have Hq0 := Lib.hid q0
  have HOK := Lib.hid hOK
  obtain ⟨x, hx⟩ : ∃ x, wtI o t.fn = x := ⟨_, rfl⟩
  rw [hx] at H1 hsum hwt
  have Hx := Lib.hid hx
  clear hW hO hSS hMW q0 hM hbxl hx hOK
  go_enter Tryz.func89, Tryz.ntmps89
  go_upto_region 1 with fail
  rw [HW.out]
  go_region_law
    (first
      | (go_simp
         go_at_call 111
         with_reducible refine H1.out.mono ?_
         rintro e w1 ⟨rfl, hb1⟩
         have hB1 : Below W.heap.size W w1 := ⟨hb1.os, hb1.tape, hb1.output, hb1.size, hb1.block⟩
         obtain ⟨j0, j1, j2, j3, j4, j5, j6, j7⟩ := HSS.out w1 hB1
         dsimp only)
      | fail)
  all_goals
    have hge : decide (t.fn ≥ 0) = false := decide_eq_false (by omega)
    have hne : bx ≠ w.heap.size := by omega
    obtain ⟨X, hX⟩ : ∃ X, w1.setCell ⟨bx, 8, none⟩ (.int .i64 (b.w1 + x)) = X := ⟨_, rfl⟩
    have hXb : X.heap[bx]? = some (.cells #[.bool o.lpo, .slice P o.prec.length pc, .slice Q o.wts.length qc, .int .i64 o.var, .map (some bm), .int .i64 b.a0, .int .i64 b.a1, .int .i64 b.w0, .int .i64 (b.w1 + x)] 83) := by rw [← hX]; exact set_9 ((hB1.block bx (by omega)).trans HMW.out.box) 8 (.int .i64 (b.w1 + x))
    have hXm : X.heap[bm]? = W.heap[bm]? := by rw [← hX]; exact (heap_setCell_other _ _ _ _ (fun e => hnebm e.symm)).trans (hB1.block bm (by omega))
    have hXt : X.heap[w.heap.size]? = some (.cells #[.int .i64 t.fn, .slice A t.args.length c] 36) := by rw [← hX]; exact (heap_setCell_other _ _ _ _ (show w.heap.size ≠ bx by omega)).trans ((hB1.block _ hWs).trans Hq0.out)
    have hXs : W.heap.size ≤ X.heap.size := by rw [← hX]; simpa using hB1.size
    have hKX : KeepsC (fun g => g = bx ∨ g = bm) w X := by rw [← hX]; exact keepsC_set ((KeepsC.of_below hB).trans (KeepsC.of_below hB1)) _ _
    have hXV := HMW.out.map.kept hXm
    have HX := Lib.hid hX
    obtain ⟨v, hv'⟩ : ∃ v, b.V t.fn = v := ⟨_, rfl⟩
    rw [hv'] at hv hvb
    have Hv := Lib.hid hv'
    have hm1 : IntKind.i64.wrap v = v := by rw [IntKind.wrap_i64]; omega
    have hm2 : IntKind.i64.wrap (v * (-1)) = -v := by rw [IntKind.wrap_i64]; omega
    have hm3 : IntKind.i64.wrap (-v) = -v := by rw [IntKind.wrap_i64]; omega
    have hm4 : IntKind.i64.wrap (v + (-1)) = v + (-1) := by rw [IntKind.wrap_i64]; omega
    have hm5 : IntKind.i64.wrap (b.a0 - 1) = b.a0 - 1 := by rw [IntKind.wrap_i64]; omega
    have hs1 : IntKind.i64.wrap (1 - 1) = 0 := by decide
    have hs2 : IntKind.i64.wrap 0 = 0 := by decide
    have hdec : decide (-v ≥ 0) = false := decide_eq_false (by omega)
    have l0 : ∀ y : Later X.heap.size X, y.w.cell? ⟨bx, 4, none⟩ = some (.map (some bm)) := fun y => (cells_9 ((y.h.block bx (by omega)).trans hXb)).2.2.2.2.1
    have l1 : ∀ y : Later X.heap.size X, y.w.cell? ⟨w.heap.size, 0, none⟩ = some (.int .i64 t.fn) := fun y => (cells_two ((y.h.block _ (by omega)).trans hXt)).1
    have l2 : ∀ y : Later X.heap.size X, (Instr.lookup 79 (.map (some bm)) (.int .i64 t.fn) false).run Tryz.prog y.w = .ok (.int .i64 v) y.w := fun y => by rw [← hv']; exact (hXV.kept (y.h.block bm (by omega))).look hf64
    have l3 := (cells_two hXt).1
    clear i0 i1 i2 i3 i4 i5 i6 i7 j0 j1 j2 j3 j4 j5 j6 j7 hX hv'
    rw [HX.out]
    go_upto_region 4 with fail
    refine wp_region_later X.heap.size X (by kernel_rfl) (by kernel_rfl) (bl_drewN (Below.refl _ _) 1) ?_
    repeat (go_big_quiet_step (fail))
    refine wpQuiet_nil ?_
    rintro _ ⟨z, rfl⟩
    have hzb := (z.h.block bx (by omega)).trans hXb
    have hzm := z.h.block bm (show bm < X.heap.size by omega)
    have hzt := (z.h.block _ (show w.heap.size < X.heap.size by omega)).trans hXt
    have hzs := z.h.size
    obtain ⟨Z, hZ⟩ : ∃ Z, z.w = Z := ⟨_, rfl⟩
    have hKZ := hKX.trans (KeepsC.of_below z.h)
    rw [hZ] at hzb hzm hzt hzs hKZ ⊢
    have hzV := hXV.kept hzm
    clear l0 l1 l2 l3 hZ
    have d0 : Z.drew.cell? ⟨bx, 5, none⟩ = some (.int .i64 b.a0) := (cells_9 (show Z.drew.heap[bx]? = _ from hzb)).2.2.2.2.2.1
    have d1 := frozen_9 (show Z.drew.heap[bx]? = _ from hzb) 5
    have d2 : Z.drew.cell? ⟨w.heap.size, 0, none⟩ = some (.int .i64 t.fn) := (cells_two (show Z.drew.heap[w.heap.size]? = _ from hzt)).1
    go_upto_region 6 with fail
    go_region_law (fail)
    all_goals
      obtain ⟨Y, hY⟩ : ∃ Y, (Z.setCell ⟨bx, 5, none⟩ (.int .i64 (b.a0 - 1))).drew = Y := ⟨_, rfl⟩
      have hYb : Y.heap[bx]? = some (.cells #[.bool o.lpo, .slice P o.prec.length pc, .slice Q o.wts.length qc, .int .i64 o.var, .map (some bm), .int .i64 (b.a0 - 1), .int .i64 b.a1, .int .i64 b.w0, .int .i64 (b.w1 + x)] 83) := by rw [← hY]; exact set_9 hzb 5 (.int .i64 (b.a0 - 1))
      have hYm : Y.heap[bm]? = Z.heap[bm]? := by rw [← hY]; exact heap_setCell_other Z _ _ _ (fun e => hnebm e.symm)
      have hYt : Y.heap[w.heap.size]? = some (.cells #[.int .i64 t.fn, .slice A t.args.length c] 36) := by rw [← hY]; exact (heap_setCell_other Z _ _ _ (show w.heap.size ≠ bx by omega)).trans hzt
      have hKY : KeepsC (fun g => g = bx ∨ g = bm) w Y := by rw [← hY]; exact Keeps.trans (keepsC_set hKZ _ _) (Keeps.drewN _ (Z.setCell ⟨bx, 5, none⟩ (.int .i64 (b.a0 - 1))) 1)
      have hYV := hzV.kept hYm
      have HY := Lib.hid hY
      clear d0 d1 d2 hY
      rw [HY.out]
      have g0 : Y.drew.cell? ⟨bx, 4, none⟩ = some (.map (some bm)) := (cells_9 (show Y.drew.heap[bx]? = _ from hYb)).2.2.2.2.1
      have g1 : Y.drew.cell? ⟨w.heap.size, 0, none⟩ = some (.int .i64 t.fn) := (cells_two (show Y.drew.heap[w.heap.size]? = _ from hYt)).1
      have hYVd : VMap Y.drew bm b.n b.V := hYV
      have g2 := hYVd.look hf64
      rw [Hv.out] at g2
      obtain ⟨w9, hrun, hV9, hgr⟩ := hYVd.put (by omega) hf64 (v := v + (-1)) ⟨by omega, by omega⟩
      go_upto_region 7 with fail
      go_region_law (fail)
      all_goals
        go_wp2
        go_end0
        refine ⟨rfl, ⟨?_, ?_, hnebm⟩, ?_⟩
        · rw [hgr.block bx (show bx < Y.drew.heap.size from (Array.getElem?_eq_some_iff.1 hYb).1) (by simpa using hnebm)]
          rw [show Y.drew.heap[bx]? = _ from hYb, Hx.out]
        · rw [Hv.out]; exact hV9
        · exact Keeps.trans (Keeps.trans hKY (Keeps.drewN _ Y 1)) ((Keeps.of_grown hgr).mono fun g hg => ⟨by have := hKY.size; show g < Y.heap.size; omega, by have := hg.2; simp; intro e; exact this (.inr e)⟩)
end Go.Proofs.YthgglobfkkcdgaaGreat
namespace Go.Proofs.YthgglobfkkcdgaaGreat
open Go.RowKit Go.Shelf Go.Maps
set_option maxRecDepth 100000
theorem count_any (o : Odr) (b : Bal) (t : Tm) (P Q A : Option Addr) (pc qc c bx bm B0 : Nat) (at_ : Int) (hat : at_ = 0 ∨ at_ = 1) (w : World) (hM : BalM w bx bm o P pc Q qc b) (hO : OdrM w B0 o P Q) (hB0 : B0 ≤ w.heap.size) (hk : t.fn < 0 ∨ t.fn < (o.wts.length : Int)) (hOK : BalOK b) (hf64 : I64 t.fn) :
    Calls Tryz.prog 89 #[.pointer (some ⟨bx, 0, none⟩), .agg #[.int .i64 t.fn, .slice A t.args.length c], .int .i64 at_] w (CntPost bx bm o P pc Q qc (cntB o at_ b t.fn) w) := by
  rcases hat with rfl | rfl
  · by_cases hf : t.fn < 0
    · by_cases hv : 0 ≤ b.V t.fn
      · exact count_neg00 o b t P Q A pc qc c bx bm B0 w hM hO hB0 hk hOK hf64 hf hv
      · exact count_neg01 o b t P Q A pc qc c bx bm B0 w hM hO hB0 hk hOK hf64 hf hv
    · exact count_pos0 o b t P Q A pc qc c bx bm B0 w hM hO hB0 hk hOK hf
  · by_cases hf : t.fn < 0
    · by_cases hv : 0 ≤ -b.V t.fn
      · exact count_neg10 o b t P Q A pc qc c bx bm B0 w hM hO hB0 hk hOK hf64 hf hv
      · exact count_neg11 o b t P Q A pc qc c bx bm B0 w hM hO hB0 hk hOK hf64 hf hv
    · exact count_pos1 o b t P Q A pc qc c bx bm B0 w hM hO hB0 hk hOK hf
end Go.Proofs.YthgglobfkkcdgaaGreat
namespace Go.Proofs.YthgglobfkkcdgaaGreat
open Go.RowKit Go.Shelf Go.Maps
set_option maxRecDepth 100000
def lvis (o : Odr) (at_ : Int) (b : Bal) (t : Tm) : Bal × Bool := (cntB o at_ b t.fn, true)
def layB (o : Odr) (at_ : Int) (b : Bal) (t : Tm) : Bal := (evT (lvis o at_) b t).1
def lokV (o : Odr) (b : Bal) (t : Tm) : Prop := (t.fn < 0 ∨ t.fn < (o.wts.length : Int)) ∧ BalOK b
theorem know_top {o : Odr} {f : Int} {n : Nat} (h : knowTop o f n = true) : (f < 0 ∨ f < (o.wts.length : Int)) ∧ f < (o.prec.length : Int) ∧ (f < 0 → n = 0) := by
  unfold knowTop at h
  by_cases hf : f < 0
  · rw [if_pos hf] at h
    exact ⟨.inl hf, by omega, fun _ => of_decide_eq_true h⟩
  · rw [if_neg hf, Bool.and_eq_true, decide_eq_true_eq, decide_eq_true_eq] at h
    exact ⟨.inr h.2, h.1, fun h' => absurd h' hf⟩
theorem knowL_mem {o : Odr} : ∀ {xs : List Tm} {t : Tm}, knowL o xs = true → t ∈ xs → knowT o t = true
  | [], _, _, h => by simp at h
  | x :: xs, t, hk, h => by
    rw [knowL, Bool.and_eq_true] at hk
    rcases List.mem_cons.1 h with rfl | h
    · exact hk.1
    · exact knowL_mem hk.2 h
structure LayOK (o : Odr) (at_ : Int) (b : Bal) (t : Tm) : Prop where
  yes : (evT (lvis o at_) b t).2 = true
  n : (layB o at_ b t).n = b.n + t.size
  ok : BalOK (layB o at_ b t)
  all : okT (lokV o) (lvis o at_) b t
theorem lay_ok (o : Odr) (at_ : Int) (t : Tm) : ∀ b, BalOK b → knowT o t = true → b.n + t.size ≤ 1073741824 → LayOK o at_ b t := by
  have key : ∀ xs : List Tm, (∀ t ∈ xs, ∀ b, BalOK b → knowT o t = true → b.n + t.size ≤ 1073741824 → LayOK o at_ b t) → ∀ b, BalOK b → knowL o xs = true → b.n + sizes xs ≤ 1073741824 →
      (evL (lvis o at_) b xs).2 = true ∧ (evL (lvis o at_) b xs).1.n = b.n + sizes xs ∧ BalOK (evL (lvis o at_) b xs).1 ∧ okL (lokV o) (lvis o at_) b xs := by
    intro xs
    induction xs with
    | nil => intro _ b hb _ _; exact ⟨by rw [evL], by rw [evL]; simp [sizes], by rw [evL]; exact hb, by rw [okL]; trivial⟩
    | cons x xs ih =>
      intro h b hb hk hn
      rw [knowL, Bool.and_eq_true] at hk
      simp only [sizes] at hn ⊢
      have h1 := h x (by simp) b hb hk.1 (by omega)
      have hn1 : (evT (lvis o at_) b x).1.n = b.n + x.size := h1.n
      obtain ⟨k1, k2, k3, k4⟩ := ih (fun t ht => h t (by simp [ht])) (evT (lvis o at_) b x).1 h1.ok hk.2 (by omega)
      have e : evL (lvis o at_) b (x :: xs) = evL (lvis o at_) (evT (lvis o at_) b x).1 xs := by rw [evL, h1.yes]; rfl
      rw [e]
      exact ⟨k1, by omega, k3, by rw [okL]; exact ⟨h1.all, fun _ => k4⟩⟩
  refine Tm.ind (P := fun t => ∀ b, BalOK b → knowT o t = true → b.n + t.size ≤ 1073741824 → LayOK o at_ b t) (fun f xs ih b hb hk hn => ?_) t
  rw [knowT, Bool.and_eq_true] at hk
  simp only [Tm.size] at hn
  have hb1 : BalOK (cntB o at_ b f) := hb.next (by omega) f
  have hn1 : (cntB o at_ b f).n = b.n + 1 := rfl
  obtain ⟨k1, k2, k3, k4⟩ := key xs ih (cntB o at_ b f) hb1 hk.2 (by omega)
  have e : evT (lvis o at_) b (.node f xs) = evL (lvis o at_) (cntB o at_ b f) xs := by rw [evT]; rfl
  refine ⟨by rw [e]; exact k1, ?_, ?_, ?_⟩
  · show (evT (lvis o at_) b (.node f xs)).1.n = _
    rw [e]; simp only [Tm.size]; omega
  · show BalOK (evT (lvis o at_) b (.node f xs)).1
    rw [e]; exact k3
  · rw [okT]
    exact ⟨⟨(know_top hk.1).1, hb⟩, fun _ => k4⟩
structure BalW (o : Odr) (P Q : Option Addr) (pc qc bx bm B0 : Nat) (b : Bal) (w : World) : Prop where
  m : BalM w bx bm o P pc Q qc b
  o : OdrM w B0 o P Q
  lx : B0 ≤ bx
  lm : B0 ≤ bm
theorem BalW.lt {o : Odr} {P Q : Option Addr} {pc qc bx bm B0 : Nat} {b : Bal} {w : World} (h : BalW o P Q pc qc bx bm B0 b w) : bx < w.heap.size ∧ bm < w.heap.size := ⟨(Array.getElem?_eq_some_iff.1 h.m.box).1, h.m.map.lt⟩
theorem OdrM.blw {w w' : World} {B : Nat} {o : Odr} {P Q : Option Addr} (h : OdrM w B o P Q) (hk : ∀ g, g < B → w'.heap[g]? = w.heap[g]?) : OdrM w' B o P Q :=
  ⟨h.p.keep fun p hp => World.cell?_of_block (hk p.block hp), h.q.keep fun p hp => World.cell?_of_block (hk p.block hp), h.v⟩
theorem BalW.keep {o : Odr} {P Q : Option Addr} {pc qc bx bm B0 : Nat} {b : Bal} {w w' : World} (h : BalW o P Q pc qc bx bm B0 b w) (hk : ∀ g, g < B0 ∨ g = bx ∨ g = bm → w'.heap[g]? = w.heap[g]?) : BalW o P Q pc qc bx bm B0 b w' :=
  ⟨h.m.keep (hk bx (.inr (.inl rfl))) (hk bm (.inr (.inr rfl))), h.o.blw fun g hg => hk g (.inl hg), h.lx, h.lm⟩
theorem BalW.on {o : Odr} {P Q : Option Addr} {pc qc bx bm B0 : Nat} {b : Bal} {w w' : World} (h : BalW o P Q pc qc bx bm B0 b w) (hb : Below w.heap.size w w') : BalW o P Q pc qc bx bm B0 b w' :=
  h.keep fun g hg => hb.block g (by have := h.lt; have := h.lx; have := h.lm; omega)
theorem BalW.next {o : Odr} {P Q : Option Addr} {pc qc bx bm B0 : Nat} {b b' : Bal} {w w' : World} (h : BalW o P Q pc qc bx bm B0 b w) (hm : BalM w' bx bm o P pc Q qc b') (hk : KeepsC (fun g => g = bx ∨ g = bm) w w') : BalW o P Q pc qc bx bm B0 b' w' :=
  ⟨hm, h.o.blw fun g hg => hk.block (by have := h.lt; have := h.lx; omega) (by rintro (e | e) <;> (have := h.lx; have := h.lm; omega)), h.lx, h.lm⟩
theorem count_at {o : Odr} {P Q : Option Addr} {pc qc bx bm B0 : Nat} {b : Bal} {w : World} (h : BalW o P Q pc qc bx bm B0 b w) (t : Tm) (A : Option Addr) (c : Nat) (at_ : Int) (hat : at_ = 0 ∨ at_ = 1) (hk : t.fn < 0 ∨ t.fn < (o.wts.length : Int)) (hOK : BalOK b) (hf : I64 t.fn) :
    Calls Tryz.prog 89 #[.pointer (some ⟨bx, 0, none⟩), .agg #[.int .i64 t.fn, .slice A t.args.length c], .int .i64 at_] w fun e w' => e = .returned (.tuple #[]) ∧ BalW o P Q pc qc bx bm B0 (cntB o at_ b t.fn) w' ∧ KeepsC (fun g => g = bx ∨ g = bm) w w' :=
  (count_any o b t P Q A pc qc c bx bm B0 at_ hat w h.m h.o (by have := h.lt; have := h.lx; omega) hk hOK hf).mono fun e w' ⟨he, hm, hkk⟩ => ⟨he, h.next hm hkk, hkk⟩
set_option maxHeartbeats 1000000 in
theorem lay1_any {o : Odr} {P Q : Option Addr} {pc qc bx bm B0 : Nat} {b : Bal} {w : World} (h : BalW o P Q pc qc bx bm B0 b w) (t : Tm) (A : Option Addr) (c pb ps : Nat) (at_ : Int) (hat : at_ = 0 ∨ at_ = 1) (hk : t.fn < 0 ∨ t.fn < (o.wts.length : Int)) (hOK : BalOK b) (hf : I64 t.fn)
    (hpb : Boxed w pb 104 (.pointer (some ⟨bx, 0, none⟩))) (hps : Boxed w ps 107 (.int .i64 at_)) :
    Calls Tryz.prog 109 #[.agg #[.int .i64 t.fn, .slice A t.args.length c], .pointer (some ⟨pb, 0, none⟩), .pointer (some ⟨ps, 0, none⟩)] w fun e w' => e = .returned (.bool true) ∧ BalW o P Q pc qc bx bm B0 (cntB o at_ b t.fn) w' ∧ KeepsC (fun g => g = bx ∨ g = bm) w w' := by
  have q0 := heap_alloc_new w (.cells #[.int .i64 t.fn, .slice A t.args.length c] 36)
  obtain ⟨W, hW⟩ : ∃ W, w.alloc (.cells #[.int .i64 t.fn, .slice A t.args.length c] 36) = W := ⟨_, rfl⟩
  have hB : Below w.heap.size w W := by rw [← hW]; exact (Below.refl _ _).alloc (Nat.le_refl _) _
  rw [hW] at q0
  obtain ⟨x0, x1, _, _⟩ := cells_two q0
  have c1 := Boxed.cell (show Boxed W pb _ _ from (hB.block _ hpb.lt).trans hpb)
  have c2 := Boxed.cell (show Boxed W ps _ _ from (hB.block _ hps.lt).trans hps)
  have H1 := Lib.hid (count_at (h.on hB) t A c at_ hat hk hOK hf)
  have HW := Lib.hid hW
  clear hW h q0
  go_enter Tryz.func109, Tryz.ntmps109
  go_upto_region 1 with fail
  rw [HW.out]
  go_wp2_with (first
    | (go_at_call 89; (with_reducible refine H1.out.mono ?_); go_must (rintro e w1 ⟨rfl, hI1, hk1⟩; have HI1 := Lib.hid hI1; clear hI1))
    | fail)
  go_ret
  exact ⟨rfl, HI1.out, (KeepsC.of_below hB).trans hk1⟩
theorem lay1_vis (o : Odr) (P Q : Option Addr) (pc qc bx bm B0 B1 pb ps : Nat) (at_ : Int) (hat : at_ = 0 ∨ at_ = 1) (h1 : B0 ≤ bx) (h2 : B0 ≤ bm) (h3 : bx < pb) (h4 : bm < pb) (h5 : pb < ps) (h6 : ps < B1) :
    VisC (lokV o) (lvis o at_) 109 #[.pointer (some ⟨pb, 0, none⟩), .pointer (some ⟨ps, 0, none⟩)] (fun g => g = bx ∨ g = bm) (· < B1) (· < B0)
      (fun b W => BalW o P Q pc qc bx bm B0 b W ∧ Boxed W pb 104 (.pointer (some ⟨bx, 0, none⟩)) ∧ Boxed W ps 107 (.int .i64 at_)) B1 where
  ent := enters_of Tryz.func109 (by kernel_rfl) rfl
  call := fun b t A c W hB1 hI hf hV hA => (lay1_any hI.1 t A c pb ps at_ hat hV.1 hV.2 hf hI.2.1 hI.2.2).mono fun e w' ⟨he, hI', hk⟩ =>
    ⟨he, ⟨hI', (hk.block hI.2.1.lt (by rintro (e | e) <;> omega)).trans hI.2.1, (hk.block hI.2.2.lt (by rintro (e | e) <;> omega)).trans hI.2.2⟩, hk⟩
  stay := fun b W W' h hk => ⟨h.1.keep fun g hg => hk.block g (by omega), (hk.block pb (by omega)).trans h.2.1, (hk.block ps h6).trans h.2.2⟩
  cb := fun g e => by omega
  db := fun g e => e
  nb := fun g e => by omega
  nc := fun g e => by rintro (e' | e') <;> omega
set_option maxHeartbeats 1000000 in
theorem lay_any {o : Odr} {P Q : Option Addr} {pc qc bx bm B0 : Nat} {b : Bal} {w : World} (h : BalW o P Q pc qc bx bm B0 b w) (t : Tm) (A : Option Addr) (c : Nat) (at_ : Int) (hat : at_ = 0 ∨ at_ = 1) (hOK : BalOK b) (hk : knowT o t = true) (hn : b.n + t.size ≤ 1073741824) (hf : I64 t.fn) (hA : ArgsN w (· < B0) A t.args) :
    Calls Tryz.prog 87 #[.pointer (some ⟨bx, 0, none⟩), .agg #[.int .i64 t.fn, .slice A t.args.length c], .int .i64 at_] w fun e w' => e = .returned (.tuple #[]) ∧ BalW o P Q pc qc bx bm B0 (layB o at_ b t) w' ∧ KeepsC (fun g => g = bx ∨ g = bm) w w' := by
  obtain ⟨q0, q1, q2⟩ := heap3 w (.cells #[.pointer (some ⟨bx, 0, none⟩)] 104) (.cells #[.int .i64 t.fn, .slice A t.args.length c] 36) (.cells #[.int .i64 at_] 107)
  obtain ⟨W, hW⟩ : ∃ W, (((w.alloc (.cells #[.pointer (some ⟨bx, 0, none⟩)] 104)).alloc (.cells #[.int .i64 t.fn, .slice A t.args.length c] 36)).alloc (.cells #[.int .i64 at_] 107)) = W := ⟨_, rfl⟩
  have hB : Below w.heap.size w W := by rw [← hW]; exact (((Below.refl _ _).alloc (Nat.le_refl _) _).alloc (by simp) _).alloc (by simp; omega) _
  rw [hW] at q0 q1 q2
  have hWs : w.heap.size + 1 + 1 < W.heap.size := (Array.getElem?_eq_some_iff.1 q2).1
  obtain ⟨x0, x1, _, _⟩ := cells_two q1
  obtain ⟨hlx, hlm⟩ := h.lt
  have hl := lay_ok o at_ t b hOK hk hn
  have h1 := each_any (lay1_vis o P Q pc qc bx bm B0 W.heap.size w.heap.size (w.heap.size + 1 + 1) at_ hat h.lx h.lm hlx hlm (by omega) hWs) t b A c W (Nat.le_refl _) ⟨h.on hB, q0, q2⟩ hf hl.all (hA.keep fun g e => hB.block g (by have := h.lx; omega))
  unfold VisPost at h1
  rw [hl.yes] at h1
  have H1 := Lib.hid h1
  have HW := Lib.hid hW
  clear hW h hA q0 q1 q2 h1 hl
  go_enter Tryz.func87, Tryz.ntmps87
  go_upto_region 1 with fail
  rw [HW.out]
  go_wp2_with (first
    | (go_at_call 67; (with_reducible refine H1.out.mono ?_); go_must (rintro e w1 ⟨rfl, hI1, hk1⟩; have HI1 := Lib.hid hI1; clear hI1))
    | fail)
  go_end0
  exact ⟨rfl, HI1.out.1, (KeepsC.of_below hB).trans hk1⟩
end Go.Proofs.YthgglobfkkcdgaaGreat
namespace Go.Proofs.YthgglobfkkcdgaaGreat
open Go.RowKit Go.Shelf Go.Maps
set_option maxRecDepth 100000
def finQ (b0 : Bal) (r : Bal × Int) : Int := if numI (capI (r.1.w0 - b0.w0)) (capI (r.1.w1 - b0.w1)) = 0 then r.2 else relC (numI (capI (r.1.w0 - b0.w0)) (capI (r.1.w1 - b0.w1)))
def finR (a0 a1 q : Int) : Int := if q = 3 ∧ 0 < a1 then 0 else if q = 1 ∧ 0 < a0 then 0 else q
def finB (b0 : Bal) (r : Bal × Int) : Int := finR r.1.a0 r.1.a1 (finQ b0 r)
def layL (o : Odr) (at_ : Int) : Bal → List Tm → Bal
  | b, [] => b
  | b, t :: ts => layL o at_ (layB o at_ b t) ts
mutual
def rsnB (o : Odr) : Tm → Bal → Tm → Bal × Int
  | .node f xs, b, t => if f = t.fn then argB o xs (cntB o 1 (cntB o 0 b f) t.fn) t.args else (layB o 1 (layB o 0 b (.node f xs)) t, topsR o (.node f xs) t)
def argB (o : Odr) : List Tm → Bal → List Tm → Bal × Int
  | [], b, ys => (layL o 1 b ys, relC (numI 0 ys.length))
  | x :: xs, b, [] => (layL o 0 b (x :: xs), relC (numI (xs.length + 1 : Nat) 0))
  | x :: xs, b, y :: ys => if finB b (rsnB o x b y) = 2 then argB o xs (rsnB o x b y).1 ys else (layL o 1 (layL o 0 (rsnB o x b y).1 xs) ys, finB b (rsnB o x b y))
end
theorem relC_bd (c : Int) : 1 ≤ relC c ∧ relC c ≤ 3 := by unfold relC; split <;> (try split) <;> omega
theorem finR_bd {a0 a1 q : Int} (h : 0 ≤ q ∧ q ≤ 3) : 0 ≤ finR a0 a1 q ∧ finR a0 a1 q ≤ 3 := by unfold finR; split <;> (try split) <;> omega
theorem finQ_bd {b0 : Bal} {r : Bal × Int} (h : 0 ≤ r.2 ∧ r.2 ≤ 3) : 0 ≤ finQ b0 r ∧ finQ b0 r ≤ 3 := by
  have := relC_bd (numI (capI (r.1.w0 - b0.w0)) (capI (r.1.w1 - b0.w1)))
  unfold finQ; split <;> omega
theorem relT_bd {r : Int} (h : 0 ≤ r ∧ r ≤ 3) : 0 ≤ relT r ∧ relT r ≤ 3 := by unfold relT; split <;> (try split) <;> omega
theorem topsR_bd (o : Odr) (s t : Tm) : 0 ≤ topsR o s t ∧ topsR o s t ≤ 3 := by
  unfold topsR
  split
  · split
    · omega
    · exact relT_bd (topsP_bd o t s)
  · exact topsP_bd o s t
structure StpOK (b b' : Bal) (n : Nat) : Prop where
  ok : BalOK b'
  n : b'.n = b.n + n
theorem layL_ok {o : Odr} {at_ : Int} : ∀ (ts : List Tm) (b : Bal), BalOK b → knowL o ts = true → b.n + sizes ts ≤ 1073741824 → StpOK b (layL o at_ b ts) (sizes ts)
  | [], b, hb, _, _ => ⟨hb, by simp [layL, sizes]⟩
  | t :: ts, b, hb, hk, hn => by
    rw [knowL, Bool.and_eq_true] at hk
    simp only [sizes] at hn ⊢
    have h1 := lay_ok o at_ t b hb hk.1 (by omega)
    have h2 := layL_ok (at_ := at_) ts (layB o at_ b t) h1.ok hk.2 (by have := h1.n; omega)
    exact ⟨h2.ok, by rw [layL, h2.n, h1.n]; omega⟩
theorem know_node {o : Odr} {t : Tm} (h : knowT o t = true) : knowTop o t.fn t.args.length = true ∧ knowL o t.args = true := by
  obtain ⟨f, xs⟩ := t
  rw [knowT, Bool.and_eq_true] at h
  exact h
theorem size_node (t : Tm) : t.size = 1 + sizes t.args := by obtain ⟨f, xs⟩ := t; simp only [Tm.size, Tm.args]; omega
mutual
theorem rsn_ok {o : Odr} : ∀ (s : Tm) (b : Bal) (t : Tm), BalOK b → knowT o s = true → knowT o t = true → b.n + s.size + t.size ≤ 1073741824 → StpOK b (rsnB o s b t).1 (s.size + t.size) ∧ 0 ≤ (rsnB o s b t).2 ∧ (rsnB o s b t).2 ≤ 3
  | .node f xs, b, t, hb, hs, ht, hn => by
    rw [rsnB]
    have hst := size_node t
    by_cases e : f = t.fn
    · rw [if_pos e]
      rw [knowT, Bool.and_eq_true] at hs
      obtain ⟨_, ht2⟩ := know_node ht
      simp only [Tm.size] at hn ⊢
      have h1 : BalOK (cntB o 0 b f) := hb.next (by omega) f
      have n1 : (cntB o 0 b f).n = b.n + 1 := rfl
      have h2 : BalOK (cntB o 1 (cntB o 0 b f) t.fn) := h1.next (by omega) t.fn
      have n2 : (cntB o 1 (cntB o 0 b f) t.fn).n = b.n + 1 + 1 := rfl
      obtain ⟨h3, h4⟩ := arg_ok xs (cntB o 1 (cntB o 0 b f) t.fn) t.args h2 hs.2 ht2 (by omega)
      exact ⟨⟨h3.ok, by rw [h3.n]; omega⟩, h4⟩
    · rw [if_neg e]
      have h1 := lay_ok o 0 (.node f xs) b hb hs (by omega)
      have h2 := lay_ok o 1 t (layB o 0 b (.node f xs)) h1.ok ht (by have := h1.n; omega)
      exact ⟨⟨h2.ok, by rw [h2.n, h1.n]; omega⟩, topsR_bd o _ _⟩
theorem arg_ok {o : Odr} : ∀ (xs : List Tm) (b : Bal) (ys : List Tm), BalOK b → knowL o xs = true → knowL o ys = true → b.n + sizes xs + sizes ys ≤ 1073741824 → StpOK b (argB o xs b ys).1 (sizes xs + sizes ys) ∧ 0 ≤ (argB o xs b ys).2 ∧ (argB o xs b ys).2 ≤ 3
  | [], b, ys, hb, _, hy, hn => by
    simp only [sizes] at hn ⊢
    have := relC_bd (numI 0 ys.length)
    have h1 := layL_ok (at_ := 1) ys b hb hy (by omega)
    rw [argB]
    exact ⟨⟨h1.ok, by rw [h1.n]; omega⟩, by show 0 ≤ relC _; omega, by show relC _ ≤ 3; omega⟩
  | x :: xs, b, [], hb, hx, _, hn => by
    have := relC_bd (numI (xs.length + 1 : Nat) 0)
    have h1 := layL_ok (at_ := 0) (x :: xs) b hb hx (by omega)
    rw [argB]
    exact ⟨⟨h1.ok, by rw [h1.n]; simp [sizes]⟩, by show 0 ≤ relC _; omega, by show relC _ ≤ 3; omega⟩
  | x :: xs, b, y :: ys, hb, hx, hy, hn => by
    rw [knowL, Bool.and_eq_true] at hx hy
    simp only [sizes] at hn ⊢
    obtain ⟨h1, h2⟩ := rsn_ok x b y hb hx.1 hy.1 (by omega)
    have hn1 := h1.n
    rw [argB]
    by_cases e : finB b (rsnB o x b y) = 2
    · rw [if_pos e]
      obtain ⟨h3, h4⟩ := arg_ok xs (rsnB o x b y).1 ys h1.ok hx.2 hy.2 (by omega)
      exact ⟨⟨h3.ok, by rw [h3.n]; omega⟩, h4⟩
    · rw [if_neg e]
      have h3 := layL_ok (at_ := 0) xs (rsnB o x b y).1 h1.ok hx.2 (by omega)
      have h4 := layL_ok (at_ := 1) ys (layL o 0 (rsnB o x b y).1 xs) h3.ok hy.2 (by have := h3.n; omega)
      exact ⟨⟨h4.ok, by show (layL o 1 (layL o 0 (rsnB o x b y).1 xs) ys).n = _; rw [h4.n, h3.n]; omega⟩, finR_bd (finQ_bd h2)⟩
end
theorem cmp64_any (a b : Int) (w : World) :
    Calls Tryz.prog 70 #[.int .i64 a, .int .i64 b] w fun e w' => e = .returned (.int .i64 (numI a b)) ∧ Below w.heap.size w w' := by
  go_enter Tryz.func70, Tryz.ntmps70
  go_wp2
  all_goals
    go_ret
    first
      | exact ⟨ret_int (numI_lt (by omega)).symm, Below.refl _ _⟩
      | exact ⟨ret_int (numI_gt (by omega)).symm, Below.refl _ _⟩
      | exact ⟨ret_int (numI_eq (by omega) (by omega)).symm, Below.refl _ _⟩
theorem capped_bl (n : Int) (w : World) : Calls Tryz.prog 71 #[.int .i64 n] w fun e w' => e = .returned (.int .i64 (capI n)) ∧ Below w.heap.size w w' :=
  (capped_any n w).mono fun e w' ⟨he, hw⟩ => ⟨he, by rw [hw]; exact Below.refl _ _⟩
theorem numI_bd (a b : Int) : -1 ≤ numI a b ∧ numI a b ≤ 1 := by unfold numI; split <;> (try split) <;> omega
end Go.Proofs.YthgglobfkkcdgaaGreat
