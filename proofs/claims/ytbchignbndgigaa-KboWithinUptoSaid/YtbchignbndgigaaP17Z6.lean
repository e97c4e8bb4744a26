import Derived.Test.YtbchignbndgigaaP17Z2
import Derived.Test.YtbchignbndgigaaP17Z3
import Derived.Test.YtbchignbndgigaaP17Z4
import Derived.Test.YtbchignbndgigaaP17Z5
import Derived.Test.YtbchignbndgigaaP17Z1
import Derived.ProofKit
import Derived.SizedLaws
import Derived.Deep.Slices
import Derived.Carry
/- kbo: count, walked: a variable, on side 1. -/

namespace Go.Proofs.Ytbchignbndgigaa

open Go.RowKit Go.Shelf Go.Maps
set_option maxRecDepth 100000

set_option maxHeartbeats 4000000 in
theorem count_neg11 (o : Odr) (b : Bal) (t : Tm) (P Q A : Option Addr) (pc qc c bx bm B0 : Nat) (w : World) (hM : BalM w bx bm o P pc Q qc b) (hO : OdrM w B0 o P Q) (hB0 : B0 ≤ w.heap.size) (hk : t.fn < 0 ∨ t.fn < (o.wts.length : Int)) (hOK : BalOK b) (hf64 : I64 t.fn) (hf : t.fn < 0) (hv : ¬ 0 ≤ -b.V t.fn) :
    Calls Try.prog 81 #[.pointer (some ⟨bx, 0, none⟩), .agg #[.int .i64 t.fn, .slice A t.args.length c], .int .i64 1] w (CntPost bx bm o P pc Q qc (cntB o 1 b t.fn) w) := by
  rw [cntB_neg11 hf hv]
  have hvb := hOK.V t.fn
  have hab := hOK.a0
  have hn30 := hOK.n
  have hix : (Instr.index 58 (.agg #[.int .i64 1, .int .i64 (-1)]) (.int .i64 1)).run Try.prog = fun w => .ok (.int .i64 (-1)) w := by funext w; kernel_rfl
  have hbxl := hM.box
  have hbx : bx < w.heap.size := (Array.getElem?_eq_some_iff.1 hbxl).1
  have hbm : bm < w.heap.size := hM.map.lt
  have hnebm := hM.ne
  have q0 := heap_alloc_new w (.cells #[.int .i64 t.fn, .slice A t.args.length c] 27)
  obtain ⟨W, hW⟩ : ∃ W, w.alloc (.cells #[.int .i64 t.fn, .slice A t.args.length c] 27) = W := ⟨_, rfl⟩
  have hB : Below w.heap.size w W := by rw [← hW]; exact (Below.refl _ _).alloc (Nat.le_refl _) _
  rw [hW] at q0
  have hWs : w.heap.size < W.heap.size := (Array.getElem?_eq_some_iff.1 q0).1
  have hMW := hM.keep (hB.block bx hbx) (hB.block bm hbm)
  have hSS : ∀ w', Below W.heap.size W w' → w'.cell? ⟨bx, 0, none⟩ = some (.bool o.lpo) ∧ w'.cell? ⟨bx, 1, none⟩ = some (.slice P o.prec.length pc) ∧ w'.cell? ⟨bx, 2, none⟩ = some (.slice Q o.wts.length qc) ∧ w'.cell? ⟨bx, 3, none⟩ = some (.int .i64 o.var) ∧ w'.cell? ⟨bx, 8, none⟩ = some (.int .i64 b.w1) ∧ w'.cell? ⟨w.heap.size, 0, none⟩ = some (.int .i64 t.fn) ∧ w'.cell? ⟨w.heap.size, 1, none⟩ = some (.slice A t.args.length c) ∧ w'.frozen? ⟨bx, 8, none⟩ = false := fun w' hb => by
    have hx := (hb.block bx (by omega)).trans hMW.box
    obtain ⟨c0, c1, c2, c3, c4, c5, c6, c7, c8⟩ := cells_9 hx
    obtain ⟨d0, d1, _, _⟩ := cells_two ((hb.block _ hWs).trans q0)
    exact ⟨c0, c1, c2, c3, c8, d0, d1, frozen_9 hx _⟩
  have hD := bl_drewN (Below.refl W.heap.size W) 1
  obtain ⟨i0, i1, i2, i3, i4, i5, i6, i7⟩ := hSS W.drew hD
  have H1 := Lib.hid (kboWeight1_any o t P Q A pc qc c W.drew ⟨((hO.p.more hB0).on hB).on hD, ((hO.q.more hB0).on hB).on hD, hO.v⟩ hk)
  have hwt := wtI_bd o t.fn
  have hw0 := hOK.w1
  have hnn := hOK.n
  have hsum : IntKind.i64.wrap (b.w1 + wtI o t.fn) = b.w1 + wtI o t.fn := by rw [IntKind.wrap_i64]; omega
  have HSS := Lib.hid hSS
  have HW := Lib.hid hW
  have HMW := Lib.hid hMW
  have Hq0 := Lib.hid q0
  have HOK := Lib.hid hOK
  obtain ⟨x, hx⟩ : ∃ x, wtI o t.fn = x := ⟨_, rfl⟩
  rw [hx] at H1 hsum hwt
  have Hx := Lib.hid hx
  clear hW hO hSS hMW q0 hM hbxl hx hOK
  go_enter Try.func81, Try.ntmps81
  go_upto_region 1 with fail
  rw [HW.out]
  go_region_law
    (first
      | (go_simp
         go_at_call 44
         with_reducible refine H1.out.mono ?_
         rintro e w1 ⟨rfl, hb1⟩
         have hB1 : Below W.heap.size W w1 := ⟨hb1.os, hb1.tape, hb1.output, hb1.size, hb1.block⟩
         obtain ⟨j0, j1, j2, j3, j4, j5, j6, j7⟩ := HSS.out w1 hB1
         dsimp only)
      | fail)
  all_goals
    have hge : decide (t.fn ≥ 0) = false := decide_eq_false (by omega)
    have hne : bx ≠ w.heap.size := by omega
    obtain ⟨X, hX⟩ : ∃ X, w1.setCell ⟨bx, 8, none⟩ (.int .i64 (b.w1 + x)) = X := ⟨_, rfl⟩
    have hXb : X.heap[bx]? = some (.cells #[.bool o.lpo, .slice P o.prec.length pc, .slice Q o.wts.length qc, .int .i64 o.var, .map (some bm), .int .i64 b.a0, .int .i64 b.a1, .int .i64 b.w0, .int .i64 (b.w1 + x)] 61) := by rw [← hX]; exact set_9 ((hB1.block bx (by omega)).trans HMW.out.box) 8 (.int .i64 (b.w1 + x))
    have hXm : X.heap[bm]? = W.heap[bm]? := by rw [← hX]; exact (heap_setCell_other _ _ _ _ (fun e => hnebm e.symm)).trans (hB1.block bm (by omega))
    have hXt : X.heap[w.heap.size]? = some (.cells #[.int .i64 t.fn, .slice A t.args.length c] 27) := by rw [← hX]; exact (heap_setCell_other _ _ _ _ (show w.heap.size ≠ bx by omega)).trans ((hB1.block _ hWs).trans Hq0.out)
    have hXs : W.heap.size ≤ X.heap.size := by rw [← hX]; simpa using hB1.size
    have hKX : KeepsC (fun g => g = bx ∨ g = bm) w X := by rw [← hX]; exact keepsC_set ((KeepsC.of_below hB).trans (KeepsC.of_below hB1)) _ _
    have hXV := HMW.out.map.kept hXm
    have HX := Lib.hid hX
    obtain ⟨v, hv'⟩ : ∃ v, b.V t.fn = v := ⟨_, rfl⟩
    rw [hv'] at hv hvb
    have Hv := Lib.hid hv'
    have hm1 : IntKind.i64.wrap v = v := by rw [IntKind.wrap_i64]; omega
    have hm2 : IntKind.i64.wrap (v * (-1)) = -v := by rw [IntKind.wrap_i64]; omega
    have hm3 : IntKind.i64.wrap (-v) = -v := by rw [IntKind.wrap_i64]; omega
    have hm4 : IntKind.i64.wrap (v + (-1)) = v + (-1) := by rw [IntKind.wrap_i64]; omega
    have hm5 : IntKind.i64.wrap (b.a0 - 1) = b.a0 - 1 := by rw [IntKind.wrap_i64]; omega
    have hs1 : IntKind.i64.wrap (1 - 1) = 0 := by decide
    have hs2 : IntKind.i64.wrap 0 = 0 := by decide
    have hdec : decide (-v ≥ 0) = false := decide_eq_false (by omega)
    have l0 : ∀ y : Later X.heap.size X, y.w.cell? ⟨bx, 4, none⟩ = some (.map (some bm)) := fun y => (cells_9 ((y.h.block bx (by omega)).trans hXb)).2.2.2.2.1
    have l1 : ∀ y : Later X.heap.size X, y.w.cell? ⟨w.heap.size, 0, none⟩ = some (.int .i64 t.fn) := fun y => (cells_two ((y.h.block _ (by omega)).trans hXt)).1
    have l2 : ∀ y : Later X.heap.size X, (Instr.lookup 57 (.map (some bm)) (.int .i64 t.fn) false).run Try.prog y.w = .ok (.int .i64 v) y.w := fun y => by rw [← hv']; exact (hXV.kept (y.h.block bm (by omega))).look hf64
    have l3 := (cells_two hXt).1
    clear i0 i1 i2 i3 i4 i5 i6 i7 j0 j1 j2 j3 j4 j5 j6 j7 hX hv'
    rw [HX.out]
    go_upto_region 4 with fail
    refine wp_region_later X.heap.size X (by kernel_rfl) (by kernel_rfl) (bl_drewN (Below.refl _ _) 1) ?_
    repeat (go_big_quiet_step (fail))
    refine wpQuiet_nil ?_
    rintro _ ⟨z, rfl⟩
    have hzb := (z.h.block bx (by omega)).trans hXb
    have hzm := z.h.block bm (show bm < X.heap.size by omega)
    have hzt := (z.h.block _ (show w.heap.size < X.heap.size by omega)).trans hXt
    have hzs := z.h.size
    obtain ⟨Z, hZ⟩ : ∃ Z, z.w = Z := ⟨_, rfl⟩
    have hKZ := hKX.trans (KeepsC.of_below z.h)
    rw [hZ] at hzb hzm hzt hzs hKZ ⊢
    have hzV := hXV.kept hzm
    clear l0 l1 l2 l3 hZ
    have d0 : Z.drew.cell? ⟨bx, 5, none⟩ = some (.int .i64 b.a0) := (cells_9 (show Z.drew.heap[bx]? = _ from hzb)).2.2.2.2.2.1
    have d1 := frozen_9 (show Z.drew.heap[bx]? = _ from hzb) 5
    have d2 : Z.drew.cell? ⟨w.heap.size, 0, none⟩ = some (.int .i64 t.fn) := (cells_two (show Z.drew.heap[w.heap.size]? = _ from hzt)).1
    go_upto_region 6 with fail
    go_region_law (fail)
    all_goals
      obtain ⟨Y, hY⟩ : ∃ Y, (Z.setCell ⟨bx, 5, none⟩ (.int .i64 (b.a0 - 1))).drew = Y := ⟨_, rfl⟩
      have hYb : Y.heap[bx]? = some (.cells #[.bool o.lpo, .slice P o.prec.length pc, .slice Q o.wts.length qc, .int .i64 o.var, .map (some bm), .int .i64 (b.a0 - 1), .int .i64 b.a1, .int .i64 b.w0, .int .i64 (b.w1 + x)] 61) := by rw [← hY]; exact set_9 hzb 5 (.int .i64 (b.a0 - 1))
      have hYm : Y.heap[bm]? = Z.heap[bm]? := by rw [← hY]; exact heap_setCell_other Z _ _ _ (fun e => hnebm e.symm)
      have hYt : Y.heap[w.heap.size]? = some (.cells #[.int .i64 t.fn, .slice A t.args.length c] 27) := by rw [← hY]; exact (heap_setCell_other Z _ _ _ (show w.heap.size ≠ bx by omega)).trans hzt
      have hKY : KeepsC (fun g => g = bx ∨ g = bm) w Y := by rw [← hY]; exact Keeps.trans (keepsC_set hKZ _ _) (Keeps.drewN _ (Z.setCell ⟨bx, 5, none⟩ (.int .i64 (b.a0 - 1))) 1)
      have hYV := hzV.kept hYm
      have HY := Lib.hid hY
      clear d0 d1 d2 hY
      rw [HY.out]
      have g0 : Y.drew.cell? ⟨bx, 4, none⟩ = some (.map (some bm)) := (cells_9 (show Y.drew.heap[bx]? = _ from hYb)).2.2.2.2.1
      have g1 : Y.drew.cell? ⟨w.heap.size, 0, none⟩ = some (.int .i64 t.fn) := (cells_two (show Y.drew.heap[w.heap.size]? = _ from hYt)).1
      have hYVd : VMap Y.drew bm b.n b.V := hYV
      have g2 := hYVd.look hf64
      rw [Hv.out] at g2
      obtain ⟨w9, hrun, hV9, hgr⟩ := hYVd.put (by omega) hf64 (v := v + (-1)) ⟨by omega, by omega⟩
      go_upto_region 7 with fail
      go_region_law (fail)
      all_goals
        go_wp2
        go_end0
        refine ⟨rfl, ⟨?_, ?_, hnebm⟩, ?_⟩
        · rw [hgr.block bx (show bx < Y.drew.heap.size from (Array.getElem?_eq_some_iff.1 hYb).1) (by simpa using hnebm)]
          rw [show Y.drew.heap[bx]? = _ from hYb, Hx.out]
        · rw [Hv.out]; exact hV9
        · exact Keeps.trans (Keeps.trans hKY (Keeps.drewN _ Y 1)) ((Keeps.of_grown hgr).mono fun g hg => ⟨by have := hKY.size; show g < Y.heap.size; omega, by have := hg.2; simp; intro e; exact this (.inr e)⟩)

end Go.Proofs.Ytbchignbndgigaa

/- kbo: count, whatever is laid. -/

namespace Go.Proofs.Ytbchignbndgigaa

open Go.RowKit Go.Shelf Go.Maps
set_option maxRecDepth 100000

theorem count_any (o : Odr) (b : Bal) (t : Tm) (P Q A : Option Addr) (pc qc c bx bm B0 : Nat) (at_ : Int) (hat : at_ = 0 ∨ at_ = 1) (w : World) (hM : BalM w bx bm o P pc Q qc b) (hO : OdrM w B0 o P Q) (hB0 : B0 ≤ w.heap.size) (hk : t.fn < 0 ∨ t.fn < (o.wts.length : Int)) (hOK : BalOK b) (hf64 : I64 t.fn) :
    Calls Try.prog 81 #[.pointer (some ⟨bx, 0, none⟩), .agg #[.int .i64 t.fn, .slice A t.args.length c], .int .i64 at_] w (CntPost bx bm o P pc Q qc (cntB o at_ b t.fn) w) := by
  rcases hat with rfl | rfl
  · by_cases hf : t.fn < 0
    · by_cases hv : 0 ≤ b.V t.fn
      · exact count_neg00 o b t P Q A pc qc c bx bm B0 w hM hO hB0 hk hOK hf64 hf hv
      · exact count_neg01 o b t P Q A pc qc c bx bm B0 w hM hO hB0 hk hOK hf64 hf hv
    · exact count_pos0 o b t P Q A pc qc c bx bm B0 w hM hO hB0 hk hOK hf
  · by_cases hf : t.fn < 0
    · by_cases hv : 0 ≤ -b.V t.fn
      · exact count_neg10 o b t P Q A pc qc c bx bm B0 w hM hO hB0 hk hOK hf64 hf hv
      · exact count_neg11 o b t P Q A pc qc c bx bm B0 w hM hO hB0 hk hOK hf64 hf hv
    · exact count_pos1 o b t P Q A pc qc c bx bm B0 w hM hO hB0 hk hOK hf

end Go.Proofs.Ytbchignbndgigaa

/- kbo: lay: all of a term laid on a side. -/

namespace Go.Proofs.Ytbchignbndgigaa

open Go.RowKit Go.Shelf Go.Maps
set_option maxRecDepth 100000

def lvis (o : Odr) (at_ : Int) (b : Bal) (t : Tm) : Bal × Bool := (cntB o at_ b t.fn, true)

def layB (o : Odr) (at_ : Int) (b : Bal) (t : Tm) : Bal := (evT (lvis o at_) b t).1

def lokV (o : Odr) (b : Bal) (t : Tm) : Prop := (t.fn < 0 ∨ t.fn < (o.wts.length : Int)) ∧ BalOK b

theorem know_top {o : Odr} {f : Int} {n : Nat} (h : knowTop o f n = true) : (f < 0 ∨ f < (o.wts.length : Int)) ∧ f < (o.prec.length : Int) ∧ (f < 0 → n = 0) := by
  unfold knowTop at h
  by_cases hf : f < 0
  · rw [if_pos hf] at h
    exact ⟨.inl hf, by omega, fun _ => of_decide_eq_true h⟩
  · rw [if_neg hf, Bool.and_eq_true, decide_eq_true_eq, decide_eq_true_eq] at h
    exact ⟨.inr h.2, h.1, fun h' => absurd h' hf⟩

theorem knowL_mem {o : Odr} : ∀ {xs : List Tm} {t : Tm}, knowL o xs = true → t ∈ xs → knowT o t = true
  | [], _, _, h => by simp at h
  | x :: xs, t, hk, h => by
    rw [knowL, Bool.and_eq_true] at hk
    rcases List.mem_cons.1 h with rfl | h
    · exact hk.1
    · exact knowL_mem hk.2 h

/-- What laying a term does, as far as it is bounded. -/
structure LayOK (o : Odr) (at_ : Int) (b : Bal) (t : Tm) : Prop where
  yes : (evT (lvis o at_) b t).2 = true
  n : (layB o at_ b t).n = b.n + t.size
  ok : BalOK (layB o at_ b t)
  all : okT (lokV o) (lvis o at_) b t

theorem lay_ok (o : Odr) (at_ : Int) (t : Tm) : ∀ b, BalOK b → knowT o t = true → b.n + t.size ≤ 1073741824 → LayOK o at_ b t := by
  have key : ∀ xs : List Tm, (∀ t ∈ xs, ∀ b, BalOK b → knowT o t = true → b.n + t.size ≤ 1073741824 → LayOK o at_ b t) → ∀ b, BalOK b → knowL o xs = true → b.n + sizes xs ≤ 1073741824 →
      (evL (lvis o at_) b xs).2 = true ∧ (evL (lvis o at_) b xs).1.n = b.n + sizes xs ∧ BalOK (evL (lvis o at_) b xs).1 ∧ okL (lokV o) (lvis o at_) b xs := by
    intro xs
    induction xs with
    | nil => intro _ b hb _ _; exact ⟨by rw [evL], by rw [evL]; simp [sizes], by rw [evL]; exact hb, by rw [okL]; trivial⟩
    | cons x xs ih =>
      intro h b hb hk hn
      rw [knowL, Bool.and_eq_true] at hk
      simp only [sizes] at hn ⊢
      have h1 := h x (by simp) b hb hk.1 (by omega)
      have hn1 : (evT (lvis o at_) b x).1.n = b.n + x.size := h1.n
      obtain ⟨k1, k2, k3, k4⟩ := ih (fun t ht => h t (by simp [ht])) (evT (lvis o at_) b x).1 h1.ok hk.2 (by omega)
      have e : evL (lvis o at_) b (x :: xs) = evL (lvis o at_) (evT (lvis o at_) b x).1 xs := by rw [evL, h1.yes]; rfl
      rw [e]
      exact ⟨k1, by omega, k3, by rw [okL]; exact ⟨h1.all, fun _ => k4⟩⟩
  refine Tm.ind (P := fun t => ∀ b, BalOK b → knowT o t = true → b.n + t.size ≤ 1073741824 → LayOK o at_ b t) (fun f xs ih b hb hk hn => ?_) t
  rw [knowT, Bool.and_eq_true] at hk
  simp only [Tm.size] at hn
  have hb1 : BalOK (cntB o at_ b f) := hb.next (by omega) f
  have hn1 : (cntB o at_ b f).n = b.n + 1 := rfl
  obtain ⟨k1, k2, k3, k4⟩ := key xs ih (cntB o at_ b f) hb1 hk.2 (by omega)
  have e : evT (lvis o at_) b (.node f xs) = evL (lvis o at_) (cntB o at_ b f) xs := by rw [evT]; rfl
  refine ⟨by rw [e]; exact k1, ?_, ?_, ?_⟩
  · show (evT (lvis o at_) b (.node f xs)).1.n = _
    rw [e]; simp only [Tm.size]; omega
  · show BalOK (evT (lvis o at_) b (.node f xs)).1
    rw [e]; exact k3
  · rw [okT]
    exact ⟨⟨(know_top hk.1).1, hb⟩, fun _ => k4⟩

/-- What the balance's calls share: the balance, the order's rows. -/
structure BalW (o : Odr) (P Q : Option Addr) (pc qc bx bm B0 : Nat) (b : Bal) (w : World) : Prop where
  m : BalM w bx bm o P pc Q qc b
  o : OdrM w B0 o P Q
  lx : B0 ≤ bx
  lm : B0 ≤ bm

theorem BalW.lt {o : Odr} {P Q : Option Addr} {pc qc bx bm B0 : Nat} {b : Bal} {w : World} (h : BalW o P Q pc qc bx bm B0 b w) : bx < w.heap.size ∧ bm < w.heap.size := ⟨(Array.getElem?_eq_some_iff.1 h.m.box).1, h.m.map.lt⟩

theorem OdrM.blw {w w' : World} {B : Nat} {o : Odr} {P Q : Option Addr} (h : OdrM w B o P Q) (hk : ∀ g, g < B → w'.heap[g]? = w.heap[g]?) : OdrM w' B o P Q :=
  ⟨h.p.keep fun p hp => World.cell?_of_block (hk p.block hp), h.q.keep fun p hp => World.cell?_of_block (hk p.block hp), h.v⟩

theorem BalW.keep {o : Odr} {P Q : Option Addr} {pc qc bx bm B0 : Nat} {b : Bal} {w w' : World} (h : BalW o P Q pc qc bx bm B0 b w) (hk : ∀ g, g < B0 ∨ g = bx ∨ g = bm → w'.heap[g]? = w.heap[g]?) : BalW o P Q pc qc bx bm B0 b w' :=
  ⟨h.m.keep (hk bx (.inr (.inl rfl))) (hk bm (.inr (.inr rfl))), h.o.blw fun g hg => hk g (.inl hg), h.lx, h.lm⟩

theorem BalW.on {o : Odr} {P Q : Option Addr} {pc qc bx bm B0 : Nat} {b : Bal} {w w' : World} (h : BalW o P Q pc qc bx bm B0 b w) (hb : Below w.heap.size w w') : BalW o P Q pc qc bx bm B0 b w' :=
  h.keep fun g hg => hb.block g (by have := h.lt; have := h.lx; have := h.lm; omega)

/-- Another balance at the same place. -/
theorem BalW.next {o : Odr} {P Q : Option Addr} {pc qc bx bm B0 : Nat} {b b' : Bal} {w w' : World} (h : BalW o P Q pc qc bx bm B0 b w) (hm : BalM w' bx bm o P pc Q qc b') (hk : KeepsC (fun g => g = bx ∨ g = bm) w w') : BalW o P Q pc qc bx bm B0 b' w' :=
  ⟨hm, h.o.blw fun g hg => hk.block (by have := h.lt; have := h.lx; omega) (by rintro (e | e) <;> (have := h.lx; have := h.lm; omega)), h.lx, h.lm⟩

theorem count_at {o : Odr} {P Q : Option Addr} {pc qc bx bm B0 : Nat} {b : Bal} {w : World} (h : BalW o P Q pc qc bx bm B0 b w) (t : Tm) (A : Option Addr) (c : Nat) (at_ : Int) (hat : at_ = 0 ∨ at_ = 1) (hk : t.fn < 0 ∨ t.fn < (o.wts.length : Int)) (hOK : BalOK b) (hf : I64 t.fn) :
    Calls Try.prog 81 #[.pointer (some ⟨bx, 0, none⟩), .agg #[.int .i64 t.fn, .slice A t.args.length c], .int .i64 at_] w fun e w' => e = .returned (.tuple #[]) ∧ BalW o P Q pc qc bx bm B0 (cntB o at_ b t.fn) w' ∧ KeepsC (fun g => g = bx ∨ g = bm) w w' :=
  (count_any o b t P Q A pc qc c bx bm B0 at_ hat w h.m h.o (by have := h.lt; have := h.lx; omega) hk hOK hf).mono fun e w' ⟨he, hm, hkk⟩ => ⟨he, h.next hm hkk, hkk⟩

set_option maxHeartbeats 1000000 in
theorem lay1_any {o : Odr} {P Q : Option Addr} {pc qc bx bm B0 : Nat} {b : Bal} {w : World} (h : BalW o P Q pc qc bx bm B0 b w) (t : Tm) (A : Option Addr) (c pb ps : Nat) (at_ : Int) (hat : at_ = 0 ∨ at_ = 1) (hk : t.fn < 0 ∨ t.fn < (o.wts.length : Int)) (hOK : BalOK b) (hf : I64 t.fn)
    (hpb : Boxed w pb 81 (.pointer (some ⟨bx, 0, none⟩))) (hps : Boxed w ps 83 (.int .i64 at_)) :
    Calls Try.prog 96 #[.agg #[.int .i64 t.fn, .slice A t.args.length c], .pointer (some ⟨pb, 0, none⟩), .pointer (some ⟨ps, 0, none⟩)] w fun e w' => e = .returned (.bool true) ∧ BalW o P Q pc qc bx bm B0 (cntB o at_ b t.fn) w' ∧ KeepsC (fun g => g = bx ∨ g = bm) w w' := by
  have q0 := heap_alloc_new w (.cells #[.int .i64 t.fn, .slice A t.args.length c] 27)
  obtain ⟨W, hW⟩ : ∃ W, w.alloc (.cells #[.int .i64 t.fn, .slice A t.args.length c] 27) = W := ⟨_, rfl⟩
  have hB : Below w.heap.size w W := by rw [← hW]; exact (Below.refl _ _).alloc (Nat.le_refl _) _
  rw [hW] at q0
  obtain ⟨x0, x1, _, _⟩ := cells_two q0
  have c1 := Boxed.cell (show Boxed W pb _ _ from (hB.block _ hpb.lt).trans hpb)
  have c2 := Boxed.cell (show Boxed W ps _ _ from (hB.block _ hps.lt).trans hps)
  have H1 := Lib.hid (count_at (h.on hB) t A c at_ hat hk hOK hf)
  have HW := Lib.hid hW
  clear hW h q0
  go_enter Try.func96, Try.ntmps96
  go_upto_region 1 with fail
  rw [HW.out]
  go_wp2_with (first
    | (go_at_call 81; (with_reducible refine H1.out.mono ?_); go_must (rintro e w1 ⟨rfl, hI1, hk1⟩; have HI1 := Lib.hid hI1; clear hI1))
    | fail)
  go_ret
  exact ⟨rfl, HI1.out, (KeepsC.of_below hB).trans hk1⟩

theorem lay1_vis (o : Odr) (P Q : Option Addr) (pc qc bx bm B0 B1 pb ps : Nat) (at_ : Int) (hat : at_ = 0 ∨ at_ = 1) (h1 : B0 ≤ bx) (h2 : B0 ≤ bm) (h3 : bx < pb) (h4 : bm < pb) (h5 : pb < ps) (h6 : ps < B1) :
    VisC (lokV o) (lvis o at_) 96 #[.pointer (some ⟨pb, 0, none⟩), .pointer (some ⟨ps, 0, none⟩)] (fun g => g = bx ∨ g = bm) (· < B1) (· < B0)
      (fun b W => BalW o P Q pc qc bx bm B0 b W ∧ Boxed W pb 81 (.pointer (some ⟨bx, 0, none⟩)) ∧ Boxed W ps 83 (.int .i64 at_)) B1 where
  ent := enters_of Try.func96 (by kernel_rfl) rfl
  call := fun b t A c W hB1 hI hf hV hA => (lay1_any hI.1 t A c pb ps at_ hat hV.1 hV.2 hf hI.2.1 hI.2.2).mono fun e w' ⟨he, hI', hk⟩ =>
    ⟨he, ⟨hI', (hk.block hI.2.1.lt (by rintro (e | e) <;> omega)).trans hI.2.1, (hk.block hI.2.2.lt (by rintro (e | e) <;> omega)).trans hI.2.2⟩, hk⟩
  stay := fun b W W' h hk => ⟨h.1.keep fun g hg => hk.block g (by omega), (hk.block pb (by omega)).trans h.2.1, (hk.block ps h6).trans h.2.2⟩
  cb := fun g e => by omega
  db := fun g e => e
  nb := fun g e => by omega
  nc := fun g e => by rintro (e' | e') <;> omega

set_option maxHeartbeats 1000000 in
theorem lay_any {o : Odr} {P Q : Option Addr} {pc qc bx bm B0 : Nat} {b : Bal} {w : World} (h : BalW o P Q pc qc bx bm B0 b w) (t : Tm) (A : Option Addr) (c : Nat) (at_ : Int) (hat : at_ = 0 ∨ at_ = 1) (hOK : BalOK b) (hk : knowT o t = true) (hn : b.n + t.size ≤ 1073741824) (hf : I64 t.fn) (hA : ArgsN w (· < B0) A t.args) :
    Calls Try.prog 79 #[.pointer (some ⟨bx, 0, none⟩), .agg #[.int .i64 t.fn, .slice A t.args.length c], .int .i64 at_] w fun e w' => e = .returned (.tuple #[]) ∧ BalW o P Q pc qc bx bm B0 (layB o at_ b t) w' ∧ KeepsC (fun g => g = bx ∨ g = bm) w w' := by
  obtain ⟨q0, q1, q2⟩ := heap3 w (.cells #[.pointer (some ⟨bx, 0, none⟩)] 81) (.cells #[.int .i64 t.fn, .slice A t.args.length c] 27) (.cells #[.int .i64 at_] 83)
  obtain ⟨W, hW⟩ : ∃ W, (((w.alloc (.cells #[.pointer (some ⟨bx, 0, none⟩)] 81)).alloc (.cells #[.int .i64 t.fn, .slice A t.args.length c] 27)).alloc (.cells #[.int .i64 at_] 83)) = W := ⟨_, rfl⟩
  have hB : Below w.heap.size w W := by rw [← hW]; exact (((Below.refl _ _).alloc (Nat.le_refl _) _).alloc (by simp) _).alloc (by simp; omega) _
  rw [hW] at q0 q1 q2
  have hWs : w.heap.size + 1 + 1 < W.heap.size := (Array.getElem?_eq_some_iff.1 q2).1
  obtain ⟨x0, x1, _, _⟩ := cells_two q1
  obtain ⟨hlx, hlm⟩ := h.lt
  have hl := lay_ok o at_ t b hOK hk hn
  have h1 := each_any (lay1_vis o P Q pc qc bx bm B0 W.heap.size w.heap.size (w.heap.size + 1 + 1) at_ hat h.lx h.lm hlx hlm (by omega) hWs) t b A c W (Nat.le_refl _) ⟨h.on hB, q0, q2⟩ hf hl.all (hA.keep fun g e => hB.block g (by have := h.lx; omega))
  unfold VisPost at h1
  rw [hl.yes] at h1
  have H1 := Lib.hid h1
  have HW := Lib.hid hW
  clear hW h hA q0 q1 q2 h1 hl
  go_enter Try.func79, Try.ntmps79
  go_upto_region 1 with fail
  rw [HW.out]
  go_wp2_with (first
    | (go_at_call 42; (with_reducible refine H1.out.mono ?_); go_must (rintro e w1 ⟨rfl, hI1, hk1⟩; have HI1 := Lib.hid hI1; clear hI1))
    | fail)
  go_end0
  exact ⟨rfl, HI1.out.1, (KeepsC.of_below hB).trans hk1⟩

end Go.Proofs.Ytbchignbndgigaa

/- What an argument reads as: signatures and lists of symbols, opened. -/

namespace Go.Proofs.Ytbchignbndgigaa

open Go.ChangeShapes Go.WideShapes Go.ChangeAt Go.RowKit

section

variable {H : Type} {enc : TypeId × Value → H} {W : World} {base : Nat} {sp : Nat → Bool} {held : Bool}

theorem cellsSym : Try.prog.cellsOf 89 = 3 := by kernel_rfl

theorem cellsStr : Try.prog.cellsOf 9 = 1 := by kernel_rfl

theorem cellsInt : Try.prog.cellsOf 3 = 1 := by kernel_rfl

theorem cellsBool : Try.prog.cellsOf 4 = 1 := by kernel_rfl

theorem cellsSlice : Try.prog.cellsOf 34 = 1 := by kernel_rfl

theorem cellsSig : Try.prog.cellsOf 36 = 1 := by kernel_rfl

theorem bytesSym : Try.prog.bytesOf 89 = 32 := by kernel_rfl

set_option maxRecDepth 20000 in
theorem trod_sym {n : Nat} {cs : List Value} {x : DataW H × List MemPlace} (h : DataW.trod enc Try.prog W base sp held n 89 cs = some x) :
    ∃ s : Sm, cs = [.string s.name, .int .i64 s.arity, .bool s.pred] ∧ s.Ok ∧ x.1 = .agg [.lit (.string s.name.data.toList), .lit (.int .i64 s.arity), .lit (.bool s.pred)] := by
  obtain ⟨xs, n', _, hx, hlen, hxs, hf⟩ := DataW.trod_struct Try.underlying89 h
  rw [cellsSym] at hlen
  match cs, hlen with
  | [c0, c1, c2], _ =>
    have hx3 : xs.length = 3 := by rw [hxs]; rfl
    match xs, hx3 with
    | [x0, x1, x2], _ =>
      have g0 := hf 0 _ rfl
      have g1 := hf 1 _ rfl
      have g2 := hf 2 _ rfl
      simp [cellsStr] at g0
      simp [cellsInt] at g1
      simp [cellsBool] at g2
      obtain ⟨a, ha, ea, hs⟩ := DataW.trod_string Try.underlying9 g0
      obtain ⟨b, hb, eb, hw⟩ := DataW.trod_int Try.underlying3 g1
      obtain ⟨c, hc, ec⟩ := DataW.trod_bool Try.underlying4 g2
      injection ha with ha; injection hb with hb; injection hc with hc
      subst ha; subst hb; subst hc
      have hw' : -9223372036854775808 ≤ b ∧ b ≤ 9223372036854775807 := by
        have := hw
        simp [Lit.wf, IntKind.min, IntKind.max, IntKind.signed, IntKind.bits] at this
        exact this
      exact ⟨⟨a, b, c⟩, rfl, ⟨hs, hw'.1, hw'.2⟩, by rw [hx]; simp [ea, eb, ec]⟩

theorem cell_spot {W : World} {a : Addr} {v : Value} (h : W.cell? a = some v) : a.spot = none := by
  unfold World.cell? at h
  split at h
  · split at h
    · cases h
    · rename_i hs; simpa using hs
  · cases h

theorem trod_syms {n : Nat} {v : Value} {x : DataW H × List MemPlace} (h : DataW.trod enc Try.prog W base (fun _ => true) held n 34 [v] = some x) :
    ∃ (A : Option Addr) (len c : Nat) (l : List Sm), v = .slice A len c ∧ Syms W W.heap.size A len l ∧ (len = 0 ∨ ∃ elems spare, x.1 = .slice elems spare ∧ elems.length = len) := by
  rcases Go.Deep.open_slice Try.underlying34 h with ⟨hv, _⟩ | ⟨a, len, cap, m, n', D, Pl, hv, hb, hl, hm, hmm, hx, hi⟩
  · injection hv with hv
    subst hv
    exact ⟨none, 0, 0, [], rfl, Syms.nil_ _ _ _, .inl rfl⟩
  · injection hv with hv
    subst hv
    have hcap : m = cap := by simpa using hmm
    subst hcap
    have each : ∀ i, i < len → ∃ s : Sm, s.Ok ∧ W.cell? (a.add (i * 3)) = some (.string s.name) ∧ W.cell? ((a.add (i * 3)).add 1) = some (.int .i64 s.arity) ∧ W.cell? ((a.add (i * 3)).add 2) = some (.bool s.pred) := by
      intro i hlt
      obtain ⟨cs', hc, ht⟩ := hi i (by omega)
      rw [cellsSym] at hc
      obtain ⟨_, _, hat⟩ := World.cells?_some hc
      obtain ⟨s, rfl, hok, _⟩ := trod_sym ht
      refine ⟨s, hok, ?_, hat 1 (by omega), hat 2 (by omega)⟩
      have := hat 0 (by omega)
      simpa [Addr.add] using this
    obtain ⟨q, hq⟩ := Go.Deep.choose_lt each
    refine ⟨some a, len, m, (List.range len).map q, rfl, ⟨by simp, fun s hs => ?_, fun hpos => ?_⟩, .inr ⟨(List.range len).map D, _, by rw [hx], by simp⟩⟩
    · obtain ⟨i, hir, rfl⟩ := List.mem_map.1 hs
      exact (hq i (List.mem_range.1 hir)).1
    · have c0 := (hq 0 hpos).2.1
      simp only [Nat.zero_mul, Addr.add, if_true] at c0
      obtain ⟨blk, off, spot⟩ := a
      obtain rfl : spot = none := cell_spot c0
      refine ⟨blk, off, rfl, ?_, fun i s hs => ?_⟩
      · unfold World.cell? at c0
        rcases Nat.lt_or_ge blk W.heap.size with h1 | h1
        · exact h1
        · simp [Array.getElem?_eq_none h1] at c0
      · have hilt : i < len := by
          have := (List.getElem?_eq_some_iff.1 hs).1
          simpa using this
        have he : q i = s := by
          rw [List.getElem?_map, List.getElem?_range hilt] at hs
          simpa using hs
        obtain ⟨_, h1, h2, h3⟩ := hq i hilt
        rw [he] at h1 h2 h3
        rw [Addr.add_lit] at h1 h2 h3
        rw [Addr.add_lit] at h2 h3
        exact ⟨h1, h2, h3⟩

set_option maxRecDepth 20000 in
/-- A signature that is an argument. -/
theorem open_sig {r : Reach} {b0 : Nat} {v : Value} {d : DataW H} {ps : List MemPlace} (hv : Value.okWide Try.prog W r b0 36 v) (h : DataW.Trod enc Try.prog W base (fun _ => true) held 36 v d ps) :
    ∃ (A : Option Addr) (len c : Nat) (l : List Sm), v = .agg #[.slice A len c] ∧ Syms W W.heap.size A len l ∧ (len = 0 ∨ ∃ elems spare, d = .agg [.slice elems spare] ∧ elems.length = len) := by
  obtain ⟨cs, rfl, hsz⟩ := okWide_struct Try.underlying36 hv
  rw [cellsSig] at hsz
  obtain ⟨fuel, hf⟩ := h
  obtain ⟨xs, n, _, hx, _, hxs, hg⟩ := DataW.trod_struct Try.underlying36 hf
  obtain ⟨cl⟩ := cs
  match cl, hsz with
  | [c0], _ =>
    have hx1 : xs.length = 1 := by rw [hxs]; rfl
    match xs, hx1 with
    | [x0], _ =>
      have g0 := hg 0 _ rfl
      simp [Value.cells, cellsSlice] at g0
      obtain ⟨A, len, c, l, rfl, hS, hd⟩ := trod_syms g0
      refine ⟨A, len, c, l, rfl, hS, ?_⟩
      rcases hd with h0 | ⟨elems, spare, he, hl⟩
      · exact .inl h0
      · right
        simp only [Prod.mk.injEq] at hx
        exact ⟨elems, spare, by rw [hx.1]; simp [he], hl⟩

/-- Symbols that are an argument. -/
theorem open_list {v : Value} {d : DataW H} {ps : List MemPlace} (hc : v.cells.toList = [v]) (h : DataW.Trod enc Try.prog W base (fun _ => true) held 34 v d ps) :
    ∃ (A : Option Addr) (len c : Nat) (l : List Sm), v = .slice A len c ∧ Syms W W.heap.size A len l ∧ (len = 0 ∨ ∃ elems spare, d = .slice elems spare ∧ elems.length = len) := by
  obtain ⟨fuel, hf⟩ := h
  rw [hc] at hf
  exact trod_syms hf

/-- How long such an argument may be. -/
theorem sig_size {ts : List TypeId} {ds : List (DataW H)} (h : (DataW.weightsEach Try.prog ts ds).all (· ≤ reachBytes) = true) {j : Nat} {d : DataW H} {len : Nat} (ht : ts[j]? = some 36) (hd : ds[j]? = some d)
    (hl : len = 0 ∨ ∃ elems spare, d = .agg [.slice elems spare] ∧ elems.length = len) : len * 32 ≤ 140737488351232 := by
  rcases hl with rfl | ⟨elems, spare, rfl, rfl⟩
  · omega
  · have hm := DataW.weights_mem_each (P := Try.prog) ht hd ((elems.length + spare.length) * Try.prog.bytesOf 89) (by
      simp [DataW.weights, Try.underlying36, DataW.weightsEach, Try.underlying34])
    have := List.all_eq_true.1 h _ hm
    rw [bytesSym] at this
    have h2 : (elems.length + spare.length) * 32 ≤ reachBytes := of_decide_eq_true this
    have h3 : reachBytes = 140737488351232 := by decide +kernel
    omega

theorem list_size {ts : List TypeId} {ds : List (DataW H)} (h : (DataW.weightsEach Try.prog ts ds).all (· ≤ reachBytes) = true) {j : Nat} {d : DataW H} {len : Nat} (ht : ts[j]? = some 34) (hd : ds[j]? = some d)
    (hl : len = 0 ∨ ∃ elems spare, d = .slice elems spare ∧ elems.length = len) : len * 32 ≤ 140737488351232 := by
  rcases hl with rfl | ⟨elems, spare, rfl, rfl⟩
  · omega
  · have hm := DataW.weights_mem_each (P := Try.prog) ht hd ((elems.length + spare.length) * Try.prog.bytesOf 89) (by
      simp [DataW.weights, Try.underlying34])
    have := List.all_eq_true.1 h _ hm
    rw [bytesSym] at this
    have h2 : (elems.length + spare.length) * 32 ≤ reachBytes := of_decide_eq_true this
    have h3 : reachBytes = 140737488351232 := by decide +kernel
    omega

end

end Go.Proofs.Ytbchignbndgigaa

