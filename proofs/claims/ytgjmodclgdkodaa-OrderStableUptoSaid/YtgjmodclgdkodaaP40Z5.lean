import Derived.Test.YtgjmodclgdkodaaP40Z4
import Derived.Deep.RegionLaw
/- kbo: count, walked. -/

namespace Go.Proofs.Ytgjmodclgdkodaa

open Go.RowKit Go.Shelf Go.Maps
set_option maxRecDepth 100000

def CntPost (bx bm : Nat) (o : Odr) (P : Option Addr) (pc : Nat) (Q : Option Addr) (qc : Nat) (r : Bal) (w : World) (e : Ending) (w' : World) : Prop :=
  e = .returned (.tuple #[]) ∧ BalM w' bx bm o P pc Q qc r ∧ KeepsC (fun g => g = bx ∨ g = bm) w w'

theorem set_9 {W : World} {b : Nat} {cs : Array Value} {t : TypeId} (h : W.heap[b]? = some (.cells cs t)) (i : Nat) (v : Value) : (W.setCell ⟨b, i, none⟩ v).heap[b]? = some (.cells (cs.setIfInBounds i v) t) := heap_setCell_same _ _ _ _ _ _ h

theorem cntB_pos0 {o : Odr} {b : Bal} {f : Int} (h : ¬ f < 0) : cntB o 0 b f = ⟨b.w0 + wtI o f, b.w1, b.a0, b.a1, b.V, b.n + 1⟩ := by unfold cntB; simp [h]

theorem cntB_pos1 {o : Odr} {b : Bal} {f : Int} (h : ¬ f < 0) : cntB o 1 b f = ⟨b.w0, b.w1 + wtI o f, b.a0, b.a1, b.V, b.n + 1⟩ := by unfold cntB; simp [h]

theorem cntB_neg00 {o : Odr} {b : Bal} {f : Int} (h : f < 0) (hv : 0 ≤ b.V f) : cntB o 0 b f = ⟨b.w0 + wtI o f, b.w1, b.a0 + 1, b.a1, fun x => if x = f then b.V f + 1 else b.V x, b.n + 1⟩ := by unfold cntB sgn; simp [h, hv]

theorem cntB_neg01 {o : Odr} {b : Bal} {f : Int} (h : f < 0) (hv : ¬ 0 ≤ b.V f) : cntB o 0 b f = ⟨b.w0 + wtI o f, b.w1, b.a0, b.a1 - 1, fun x => if x = f then b.V f + 1 else b.V x, b.n + 1⟩ := by unfold cntB sgn; simp [h, hv]

theorem cntB_neg10 {o : Odr} {b : Bal} {f : Int} (h : f < 0) (hv : 0 ≤ -b.V f) : cntB o 1 b f = ⟨b.w0, b.w1 + wtI o f, b.a0, b.a1 + 1, fun x => if x = f then b.V f + -1 else b.V x, b.n + 1⟩ := by unfold cntB sgn; simp [h, show b.V f ≤ 0 by omega]

theorem cntB_neg11 {o : Odr} {b : Bal} {f : Int} (h : f < 0) (hv : ¬ 0 ≤ -b.V f) : cntB o 1 b f = ⟨b.w0, b.w1 + wtI o f, b.a0 - 1, b.a1, fun x => if x = f then b.V f + -1 else b.V x, b.n + 1⟩ := by unfold cntB sgn; simp [h, show ¬ b.V f ≤ 0 by omega]

theorem VMap.more {w : World} {b n m : Nat} {V : Int → Int} (h : VMap w b n V) (hm : n ≤ m) : VMap w b m V := by
  obtain ⟨D, ⟨es, clock, hb, F, hs, hD⟩, hat⟩ := h
  exact ⟨D, ⟨es, clock, hb, F, Nat.le_trans hs hm, hD⟩, hat⟩

theorem keepsC_set {bx bm : Nat} {w w1 : World} (h : KeepsC (fun g => g = bx ∨ g = bm) w w1) (i : Nat) (v : Value) : KeepsC (fun g => g = bx ∨ g = bm) w (w1.setCell ⟨bx, i, none⟩ v) :=
  Keeps.trans h ((Keeps.set w1 ⟨bx, i, none⟩ v).mono fun _ hg e => hg.2 (.inl e))

set_option maxHeartbeats 4000000 in
theorem count_pos0 (o : Odr) (b : Bal) (t : Tm) (P Q A : Option Addr) (pc qc c bx bm B0 : Nat) (w : World) (hM : BalM w bx bm o P pc Q qc b) (hO : OdrM w B0 o P Q) (hB0 : B0 ≤ w.heap.size) (hk : t.fn < 0 ∨ t.fn < (o.wts.length : Int)) (hOK : BalOK b) (hf : ¬ t.fn < 0) :
    Calls Try.prog 84 #[.pointer (some ⟨bx, 0, none⟩), .agg #[.int .i64 t.fn, .slice A t.args.length c], .int .i64 0] w (CntPost bx bm o P pc Q qc (cntB o 0 b t.fn) w) := by
  rw [cntB_pos0 hf]
  have hbxl := hM.box
  have hbx : bx < w.heap.size := (Array.getElem?_eq_some_iff.1 hbxl).1
  have hbm : bm < w.heap.size := hM.map.lt
  have hnebm := hM.ne
  have q0 := heap_alloc_new w (.cells #[.int .i64 t.fn, .slice A t.args.length c] 39)
  obtain ⟨W, hW⟩ : ∃ W, w.alloc (.cells #[.int .i64 t.fn, .slice A t.args.length c] 39) = W := ⟨_, rfl⟩
  have hB : Below w.heap.size w W := by rw [← hW]; exact (Below.refl _ _).alloc (Nat.le_refl _) _
  rw [hW] at q0
  have hWs : w.heap.size < W.heap.size := (Array.getElem?_eq_some_iff.1 q0).1
  have hMW := hM.keep (hB.block bx hbx) (hB.block bm hbm)
  have hSS : ∀ w', Below W.heap.size W w' → w'.cell? ⟨bx, 0, none⟩ = some (.bool o.lpo) ∧ w'.cell? ⟨bx, 1, none⟩ = some (.slice P o.prec.length pc) ∧ w'.cell? ⟨bx, 2, none⟩ = some (.slice Q o.wts.length qc) ∧ w'.cell? ⟨bx, 3, none⟩ = some (.int .i64 o.var) ∧ w'.cell? ⟨bx, 7, none⟩ = some (.int .i64 b.w0) ∧ w'.cell? ⟨w.heap.size, 0, none⟩ = some (.int .i64 t.fn) ∧ w'.cell? ⟨w.heap.size, 1, none⟩ = some (.slice A t.args.length c) ∧ w'.frozen? ⟨bx, 7, none⟩ = false := fun w' hb => by
    have hx := (hb.block bx (by omega)).trans hMW.box
    obtain ⟨c0, c1, c2, c3, c4, c5, c6, c7, c8⟩ := cells_9 hx
    obtain ⟨d0, d1, _, _⟩ := cells_two ((hb.block _ hWs).trans q0)
    exact ⟨c0, c1, c2, c3, c7, d0, d1, frozen_9 hx _⟩
  have hD := bl_drewN (Below.refl W.heap.size W) 1
  obtain ⟨i0, i1, i2, i3, i4, i5, i6, i7⟩ := hSS W.drew hD
  have H1 := Lib.hid (kboWeight1_any o t P Q A pc qc c W.drew ⟨((hO.p.more hB0).on hB).on hD, ((hO.q.more hB0).on hB).on hD, hO.v⟩ hk)
  have hwt := wtI_bd o t.fn
  have hw0 := hOK.w0
  have hnn := hOK.n
  have hsum : IntKind.i64.wrap (b.w0 + wtI o t.fn) = b.w0 + wtI o t.fn := by rw [IntKind.wrap_i64]; omega
  have HSS := Lib.hid hSS
  have HW := Lib.hid hW
  have HMW := Lib.hid hMW
  have Hq0 := Lib.hid q0
  have HOK := Lib.hid hOK
  obtain ⟨x, hx⟩ : ∃ x, wtI o t.fn = x := ⟨_, rfl⟩
  rw [hx] at H1 hsum hwt
  have Hx := Lib.hid hx
  clear hW hO hSS hMW q0 hM hbxl hx hOK
  go_enter Try.func84, Try.ntmps84
  go_upto_region 1 with fail
  rw [HW.out]
  go_region_law
    (first
      | (go_simp
         go_at_call 103
         with_reducible refine H1.out.mono ?_
         rintro e w1 ⟨rfl, hb1⟩
         have hB1 : Below W.heap.size W w1 := ⟨hb1.os, hb1.tape, hb1.output, hb1.size, hb1.block⟩
         obtain ⟨j0, j1, j2, j3, j4, j5, j6, j7⟩ := HSS.out w1 hB1
         dsimp only)
      | fail)
  all_goals
    have hge : decide (t.fn ≥ 0) = true := decide_eq_true (by omega)
    have hne : bx ≠ w.heap.size := by omega
    go_wp2
    go_end0
    refine ⟨rfl, ⟨?_, ?_, hnebm⟩, ?_⟩
    · rw [set_9 ((hB1.block bx (by omega)).trans HMW.out.box) 7 (.int .i64 (b.w0 + x)), Hx.out]
      rfl
    · exact ((HMW.out.map.kept (hB1.block bm (by omega))).kept (heap_setCell_other _ _ _ _ (fun e => hnebm e.symm))).more (Nat.le_succ _)
    · exact keepsC_set ((KeepsC.of_below hB).trans (KeepsC.of_below hB1)) _ _

set_option maxHeartbeats 4000000 in
theorem count_pos1 (o : Odr) (b : Bal) (t : Tm) (P Q A : Option Addr) (pc qc c bx bm B0 : Nat) (w : World) (hM : BalM w bx bm o P pc Q qc b) (hO : OdrM w B0 o P Q) (hB0 : B0 ≤ w.heap.size) (hk : t.fn < 0 ∨ t.fn < (o.wts.length : Int)) (hOK : BalOK b) (hf : ¬ t.fn < 0) :
    Calls Try.prog 84 #[.pointer (some ⟨bx, 0, none⟩), .agg #[.int .i64 t.fn, .slice A t.args.length c], .int .i64 1] w (CntPost bx bm o P pc Q qc (cntB o 1 b t.fn) w) := by
  rw [cntB_pos1 hf]
  have hbxl := hM.box
  have hbx : bx < w.heap.size := (Array.getElem?_eq_some_iff.1 hbxl).1
  have hbm : bm < w.heap.size := hM.map.lt
  have hnebm := hM.ne
  have q0 := heap_alloc_new w (.cells #[.int .i64 t.fn, .slice A t.args.length c] 39)
  obtain ⟨W, hW⟩ : ∃ W, w.alloc (.cells #[.int .i64 t.fn, .slice A t.args.length c] 39) = W := ⟨_, rfl⟩
  have hB : Below w.heap.size w W := by rw [← hW]; exact (Below.refl _ _).alloc (Nat.le_refl _) _
  rw [hW] at q0
  have hWs : w.heap.size < W.heap.size := (Array.getElem?_eq_some_iff.1 q0).1
  have hMW := hM.keep (hB.block bx hbx) (hB.block bm hbm)
  have hSS : ∀ w', Below W.heap.size W w' → w'.cell? ⟨bx, 0, none⟩ = some (.bool o.lpo) ∧ w'.cell? ⟨bx, 1, none⟩ = some (.slice P o.prec.length pc) ∧ w'.cell? ⟨bx, 2, none⟩ = some (.slice Q o.wts.length qc) ∧ w'.cell? ⟨bx, 3, none⟩ = some (.int .i64 o.var) ∧ w'.cell? ⟨bx, 8, none⟩ = some (.int .i64 b.w1) ∧ w'.cell? ⟨w.heap.size, 0, none⟩ = some (.int .i64 t.fn) ∧ w'.cell? ⟨w.heap.size, 1, none⟩ = some (.slice A t.args.length c) ∧ w'.frozen? ⟨bx, 8, none⟩ = false := fun w' hb => by
    have hx := (hb.block bx (by omega)).trans hMW.box
    obtain ⟨c0, c1, c2, c3, c4, c5, c6, c7, c8⟩ := cells_9 hx
    obtain ⟨d0, d1, _, _⟩ := cells_two ((hb.block _ hWs).trans q0)
    exact ⟨c0, c1, c2, c3, c8, d0, d1, frozen_9 hx _⟩
  have hD := bl_drewN (Below.refl W.heap.size W) 1
  obtain ⟨i0, i1, i2, i3, i4, i5, i6, i7⟩ := hSS W.drew hD
  have H1 := Lib.hid (kboWeight1_any o t P Q A pc qc c W.drew ⟨((hO.p.more hB0).on hB).on hD, ((hO.q.more hB0).on hB).on hD, hO.v⟩ hk)
  have hwt := wtI_bd o t.fn
  have hw0 := hOK.w1
  have hnn := hOK.n
  have hsum : IntKind.i64.wrap (b.w1 + wtI o t.fn) = b.w1 + wtI o t.fn := by rw [IntKind.wrap_i64]; omega
  have HSS := Lib.hid hSS
  have HW := Lib.hid hW
  have HMW := Lib.hid hMW
  have Hq0 := Lib.hid q0
  have HOK := Lib.hid hOK
  obtain ⟨x, hx⟩ : ∃ x, wtI o t.fn = x := ⟨_, rfl⟩
  rw [hx] at H1 hsum hwt
  have Hx := Lib.hid hx
  clear hW hO hSS hMW q0 hM hbxl hx hOK
  go_enter Try.func84, Try.ntmps84
  go_upto_region 1 with fail
  rw [HW.out]
  go_region_law
    (first
      | (go_simp
         go_at_call 103
         with_reducible refine H1.out.mono ?_
         rintro e w1 ⟨rfl, hb1⟩
         have hB1 : Below W.heap.size W w1 := ⟨hb1.os, hb1.tape, hb1.output, hb1.size, hb1.block⟩
         obtain ⟨j0, j1, j2, j3, j4, j5, j6, j7⟩ := HSS.out w1 hB1
         dsimp only)
      | fail)
  all_goals
    have hge : decide (t.fn ≥ 0) = true := decide_eq_true (by omega)
    have hne : bx ≠ w.heap.size := by omega
    go_wp2
    go_end0
    refine ⟨rfl, ⟨?_, ?_, hnebm⟩, ?_⟩
    · rw [set_9 ((hB1.block bx (by omega)).trans HMW.out.box) 8 (.int .i64 (b.w1 + x)), Hx.out]
      rfl
    · exact ((HMW.out.map.kept (hB1.block bm (by omega))).kept (heap_setCell_other _ _ _ _ (fun e => hnebm e.symm))).more (Nat.le_succ _)
    · exact keepsC_set ((KeepsC.of_below hB).trans (KeepsC.of_below hB1)) _ _

end Go.Proofs.Ytgjmodclgdkodaa

