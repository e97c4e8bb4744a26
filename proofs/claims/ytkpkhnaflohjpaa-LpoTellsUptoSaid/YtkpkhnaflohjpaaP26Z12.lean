import Derived.Test.YtkpkhnaflohjpaaP26Z5
import Derived.Test.YtkpkhnaflohjpaaP26Z2
import Derived.Test.YtkpkhnaflohjpaaP26Z11
import Derived.Test.YtkpkhnaflohjpaaP26Z1
import Derived.Test.YtkpkhnaflohjpaaP26Z6
import Derived.Test.YtkpkhnaflohjpaaP26Z7
/- boxes of an order and a term -/

namespace Go.Proofs.Ytkpkhnaflohjpaa

open Go.RowKit Go.Shelf Go.Maps
set_option maxRecDepth 100000
set_option maxRecDepth 100000

/-- The boxes of an order and a term that are parameters, and what stays of them. -/
theorem box_ot {w W : World} {o : Odr} {P Q A : Option Addr} {pc qc c n : Nat} {f : Int} (hW : (w.alloc (.cells #[.bool o.lpo, .slice P o.prec.length pc, .slice Q o.wts.length qc, .int .i64 o.var] 24)).alloc (.cells #[.int .i64 f, .slice A n c] 27) = W) :
    Below w.heap.size w W ∧ W.heap.size = w.heap.size + 2 ∧ ∀ w', Below W.heap.size W w' → w'.cell? ⟨w.heap.size, 0, none⟩ = some (.bool o.lpo) ∧ w'.cell? ⟨w.heap.size, 1, none⟩ = some (.slice P o.prec.length pc) ∧ w'.cell? ⟨w.heap.size, 2, none⟩ = some (.slice Q o.wts.length qc) ∧ w'.cell? ⟨w.heap.size, 3, none⟩ = some (.int .i64 o.var) ∧
      w'.cell? ⟨w.heap.size + 1, 0, none⟩ = some (.int .i64 f) ∧ w'.cell? ⟨w.heap.size + 1, 1, none⟩ = some (.slice A n c) := by
  obtain ⟨q0, q1⟩ := heap2 w (.cells #[.bool o.lpo, .slice P o.prec.length pc, .slice Q o.wts.length qc, .int .i64 o.var] 24) (.cells #[.int .i64 f, .slice A n c] 27)
  rw [hW] at q0 q1
  have hz : W.heap.size = w.heap.size + 2 := by rw [← hW]; simp
  refine ⟨by rw [← hW]; exact ((Below.refl _ _).alloc (Nat.le_refl _) _).alloc (by simp) _, hz, fun w' hb => ?_⟩
  obtain ⟨a0, a1, a2, a3⟩ := cells_four ((hb.block _ (by omega)).trans q0)
  obtain ⟨b0, b1, _, _⟩ := cells_two ((hb.block _ (by omega)).trans q1)
  exact ⟨a0, a1, a2, a3, b0, b1⟩

end Go.Proofs.Ytkpkhnaflohjpaa

/- lpo: the document's own knows. -/

namespace Go.Proofs.Ytkpkhnaflohjpaa

open Go.RowKit Go.Shelf Go.Maps
set_option maxRecDepth 100000

theorem layKL_one {R : Nat} {xs : List Tm} {k : Nat} {u : Tm} (h : xs[k]? = some u) : layKL R (xs.take (k + 1)) = (layKL R (xs.take k) && layK R u) := by
  rw [List.take_add_one, h, Option.toList_some, Bool.eq_iff_iff, Bool.and_eq_true, layKL_take, layKL_take]
  simp only [List.mem_append, List.mem_singleton]
  exact ⟨fun h => ⟨fun x hx => h x (.inl hx), h u (.inr rfl)⟩, fun h x hx => hx.elim (h.1 x) fun e => e ▸ h.2⟩

def RKnow9 (o : Odr) (t : Tm) : Prop := ∀ (P Q A : Option Addr) (pc qc c : Nat) (w : World), I64 t.fn → Args w w.heap.size A t.args →
  Calls Try.prog 12 #[.agg #[.bool o.lpo, .slice P o.prec.length pc, .slice Q o.wts.length qc, .int .i64 o.var], .agg #[.int .i64 t.fn, .slice A t.args.length c]] w fun e w' => e = .returned (.bool (layK o.prec.length t)) ∧ Below w.heap.size w w'

set_option maxHeartbeats 2000000 in
theorem refKnows9_any (o : Odr) (t : Tm) : RKnow9 o t := by
  refine Tm.ind (P := RKnow9 o) (fun f xs ih => ?_) t
  intro P Q A pc qc c w hf hA
  simp only [Tm.fn, Tm.args] at hf hA ⊢
  have hlen := hA.len
  obtain ⟨W, hW⟩ : ∃ W, ((w.alloc (.cells #[.bool o.lpo, .slice P o.prec.length pc, .slice Q o.wts.length qc, .int .i64 o.var] 24)).alloc (.cells #[.int .i64 f, .slice A xs.length c] 27)) = W := ⟨_, rfl⟩
  obtain ⟨hB, hz, hS⟩ := box_ot hW
  have HW := Lib.hid hW
  obtain ⟨x0, x1, x2, x3, x4, x5⟩ := hS W (Below.refl _ _)
  have HS := Lib.hid hS
  have HA := Lib.hid hA
  clear hW hS hA
  by_cases hneg : f < 0
  · have hfin := Lib.hid (show layK o.prec.length (.node f xs) = (xs.length == 0) by
      match xs with
      | [] => rw [layK_top (by simp; omega)]; rfl
      | x :: xs => rw [layK_no (.inr ⟨hneg, by simp⟩)]; simp)
    go_enter Try.func12, Try.ntmps12
    go_upto_region 1 with fail
    rw [HW.out]
    go_wp2
    go_ret
    exact ⟨ret_bool (by rw [hfin.out, Bool.eq_iff_iff, beq_iff_eq, beq_iff_eq]; omega), hB⟩
  · by_cases h1 : f < (o.prec.length : Int)
    · have htop := Lib.hid (show layK o.prec.length (.node f xs) = layKL o.prec.length xs from layK_top (by omega))
      have g1 : ¬ f ≥ (o.prec.length : Int) := by omega
      go_enter Try.func12, Try.ntmps12
      go_upto_region 1 with fail
      rw [HW.out]
      go_wp2
      go_loopw [5] (fun i wr => ∃ k : Nat, k ≤ xs.length ∧ i = .int .i64 (k : Int) ∧ Below W.heap.size W wr ∧ Hid (layKL o.prec.length (xs.take k) = true)) (fun i _ => xs.length - (intOf i).toNat)
      case atStart => exact ⟨0, Nat.zero_le _, rfl, Below.refl _ _, Lib.hid (by simp [layKL])⟩
      case round =>
        obtain ⟨k, hk, rfl, hBr, Hkn⟩ := hrel
        obtain ⟨y0, y1, y2, y3, y4, y5⟩ := HS.out wr hBr
        by_cases hkl : k < xs.length
        · obtain ⟨u, hu⟩ : ∃ u, xs[k]? = some u := ⟨_, List.getElem?_eq_getElem hkl⟩
          have hAr := HA.out.on (hB.trans (hBr.mono hB.size))
          obtain ⟨bb, off, A1, c1, hAA, ha⟩ := hAr.get hu
          have HI := Lib.hid (fun y : Later wr.heap.size wr => ih u (List.mem_of_getElem? hu) P Q A1 pc qc c1 y.w ha.hi ((ha.sub.blw y.h).more y.h.size))
          have hT := Lib.hid (layKL_one (R := o.prec.length) hu)
          have m0 : ∀ y : Later wr.heap.size wr, y.w.cell? ⟨w.heap.size, 0, none⟩ = some (.bool o.lpo) := fun y => (HS.out y.w (hBr.trans (y.h.mono hBr.size))).1
          have m1 : ∀ y : Later wr.heap.size wr, y.w.cell? ⟨w.heap.size, 1, none⟩ = some (.slice P o.prec.length pc) := fun y => (HS.out y.w (hBr.trans (y.h.mono hBr.size))).2.1
          have m2 : ∀ y : Later wr.heap.size wr, y.w.cell? ⟨w.heap.size, 2, none⟩ = some (.slice Q o.wts.length qc) := fun y => (HS.out y.w (hBr.trans (y.h.mono hBr.size))).2.2.1
          have m3 : ∀ y : Later wr.heap.size wr, y.w.cell? ⟨w.heap.size, 3, none⟩ = some (.int .i64 o.var) := fun y => (HS.out y.w (hBr.trans (y.h.mono hBr.size))).2.2.2.1
          have m5 : ∀ y : Later wr.heap.size wr, y.w.cell? ⟨w.heap.size + 1, 1, none⟩ = some (.slice A xs.length c) := fun y => (HS.out y.w (hBr.trans (y.h.mono hBr.size))).2.2.2.2.2
          have m6 : ∀ y : Later wr.heap.size wr, y.w.cell? ⟨bb, off + k * 2, none⟩ = some (.int .i64 u.fn) := fun y => cell_on y.h ha.hb ha.c0
          have m7 : ∀ y : Later wr.heap.size wr, y.w.cell? ⟨bb, off + k * 2 + 1, none⟩ = some (.slice A1 u.args.length c1) := fun y => cell_on y.h ha.hb ha.c1
          subst hAA
          cases hku : layK o.prec.length u with
          | false =>
            have hfin := Lib.hid (show layKL o.prec.length xs = false by
              cases h : layKL o.prec.length xs with
              | false => rfl
              | true => rw [(layKL_take xs).1 h u (List.mem_of_getElem? hu)] at hku; cases hku)
            rw [hku] at HI
            clear hku hAr ha hu
            go_upto_region 8 with fail
            refine wp_region_later wr.heap.size wr (by kernel_rfl) (by kernel_rfl) (bl_drewN (Below.refl _ _) 1) ?_
            repeat (go_big_quiet_step (first | (go_at_call 12; with_reducible refine calls_later _ (Nat.le_refl _) (HI.out _)) | fail))
            refine wpQuiet_nil ?_
            rintro _ ⟨z, rfl⟩
            clear m0 m1 m2 m3 m5 m6 m7
            go_wp2
            go_ret
            exact ⟨by rw [htop.out, hfin.out]; rfl, (hB.trans (hBr.mono hB.size)).trans (z.h.mono (Nat.le_trans hB.size hBr.size))⟩
          | true =>
            rw [hku] at HI
            rw [hku, Hkn.out] at hT
            clear hku hAr ha hu
            go_upto_region 8 with fail
            refine wp_region_later wr.heap.size wr (by kernel_rfl) (by kernel_rfl) (bl_drewN (Below.refl _ _) 1) ?_
            repeat (go_big_quiet_step (first | (go_at_call 12; with_reducible refine calls_later _ (Nat.le_refl _) (HI.out _)) | fail))
            refine wpQuiet_nil ?_
            rintro _ ⟨z, rfl⟩
            clear m0 m1 m2 m3 m5 m6 m7
            go_wp2
            go_roundw
            case rel => exact ⟨k + 1, by omega, by go_num, hBr.trans (z.h.mono hBr.size), hT⟩
            case measure => simp [intOf]; omega
        · obtain rfl : k = xs.length := by omega
          have hfin := Lib.hid (show layKL o.prec.length xs = true by have := Hkn.out; rwa [List.take_length] at this)
          go_wp2
          go_ret
          exact ⟨by rw [htop.out, hfin.out]; rfl, hB.trans (hBr.mono hB.size)⟩
    · have hfin := Lib.hid (show layK o.prec.length (.node f xs) = false from layK_no (.inl (by omega)))
      have g3 : f ≥ (o.prec.length : Int) := by omega
      clear h1
      go_enter Try.func12, Try.ntmps12
      go_upto_region 1 with fail
      rw [HW.out]
      go_wp2
      go_ret
      exact ⟨by rw [hfin.out]; rfl, hB⟩

end Go.Proofs.Ytkpkhnaflohjpaa

/- lpo: the document's own Has. -/

namespace Go.Proofs.Ytkpkhnaflohjpaa

open Go.RowKit Go.Shelf Go.Maps
set_option maxRecDepth 100000

theorem hasL_some {v : Int} {xs : List Tm} {k : Nat} {u : Tm} (h : xs[k]? = some u) (hu : 0 < ofT v u) : 0 < ofL v xs := by
  have h1 := ofL_take (v := v) h
  have h2 := ofL_append v (xs.take (k + 1)) (xs.drop (k + 1))
  rw [List.take_append_drop] at h2
  omega

def RHas (v : Int) (t : Tm) : Prop := ∀ (A : Option Addr) (c : Nat) (w : World), I64 t.fn → Args w w.heap.size A t.args →
  Calls Try.prog 30 #[.agg #[.int .i64 t.fn, .slice A t.args.length c], .int .i64 (-1 - v)] w fun e w' => e = .returned (.bool (decide (0 < ofT v t))) ∧ Below w.heap.size w w'

set_option maxHeartbeats 2000000 in
theorem refHas2_any (v : Int) (hv : I64 v) (t : Tm) : RHas v t := by
  refine Tm.ind (P := RHas v) (fun f xs ih => ?_) t
  intro A c w hf hA
  simp only [Tm.fn, Tm.args] at hf hA ⊢
  have hlen := hA.len
  obtain ⟨W, hW⟩ : ∃ W, w.alloc (.cells #[.int .i64 f, .slice A xs.length c] 27) = W := ⟨_, rfl⟩
  obtain ⟨hB, hlt, hS⟩ := box_term hW
  have HW := Lib.hid hW
  have HS := Lib.hid hS
  have HA := Lib.hid hA
  obtain ⟨x0, x1⟩ := hS W (Below.refl _ _)
  have hwr : IntKind.i64.wrap (-1 - (-1 - v)) = v := by rw [IntKind.wrap_i64]; unfold I64 at hv; omega
  clear hW hS hA
  by_cases hfv : f = v
  · have hfin := Lib.hid (show decide (0 < ofT v (.node f xs)) = true by rw [ofT, if_pos hfv, decide_eq_true_eq]; omega)
    have g1 : (f == v) = true := by rw [beq_iff_eq]; exact hfv
    clear hfv
    go_enter Try.func30, Try.ntmps30
    go_upto_region 1 with fail
    rw [HW.out]
    go_wp2
    go_ret
    exact ⟨by rw [hfin.out]; rfl, hB⟩
  · have hfin0 : ofT v (.node f xs) = ofL v xs := by rw [ofT, if_neg hfv]; omega
    have Hfin := Lib.hid hfin0
    have g1 : (f == v) = false := by rw [beq_eq_false_iff_ne]; exact hfv
    clear hfin0 hfv
    go_enter Try.func30, Try.ntmps30
    go_upto_region 1 with fail
    rw [HW.out]
    go_wp2
    clear g1
    go_loopw [5] (fun i wr => ∃ k : Nat, k ≤ xs.length ∧ i = .int .i64 (k : Int) ∧ Below W.heap.size W wr ∧ Hid (ofL v (xs.take k) = 0)) (fun i _ => xs.length - (intOf i).toNat)
    case atStart => exact ⟨0, Nat.zero_le _, rfl, Below.refl _ _, Lib.hid (by simp [ofL])⟩
    case round =>
      obtain ⟨k, hk, rfl, hBr, Hz⟩ := hrel
      obtain ⟨y0, y1⟩ := HS.out wr hBr
      by_cases hkl : k < xs.length
      · obtain ⟨u, hu⟩ : ∃ u, xs[k]? = some u := ⟨_, List.getElem?_eq_getElem hkl⟩
        obtain ⟨bb, off, A1, c1, rfl, ha⟩ := (HA.out.on (hB.trans (hBr.mono hB.size))).get hu
        have e0 := ha.c0
        have e1 := ha.c1
        have HI := Lib.hid (ih u (List.mem_of_getElem? hu) A1 c1 wr ha.hi ha.sub)
        cases hku : decide (0 < ofT v u) with
        | true =>
          have hfin := Lib.hid (show decide (0 < ofT v (.node f xs)) = true by rw [decide_eq_true_eq] at hku ⊢; rw [Hfin.out]; exact hasL_some hu hku)
          rw [hku] at HI
          clear hku ha hu
          go_wp2_with (first
            | (go_at_call 30; (with_reducible refine HI.out.mono ?_); go_must (rintro e w1 ⟨rfl, hb1⟩))
            | fail)
          go_ret
          exact ⟨by rw [hfin.out]; rfl, (hB.trans (hBr.mono hB.size)).trans (hb1.mono (Nat.le_trans hB.size hBr.size))⟩
        | false =>
          have hT := Lib.hid (show ofL v (xs.take (k + 1)) = 0 by rw [decide_eq_false_iff_not] at hku; rw [ofL_take hu, Hz.out]; omega)
          rw [hku] at HI
          clear hku ha hu
          go_wp2_with (first
            | (go_at_call 30; (with_reducible refine HI.out.mono ?_); go_must (rintro e w1 ⟨rfl, hb1⟩))
            | fail)
          go_roundw
          case rel => exact ⟨k + 1, by omega, by go_num, hBr.trans (hb1.mono hBr.size), hT⟩
          case measure => simp [intOf]; omega
      · obtain rfl : k = xs.length := by omega
        have hfin := Lib.hid (show decide (0 < ofT v (.node f xs)) = false by rw [decide_eq_false_iff_not, Hfin.out]; have := Hz.out; rw [List.take_length] at this; omega)
        go_wp2
        go_ret
        exact ⟨by rw [hfin.out]; rfl, hB.trans (hBr.mono hB.size)⟩

end Go.Proofs.Ytkpkhnaflohjpaa

/- lpo: the document's own table of parts (ref09.flat), its rows and their numbers: plain. -/

namespace Go.Proofs.Ytkpkhnaflohjpaa

open Go.RowKit
set_option maxRecDepth 20000

def kidN : Nat → List Tm → List Nat
  | _, [] => []
  | n, x :: xs => n :: kidN (n + x.size) xs

mutual
def ndT : Nat → Tm → List (Tm × List Nat)
  | n, .node f xs => (.node f xs, kidN (n + 1) xs) :: ndL (n + 1) xs
def ndL : Nat → List Tm → List (Tm × List Nat)
  | _, [] => []
  | n, x :: xs => ndT n x ++ ndL (n + x.size) xs
end

theorem kidN_len : ∀ (n : Nat) (xs : List Tm), (kidN n xs).length = xs.length
  | _, [] => rfl
  | n, x :: xs => by rw [kidN, List.length_cons, List.length_cons, kidN_len]

mutual
theorem ndT_len : ∀ (n : Nat) (t : Tm), (ndT n t).length = t.size
  | n, .node f xs => by rw [ndT, List.length_cons, ndL_len, Tm.size]
theorem ndL_len : ∀ (n : Nat) (xs : List Tm), (ndL n xs).length = sizes xs
  | _, [] => by rw [ndL, sizes]; rfl
  | n, x :: xs => by rw [ndL, List.length_append, ndT_len, ndL_len, sizes]
end

theorem ndT_head (n : Nat) (t : Tm) : (ndT n t)[0]? = some (t, kidN (n + 1) t.args) := by
  obtain ⟨f, xs⟩ := t
  rw [ndT]; rfl

theorem kid_at : ∀ (n : Nat) (xs : List Tm) (k : Nat) (x : Tm), xs[k]? = some x → (kidN n xs)[k]? = some (n + sizes (xs.take k)) ∧ (ndL n xs)[sizes (xs.take k)]? = some (x, kidN (n + sizes (xs.take k) + 1) x.args)
  | _, [], _, _, h => by simp at h
  | n, y :: xs, 0, x, h => by
    simp only [List.getElem?_cons_zero, Option.some.injEq] at h
    subst h
    refine ⟨by rw [kidN]; simp [sizes], ?_⟩
    simp only [List.take_zero, sizes, Nat.add_zero]
    rw [ndL, List.getElem?_append_left (by rw [ndT_len]; obtain ⟨f, ys⟩ := y; simp only [Tm.size]; omega)]
    exact ndT_head n y
  | n, y :: xs, k + 1, x, h => by
    rw [List.getElem?_cons_succ] at h
    obtain ⟨h1, h2⟩ := kid_at (n + y.size) xs k x h
    simp only [List.take_succ_cons, sizes]
    refine ⟨?_, ?_⟩
    · rw [kidN, List.getElem?_cons_succ, h1]; congr 1; omega
    · rw [ndL, List.getElem?_append_right (by rw [ndT_len]; omega), ndT_len, show y.size + sizes (xs.take k) - y.size = sizes (xs.take k) by omega, h2, show n + y.size + sizes (xs.take k) + 1 = n + (y.size + sizes (xs.take k)) + 1 by omega]

/-- Each row's numbers are of its arguments' rows. -/
def NdOk (n : Nat) (L : List (Tm × List Nat)) : Prop := ∀ (i : Nat) (u : Tm) (ks : List Nat), L[i]? = some (u, ks) → ks.length = u.args.length ∧ ∀ (k : Nat) (x : Tm), u.args[k]? = some x → ∃ (j : Nat) (kx : List Nat), ks[k]? = some (n + j) ∧ L[j]? = some (x, kx)

mutual
theorem ndT_ok : ∀ (n : Nat) (t : Tm), NdOk n (ndT n t)
  | n, .node f xs => by
    intro i u ks h
    rw [ndT] at h ⊢
    cases i with
    | zero =>
      simp only [List.getElem?_cons_zero, Option.some.injEq, Prod.mk.injEq] at h
      obtain ⟨rfl, rfl⟩ := h
      refine ⟨kidN_len _ _, fun k x hx => ?_⟩
      obtain ⟨h1, h2⟩ := kid_at (n + 1) xs k x hx
      exact ⟨sizes (xs.take k) + 1, _, by rw [h1]; congr 1; omega, by rw [List.getElem?_cons_succ]; exact h2⟩
    | succ i =>
      rw [List.getElem?_cons_succ] at h
      obtain ⟨h1, h2⟩ := ndL_ok (n + 1) xs i u ks h
      refine ⟨h1, fun k x hx => ?_⟩
      obtain ⟨j, kx, h3, h4⟩ := h2 k x hx
      exact ⟨j + 1, kx, by rw [h3]; congr 1; omega, by rw [List.getElem?_cons_succ]; exact h4⟩
theorem ndL_ok : ∀ (n : Nat) (xs : List Tm), NdOk n (ndL n xs)
  | _, [] => by intro i u ks h; rw [ndL] at h; simp at h
  | n, x :: xs => by
    intro i u ks h
    rw [ndL] at h ⊢
    by_cases hi : i < (ndT n x).length
    · rw [List.getElem?_append_left hi] at h
      obtain ⟨h1, h2⟩ := ndT_ok n x i u ks h
      refine ⟨h1, fun k y hy => ?_⟩
      obtain ⟨j, kx, h3, h4⟩ := h2 k y hy
      exact ⟨j, kx, h3, by rw [List.getElem?_append_left (List.getElem?_eq_some_iff.1 h4).1]; exact h4⟩
    · rw [List.getElem?_append_right (by omega)] at h
      obtain ⟨h1, h2⟩ := ndL_ok (n + x.size) xs _ u ks h
      refine ⟨h1, fun k y hy => ?_⟩
      obtain ⟨j, kx, h3, h4⟩ := h2 k y hy
      exact ⟨x.size + j, kx, by rw [h3]; congr 1; omega, by rw [List.getElem?_append_right (by rw [ndT_len]; omega), ndT_len, show x.size + j - x.size = j by omega]; exact h4⟩
end

theorem nd_mem {L : List (Tm × List Nat)} {n i : Nat} {u : Tm} {ks : List Nat} (h : NdOk n L) (hi : L[i]? = some (u, ks)) {k : Nat} {x : Tm} (hx : u.args[k]? = some x) : ∃ j kx, ks[k]? = some (n + j) ∧ L[j]? = some (x, kx) := (h i u ks hi).2 k x hx

end Go.Proofs.Ytkpkhnaflohjpaa

/- lpo: the document's own pair (ref09.pair) in memory: two tables of parts and what was found; what is right of it. -/

namespace Go.Proofs.Ytkpkhnaflohjpaa

open Go.RowKit Go.Shelf Go.Maps
set_option maxRecDepth 100000

/-- A row of a table of parts: a part, and the numbers of its arguments. -/
def NdAt (w : World) (m b o : Nat) (u : Tm) (ks : List Nat) : Prop := I64 u.fn ∧ ∃ (A1 : Option Addr) (c1 : Nat) (K : Option Addr) (kc : Nat),
  w.cell? ⟨b, o, none⟩ = some (.int .i64 u.fn) ∧ w.cell? ⟨b, o + 1, none⟩ = some (.slice A1 u.args.length c1) ∧ w.cell? ⟨b, o + 2, none⟩ = some (.slice K ks.length kc) ∧ Args w m A1 u.args ∧
  (0 < ks.length → ∃ kb ko, K = some ⟨kb, ko, none⟩ ∧ kb < m ∧ ∀ (k j : Nat), ks[k]? = some j → w.cell? ⟨kb, ko + k, none⟩ = some (.int .i64 (j : Int)))

theorem NdAt.blw {w w' : World} {m b o : Nat} {u : Tm} {ks : List Nat} (h : NdAt w m b o u ks) (hb : b < m) (hk : Below m w w') : NdAt w' m b o u ks := by
  obtain ⟨h0, A1, c1, K, kc, e0, e1, e2, hA, hK⟩ := h
  refine ⟨h0, A1, c1, K, kc, cell_on hk hb e0, cell_on hk hb e1, cell_on hk hb e2, hA.blw hk, fun hp => ?_⟩
  obtain ⟨kb, ko, rfl, hkb, hc⟩ := hK hp
  exact ⟨kb, ko, rfl, hkb, fun k j hj => cell_on hk hkb (hc k j hj)⟩

/-- A table of parts at A, below block m. -/
structure NdW (w : World) (m : Nat) (A : Option Addr) (L : List (Tm × List Nat)) : Prop where
  len : L.length ≤ 9223372036854775807
  ad : 0 < L.length → ∃ b off, A = some ⟨b, off, none⟩ ∧ b < m ∧ ∀ (i : Nat) (u : Tm) (ks : List Nat), L[i]? = some (u, ks) → NdAt w m b (off + i * 3) u ks

theorem NdW.blw {w w' : World} {m : Nat} {A : Option Addr} {L : List (Tm × List Nat)} (h : NdW w m A L) (hk : Below m w w') : NdW w' m A L := by
  refine ⟨h.len, fun hp => ?_⟩
  obtain ⟨b, off, rfl, hb, hc⟩ := h.ad hp
  exact ⟨b, off, rfl, hb, fun i u ks hi => (hc i u ks hi).blw hb hk⟩

theorem NdW.get {w : World} {m : Nat} {A : Option Addr} {L : List (Tm × List Nat)} (h : NdW w m A L) {i : Nat} {u : Tm} {ks : List Nat} (hi : L[i]? = some (u, ks)) : ∃ b off, A = some ⟨b, off, none⟩ ∧ b < m ∧ NdAt w m b (off + i * 3) u ks := by
  obtain ⟨b, off, hA, hb, hc⟩ := h.ad (by have := (List.getElem?_eq_some_iff.1 hi).1; omega)
  exact ⟨b, off, hA, hb, hc i u ks hi⟩

/-- The pair at block bp: an order, two tables, and rows of what was found, F. -/
structure PrW (w : World) (bp : Nat) (o : Odr) (P Q : Option Addr) (pc qc : Nat) (A B : Option Addr) (ca cb : Nat) (La Lb : List (Tm × List Nat)) (bo fc : Nat) (rb : Nat → Nat) (F : Nat → Nat → Int) : Prop where
  lt : bp < w.heap.size
  c0 : w.cell? ⟨bp, 0, none⟩ = some (.bool o.lpo)
  c1 : w.cell? ⟨bp, 1, none⟩ = some (.slice P o.prec.length pc)
  c2 : w.cell? ⟨bp, 2, none⟩ = some (.slice Q o.wts.length qc)
  c3 : w.cell? ⟨bp, 3, none⟩ = some (.int .i64 o.var)
  c4 : w.cell? ⟨bp, 4, none⟩ = some (.slice A La.length ca)
  c5 : w.cell? ⟨bp, 5, none⟩ = some (.slice B Lb.length cb)
  c6 : w.cell? ⟨bp, 6, none⟩ = some (.slice (some ⟨bo, 0, none⟩) La.length fc)
  pr : Ints w bp P o.prec
  na : NdW w bp A La
  nb : NdW w bp B Lb
  bol : bp < bo ∧ bo < w.heap.size
  fo : ∀ i, i < La.length → w.cell? ⟨bo, i, none⟩ = some (.slice (some ⟨rb i, 0, none⟩) Lb.length Lb.length)
  rr : ∀ i, i < La.length → bp < rb i ∧ rb i < w.heap.size ∧ rb i ≠ bo
  inj : ∀ i j, i < La.length → j < La.length → rb i = rb j → i = j
  ff : ∀ i k, i < La.length → k < Lb.length → w.cell? ⟨rb i, k, none⟩ = some (.int .i64 (F i k))
  fz : ∀ i k, i < La.length → k < Lb.length → w.frozen? ⟨rb i, k, none⟩ = false

/-- The rows of what was found. -/
def FndC (n : Nat) (rb : Nat → Nat) (g : Nat) : Prop := ∃ i, i < n ∧ rb i = g

def updF (F : Nat → Nat → Int) (i k : Nat) (v : Int) : Nat → Nat → Int := fun i' k' => if i' = i ∧ k' = k then v else F i' k'

section

variable {w w' : World} {bp : Nat} {o : Odr} {P Q : Option Addr} {pc qc : Nat} {A B : Option Addr} {ca cb : Nat} {La Lb : List (Tm × List Nat)} {bo fc : Nat} {rb : Nat → Nat} {F : Nat → Nat → Int}

theorem PrW.on (h : PrW w bp o P Q pc qc A B ca cb La Lb bo fc rb F) (hb : Below w.heap.size w w') : PrW w' bp o P Q pc qc A B ca cb La Lb bo fc rb F := by
  have hm : Below bp w w' := hb.mono (Nat.le_of_lt h.lt)
  exact ⟨Nat.lt_of_lt_of_le h.lt hb.size, cell_on hb h.lt h.c0, cell_on hb h.lt h.c1, cell_on hb h.lt h.c2, cell_on hb h.lt h.c3, cell_on hb h.lt h.c4, cell_on hb h.lt h.c5, cell_on hb h.lt h.c6, h.pr.blw hm, h.na.blw hm, h.nb.blw hm,
    ⟨h.bol.1, Nat.lt_of_lt_of_le h.bol.2 hb.size⟩, fun i hi => cell_on hb h.bol.2 (h.fo i hi), fun i hi => ⟨(h.rr i hi).1, Nat.lt_of_lt_of_le (h.rr i hi).2.1 hb.size, (h.rr i hi).2.2⟩, h.inj,
    fun i k hi hk => cell_on hb (h.rr i hi).2.1 (h.ff i k hi hk), fun i k hi hk => frozen_on hb (h.rr i hi).2.1 (h.fz i k hi hk)⟩

theorem PrW.set (h : PrW w bp o P Q pc qc A B ca cb La Lb bo fc rb F) {i k : Nat} (hi : i < La.length) (hk : k < Lb.length) (v : Int) : PrW (w.setCell ⟨rb i, k, none⟩ (.int .i64 v)) bp o P Q pc qc A B ca cb La Lb bo fc rb (updF F i k v) := by
  obtain ⟨r1, r2, r3⟩ := h.rr i hi
  have hsz : (w.setCell ⟨rb i, k, none⟩ (.int .i64 v)).heap.size = w.heap.size := by simp
  have far : ∀ g o, g ≠ rb i → (w.setCell ⟨rb i, k, none⟩ (.int .i64 v)).cell? ⟨g, o, none⟩ = w.cell? ⟨g, o, none⟩ := fun g o hg => World.cell?_setCell_far w _ _ _ (fun e => hg e.symm)
  have hm : Below bp w (w.setCell ⟨rb i, k, none⟩ (.int .i64 v)) := (Below.refl _ _).setCell (Nat.le_of_lt r1) _
  have hne : bp ≠ rb i := by omega
  refine ⟨by rw [hsz]; exact h.lt, (far _ _ hne).trans h.c0, (far _ _ hne).trans h.c1, (far _ _ hne).trans h.c2, (far _ _ hne).trans h.c3, (far _ _ hne).trans h.c4, (far _ _ hne).trans h.c5, (far _ _ hne).trans h.c6, h.pr.blw hm, h.na.blw hm, h.nb.blw hm,
    ⟨h.bol.1, by rw [hsz]; exact h.bol.2⟩, fun j hj => (far _ _ (Ne.symm r3)).trans (h.fo j hj), fun j hj => by rw [hsz]; exact h.rr j hj, h.inj, fun j l hj hl => ?_, fun j l hj hl => (World.frozen?_setCell _ _ _ _).trans (h.fz j l hj hl)⟩
  by_cases e : j = i ∧ l = k
  · obtain ⟨rfl, rfl⟩ := e
    rw [show updF F j l v j l = v from if_pos ⟨rfl, rfl⟩]
    exact World.cell?_setCell_same _ _ _ (h.ff j l hj hl)
  · rw [show updF F i k v j l = F j l from if_neg e]
    rw [World.cell?_setCell_other]
    · exact h.ff j l hj hl
    · intro e2
      simp only [Addr.mk.injEq] at e2
      exact e ⟨h.inj j i hj hi e2.1.symm, e2.2.1.symm⟩

theorem PrW.below (h : PrW w bp o P Q pc qc A B ca cb La Lb bo fc rb F) (hk : KeepsC (FndC La.length rb) w w') : Below (bp + 1) w w' :=
  hk.below h.lt fun g hg ⟨i, hi, e⟩ => by have := (h.rr i hi).1; omega

end

/-- What is right of two parts. -/
def Rgt (p : List Int) (La Lb : List (Tm × List Nat)) (i k : Nat) (v : Int) : Prop := ∀ u ku x kx, La[i]? = some (u, ku) → Lb[k]? = some (x, kx) → v = if lpT p u x = true then 1 else 2

/-- Of parts that together have at most m parts nothing wrong was found. -/
def UndR (p : List Int) (La Lb : List (Tm × List Nat)) (m : Nat) (F : Nat → Nat → Int) : Prop := ∀ i k u ku x kx, La[i]? = some (u, ku) → Lb[k]? = some (x, kx) → u.size + x.size ≤ m → F i k = 0 ∨ Rgt p La Lb i k (F i k)

/-- What is found later is as it was, or right. -/
def GoesR (p : List Int) (La Lb : List (Tm × List Nat)) (F G : Nat → Nat → Int) : Prop := ∀ i k, G i k = F i k ∨ Rgt p La Lb i k (G i k)

section

variable {p : List Int} {La Lb : List (Tm × List Nat)} {m m' : Nat} {F G H : Nat → Nat → Int}

theorem GoesR.refl (F : Nat → Nat → Int) : GoesR p La Lb F F := fun _ _ => .inl rfl

theorem GoesR.trans (h : GoesR p La Lb F G) (k : GoesR p La Lb G H) : GoesR p La Lb F H := fun i j => by
  rcases k i j with e | e
  · rcases h i j with e2 | e2
    · exact .inl (e.trans e2)
    · exact .inr (by rw [e]; exact e2)
  · exact .inr e

theorem UndR.goes (h : UndR p La Lb m F) (k : GoesR p La Lb F G) : UndR p La Lb m G := fun i j u ku x kx h1 h2 h3 => by
  rcases k i j with e | e
  · rw [e]; exact h i j u ku x kx h1 h2 h3
  · exact .inr e

theorem UndR.mono (h : UndR p La Lb m F) (hm : m' ≤ m) : UndR p La Lb m' F := fun i j u ku x kx h1 h2 h3 => h i j u ku x kx h1 h2 (by omega)

theorem UndR.ask {i k : Nat} {u x : Tm} {ku kx : List Nat} (h : UndR p La Lb (u.size + x.size) F) (h1 : La[i]? = some (u, ku)) (h2 : Lb[k]? = some (x, kx)) (v : Int) : UndR p La Lb (u.size + x.size - 1) (updF F i k v) := by
  intro j l u' ku' x' kx' e1 e2 e3
  have := size_pos u
  have hne : ¬ (j = i ∧ l = k) := by
    rintro ⟨rfl, rfl⟩
    rw [h1] at e1
    rw [h2] at e2
    cases e1
    cases e2
    omega
  rw [show updF F i k v j l = F j l from if_neg hne]
  exact h j l u' ku' x' kx' e1 e2 (by omega)

theorem rgt_one {i k : Nat} {u x : Tm} {ku kx : List Nat} (h1 : La[i]? = some (u, ku)) (h2 : Lb[k]? = some (x, kx)) {v : Int} (hv : v = if lpT p u x = true then 1 else 2) : Rgt p La Lb i k v := by
  intro u' ku' x' kx' e1 e2
  rw [h1] at e1
  rw [h2] at e2
  cases e1
  cases e2
  exact hv

theorem Rgt.eq {i k : Nat} {u x : Tm} {ku kx : List Nat} {v : Int} (h : Rgt p La Lb i k v) (h1 : La[i]? = some (u, ku)) (h2 : Lb[k]? = some (x, kx)) : v = if lpT p u x = true then 1 else 2 := h u ku x kx h1 h2

/-- Above: 2 while it is asked, then 1 where it is so. -/
theorem goes_ask {i k : Nat} {u x : Tm} {ku kx : List Nat} (h1 : La[i]? = some (u, ku)) (h2 : Lb[k]? = some (x, kx)) (h : GoesR p La Lb (updF F i k 2) G) : GoesR p La Lb F (if lpT p u x = true then updF G i k 1 else G) ∧ (if lpT p u x = true then updF G i k 1 else G) i k = if lpT p u x = true then 1 else 2 := by
  cases hl : lpT p u x with
  | true =>
    simp only [if_true]
    refine ⟨fun j l => ?_, if_pos ⟨rfl, rfl⟩⟩
    by_cases e : j = i ∧ l = k
    · obtain ⟨rfl, rfl⟩ := e
      rw [show updF G j l 1 j l = 1 from if_pos ⟨rfl, rfl⟩]
      exact .inr (rgt_one h1 h2 (by rw [hl]; rfl))
    · rw [show updF G i k 1 j l = G j l from if_neg e]
      rcases h j l with e2 | e2
      · exact .inl (e2.trans (if_neg e))
      · exact .inr e2
  | false =>
    simp only [Bool.false_eq_true, if_false]
    have hik : G i k = 2 := by
      rcases h i k with e2 | e2
      · exact e2.trans (if_pos ⟨rfl, rfl⟩)
      · have := e2.eq h1 h2
        rw [hl] at this
        exact this
    refine ⟨fun j l => ?_, hik⟩
    by_cases e : j = i ∧ l = k
    · obtain ⟨rfl, rfl⟩ := e
      exact .inr (by rw [hik]; exact rgt_one h1 h2 (by rw [hl]; rfl))
    · rcases h j l with e2 | e2
      · exact .inl (e2.trans (if_neg e))
      · exact .inr e2

end

end Go.Proofs.Ytkpkhnaflohjpaa

/- lpo: the document's own above, out of what ask does. -/

namespace Go.Proofs.Ytkpkhnaflohjpaa

open Go.RowKit Go.Shelf Go.Maps
set_option maxRecDepth 100000

section

variable {bp : Nat} {o : Odr} {P Q : Option Addr} {pc qc : Nat} {A B : Option Addr} {ca cb : Nat} {La Lb : List (Tm × List Nat)} {bo fc : Nat} {rb : Nat → Nat}

/-- What a call leaves: what it found, and all else as it was. -/
def PrP (bp : Nat) (o : Odr) (P Q : Option Addr) (pc qc : Nat) (A B : Option Addr) (ca cb : Nat) (La Lb : List (Tm × List Nat)) (bo fc : Nat) (rb : Nat → Nat) (F : Nat → Nat → Int) (w w' : World) : Prop := KeepsC (FndC La.length rb) w w' ∧ ∃ G, PrW w' bp o P Q pc qc A B ca cb La Lb bo fc rb G ∧ GoesR o.prec La Lb F G

/-- What above does of parts that together have at most m parts. -/
def AbvI (bp : Nat) (o : Odr) (P Q : Option Addr) (pc qc : Nat) (A B : Option Addr) (ca cb : Nat) (La Lb : List (Tm × List Nat)) (bo fc : Nat) (rb : Nat → Nat) (m : Nat) : Prop :=
  ∀ (i k : Nat) (u : Tm) (ku : List Nat) (x : Tm) (kx : List Nat) (F : Nat → Nat → Int) (w : World), La[i]? = some (u, ku) → Lb[k]? = some (x, kx) → u.size + x.size ≤ m → UndR o.prec La Lb (u.size + x.size) F → PrW w bp o P Q pc qc A B ca cb La Lb bo fc rb F →
    Calls Try.prog 20 #[.pointer (some ⟨bp, 0, none⟩), .int .i64 (i : Int), .int .i64 (k : Int)] w fun e w' => e = .returned (.bool (lpT o.prec u x)) ∧ PrP bp o P Q pc qc A B ca cb La Lb bo fc rb F w w'

def AskI (bp : Nat) (o : Odr) (P Q : Option Addr) (pc qc : Nat) (A B : Option Addr) (ca cb : Nat) (La Lb : List (Tm × List Nat)) (bo fc : Nat) (rb : Nat → Nat) (m : Nat) : Prop :=
  ∀ (i k : Nat) (u : Tm) (ku : List Nat) (x : Tm) (kx : List Nat) (F : Nat → Nat → Int) (w : World), La[i]? = some (u, ku) → Lb[k]? = some (x, kx) → u.size + x.size ≤ m → UndR o.prec La Lb (u.size + x.size - 1) F → PrW w bp o P Q pc qc A B ca cb La Lb bo fc rb F →
    Calls Try.prog 24 #[.pointer (some ⟨bp, 0, none⟩), .int .i64 (i : Int), .int .i64 (k : Int)] w fun e w' => e = .returned (.bool (lpT o.prec u x)) ∧ PrP bp o P Q pc qc A B ca cb La Lb bo fc rb F w w'

theorem PrP.trans {F G : Nat → Nat → Int} {w w1 w2 : World} (hk : KeepsC (FndC La.length rb) w w1) (hg : GoesR o.prec La Lb F G) (h : PrP bp o P Q pc qc A B ca cb La Lb bo fc rb G w1 w2) : PrP bp o P Q pc qc A B ca cb La Lb bo fc rb F w w2 := by
  obtain ⟨h1, H, h2, h3⟩ := h
  exact ⟨hk.trans h1, H, h2, hg.trans h3⟩

theorem keepsC_fnd {n i : Nat} {w w1 : World} (h : KeepsC (FndC n rb) w w1) (hi : i < n) (k : Nat) (v : Value) : KeepsC (FndC n rb) w (w1.setCell ⟨rb i, k, none⟩ v) :=
  Keeps.trans h ((Keeps.set w1 ⟨rb i, k, none⟩ v).mono fun g e => by
    show g ≠ rb i
    rintro rfl
    exact e.2 ⟨i, hi, rfl⟩)

set_option maxHeartbeats 2000000 in
theorem refAbove9_any {m : Nat} (h : AskI bp o P Q pc qc A B ca cb La Lb bo fc rb m) : AbvI bp o P Q pc qc A B ca cb La Lb bo fc rb m := by
  intro i k u ku x kx F w hu hx hz hU hP
  have hi := (List.getElem?_eq_some_iff.1 hu).1
  have hk := (List.getElem?_eq_some_iff.1 hx).1
  have hla := hP.na.len
  have hlb := hP.nb.len
  have e6 := hP.c6
  have e7 := hP.fo i hi
  have e8 := hP.ff i k hi hk
  have e9 := hP.fz i k hi hk
  by_cases h0 : F i k = 0
  · rw [h0] at e8
    have hP1 := hP.set hi hk 2
    have hA := h i k u ku x kx (updF F i k 2) _ hu hx hz (hU.ask hu hx 2) hP1
    cases hl : lpT o.prec u x with
    | true =>
      rw [hl] at hA
      have HA := Lib.hid hA
      have HP := Lib.hid hP
      have HF := Lib.hid (fun G => @goes_ask o.prec La Lb F G i k u x ku kx hu hx)
      simp only [hl, if_true] at HF
      clear hA hP1 hP hU hu hx hl h
      go_enter Try.func20, Try.ntmps20
      go_wp2_with (first
        | (go_at_call 24; (with_reducible refine HA.out.mono ?_); go_must (rintro e w2 ⟨rfl, hK2, G, hP2, hG⟩; have f6 := hP2.c6; have f7 := hP2.fo i hi; have f8 := hP2.ff i k hi hk; have f9 := hP2.fz i k hi hk; have hP3 := hP2.set hi hk 1; have g6 := hP3.c6; have g7 := hP3.fo i hi; have g8 := hP3.ff i k hi hk; rw [show updF G i k 1 i k = 1 from if_pos ⟨rfl, rfl⟩] at g8; have HP3 := Lib.hid hP3; have HG := Lib.hid hG; clear hP2 hP3 hG))
        | fail)
      go_ret
      exact ⟨rfl, keepsC_fnd ((keepsC_fnd (KeepsC.refl _ _) hi k _).trans hK2) hi k _, _, HP3.out, (HF.out _ HG.out).1⟩
    | false =>
      rw [hl] at hA
      have HA := Lib.hid hA
      have HP := Lib.hid hP
      have HF := Lib.hid (fun G => @goes_ask o.prec La Lb F G i k u x ku kx hu hx)
      simp only [hl, Bool.false_eq_true, if_false] at HF
      clear hA hP1 hP hU hu hx hl h
      go_enter Try.func20, Try.ntmps20
      go_wp2_with (first
        | (go_at_call 24; (with_reducible refine HA.out.mono ?_); go_must (rintro e w2 ⟨rfl, hK2, G, hP2, hG⟩; have f6 := hP2.c6; have f7 := hP2.fo i hi; have f8 := hP2.ff i k hi hk; rw [(HF.out _ hG).2] at f8; have HP2 := Lib.hid hP2; have HG := Lib.hid hG; clear hP2 hG))
        | fail)
      go_ret
      exact ⟨rfl, (keepsC_fnd (KeepsC.refl _ _) hi k _).trans hK2, _, HP2.out, (HF.out _ HG.out).1⟩
  · have hR : F i k = if lpT o.prec u x = true then 1 else 2 := by
      rcases hU i k u ku x kx hu hx (Nat.le_refl _) with e | e
      · exact absurd e h0
      · exact e.eq hu hx
    rw [hR] at e8
    have HP := Lib.hid hP
    clear hP hU hu hx h h0 hR
    cases hl : lpT o.prec u x with
    | true =>
      simp only [hl, if_true] at e8
      clear hl
      go_enter Try.func20, Try.ntmps20
      go_wp2
      go_ret
      exact ⟨rfl, KeepsC.refl _ _, F, HP.out, GoesR.refl F⟩
    | false =>
      simp only [hl, Bool.false_eq_true, if_false] at e8
      clear hl
      go_enter Try.func20, Try.ntmps20
      go_wp2
      go_ret
      exact ⟨rfl, KeepsC.refl _ _, F, HP.out, GoesR.refl F⟩

end

end Go.Proofs.Ytkpkhnaflohjpaa

/- lpo: the document's own all, out of what above does of smaller parts. -/

namespace Go.Proofs.Ytkpkhnaflohjpaa

open Go.RowKit Go.Shelf Go.Maps
set_option maxRecDepth 100000

section

variable {bp : Nat} {o : Odr} {P Q : Option Addr} {pc qc : Nat} {A B : Option Addr} {ca cb : Nat} {La Lb : List (Tm × List Nat)} {bo fc : Nat} {rb : Nat → Nat}

def AllI (bp : Nat) (o : Odr) (P Q : Option Addr) (pc qc : Nat) (A B : Option Addr) (ca cb : Nat) (La Lb : List (Tm × List Nat)) (bo fc : Nat) (rb : Nat → Nat) (m : Nat) : Prop :=
  ∀ (i k : Nat) (u : Tm) (ku : List Nat) (x : Tm) (kx : List Nat) (F : Nat → Nat → Int) (w : World), La[i]? = some (u, ku) → Lb[k]? = some (x, kx) → u.size + x.size ≤ m + 1 → UndR o.prec La Lb (u.size + x.size - 1) F → PrW w bp o P Q pc qc A B ca cb La Lb bo fc rb F →
    Calls Try.prog 31 #[.pointer (some ⟨bp, 0, none⟩), .int .i64 (i : Int), .int .i64 (k : Int)] w fun e w' => e = .returned (.bool (x.args.all fun y => lpT o.prec u y)) ∧ PrP bp o P Q pc qc A B ca cb La Lb bo fc rb F w w'

/-- The pair, with what was found since F. -/
def PrI (bp : Nat) (o : Odr) (P Q : Option Addr) (pc qc : Nat) (A B : Option Addr) (ca cb : Nat) (La Lb : List (Tm × List Nat)) (bo fc : Nat) (rb : Nat → Nat) (F : Nat → Nat → Int) (w : World) : Prop := ∃ G, PrW w bp o P Q pc qc A B ca cb La Lb bo fc rb G ∧ GoesR o.prec La Lb F G

theorem PrI.on {F : Nat → Nat → Int} {w w' : World} (h : PrI bp o P Q pc qc A B ca cb La Lb bo fc rb F w) (hb : Below w.heap.size w w') : PrI bp o P Q pc qc A B ca cb La Lb bo fc rb F w' := by
  obtain ⟨G, h1, h2⟩ := h
  exact ⟨G, h1.on hb, h2⟩

theorem AbvI.lat {m : Nat} (h : AbvI bp o P Q pc qc A B ca cb La Lb bo fc rb m) {F : Nat → Nat → Int} {n i k : Nat} {u x : Tm} {ku kx : List Nat} (hU : UndR o.prec La Lb n F) (hu : La[i]? = some (u, ku)) (hx : Lb[k]? = some (x, kx)) (hm : u.size + x.size ≤ m) (hn : u.size + x.size ≤ n) (w : World) (hI : PrI bp o P Q pc qc A B ca cb La Lb bo fc rb F w) :
    Calls Try.prog 20 #[.pointer (some ⟨bp, 0, none⟩), .int .i64 (i : Int), .int .i64 (k : Int)] w fun e w' => e = .returned (.bool (lpT o.prec u x)) ∧ KeepsC (FndC La.length rb) w w' ∧ PrI bp o P Q pc qc A B ca cb La Lb bo fc rb F w' := by
  obtain ⟨G, h1, h2⟩ := hI
  refine (h i k u ku x kx G w hu hx hm ((hU.goes h2).mono hn) h1).mono fun e w' ⟨he, hk, H, h3, h4⟩ => ⟨he, hk, H, h3, h2.trans h4⟩

theorem cellK {C : Nat → Prop} {w w' : World} (h : KeepsC C w w') {g o : Nat} {v : Value} (hg : g < w.heap.size) (hc : ¬ C g) (e : w.cell? ⟨g, o, none⟩ = some v) : w'.cell? ⟨g, o, none⟩ = some v := (World.cell?_of_block (h.block hg hc)).trans e

theorem AllI.lat {m : Nat} (h : AllI bp o P Q pc qc A B ca cb La Lb bo fc rb m) {F : Nat → Nat → Int} {i k : Nat} {u x : Tm} {ku kx : List Nat} (hU : UndR o.prec La Lb (u.size + x.size - 1) F) (hu : La[i]? = some (u, ku)) (hx : Lb[k]? = some (x, kx)) (hm : u.size + x.size ≤ m + 1) (w : World) (hI : PrI bp o P Q pc qc A B ca cb La Lb bo fc rb F w) :
    Calls Try.prog 31 #[.pointer (some ⟨bp, 0, none⟩), .int .i64 (i : Int), .int .i64 (k : Int)] w fun e w' => e = .returned (.bool (x.args.all fun y => lpT o.prec u y)) ∧ KeepsC (FndC La.length rb) w w' ∧ PrI bp o P Q pc qc A B ca cb La Lb bo fc rb F w' := by
  obtain ⟨G, h1, h2⟩ := hI
  refine (h i k u ku x kx G w hu hx hm (hU.goes h2) h1).mono fun e w' ⟨he, hk, H, h3, h4⟩ => ⟨he, hk, H, h3, h2.trans h4⟩

theorem nd_size {x y : Tm} (h : y ∈ x.args) : y.size + 1 ≤ x.size := by
  obtain ⟨f, xs⟩ := x
  have := size_mem (xs := xs) h
  simp only [Tm.size]; omega

theorem all_take {p : Tm → Bool} {xs : List Tm} {j : Nat} {y : Tm} (h : xs[j]? = some y) : (xs.take (j + 1)).all p = ((xs.take j).all p && p y) := by
  rw [List.take_add_one, h, Option.toList_some, List.all_append]; simp

set_option maxHeartbeats 2000000 in
theorem refAll9_any {m : Nat} (h : AbvI bp o P Q pc qc A B ca cb La Lb bo fc rb m) (hNb : NdOk 0 Lb) : AllI bp o P Q pc qc A B ca cb La Lb bo fc rb m := by
  intro i k u ku x kx F w hu hx hz hU hP
  have hi := (List.getElem?_eq_some_iff.1 hu).1
  have hk := (List.getElem?_eq_some_iff.1 hx).1
  have hla := hP.na.len
  have hlb := hP.nb.len
  obtain ⟨b, off, rfl, hb, hN⟩ := hP.nb.get hx
  obtain ⟨_, A1, c1, K, kc, n0, n1, n2, hAx, hK⟩ := hN
  obtain ⟨hkl, hkk⟩ := hNb k x kx hx
  rw [hkl] at n2
  have hS := Lib.hid (fun wr (hk : KeepsC (FndC La.length rb) w wr) => show wr.cell? ⟨bp, 5, none⟩ = some (.slice (some ⟨b, off, none⟩) Lb.length cb) ∧ wr.cell? ⟨b, off + k * 3 + 2, none⟩ = some (.slice K x.args.length kc) from
    have hB := hP.below hk; ⟨cell_on hB (by omega) hP.c5, cell_on hB (by omega) n2⟩)
  have HK := Lib.hid (fun (hp : 0 < x.args.length) => hK (by rw [hkl]; exact hp))
  have Hkk := Lib.hid hkk
  have HPB := Lib.hid (fun wr (hk : KeepsC (FndC La.length rb) w wr) => hP.below hk)
  have HU := Lib.hid hU
  have HP := Lib.hid hP
  have HH := Lib.hid h
  have hxl := hAx.len
  clear hU hP h hK hkk n0 n1 n2 hAx
  go_enter Try.func31, Try.ntmps31
  go_wp2
  go_loopw [7] (fun j wr => ∃ n : Nat, n ≤ x.args.length ∧ j = .int .i64 (n : Int) ∧ Hid (PrP bp o P Q pc qc A (some ⟨b, off, none⟩) ca cb La Lb bo fc rb F w wr) ∧ Hid ((x.args.take n).all (fun y => lpT o.prec u y) = true)) (fun j _ => x.args.length - (intOf j).toNat)
  case atStart => exact ⟨0, Nat.zero_le _, rfl, Lib.hid ⟨KeepsC.refl _ _, F, HP.out, GoesR.refl F⟩, Lib.hid (by simp)⟩
  case round =>
    obtain ⟨n, hn, rfl, Hpr, Hal⟩ := hrel
    obtain ⟨y0, y1⟩ := hS.out wr Hpr.out.1
    by_cases hnl : n < x.args.length
    · obtain ⟨y, hy⟩ : ∃ y, x.args[n]? = some y := ⟨_, List.getElem?_eq_getElem hnl⟩
      obtain ⟨q, kq, hq, hLq⟩ := Hkk.out n y hy
      obtain ⟨kb, ko, rfl, hkb, hkc⟩ := HK.out (by omega)
      have z0 := cell_on (HPB.out wr Hpr.out.1) (show kb < bp + 1 by omega) (hkc n (0 + q) hq)
      rw [Nat.zero_add] at z0
      have hsz := nd_size (List.mem_of_getElem? hy)
      have HI := Lib.hid (show Calls Try.prog 20 #[.pointer (some ⟨bp, 0, none⟩), .int .i64 (i : Int), .int .i64 (q : Int)] wr fun e w' => e = .returned (.bool (lpT o.prec u y)) ∧ PrP bp o P Q pc qc A (some ⟨b, off, none⟩) ca cb La Lb bo fc rb F w w' by
        obtain ⟨hK1, G, hG, hGo⟩ := Hpr.out
        exact (HH.out i q u ku y kq G wr hu hLq (by omega) ((HU.out.goes hGo).mono (by omega)) hG).mono fun e w' ⟨he, hp⟩ => ⟨he, hp.trans hK1 hGo⟩)
      have hT := Lib.hid (all_take (p := fun y => lpT o.prec u y) hy)
      cases hl : lpT o.prec u y with
      | false =>
        rw [hl] at HI
        have hfin := Lib.hid (show (x.args.all fun y => lpT o.prec u y) = false by
          rw [List.all_eq_false]; exact ⟨y, List.mem_of_getElem? hy, by rw [hl]; simp⟩)
        clear hl hkc hq hLq hy
        go_wp2_with (first
          | (go_at_call 20; (with_reducible refine HI.out.mono ?_); go_must (rintro e w1 ⟨rfl, hp1⟩; have Hp1 := Lib.hid hp1; clear hp1))
          | fail)
        go_ret
        exact ⟨by rw [hfin.out]; rfl, Hp1.out⟩
      | true =>
        rw [hl] at HI
        have hT := Lib.hid (show (x.args.take (n + 1)).all (fun y => lpT o.prec u y) = true by rw [hT.out, Hal.out, hl]; rfl)
        clear hl hkc hq hLq hy
        go_wp2_with (first
          | (go_at_call 20; (with_reducible refine HI.out.mono ?_); go_must (rintro e w1 ⟨rfl, hp1⟩; have Hp1 := Lib.hid hp1; clear hp1))
          | fail)
        go_roundw
        case rel => exact ⟨n + 1, by omega, by go_num, Hp1, hT⟩
        case measure => simp [intOf]; omega
    · obtain rfl : n = x.args.length := by omega
      have hfin := Lib.hid (show (x.args.all fun y => lpT o.prec u y) = true by have := Hal.out; rwa [List.take_length] at this)
      go_wp2
      go_ret
      exact ⟨by rw [hfin.out]; rfl, Hpr.out⟩

end

end Go.Proofs.Ytkpkhnaflohjpaa

/- lpo: steps of the document's own ask: how two parts are brought into boxes, in whatever order. -/

namespace Go.Proofs.Ytkpkhnaflohjpaa

open Go Go.RowKit Go.Shelf Go.Maps
set_option maxRecDepth 100000

section

variable {Fs : List Fct} {a0 : Act} {W : World} {dst : Option Tmp} {ty : TypeId} {pos : String} {after : Array Edge}

theorem sa_move {s : Nat} {v : Value} (hs : a0.eval (.tmp s) = v) : stepB Try.prog Fs a0 W ⟨dst, .move (.tmp s), ty, pos, after, none⟩ [(s, none)] (.val v) := by
  refine ⟨rfl, fun a w hb hl => ?_⟩
  have e1 := ev_get (hl.1.trans hs)
  simp [go_sem, leaves, e1]
  exact Below.refl _ _

theorem sa_nil {s j : Nat} {p : Addr} (hF : Fs.getD j Fct.any = Fct.eq (.pointer (some p))) : stepB Try.prog Fs a0 W ⟨dst, .nilCheck (.tmp s), ty, pos, after, none⟩ [(s, some j)] (.val (.pointer (some p))) := by
  refine ⟨rfl, fun a w hb hl => ?_⟩
  have h0 := hl.1
  rw [hF] at h0
  have e1 := ev_get h0
  simp [go_sem, leaves, e1]
  exact Below.refl _ _

theorem sa_fld1 {s j b : Nat} (hF : Fs.getD j Fct.any = Fct.eq (.pointer (some ⟨b, 0, none⟩))) : stepB Try.prog Fs a0 W ⟨dst, .fieldAddr 50 (.tmp s) 1, ty, pos, after, none⟩ [(s, some j)] (.val (.pointer (some ⟨b, 4, none⟩))) := by
  refine ⟨rfl, fun a w hb hl => ?_⟩
  have h0 := hl.1
  rw [hF] at h0
  have e1 := ev_get h0
  simp [go_sem, leaves, e1]
  exact Below.refl _ _

theorem sa_fld2 {s j b : Nat} (hF : Fs.getD j Fct.any = Fct.eq (.pointer (some ⟨b, 0, none⟩))) : stepB Try.prog Fs a0 W ⟨dst, .fieldAddr 50 (.tmp s) 2, ty, pos, after, none⟩ [(s, some j)] (.val (.pointer (some ⟨b, 5, none⟩))) := by
  refine ⟨rfl, fun a w hb hl => ?_⟩
  have h0 := hl.1
  rw [hF] at h0
  have e1 := ev_get h0
  simp [go_sem, leaves, e1]
  exact Below.refl _ _

theorem sa_fldT {s j b o : Nat} (hF : Fs.getD j Fct.any = Fct.eq (.pointer (some ⟨b, o, none⟩))) : stepB Try.prog Fs a0 W ⟨dst, .fieldAddr 66 (.tmp s) 0, ty, pos, after, none⟩ [(s, some j)] (.val (.pointer (some ⟨b, o, none⟩))) := by
  refine ⟨rfl, fun a w hb hl => ?_⟩
  have h0 := hl.1
  rw [hF] at h0
  have e1 := ev_get h0
  simp [go_sem, leaves, e1]
  exact Below.refl _ _

theorem sa_load {s j b o : Nat} {v : Value} (hF : Fs.getD j Fct.any = Fct.eq (.pointer (some ⟨b, o, none⟩))) (hb0 : b < W.heap.size) (hc : W.cell? ⟨b, o, none⟩ = some v) : stepB Try.prog Fs a0 W ⟨dst, .load 46 (.tmp s), ty, pos, after, none⟩ [(s, some j)] (.val v) := by
  refine ⟨rfl, fun a w hb hl => ?_⟩
  have h0 := hl.1
  rw [hF] at h0
  have e1 := ev_get h0
  have c0 := cell_on hb hb0 hc
  simp [go_sem, leaves, e1, c0]
  exact Below.refl _ _

theorem sa_loadT {s j b o : Nat} {x y : Value} (hF : Fs.getD j Fct.any = Fct.eq (.pointer (some ⟨b, o, none⟩))) (hb0 : b < W.heap.size) (hc : W.cell? ⟨b, o, none⟩ = some x) (hd : W.cell? ⟨b, o + 1, none⟩ = some y) : stepB Try.prog Fs a0 W ⟨dst, .load 27 (.tmp s), ty, pos, after, none⟩ [(s, some j)] (.val (.agg #[x, y])) := by
  refine ⟨rfl, fun a w hb hl => ?_⟩
  have h0 := hl.1
  rw [hF] at h0
  have e1 := ev_get h0
  have c0 := cell_on hb hb0 hc
  have c1 := cell_on hb hb0 hd
  simp [go_sem, leaves, e1, c0, c1]
  exact Below.refl _ _

theorem sa_idx {s s2 j j2 b o n c i : Nat} (hF : Fs.getD j Fct.any = Fct.eq (.slice (some ⟨b, o, none⟩) n c)) (hF2 : Fs.getD j2 Fct.any = Fct.eq (.int .i64 (i : Int))) (hi : i < n) : stepB Try.prog Fs a0 W ⟨dst, .indexAddr 46 (.tmp s) (.tmp s2), ty, pos, after, none⟩ [(s, some j), (s2, some j2)] (.val (.pointer (some ⟨b, o + i * 3, none⟩))) := by
  refine ⟨rfl, fun a w hb hl => ?_⟩
  obtain ⟨h0, h1, _⟩ := hl
  rw [hF] at h0
  rw [hF2] at h1
  have e1 := ev_get h0
  have e2 := ev_get h1
  simp [go_sem, leaves, e1, e2, hi]
  exact Below.refl _ _

theorem sa_boxT {j d k : Nat} {x : Array Value} : stepB Try.prog Fs a0 W ⟨dst, .alloc 27, ty, pos, after, none⟩ [] (.box ⟨j, d, k, #[.int .i64 0, .slice none 0 0], x, 27⟩) := by
  refine ⟨rfl, fun a w => ?_⟩
  simp [go_sem]

theorem sa_putT {j d k s i i2 n c : Nat} {m : Int} {p : Option Addr} {u v : Value} (hF : Fs.getD i Fct.any = Fct.eq (.agg #[.int .i64 m, .slice p n c])) : stepB Try.prog Fs a0 W ⟨none, .store 27 (.tmp d) (.tmp s), ty, pos, after, none⟩ [(d, some i2), (s, some i)] (.put ⟨j, d, k, #[u, v], #[.int .i64 m, .slice p n c], 27⟩) := by
  refine ⟨rfl, fun a w b h1 h2 hl => ?_⟩
  have h0 := hl.2.1
  rw [hF] at h0
  have e1 := ev_get h0
  have e2 := ev_get h1
  obtain ⟨c0, c1, f0, f1⟩ := cells_two h2
  have h3 := (set2_two (u := .int .i64 m) (v := .slice p n c) h2).2
  simp [go_sem, leaves, e1, e2, c0, c1, f0, f1]
  exact ⟨h3, fun g hg => (heap_setCell_other _ _ _ _ hg).trans (heap_setCell_other _ _ _ _ hg), rfl, rfl⟩

end

/-- A world in which all but some blocks lies as it lay in W. -/
structure LatC (W : World) (C : Nat → Prop) (I : World → Prop) where
  w : World
  h : KeepsC C W w
  i : I W → I w

instance (W : World) (C : Nat → Prop) (I : World → Prop) : Nonempty (LatC W C I) := ⟨⟨W, KeepsC.refl _ _, id⟩⟩

theorem wp_region_latC {P : Program} {id : Nat} {Q : Exit → Act → World → Prop} {a : Act} {w : World} {l : List Oper} (W : World) (C : Nat → Prop) (I : World → Prop) (hm : P.follows .mixedOrders = true) (hB : Region.lexB .any l.toArray = true) (h0 : KeepsC C W w.drew) (h1 : I W → I w.drew)
    (h : wpQuiet P l.toArray (fun w' => ∃ x : LatC W C I, w' = x.w) (fun a' => ∀ w', (∃ x : LatC W C I, w' = x.w) → Q .normal a' w') l a) : (Code.region id l.toArray true).wp P Q a w :=
  wp_region_quiet (C := fun w' => ∃ x : LatC W C I, w' = x.w) hm hB ⟨⟨_, h0, h1⟩, rfl⟩ (by simpa using h)

theorem calls_latCB {P : Program} {f : FuncId} {args : Array Value} {W : World} {C : Nat → Prop} {I : World → Prop} {v : Value} (x : LatC W C I) (hI : ∀ a b, I a → Below a.heap.size a b → I b) (h : Calls P f args x.w fun e w' => e = .returned v ∧ Below x.w.heap.size x.w w') :
    Calls P f args x.w fun e w' => e = .returned v ∧ ∃ y : LatC W C I, w' = y.w :=
  h.mono fun _ _ ⟨he, hb⟩ => ⟨he, ⟨_, x.h.trans (KeepsC.of_below hb), fun k => hI _ _ (x.i k) hb⟩, rfl⟩

theorem calls_latCF {P : Program} {f : FuncId} {args : Array Value} {W : World} {C : Nat → Prop} {I : World → Prop} {v : Value} (x : LatC W C I) (h : Calls P f args x.w fun e w' => e = .returned v ∧ KeepsC C x.w w' ∧ (I x.w → I w')) :
    Calls P f args x.w fun e w' => e = .returned v ∧ ∃ y : LatC W C I, w' = y.w :=
  h.mono fun _ _ ⟨he, hb, hi⟩ => ⟨he, ⟨_, x.h.trans hb, fun k => hi (x.i k)⟩, rfl⟩

theorem LatC.cell {W : World} {C : Nat → Prop} {I : World → Prop} (x : LatC W C I) {g : Nat} (hg : g < W.heap.size) (hne : ¬ C g) {o : Nat} {v : Value} (h : W.cell? ⟨g, o, none⟩ = some v) : x.w.cell? ⟨g, o, none⟩ = some v := (World.cell?_of_block (x.h.block hg hne)).trans h

theorem lexA_same {R : Tm → Tm → Bool} {xs ys : List Tm} {k : Nat} {u v : Tm} (hu : xs[k]? = some u) (hv : ys[k]? = some v) (h : cmpT u v = 0) : lexA R (xs.drop k) (ys.drop k) = lexA R (xs.drop (k + 1)) (ys.drop (k + 1)) := by
  obtain ⟨h1, h2⟩ := List.getElem?_eq_some_iff.1 hu
  obtain ⟨h3, h4⟩ := List.getElem?_eq_some_iff.1 hv
  rw [List.drop_eq_getElem_cons h1, h2, List.drop_eq_getElem_cons h3, h4, lexA, if_pos h]

theorem lexA_other {R : Tm → Tm → Bool} {xs ys : List Tm} {k : Nat} {u v : Tm} (hu : xs[k]? = some u) (hv : ys[k]? = some v) (h : ¬ cmpT u v = 0) : lexA R (xs.drop k) (ys.drop k) = R u v := by
  obtain ⟨h1, h2⟩ := List.getElem?_eq_some_iff.1 hu
  obtain ⟨h3, h4⟩ := List.getElem?_eq_some_iff.1 hv
  rw [List.drop_eq_getElem_cons h1, h2, List.drop_eq_getElem_cons h3, h4, lexA, if_neg h]

theorem lexA_end {R : Tm → Tm → Bool} {xs ys : List Tm} {k : Nat} (h1 : k ≤ xs.length) (h2 : k ≤ ys.length) (h : ¬ (k < xs.length ∧ k < ys.length)) : lexA R (xs.drop k) (ys.drop k) = decide (ys.length < xs.length) := by
  by_cases hx : k < xs.length
  · have hy : ys.drop k = [] := List.drop_eq_nil_of_le (by omega)
    rw [hy, List.drop_eq_getElem_cons hx, lexA, decide_eq_true (by omega)]
  · have hx0 : xs.drop k = [] := List.drop_eq_nil_of_le (by omega)
    rw [hx0, lexA, decide_eq_false (by omega)]

theorem layK_lt {R : Nat} {u : Tm} (h : layK R u = true) : u.fn < (R : Int) := by
  have h2 := layK_rk u h
  obtain ⟨f, xs⟩ := u
  rw [rkT, Bool.and_eq_true, decide_eq_true_eq] at h2
  exact h2.1

theorem any_take {p : Tm → Bool} {xs : List Tm} {j : Nat} {y : Tm} (h : xs[j]? = some y) : (xs.take (j + 1)).any p = ((xs.take j).any p || p y) := by
  rw [List.take_add_one, h, Option.toList_some, List.any_append]; simp

/-- The boxes of the two parts. -/
def ndL1 (x y : Value) : BoxN := ⟨16, 7, 18, #[.int .i64 0, .slice none 0 0], #[x, y], 27⟩

def ndM1 (x y : Value) : BoxN := ⟨17, 8, 19, #[.int .i64 0, .slice none 0 0], #[x, y], 27⟩

end Go.Proofs.Ytkpkhnaflohjpaa

/- Compare, Same. -/

namespace Go.Proofs.Ytkpkhnaflohjpaa

open Go.RowKit
set_option maxRecDepth 100000

end Go.Proofs.Ytkpkhnaflohjpaa

/- Compare, Same. -/

namespace Go.Proofs.Ytkpkhnaflohjpaa

open Go.RowKit
set_option maxRecDepth 100000

theorem cmpT_h {f g : Int} {xs ys : List Tm} (h : ¬ headI f g = 0) : cmpT (.node f xs) (.node g ys) = headI f g := (cmpT_eq _ _).trans (if_pos h)

theorem cmpT_c {f g : Int} {xs ys : List Tm} (h : headI f g = 0) (h1 : ¬ cmpL xs ys = 0) : cmpT (.node f xs) (.node g ys) = cmpL xs ys := (cmpT_eq _ _).trans ((if_neg (fun e => e h)).trans (if_pos h1))

theorem cmpT_n {f g : Int} {xs ys : List Tm} (h : headI f g = 0) (h1 : cmpL xs ys = 0) : cmpT (.node f xs) (.node g ys) = numI xs.length ys.length := (cmpT_eq _ _).trans ((if_neg (fun e => e h)).trans (if_neg (fun e => e h1)))

end Go.Proofs.Ytkpkhnaflohjpaa

/- The document's own answers: Compare, Same. -/

namespace Go.Proofs.Ytkpkhnaflohjpaa

open Go.RowKit
set_option maxRecDepth 100000

def RCmp (t : Tm) : Prop := ∀ (u : Tm) (A A2 : Option Addr) (c c2 : Nat) (w : World), I64 t.fn → I64 u.fn → Args w w.heap.size A t.args → Args w w.heap.size A2 u.args →
  Calls Try.prog 18 #[.agg #[.int .i64 t.fn, .slice A t.args.length c], .agg #[.int .i64 u.fn, .slice A2 u.args.length c2]] w fun e w' => e = .returned (.int .i64 (cmpT t u)) ∧ Below w.heap.size w w'

theorem head_ne {f g : Int} (h : f ≠ g) : headI f g = if f < 0 ∧ g < 0 then (if g < f then -1 else 1) else if f < g then -1 else 1 := by unfold headI; rw [if_neg h]

theorem head_nz {f g : Int} (h : f ≠ g) : ¬ headI f g = 0 := by
  rw [head_ne h]
  split
  · split <;> omega
  · split <;> omega

set_option maxHeartbeats 2000000 in
theorem ref2Cmp_any (t : Tm) : RCmp t := by
  refine Tm.ind (P := RCmp) (fun f xs ih => ?_) t
  intro u A A2 c c2 w hf hg hA hA2
  obtain ⟨g, ys⟩ := u
  simp only [Tm.fn, Tm.args] at hf hg hA hA2 ⊢
  have hl1 := hA.len
  have hl2 := hA2.len
  obtain ⟨p0, p1⟩ := heap2 w (.cells #[.int .i64 f, .slice A xs.length c] 27) (.cells #[.int .i64 g, .slice A2 ys.length c2] 27)
  obtain ⟨W, hW⟩ : ∃ W, ((w.alloc (.cells #[.int .i64 f, .slice A xs.length c] 27)).alloc (.cells #[.int .i64 g, .slice A2 ys.length c2] 27)) = W := ⟨_, rfl⟩
  have hB : Below w.heap.size w W := by rw [← hW]; exact ((Below.refl _ _).alloc (Nat.le_refl _) _).alloc (by simp) _
  rw [hW] at p0 p1
  have hWs : w.heap.size + 1 < W.heap.size := (Array.getElem?_eq_some_iff.1 p1).1
  have HW := Lib.hid hW
  have hA' := Lib.hid (hA.on hB)
  have hA2' := Lib.hid (hA2.on hB)
  have hSS : ∀ w', Below W.heap.size W w' → w'.cell? ⟨w.heap.size, 0, none⟩ = some (.int .i64 f) ∧ w'.cell? ⟨w.heap.size, 1, none⟩ = some (.slice A xs.length c) ∧ w'.cell? ⟨w.heap.size + 1, 0, none⟩ = some (.int .i64 g) ∧ w'.cell? ⟨w.heap.size + 1, 1, none⟩ = some (.slice A2 ys.length c2) := fun w' h =>
    ⟨(cells_two ((h.block _ (by omega)).trans p0)).1, (cells_two ((h.block _ (by omega)).trans p0)).2.1, (cells_two ((h.block _ hWs).trans p1)).1, (cells_two ((h.block _ hWs).trans p1)).2.1⟩
  obtain ⟨x0, x1, x2, x3⟩ := hSS W (Below.refl _ _)
  clear hW hA hA2 p0 p1
  by_cases hfg : f = g
  · subst hfg
    have hh : headI f f = 0 := by unfold headI; rw [if_pos rfl]
    go_enter Try.func18, Try.ntmps18
    go_upto_region 1 with fail
    rw [HW.out]
    go_wp2
    clear x0 x1 x2 x3
    go_loopw [5] (fun i wr => ∃ k : Nat, k ≤ xs.length ∧ k ≤ ys.length ∧ i = .int .i64 (k : Int) ∧ Below W.heap.size W wr ∧ Hid (∀ (j : Nat) (x y : Tm), j < k → xs[j]? = some x → ys[j]? = some y → cmpT x y = 0)) (fun i _ => xs.length - (intOf i).toNat)
    case atStart => exact ⟨0, Nat.zero_le _, Nat.zero_le _, rfl, Below.refl _ _, fun j x y h => by omega⟩
    case round =>
      obtain ⟨k, hk, hk2, rfl, hBr, H⟩ := hrel
      obtain ⟨_, x1, _, x3⟩ := hSS _ hBr
      by_cases hkl : k < xs.length ∧ k < ys.length
      · obtain ⟨hkx, hky⟩ := hkl
        obtain ⟨a, ha⟩ : ∃ a, xs[k]? = some a := ⟨_, List.getElem?_eq_getElem hkx⟩
        obtain ⟨b, hb⟩ : ∃ b, ys[k]? = some b := ⟨_, List.getElem?_eq_getElem hky⟩
        obtain ⟨bb, off, A', c', rfl, h1⟩ := (hA'.out.on hBr).get ha
        obtain ⟨bb2, off2, A2', c2', rfl, h2⟩ := (hA2'.out.on hBr).get hb
        have a0 := h1.c0
        have a1 := h1.c1
        have b0 := h2.c0
        have b1 := h2.c1
        have q1 := h1.hb
        have q2 := h2.hb
        have i1 := h1.hi
        have i2 := h2.hi
        have s1 : Hid (Args wr.drew wr.drew.heap.size A' a.args) := h1.sub.drewN 1
        have s2 : Hid (Args wr.drew wr.drew.heap.size A2' b.args) := h2.sub.drewN 1
        have Hab := Lib.hid (And.intro ha hb)
        have hia := ih a (List.mem_of_getElem? ha)
        clear ha hb h1 h2
        by_cases h0 : cmpT a b = 0
        · go_wp2
          go_region_held3 (fun w' => w'.cell? ⟨w.heap.size, 1, none⟩ = some (.slice (some ⟨bb, off, none⟩) xs.length c) ∧ w'.cell? ⟨w.heap.size + 1, 1, none⟩ = some (.slice (some ⟨bb2, off2, none⟩) ys.length c2) ∧ w'.cell? ⟨bb, off + k * 2, none⟩ = some (.int .i64 a.fn) ∧ w'.cell? ⟨bb, off + k * 2 + 1, none⟩ = some (.slice A' a.args.length c') ∧ w'.cell? ⟨bb2, off2 + k * 2, none⟩ = some (.int .i64 b.fn) ∧ w'.cell? ⟨bb2, off2 + k * 2 + 1, none⟩ = some (.slice A2' b.args.length c2'))
            (first | exact ⟨x1, x3, a0, a1, b0, b1⟩ | exact ⟨(hSS _ hB1).2.1, (hSS _ hB1).2.2.2, cell_on hb1 q1 a0, cell_on hb1 q1 a1, cell_on hb1 q2 b0, cell_on hb1 q2 b1⟩ | fail)
            (first
              | (go_at_call 18; refine (hia b A' A2' c' c2' wr.drew i1 i2 s1.out s2.out).mono ?_; rintro e w1 ⟨rfl, hb1'⟩; have hb1 : Below wr.heap.size wr w1 := ⟨hb1'.os, hb1'.tape, hb1'.output, hb1'.size, hb1'.block⟩; have hB1 := bl_step hBr hb1; rw [h0])
              | fail)
          go_wp2
          go_roundw
          case rel =>
            refine ⟨k + 1, by omega, by omega, by go_num, hB1, fun j x y hj hx hy => ?_⟩
            by_cases e : j = k
            · subst e
              obtain ⟨e1, e2⟩ := Hab.out
              rw [hx] at e1; rw [hy] at e2
              cases e1; cases e2
              exact h0
            · exact H.out j x y (by omega) hx hy
          case measure => simp [intOf]; omega
        · have hcl := cmpL_hit Hab.out.1 Hab.out.2 H.out h0
          have hh2 := Lib.hid (show cmpT (.node f xs) (.node f ys) = cmpT a b by rw [cmpT_c hh (by rw [hcl]; exact h0), hcl])
          clear hcl
          go_wp2
          go_region_held3 (fun w' => w'.cell? ⟨w.heap.size, 1, none⟩ = some (.slice (some ⟨bb, off, none⟩) xs.length c) ∧ w'.cell? ⟨w.heap.size + 1, 1, none⟩ = some (.slice (some ⟨bb2, off2, none⟩) ys.length c2) ∧ w'.cell? ⟨bb, off + k * 2, none⟩ = some (.int .i64 a.fn) ∧ w'.cell? ⟨bb, off + k * 2 + 1, none⟩ = some (.slice A' a.args.length c') ∧ w'.cell? ⟨bb2, off2 + k * 2, none⟩ = some (.int .i64 b.fn) ∧ w'.cell? ⟨bb2, off2 + k * 2 + 1, none⟩ = some (.slice A2' b.args.length c2'))
            (first | exact ⟨x1, x3, a0, a1, b0, b1⟩ | exact ⟨(hSS _ hB1).2.1, (hSS _ hB1).2.2.2, cell_on hb1 q1 a0, cell_on hb1 q1 a1, cell_on hb1 q2 b0, cell_on hb1 q2 b1⟩ | fail)
            (first
              | (go_at_call 18; refine (hia b A' A2' c' c2' wr.drew i1 i2 s1.out s2.out).mono ?_; rintro e w1 ⟨rfl, hb1'⟩; have hb1 : Below wr.heap.size wr w1 := ⟨hb1'.os, hb1'.tape, hb1'.output, hb1'.size, hb1'.block⟩; have hB1 := bl_step hBr hb1)
              | fail)
          go_wp2
          go_ret
          exact ⟨ret_int hh2.out.symm, hB.trans (hB1.mono hB.size)⟩
      · have hcl : cmpL xs ys = 0 := cmpL_miss fun j x y hx hy => H.out j x y (by have h1 := (List.getElem?_eq_some_iff.1 hx).1; have h2 := (List.getElem?_eq_some_iff.1 hy).1; omega) hx hy
        have hh2 := Lib.hid (cmpT_n hh hcl : cmpT (.node f xs) (.node f ys) = numI xs.length ys.length)
        clear hcl
        rcases Nat.lt_trichotomy xs.length ys.length with h | h | h
        · have e : numI xs.length ys.length = -1 := by unfold numI; rw [if_pos (by omega)]
          have e := Lib.hid e
          go_wp2
          go_ret
          exact ⟨ret_int (by rw [hh2.out, e.out]), hB.trans (hBr.mono hB.size)⟩
        · have e : numI xs.length ys.length = 0 := by unfold numI; rw [if_neg (by omega), if_neg (by omega)]
          have e := Lib.hid e
          go_wp2
          go_ret
          exact ⟨ret_int (by rw [hh2.out, e.out]), hB.trans (hBr.mono hB.size)⟩
        · have e : numI xs.length ys.length = 1 := by unfold numI; rw [if_neg (by omega), if_pos (by omega)]
          have e := Lib.hid e
          go_wp2
          go_ret
          exact ⟨ret_int (by rw [hh2.out, e.out]), hB.trans (hBr.mono hB.size)⟩
  · have hh := Lib.hid ((cmpT_h (head_nz hfg) : cmpT (.node f xs) (.node g ys) = headI f g).trans (head_ne hfg))
    by_cases h1 : f < 0 ∧ g < 0
    · obtain ⟨h1, h2⟩ := h1
      by_cases h3 : g < f
      all_goals
        go_enter Try.func18, Try.ntmps18
        go_upto_region 1 with fail
        rw [HW.out]
        go_wp2
        go_ret
        exact ⟨ret_int (by rw [hh.out, if_pos ⟨h1, h2⟩]; first | rw [if_pos (by omega)] | rw [if_neg (by omega)]), hB⟩
    · by_cases h2 : f < 0
      · have h3 : ¬ g < 0 := fun e => h1 ⟨h2, e⟩
        have h4 : f < g := by omega
        go_enter Try.func18, Try.ntmps18
        go_upto_region 1 with fail
        rw [HW.out]
        go_wp2
        go_ret
        exact ⟨ret_int (by rw [hh.out, if_neg h1, if_pos h4]), hB⟩
      · by_cases h4 : f < g
        all_goals
          go_enter Try.func18, Try.ntmps18
          go_upto_region 1 with fail
          rw [HW.out]
          go_wp2
          go_ret
          exact ⟨ret_int (by rw [hh.out, if_neg h1]; first | rw [if_pos (by omega)] | rw [if_neg (by omega)]), hB⟩

theorem ref2Cmp_at (t u : Tm) (A A2 : Option Addr) (c c2 : Nat) (w : World) (hf : I64 t.fn) (hg : I64 u.fn) (hA : Args w w.heap.size A t.args) (hA2 : Args w w.heap.size A2 u.args) :
    Calls Try.prog 18 #[.agg #[.int .i64 t.fn, .slice A t.args.length c], .agg #[.int .i64 u.fn, .slice A2 u.args.length c2]] w fun e w' => e = .returned (.int .i64 (cmpT t u)) ∧ Below w.heap.size w w' :=
  ref2Cmp_any t u A A2 c c2 w hf hg hA hA2

theorem ref2Same_any' (t u : Tm) (A A2 : Option Addr) (c c2 : Nat) (w : World) (hf : I64 t.fn) (hg : I64 u.fn) (hA : Args w w.heap.size A t.args) (hA2 : Args w w.heap.size A2 u.args) :
    Calls Try.prog 13 #[.agg #[.int .i64 t.fn, .slice A t.args.length c], .agg #[.int .i64 u.fn, .slice A2 u.args.length c2]] w fun e w' => e = .returned (.bool (decide (cmpT t u = 0))) ∧ Below w.heap.size w w' := by
  have hWB : Below w.heap.size w ((w.alloc (.cells #[.int .i64 t.fn, .slice A t.args.length c] 27)).alloc (.cells #[.int .i64 u.fn, .slice A2 u.args.length c2] 27)) := ((Below.refl _ _).alloc (Nat.le_refl _) _).alloc (by simp) _
  go_enter Try.func13, Try.ntmps13
  go_wp2_with (first
    | (go_at_call 18; refine (ref2Cmp_at t u A A2 c c2 _ hf hg (hA.on hWB) (hA2.on hWB)).mono ?_; rintro e w1 ⟨rfl, hb1⟩; have hB1 := bl_step hWB hb1)
    | fail)
  go_ret
  exact ⟨rfl, hB1⟩

end Go.Proofs.Ytkpkhnaflohjpaa

/- lpo: the document's own ask, out of what above does of smaller parts. -/

namespace Go.Proofs.Ytkpkhnaflohjpaa

open Go Go.RowKit Go.Shelf Go.Maps
set_option maxRecDepth 100000

section

variable {bp : Nat} {o : Odr} {P Q : Option Addr} {pc qc : Nat} {A B : Option Addr} {ca cb : Nat} {La Lb : List (Tm × List Nat)} {bo fc : Nat} {rb : Nat → Nat}

set_option maxHeartbeats 4000000 in
theorem refAsk9_any {m : Nat} (h : AbvI bp o P Q pc qc A B ca cb La Lb bo fc rb m) (hL : AllI bp o P Q pc qc A B ca cb La Lb bo fc rb m) (hNa : NdOk 0 La) (hNb : NdOk 0 Lb) (hka : ∀ (i : Nat) (u : Tm) (ku : List Nat), La[i]? = some (u, ku) → layK o.prec.length u = true) (hkb : ∀ (i : Nat) (u : Tm) (ku : List Nat), Lb[i]? = some (u, ku) → layK o.prec.length u = true) : AskI bp o P Q pc qc A B ca cb La Lb bo fc rb (m + 1) := by
  intro i k u ku x kx F w hu hx hz hU hP
  have hi := (List.getElem?_eq_some_iff.1 hu).1
  have hk := (List.getElem?_eq_some_iff.1 hx).1
  have hla := hP.na.len
  have hlb := hP.nb.len
  have hlt := hP.lt
  obtain ⟨b1, o1, rfl, hb1, hN1⟩ := hP.na.get hu
  obtain ⟨b2, o2, rfl, hb2, hN2⟩ := hP.nb.get hx
  obtain ⟨hfu, U, uc, K1, kc1, n0, n1, n2, hAu, hK1⟩ := hN1
  obtain ⟨hfx, X, xc, K2, kc2, p0, p1, p2, hAx, hK2⟩ := hN2
  have C4 := hP.c4
  have C5 := hP.c5
  have HP := Lib.hid hP
  have HU := Lib.hid hU
  have Hu := Lib.hid hu
  have Hx := Lib.hid hx
  have HAu := Lib.hid hAu
  have HAx := Lib.hid hAx
  have HK1 := Lib.hid hK1
  have HK2 := Lib.hid hK2
  clear hP hU hu hx hAu hAx hK1 hK2
  go_enter Try.func24, Try.ntmps24
  go_upto_region 1 with fail
  refine wp_region_boxes 166 [[(0, none)], [(11, some 0)], [(12, some 1)], [(13, some 2)], [(1, none)], [(14, some 3), (15, some 4)], [(16, some 5)], [(17, some 6)], [(0, none)], [(19, some 8)], [(20, some 9)], [(21, some 10)], [(2, none)], [(22, some 11), (23, some 12)], [(24, some 13)], [(25, some 14)], [], [], [(7, some 16), (18, some 7)], [(8, some 17), (26, some 15)]]
      [.val (.pointer (some ⟨bp, 0, none⟩)), .val (.pointer (some ⟨bp, 0, none⟩)), .val (.pointer (some ⟨bp, 4, none⟩)), .val (.slice (some ⟨b1, o1, none⟩) La.length ca), .val (.int .i64 (i : Int)), .val (.pointer (some ⟨b1, o1 + i * 3, none⟩)), .val (.pointer (some ⟨b1, o1 + i * 3, none⟩)), .val (.agg #[.int .i64 u.fn, .slice U u.args.length uc]), .val (.pointer (some ⟨bp, 0, none⟩)), .val (.pointer (some ⟨bp, 0, none⟩)), .val (.pointer (some ⟨bp, 5, none⟩)), .val (.slice (some ⟨b2, o2, none⟩) Lb.length cb), .val (.int .i64 (k : Int)), .val (.pointer (some ⟨b2, o2 + k * 3, none⟩)), .val (.pointer (some ⟨b2, o2 + k * 3, none⟩)), .val (.agg #[.int .i64 x.fn, .slice X x.args.length xc]), .box (ndL1 (.int .i64 u.fn) (.slice U u.args.length uc)), .box (ndM1 (.int .i64 x.fn) (.slice X x.args.length xc)), .put (ndL1 (.int .i64 u.fn) (.slice U u.args.length uc)), .put (ndM1 (.int .i64 x.fn) (.slice X x.args.length xc))] [(ndL1 (.int .i64 u.fn) (.slice U u.args.length uc)), (ndM1 (.int .i64 x.fn) (.slice X x.args.length xc))] (by kernel_rfl) (by decide +kernel) ?_ (by kernel_rfl) ?_ ?_
  · refine ⟨fun r hr => ?_, fun r hr => ?_, fun r hr r' hr' he => ?_, fun k r hk => ?_, fun k r hk => ?_⟩
    · simp only [List.mem_cons, List.not_mem_nil, or_false] at hr
      rcases hr with rfl | rfl
      · exact ⟨_, rfl, rfl, rfl⟩
      · exact ⟨_, rfl, rfl, rfl⟩
    · simp only [List.mem_cons, List.not_mem_nil, or_false] at hr
      rcases hr with rfl | rfl
      · exact ⟨_, rfl, rfl, rfl, show waits _ 16 = true by decide +kernel⟩
      · exact ⟨_, rfl, rfl, rfl, show waits _ 17 = true by decide +kernel⟩
    · simp only [List.mem_cons, List.not_mem_nil, or_false] at hr hr'
      rcases hr with rfl | rfl <;> rcases hr' with rfl | rfl
      · rfl
      · simp [ndL1, ndM1] at he
      · simp [ndL1, ndM1] at he
      · rfl
    · have hk12 : k < 20 := (List.getElem?_eq_some_iff.1 hk).1
      obtain rfl | rfl | rfl | rfl | rfl | rfl | rfl | rfl | rfl | rfl | rfl | rfl | rfl | rfl | rfl | rfl | rfl | rfl | rfl | rfl : k = 0 ∨ k = 1 ∨ k = 2 ∨ k = 3 ∨ k = 4 ∨ k = 5 ∨ k = 6 ∨ k = 7 ∨ k = 8 ∨ k = 9 ∨ k = 10 ∨ k = 11 ∨ k = 12 ∨ k = 13 ∨ k = 14 ∨ k = 15 ∨ k = 16 ∨ k = 17 ∨ k = 18 ∨ k = 19 := by omega
      all_goals simp at hk
      · subst hk; exact ⟨by simp, rfl⟩
      · subst hk; exact ⟨by simp, rfl⟩
    · have hk12 : k < 20 := (List.getElem?_eq_some_iff.1 hk).1
      obtain rfl | rfl | rfl | rfl | rfl | rfl | rfl | rfl | rfl | rfl | rfl | rfl | rfl | rfl | rfl | rfl | rfl | rfl | rfl | rfl : k = 0 ∨ k = 1 ∨ k = 2 ∨ k = 3 ∨ k = 4 ∨ k = 5 ∨ k = 6 ∨ k = 7 ∨ k = 8 ∨ k = 9 ∨ k = 10 ∨ k = 11 ∨ k = 12 ∨ k = 13 ∨ k = 14 ∨ k = 15 ∨ k = 16 ∨ k = 17 ∨ k = 18 ∨ k = 19 := by omega
      all_goals simp at hk
      · subst hk; exact ⟨by simp, rfl⟩
      · subst hk; exact ⟨by simp, rfl⟩
  · exact ⟨sa_move rfl, sa_nil rfl, sa_fld1 rfl, sa_load rfl hlt C4, sa_move rfl, sa_idx rfl rfl hi, sa_fldT rfl, sa_loadT rfl (Nat.lt_trans hb1 hlt) n0 n1, sa_move rfl, sa_nil rfl, sa_fld2 rfl, sa_load rfl hlt C5, sa_move rfl, sa_idx rfl rfl hk, sa_fldT rfl, sa_loadT rfl (Nat.lt_trans hb2 hlt) p0 p1, sa_boxT, sa_boxT, sa_putT rfl, sa_putT rfl, trivial⟩
  · intro w4 hb4
    generalize hA0 : ({ tmps := _, defers := _ } : Act) = a0
    have hsz : a0.tmps.size = 166 := by rw [← hA0]; rfl
    simp only [List.map_cons, List.map_nil]
    refine (FinS.some rfl (fun u0 (e0 : u0 = _) => ?_)).go
    subst e0
    refine FinS.some rfl (fun u1 (e1 : u1 = _) => ?_)
    subst e1
    refine FinS.some rfl (fun u2 (e2 : u2 = _) => ?_)
    subst e2
    refine FinS.some rfl (fun u3 (e3 : u3 = _) => ?_)
    subst e3
    refine FinS.some rfl (fun u4 (e4 : u4 = _) => ?_)
    subst e4
    refine FinS.some rfl (fun u5 (e5 : u5 = _) => ?_)
    subst e5
    refine FinS.some rfl (fun u6 (e6 : u6 = _) => ?_)
    subst e6
    refine FinS.some rfl (fun u7 (e7 : u7 = _) => ?_)
    subst e7
    refine FinS.some rfl (fun u8 (e8 : u8 = _) => ?_)
    subst e8
    refine FinS.some rfl (fun u9 (e9 : u9 = _) => ?_)
    subst e9
    refine FinS.some rfl (fun u10 (e10 : u10 = _) => ?_)
    subst e10
    refine FinS.some rfl (fun u11 (e11 : u11 = _) => ?_)
    subst e11
    refine FinS.some rfl (fun u12 (e12 : u12 = _) => ?_)
    subst e12
    refine FinS.some rfl (fun u13 (e13 : u13 = _) => ?_)
    subst e13
    refine FinS.some rfl (fun u14 (e14 : u14 = _) => ?_)
    subst e14
    refine FinS.some rfl (fun u15 (e15 : u15 = _) => ?_)
    subst e15
    refine FinS.some rfl (fun u16 e16 => FinS.some rfl (fun u17 e17 => FinS.skip rfl (FinS.skip rfl (FinS.nil fun hdj => ?_))))
    obtain ⟨b5, rfl, g1, g2, g3⟩ := e16
    obtain ⟨b6, rfl, k1, k2, k3⟩ := e17
    have hne : ¬ b5 = b6 := fun e => by
      subst e
      exact hdj (ndL1 (.int .i64 u.fn) (.slice U u.args.length uc)) (by simp) (ndM1 (.int .i64 x.fn) (.slice X x.args.length xc)) (by simp) (by simp [ndL1, ndM1]) b5 (by simp [Act.put, Act.eval, hsz, ndL1]) (by simp [Act.put, Act.eval, hsz, ndM1])
    clear hdj
    subst hA0
    clear hsz
    simp only [Act.put, List.setIfInBounds_toArray, List.set_cons_succ, List.set_cons_zero]
    have hB4 : Below w.heap.size w w4 := (Below.refl _ _).drew.trans hb4
    have hP4 := HP.out.on hB4
    change w4.heap[b5]? = some (.cells #[.int .i64 u.fn, .slice U u.args.length uc] 27) at g3
    change w4.heap[b6]? = some (.cells #[.int .i64 x.fn, .slice X x.args.length xc] 27) at k3
    change w.heap.size ≤ b5 at g1
    change w.heap.size ≤ b6 at k1
    obtain ⟨u0, u1, _, _⟩ := cells_two g3
    obtain ⟨x0, x1, _, _⟩ := cells_two k3
    have hC5 : ¬ FndC La.length rb b5 := fun ⟨l, hl, e⟩ => by have := (HP.out.rr l hl).2.1; omega
    have hC6 : ¬ FndC La.length rb b6 := fun ⟨l, hl, e⟩ => by have := (HP.out.rr l hl).2.1; omega
    have hCb : ∀ g, g < bp + 1 → ¬ FndC La.length rb g := fun g hg ⟨l, hl, e⟩ => by have := (HP.out.rr l hl).1; omega
    have hK4 : KeepsC (FndC La.length rb) w w4 := KeepsC.of_below hB4
    have hask := ask_eq (p := o.prec) (layK_vn u (hka i u ku Hu.out)) (layK_vn x (hkb k x kx Hx.out))
    have HK4 := Lib.hid hK4
    have HP4 := Lib.hid hP4
    have HB4 := Lib.hid hB4
    have HCb := Lib.hid hCb
    clear hb4 hK4 hP4 g3 k3 C4 C5 n0 n1 p0 p1 hCb hB4
    by_cases hun : u.fn < 0
    · have hfin := Lib.hid (show lpT o.prec u x = false by rw [← hask]; unfold askB; rw [decide_eq_true hun]; rfl)
      clear hask
      go_wp2
      go_ret
      exact ⟨by rw [hfin.out]; rfl, HK4.out, F, HP4.out, GoesR.refl F⟩
    · by_cases hxn : x.fn < 0
      · have hfin := Lib.hid (show lpT o.prec u x = decide (0 < ofT x.fn u) by rw [← hask]; unfold askB; rw [decide_eq_false hun, if_pos hxn]; rfl)
        have hwr : IntKind.i64.wrap (-1 - x.fn) = -1 - x.fn := by rw [IntKind.wrap_i64]; unfold I64 at hfx; omega
        have hH := Lib.hid (refHas2_any x.fn hfx u U uc w4 hfu ((HAu.out.blw (HB4.out.mono (Nat.le_of_lt hlt))).more (by have := HB4.out.size; omega)))
        clear hask
        go_wp2_with (first
          | (go_at_call 30; (with_reducible refine hH.out.mono ?_); go_must (rintro e w5 ⟨rfl, hb5⟩))
          | fail)
        go_ret
        exact ⟨by rw [hfin.out]; rfl, HK4.out.trans (KeepsC.of_below hb5), F, HP4.out.on hb5, GoesR.refl F⟩
      · have hq0 : lpT o.prec u x = ((u.args.any fun y => decide (cmpT y x = 0) || lpT o.prec y x) || (if u.fn = x.fn then (x.args.all fun y => lpT o.prec u y) && lexA (lpT o.prec) u.args x.args else decide (rkI o.prec x.fn < rkI o.prec u.fn) && x.args.all fun y => lpT o.prec u y)) := by
          rw [← hask]; unfold askB; rw [decide_eq_false hun, if_neg hxn]; rfl
        have Hq := Lib.hid hq0
        obtain ⟨hka1, hka2⟩ := hNa i u ku Hu.out
        obtain ⟨hkb1, hkb2⟩ := hNb k x kx Hx.out
        have hul := HAu.out.len
        have hxl := HAx.out.len
        have hs4 := HB4.out.size
        have q4 := HP4.out.c4
        have r2 := cell_on HB4.out (Nat.lt_trans hb1 hlt) n2
        rw [hka1] at r2
        have HS4 := Lib.hid (⟨q4, r2, u0, u1, x0, x1⟩ : w4.cell? ⟨bp, 4, none⟩ = some (.slice (some ⟨b1, o1, none⟩) La.length ca) ∧ w4.cell? ⟨b1, o1 + i * 3 + 2, none⟩ = some (.slice K1 u.args.length kc1) ∧ w4.cell? ⟨b5, 0, none⟩ = some (.int .i64 u.fn) ∧ w4.cell? ⟨b5, 1, none⟩ = some (.slice U u.args.length uc) ∧ w4.cell? ⟨b6, 0, none⟩ = some (.int .i64 x.fn) ∧ w4.cell? ⟨b6, 1, none⟩ = some (.slice X x.args.length xc))
        have Hka2 := Lib.hid hka2
        have Hkb2 := Lib.hid hkb2
        have HI4 := Lib.hid (show PrI bp o P Q pc qc (some ⟨b1, o1, none⟩) (some ⟨b2, o2, none⟩) ca cb La Lb bo fc rb F w4 from ⟨F, HP4.out, GoesR.refl F⟩)
        have hst : ∀ a b, PrI bp o P Q pc qc (some ⟨b1, o1, none⟩) (some ⟨b2, o2, none⟩) ca cb La Lb bo fc rb F a → Below a.heap.size a b → PrI bp o P Q pc qc (some ⟨b1, o1, none⟩) (some ⟨b2, o2, none⟩) ca cb La Lb bo fc rb F b := fun _ _ h hb => h.on hb
        have Hst := Lib.hid hst
        clear hask hq0 hka2 hkb2 hst q4 r2
        go_wp2
        go_loopw [9] (fun j wr => ∃ n : Nat, n ≤ u.args.length ∧ j = .int .i64 (n : Int) ∧ Hid (KeepsC (FndC La.length rb) w4 wr) ∧ Hid (PrI bp o P Q pc qc (some ⟨b1, o1, none⟩) (some ⟨b2, o2, none⟩) ca cb La Lb bo fc rb F wr) ∧ Hid ((u.args.take n).any (fun y => decide (cmpT y x = 0) || lpT o.prec y x) = false)) (fun j _ => u.args.length - (intOf j).toNat)
        case atStart => exact ⟨0, Nat.zero_le _, rfl, Lib.hid (KeepsC.refl _ _), HI4, Lib.hid (by simp)⟩
        case round =>
          obtain ⟨n, hn, rfl, hKr, HIr, Hany⟩ := hrel
          obtain ⟨s0, s1, s2, s3, s4, s5⟩ := HS4.out
          have hsr := hKr.out.size
          have a0 := cellK hKr.out (show bp < w4.heap.size by omega) (HCb.out _ (by omega)) s0
          have a1 := cellK hKr.out (show b1 < w4.heap.size by omega) (HCb.out _ (by omega)) s1
          have a2 := cellK hKr.out k2 hC6 s4
          have a3 := cellK hKr.out k2 hC6 s5
          have a4 := cellK hKr.out g2 hC5 s2
          have a5 := cellK hKr.out g2 hC5 s3
          clear s0 s1 s2 s3 s4 s5
          by_cases hnl : n < u.args.length
          · obtain ⟨y, hy⟩ : ∃ y, u.args[n]? = some y := ⟨_, List.getElem?_eq_getElem hnl⟩
            obtain ⟨q, kq, hq, hLq⟩ := Hka2.out n y hy
            obtain ⟨kb, ko, hKe, hkb', hkc⟩ := HK1.out (by rw [hka1]; omega)
            obtain ⟨bb, off, Y, yc, hUe, ha⟩ := HAu.out.get hy
            have hbb := ha.hb
            have hBw := HP.out.below (HK4.out.trans hKr.out)
            have z0 := cell_on hBw (show kb < bp + 1 by omega) (hkc n (0 + q) hq)
            rw [Nat.zero_add] at z0
            have z1 := cell_on hBw (show bb < bp + 1 by omega) ha.c0
            have z2 := cell_on hBw (show bb < bp + 1 by omega) ha.c1
            subst hKe hUe
            have hszy := nd_size (List.mem_of_getElem? hy)
            have HSm : Hid (∀ z : LatC wr (FndC La.length rb) (PrI bp o P Q pc qc (some ⟨b1, o1, none⟩) (some ⟨b2, o2, none⟩) ca cb La Lb bo fc rb F), Calls Try.prog 13 #[.agg #[.int .i64 y.fn, .slice Y y.args.length yc], .agg #[.int .i64 x.fn, .slice X x.args.length xc]] z.w fun e w' => e = .returned (.bool (decide (cmpT y x = 0))) ∧ Below z.w.heap.size z.w w') := Lib.hid fun z => by
              have hBz := (HP.out.below (HK4.out.trans (hKr.out.trans z.h))).mono (Nat.le_succ _)
              have hz1 := hBz.size
              exact ref2Same_any' y x Y X yc xc z.w ha.hi hfx ((ha.sub.blw hBz).more (by omega)) ((HAx.out.blw hBz).more (by omega))
            have HAb : Hid (∀ z : LatC wr (FndC La.length rb) (PrI bp o P Q pc qc (some ⟨b1, o1, none⟩) (some ⟨b2, o2, none⟩) ca cb La Lb bo fc rb F), Calls Try.prog 20 #[.pointer (some ⟨bp, 0, none⟩), .int .i64 (q : Int), .int .i64 (k : Int)] z.w fun e w' => e = .returned (.bool (lpT o.prec y x)) ∧ KeepsC (FndC La.length rb) z.w w' ∧ (PrI bp o P Q pc qc (some ⟨b1, o1, none⟩) (some ⟨b2, o2, none⟩) ca cb La Lb bo fc rb F z.w → PrI bp o P Q pc qc (some ⟨b1, o1, none⟩) (some ⟨b2, o2, none⟩) ca cb La Lb bo fc rb F w')) := Lib.hid fun z => by
              have hIz := z.i HIr.out
              exact (h.lat HU.out hLq Hx.out (by omega) (by omega) z.w hIz).mono fun e w' ⟨he, hk', hi'⟩ => ⟨he, hk', fun _ => hi'⟩
            have hT := Lib.hid (any_take (p := fun y => decide (cmpT y x = 0) || lpT o.prec y x) hy)
            have hmem := Lib.hid (List.mem_of_getElem? hy)
            have m0 : ∀ z : LatC wr (FndC La.length rb) (PrI bp o P Q pc qc (some ⟨b1, o1, none⟩) (some ⟨b2, o2, none⟩) ca cb La Lb bo fc rb F), z.w.cell? ⟨bp, 4, none⟩ = some (.slice (some ⟨b1, o1, none⟩) La.length ca) := fun z => z.cell (by omega) (HCb.out _ (by omega)) a0
            have m1 : ∀ z : LatC wr (FndC La.length rb) (PrI bp o P Q pc qc (some ⟨b1, o1, none⟩) (some ⟨b2, o2, none⟩) ca cb La Lb bo fc rb F), z.w.cell? ⟨b1, o1 + i * 3 + 2, none⟩ = some (.slice (some ⟨kb, ko, none⟩) u.args.length kc1) := fun z => z.cell (by omega) (HCb.out _ (by omega)) a1
            have m2 : ∀ z : LatC wr (FndC La.length rb) (PrI bp o P Q pc qc (some ⟨b1, o1, none⟩) (some ⟨b2, o2, none⟩) ca cb La Lb bo fc rb F), z.w.cell? ⟨b6, 0, none⟩ = some (.int .i64 x.fn) := fun z => z.cell (by omega) hC6 a2
            have m3 : ∀ z : LatC wr (FndC La.length rb) (PrI bp o P Q pc qc (some ⟨b1, o1, none⟩) (some ⟨b2, o2, none⟩) ca cb La Lb bo fc rb F), z.w.cell? ⟨b6, 1, none⟩ = some (.slice X x.args.length xc) := fun z => z.cell (by omega) hC6 a3
            have m4 : ∀ z : LatC wr (FndC La.length rb) (PrI bp o P Q pc qc (some ⟨b1, o1, none⟩) (some ⟨b2, o2, none⟩) ca cb La Lb bo fc rb F), z.w.cell? ⟨b5, 1, none⟩ = some (.slice (some ⟨bb, off, none⟩) u.args.length uc) := fun z => z.cell (by omega) hC5 a5
            have m5 : ∀ z : LatC wr (FndC La.length rb) (PrI bp o P Q pc qc (some ⟨b1, o1, none⟩) (some ⟨b2, o2, none⟩) ca cb La Lb bo fc rb F), z.w.cell? ⟨bb, off + n * 2, none⟩ = some (.int .i64 y.fn) := fun z => z.cell (by omega) (HCb.out _ (by omega)) z1
            have m6 : ∀ z : LatC wr (FndC La.length rb) (PrI bp o P Q pc qc (some ⟨b1, o1, none⟩) (some ⟨b2, o2, none⟩) ca cb La Lb bo fc rb F), z.w.cell? ⟨bb, off + n * 2 + 1, none⟩ = some (.slice Y y.args.length yc) := fun z => z.cell (by omega) (HCb.out _ (by omega)) z2
            have m7 : ∀ z : LatC wr (FndC La.length rb) (PrI bp o P Q pc qc (some ⟨b1, o1, none⟩) (some ⟨b2, o2, none⟩) ca cb La Lb bo fc rb F), z.w.cell? ⟨kb, ko + n, none⟩ = some (.int .i64 (q : Int)) := fun z => z.cell (by omega) (HCb.out _ (by omega)) z0
            clear hkc hq hLq hy ha hBw
            cases hc : decide (cmpT y x = 0) with
            | true =>
              rw [hc] at HSm
              have hfin := Lib.hid (show lpT o.prec u x = true by
                rw [Hq.out, Bool.or_eq_true]
                exact .inl (List.any_eq_true.2 ⟨y, hmem.out, by rw [hc]; rfl⟩))
              clear hc
              go_upto_region 9 with fail
              refine wp_region_latC wr (FndC La.length rb) (PrI bp o P Q pc qc (some ⟨b1, o1, none⟩) (some ⟨b2, o2, none⟩) ca cb La Lb bo fc rb F) (by kernel_rfl) (by kernel_rfl) (KeepsC.of_below (bl_drewN (Below.refl _ _) 1)) (fun h => h.on (bl_drewN (Below.refl _ _) 1)) ?_
              repeat (go_big_quiet_step (first
                | (go_at_call 13; with_reducible refine calls_latCB _ Hst.out (HSm.out _))
                | (go_at_call 20; with_reducible refine calls_latCF _ (HAb.out _))
                | fail))
              refine wpQuiet_nil ?_
              rintro _ ⟨z, rfl⟩
              clear m0 m1 m2 m3 m4 m5 m6 m7
              go_wp2
              go_ret
              exact ⟨by rw [hfin.out]; rfl, HK4.out.trans (hKr.out.trans z.h), z.i HIr.out⟩
            | false =>
              rw [hc] at HSm
              cases hl : lpT o.prec y x with
              | true =>
                rw [hl] at HAb
                have hfin := Lib.hid (show lpT o.prec u x = true by
                  rw [Hq.out, Bool.or_eq_true]
                  exact .inl (List.any_eq_true.2 ⟨y, hmem.out, by rw [hl]; simp⟩))
                clear hc hl
                go_upto_region 9 with fail
                refine wp_region_latC wr (FndC La.length rb) (PrI bp o P Q pc qc (some ⟨b1, o1, none⟩) (some ⟨b2, o2, none⟩) ca cb La Lb bo fc rb F) (by kernel_rfl) (by kernel_rfl) (KeepsC.of_below (bl_drewN (Below.refl _ _) 1)) (fun h => h.on (bl_drewN (Below.refl _ _) 1)) ?_
                repeat (go_big_quiet_step (first
                  | (go_at_call 13; with_reducible refine calls_latCB _ Hst.out (HSm.out _))
                  | (go_at_call 20; with_reducible refine calls_latCF _ (HAb.out _))
                  | fail))
                refine wpQuiet_nil ?_
                rintro _ ⟨z, rfl⟩
                clear m0 m1 m2 m3 m4 m5 m6 m7
                go_wp2
                go_ret
                exact ⟨by rw [hfin.out]; rfl, HK4.out.trans (hKr.out.trans z.h), z.i HIr.out⟩
              | false =>
                rw [hl] at HAb
                have hN := Lib.hid (show (u.args.take (n + 1)).any (fun y => decide (cmpT y x = 0) || lpT o.prec y x) = false by rw [hT.out, Hany.out, hc, hl]; rfl)
                clear hc hl
                go_upto_region 9 with fail
                refine wp_region_latC wr (FndC La.length rb) (PrI bp o P Q pc qc (some ⟨b1, o1, none⟩) (some ⟨b2, o2, none⟩) ca cb La Lb bo fc rb F) (by kernel_rfl) (by kernel_rfl) (KeepsC.of_below (bl_drewN (Below.refl _ _) 1)) (fun h => h.on (bl_drewN (Below.refl _ _) 1)) ?_
                repeat (go_big_quiet_step (first
                  | (go_at_call 13; with_reducible refine calls_latCB _ Hst.out (HSm.out _))
                  | (go_at_call 20; with_reducible refine calls_latCF _ (HAb.out _))
                  | fail))
                refine wpQuiet_nil ?_
                rintro _ ⟨z, rfl⟩
                clear m0 m1 m2 m3 m4 m5 m6 m7
                go_wp2
                go_roundw
                case rel => exact ⟨n + 1, by omega, by go_num, Lib.hid (hKr.out.trans z.h), Lib.hid (z.i HIr.out), hN⟩
                case measure => simp [intOf]; omega
          · obtain rfl : n = u.args.length := by omega
            have Hq1 := Lib.hid (show lpT o.prec u x = (if u.fn = x.fn then (x.args.all fun y => lpT o.prec u y) && lexA (lpT o.prec) u.args x.args else decide (rkI o.prec x.fn < rkI o.prec u.fn) && x.args.all fun y => lpT o.prec u y) by
              have := Hany.out
              rw [List.take_length] at this
              rw [Hq.out, this, Bool.false_or])
            by_cases hfn : u.fn = x.fn
            · have e1 : (u.fn != x.fn) = false := by simp [hfn]
              have hval := Lib.hid (show lpT o.prec u x = ((x.args.all fun y => lpT o.prec u y) && lexA (lpT o.prec) u.args x.args) by rw [Hq1.out, if_pos hfn])
              have HAl := Lib.hid (hL.lat HU.out Hu.out Hx.out hz wr HIr.out)
              clear hfn
              cases hal : (x.args.all fun y => lpT o.prec u y) with
              | false =>
                rw [hal] at HAl hval
                clear hal
                go_wp2_with (first
                  | (go_at_call 31; (with_reducible refine HAl.out.mono ?_); go_must (rintro e w5 ⟨rfl, hK5, hI5⟩; have HI5 := Lib.hid hI5; clear hI5))
                  | fail)
                go_ret
                exact ⟨by rw [hval.out]; rfl, HK4.out.trans (hKr.out.trans hK5), HI5.out⟩
              | true =>
                rw [hal] at HAl hval
                have Hlex := Lib.hid (show lpT o.prec u x = lexA (lpT o.prec) u.args x.args by rw [hval.out, Bool.true_and])
                clear hal hval
                go_wp2_with (first
                  | (go_at_call 31; (with_reducible refine HAl.out.mono ?_); go_must (rintro e w5 ⟨rfl, hK5, hI5⟩; have HI5 := Lib.hid hI5; have HK5 := Lib.hid (hKr.out.trans hK5); clear hI5 hK5))
                  | fail)
                clear a0 a1 a2 a3 a4 a5 hsr
                go_loopw [10] (fun j ws => ∃ n : Nat, n ≤ u.args.length ∧ n ≤ x.args.length ∧ j = .int .i64 (n : Int) ∧ Hid (KeepsC (FndC La.length rb) w4 ws) ∧ Hid (PrI bp o P Q pc qc (some ⟨b1, o1, none⟩) (some ⟨b2, o2, none⟩) ca cb La Lb bo fc rb F ws) ∧ Hid (lexA (lpT o.prec) (u.args.drop n) (x.args.drop n) = lexA (lpT o.prec) u.args x.args)) (fun j _ => u.args.length - (intOf j).toNat)
                case atStart => exact ⟨0, Nat.zero_le _, Nat.zero_le _, rfl, HK5, HI5, Lib.hid rfl⟩
                case round =>
                  obtain ⟨n, hn, hn2, rfl, hKs, HIs, Hlx⟩ := hrel
                  obtain ⟨s0, s1, s2, s3, s4, s5⟩ := HS4.out
                  have hsr := (hKs.out).size
                  have a0 := cellK (hKs.out) (show bp < w4.heap.size by omega) (HCb.out _ (by omega)) s0
                  have a1 := cellK (hKs.out) (show b1 < w4.heap.size by omega) (HCb.out _ (by omega)) s1
                  have a2 := cellK (hKs.out) k2 hC6 s4
                  have a3 := cellK (hKs.out) k2 hC6 s5
                  have a4 := cellK (hKs.out) g2 hC5 s2
                  have a5 := cellK (hKs.out) g2 hC5 s3
                  clear s0 s1 s2 s3 s4 s5
                  by_cases hnl : n < u.args.length ∧ n < x.args.length
                  · obtain ⟨hnl, hnl2⟩ := hnl
                    obtain ⟨y, hy⟩ : ∃ y, u.args[n]? = some y := ⟨_, List.getElem?_eq_getElem hnl⟩
                    obtain ⟨v, hv⟩ : ∃ v, x.args[n]? = some v := ⟨_, List.getElem?_eq_getElem hnl2⟩
                    obtain ⟨q, kq, hq, hLq⟩ := Hka2.out n y hy
                    obtain ⟨r, kr, hr, hLr⟩ := Hkb2.out n v hv
                    obtain ⟨kb, ko, hKe, hkb', hkc⟩ := HK1.out (by rw [hka1]; omega)
                    obtain ⟨kb2, ko2, hKe2, hkb2', hkc2⟩ := HK2.out (by rw [hkb1]; omega)
                    obtain ⟨bb, off, Y, yc, hUe, ha⟩ := HAu.out.get hy
                    obtain ⟨bb2, off2, V, vc, hXe, ha2⟩ := HAx.out.get hv
                    have hbb := ha.hb
                    have hbb2 := ha2.hb
                    have hBw := HP.out.below (HK4.out.trans hKs.out)
                    have z0 := cell_on hBw (show kb < bp + 1 by omega) (hkc n (0 + q) hq)
                    have z3 := cell_on hBw (show kb2 < bp + 1 by omega) (hkc2 n (0 + r) hr)
                    rw [Nat.zero_add] at z0 z3
                    have z1 := cell_on hBw (show bb < bp + 1 by omega) ha.c0
                    have z2 := cell_on hBw (show bb < bp + 1 by omega) ha.c1
                    have z4 := cell_on hBw (show bb2 < bp + 1 by omega) ha2.c0
                    have z5 := cell_on hBw (show bb2 < bp + 1 by omega) ha2.c1
                    have z6 := cell_on hBw (show bp < bp + 1 by omega) HP.out.c5
                    have z7 := cell_on hBw (show b2 < bp + 1 by omega) p2
                    rw [hkb1] at z7
                    subst hKe hKe2 hUe hXe
                    have hszy := nd_size (List.mem_of_getElem? hy)
                    have hszv := nd_size (List.mem_of_getElem? hv)
                    have HSm : Hid (∀ z : LatC wr (FndC La.length rb) (PrI bp o P Q pc qc (some ⟨b1, o1, none⟩) (some ⟨b2, o2, none⟩) ca cb La Lb bo fc rb F), Calls Try.prog 13 #[.agg #[.int .i64 y.fn, .slice Y y.args.length yc], .agg #[.int .i64 v.fn, .slice V v.args.length vc]] z.w fun e w' => e = .returned (.bool (decide (cmpT y v = 0))) ∧ Below z.w.heap.size z.w w') := Lib.hid fun z => by
                      have hBz := (HP.out.below (HK4.out.trans (hKs.out.trans z.h))).mono (Nat.le_succ _)
                      have hz1 := hBz.size
                      exact ref2Same_any' y v Y V yc vc z.w ha.hi ha2.hi ((ha.sub.blw hBz).more (by omega)) ((ha2.sub.blw hBz).more (by omega))
                    have HAb : Hid (∀ z : LatC wr (FndC La.length rb) (PrI bp o P Q pc qc (some ⟨b1, o1, none⟩) (some ⟨b2, o2, none⟩) ca cb La Lb bo fc rb F), Calls Try.prog 20 #[.pointer (some ⟨bp, 0, none⟩), .int .i64 (q : Int), .int .i64 (r : Int)] z.w fun e w' => e = .returned (.bool (lpT o.prec y v)) ∧ KeepsC (FndC La.length rb) z.w w' ∧ (PrI bp o P Q pc qc (some ⟨b1, o1, none⟩) (some ⟨b2, o2, none⟩) ca cb La Lb bo fc rb F z.w → PrI bp o P Q pc qc (some ⟨b1, o1, none⟩) (some ⟨b2, o2, none⟩) ca cb La Lb bo fc rb F w')) := Lib.hid fun z => (h.lat HU.out hLq hLr (by omega) (by omega) z.w (z.i HIs.out)).mono fun e w' ⟨he, hk', hi'⟩ => ⟨he, hk', fun _ => hi'⟩
                    have m0 : ∀ z : LatC wr (FndC La.length rb) (PrI bp o P Q pc qc (some ⟨b1, o1, none⟩) (some ⟨b2, o2, none⟩) ca cb La Lb bo fc rb F), z.w.cell? ⟨bp, 4, none⟩ = some (.slice (some ⟨b1, o1, none⟩) La.length ca) := fun z => z.cell (by omega) (HCb.out _ (by omega)) a0
                    have m1 : ∀ z : LatC wr (FndC La.length rb) (PrI bp o P Q pc qc (some ⟨b1, o1, none⟩) (some ⟨b2, o2, none⟩) ca cb La Lb bo fc rb F), z.w.cell? ⟨b1, o1 + i * 3 + 2, none⟩ = some (.slice (some ⟨kb, ko, none⟩) u.args.length kc1) := fun z => z.cell (by omega) (HCb.out _ (by omega)) a1
                    have m2 : ∀ z : LatC wr (FndC La.length rb) (PrI bp o P Q pc qc (some ⟨b1, o1, none⟩) (some ⟨b2, o2, none⟩) ca cb La Lb bo fc rb F), z.w.cell? ⟨bp, 5, none⟩ = some (.slice (some ⟨b2, o2, none⟩) Lb.length cb) := fun z => z.cell (by omega) (HCb.out _ (by omega)) z6
                    have m3 : ∀ z : LatC wr (FndC La.length rb) (PrI bp o P Q pc qc (some ⟨b1, o1, none⟩) (some ⟨b2, o2, none⟩) ca cb La Lb bo fc rb F), z.w.cell? ⟨b2, o2 + k * 3 + 2, none⟩ = some (.slice (some ⟨kb2, ko2, none⟩) x.args.length kc2) := fun z => z.cell (by omega) (HCb.out _ (by omega)) z7
                    have m4 : ∀ z : LatC wr (FndC La.length rb) (PrI bp o P Q pc qc (some ⟨b1, o1, none⟩) (some ⟨b2, o2, none⟩) ca cb La Lb bo fc rb F), z.w.cell? ⟨b6, 1, none⟩ = some (.slice (some ⟨bb2, off2, none⟩) x.args.length xc) := fun z => z.cell (by omega) hC6 a3
                    have m5 : ∀ z : LatC wr (FndC La.length rb) (PrI bp o P Q pc qc (some ⟨b1, o1, none⟩) (some ⟨b2, o2, none⟩) ca cb La Lb bo fc rb F), z.w.cell? ⟨b5, 1, none⟩ = some (.slice (some ⟨bb, off, none⟩) u.args.length uc) := fun z => z.cell (by omega) hC5 a5
                    have m6 : ∀ z : LatC wr (FndC La.length rb) (PrI bp o P Q pc qc (some ⟨b1, o1, none⟩) (some ⟨b2, o2, none⟩) ca cb La Lb bo fc rb F), z.w.cell? ⟨bb, off + n * 2, none⟩ = some (.int .i64 y.fn) := fun z => z.cell (by omega) (HCb.out _ (by omega)) z1
                    have m7 : ∀ z : LatC wr (FndC La.length rb) (PrI bp o P Q pc qc (some ⟨b1, o1, none⟩) (some ⟨b2, o2, none⟩) ca cb La Lb bo fc rb F), z.w.cell? ⟨bb, off + n * 2 + 1, none⟩ = some (.slice Y y.args.length yc) := fun z => z.cell (by omega) (HCb.out _ (by omega)) z2
                    have m8 : ∀ z : LatC wr (FndC La.length rb) (PrI bp o P Q pc qc (some ⟨b1, o1, none⟩) (some ⟨b2, o2, none⟩) ca cb La Lb bo fc rb F), z.w.cell? ⟨bb2, off2 + n * 2, none⟩ = some (.int .i64 v.fn) := fun z => z.cell (by omega) (HCb.out _ (by omega)) z4
                    have m9 : ∀ z : LatC wr (FndC La.length rb) (PrI bp o P Q pc qc (some ⟨b1, o1, none⟩) (some ⟨b2, o2, none⟩) ca cb La Lb bo fc rb F), z.w.cell? ⟨bb2, off2 + n * 2 + 1, none⟩ = some (.slice V v.args.length vc) := fun z => z.cell (by omega) (HCb.out _ (by omega)) z5
                    have l0 : ∀ z : LatC wr (FndC La.length rb) (PrI bp o P Q pc qc (some ⟨b1, o1, none⟩) (some ⟨b2, o2, none⟩) ca cb La Lb bo fc rb F), z.w.cell? ⟨kb, ko + n, none⟩ = some (.int .i64 (q : Int)) := fun z => z.cell (by omega) (HCb.out _ (by omega)) z0
                    have l1 : ∀ z : LatC wr (FndC La.length rb) (PrI bp o P Q pc qc (some ⟨b1, o1, none⟩) (some ⟨b2, o2, none⟩) ca cb La Lb bo fc rb F), z.w.cell? ⟨kb2, ko2 + n, none⟩ = some (.int .i64 (r : Int)) := fun z => z.cell (by omega) (HCb.out _ (by omega)) z3
                    by_cases heq : cmpT y v = 0
                    · rw [decide_eq_true heq] at HSm
                      have Hn := Lib.hid (show lexA (lpT o.prec) (u.args.drop (n + 1)) (x.args.drop (n + 1)) = lexA (lpT o.prec) u.args x.args by rw [← lexA_same hy hv heq]; exact Hlx.out)
                      clear heq hkc hkc2 hq hr hLq hLr hy hv ha ha2 hBw
                      go_upto_region 18 with fail
                      refine wp_region_latC wr (FndC La.length rb) (PrI bp o P Q pc qc (some ⟨b1, o1, none⟩) (some ⟨b2, o2, none⟩) ca cb La Lb bo fc rb F) (by kernel_rfl) (by kernel_rfl) (KeepsC.of_below (bl_drewN (Below.refl _ _) 1)) (fun h => h.on (bl_drewN (Below.refl _ _) 1)) ?_
                      repeat (go_big_quiet_step (first
                        | (go_at_call 13; with_reducible refine calls_latCB _ Hst.out (HSm.out _))
                        | fail))
                      refine wpQuiet_nil ?_
                      rintro _ ⟨z, rfl⟩
                      clear m0 m1 m2 m3 m4 m5 m6 m7 m8 m9 l0 l1
                      go_wp2
                      go_roundw
                      case rel => exact ⟨n + 1, by omega, by omega, by go_num, Lib.hid (hKs.out.trans z.h), Lib.hid (z.i HIs.out), Hn⟩
                      case measure => simp [intOf]; omega
                    · rw [decide_eq_false heq] at HSm
                      have Hn := Lib.hid (show lpT o.prec u x = lpT o.prec y v by rw [Hlex.out, ← Hlx.out]; exact lexA_other hy hv heq)
                      obtain ⟨rv, hrv⟩ : ∃ b, lpT o.prec y v = b := ⟨_, rfl⟩
                      rw [hrv] at HAb Hn
                      clear heq hkc hkc2 hq hr hLq hLr hy hv ha ha2 hBw hrv
                      go_upto_region 18 with fail
                      refine wp_region_latC wr (FndC La.length rb) (PrI bp o P Q pc qc (some ⟨b1, o1, none⟩) (some ⟨b2, o2, none⟩) ca cb La Lb bo fc rb F) (by kernel_rfl) (by kernel_rfl) (KeepsC.of_below (bl_drewN (Below.refl _ _) 1)) (fun h => h.on (bl_drewN (Below.refl _ _) 1)) ?_
                      repeat (go_big_quiet_step (first
                        | (go_at_call 13; with_reducible refine calls_latCB _ Hst.out (HSm.out _))
                        | fail))
                      refine wpQuiet_nil ?_
                      rintro _ ⟨z, rfl⟩

                      have HAb : Hid (∀ z2 : LatC z.w (FndC La.length rb) (PrI bp o P Q pc qc (some ⟨b1, o1, none⟩) (some ⟨b2, o2, none⟩) ca cb La Lb bo fc rb F), Calls Try.prog 20 #[.pointer (some ⟨bp, 0, none⟩), .int .i64 (q : Int), .int .i64 (r : Int)] z2.w fun e w' => e = .returned (.bool rv) ∧ KeepsC (FndC La.length rb) z2.w w' ∧ (PrI bp o P Q pc qc (some ⟨b1, o1, none⟩) (some ⟨b2, o2, none⟩) ca cb La Lb bo fc rb F z2.w → PrI bp o P Q pc qc (some ⟨b1, o1, none⟩) (some ⟨b2, o2, none⟩) ca cb La Lb bo fc rb F w')) := Lib.hid fun z2 => HAb.out ⟨z2.w, z.h.trans z2.h, fun k => z2.i (z.i k)⟩
                      have n0 : ∀ z2 : LatC z.w (FndC La.length rb) (PrI bp o P Q pc qc (some ⟨b1, o1, none⟩) (some ⟨b2, o2, none⟩) ca cb La Lb bo fc rb F), z2.w.cell? ⟨bp, 4, none⟩ = some (.slice (some ⟨b1, o1, none⟩) La.length ca) := fun z2 => m0 ⟨z2.w, z.h.trans z2.h, fun k => z2.i (z.i k)⟩
                      have n1 : ∀ z2 : LatC z.w (FndC La.length rb) (PrI bp o P Q pc qc (some ⟨b1, o1, none⟩) (some ⟨b2, o2, none⟩) ca cb La Lb bo fc rb F), z2.w.cell? ⟨b1, o1 + i * 3 + 2, none⟩ = some (.slice (some ⟨kb, ko, none⟩) u.args.length kc1) := fun z2 => m1 ⟨z2.w, z.h.trans z2.h, fun k => z2.i (z.i k)⟩
                      have n2 : ∀ z2 : LatC z.w (FndC La.length rb) (PrI bp o P Q pc qc (some ⟨b1, o1, none⟩) (some ⟨b2, o2, none⟩) ca cb La Lb bo fc rb F), z2.w.cell? ⟨bp, 5, none⟩ = some (.slice (some ⟨b2, o2, none⟩) Lb.length cb) := fun z2 => m2 ⟨z2.w, z.h.trans z2.h, fun k => z2.i (z.i k)⟩
                      have n3 : ∀ z2 : LatC z.w (FndC La.length rb) (PrI bp o P Q pc qc (some ⟨b1, o1, none⟩) (some ⟨b2, o2, none⟩) ca cb La Lb bo fc rb F), z2.w.cell? ⟨b2, o2 + k * 3 + 2, none⟩ = some (.slice (some ⟨kb2, ko2, none⟩) x.args.length kc2) := fun z2 => m3 ⟨z2.w, z.h.trans z2.h, fun k => z2.i (z.i k)⟩
                      have n4 : ∀ z2 : LatC z.w (FndC La.length rb) (PrI bp o P Q pc qc (some ⟨b1, o1, none⟩) (some ⟨b2, o2, none⟩) ca cb La Lb bo fc rb F), z2.w.cell? ⟨kb, ko + n, none⟩ = some (.int .i64 (q : Int)) := fun z2 => l0 ⟨z2.w, z.h.trans z2.h, fun k => z2.i (z.i k)⟩
                      have n5 : ∀ z2 : LatC z.w (FndC La.length rb) (PrI bp o P Q pc qc (some ⟨b1, o1, none⟩) (some ⟨b2, o2, none⟩) ca cb La Lb bo fc rb F), z2.w.cell? ⟨kb2, ko2 + n, none⟩ = some (.int .i64 (r : Int)) := fun z2 => l1 ⟨z2.w, z.h.trans z2.h, fun k => z2.i (z.i k)⟩
                      clear m0 m1 m2 m3 m4 m5 m6 m7 m8 m9 l0 l1
                      go_upto_region 19 with fail
                      refine wp_region_latC z.w (FndC La.length rb) (PrI bp o P Q pc qc (some ⟨b1, o1, none⟩) (some ⟨b2, o2, none⟩) ca cb La Lb bo fc rb F) (by kernel_rfl) (by kernel_rfl) (KeepsC.of_below (bl_drewN (Below.refl _ _) 1)) (fun h => h.on (bl_drewN (Below.refl _ _) 1)) ?_
                      repeat (go_big_quiet_step (first
                        | (go_at_call 20; with_reducible refine calls_latCF _ (HAb.out _))
                        | fail))
                      refine wpQuiet_nil ?_
                      rintro _ ⟨z3, rfl⟩
                      clear n0 n1 n2 n3 n4 n5
                      go_wp2
                      go_ret
                      exact ⟨by rw [Hn.out]; rfl, HK4.out.trans (hKs.out.trans (z.h.trans z3.h)), z3.i (z.i HIs.out)⟩
                  · have hfin := Lib.hid (show lpT o.prec u x = decide (x.args.length < u.args.length) by rw [Hlex.out, ← Hlx.out]; exact lexA_end hn hn2 hnl)
                    by_cases hnl2 : n < u.args.length
                    · have g1 : ¬ n < x.args.length := fun e => hnl ⟨hnl2, e⟩
                      go_wp2
                      go_ret
                      exact ⟨by rw [hfin.out]; simp, HK4.out.trans hKs.out, HIs.out⟩
                    · go_wp2
                      go_ret
                      exact ⟨by rw [hfin.out]; simp, HK4.out.trans hKs.out, HIs.out⟩
            · obtain ⟨un, hun'⟩ : ∃ un : Nat, u.fn = (un : Int) := ⟨u.fn.toNat, by omega⟩
              obtain ⟨xn, hxn'⟩ : ∃ xn : Nat, x.fn = (xn : Int) := ⟨x.fn.toNat, by omega⟩
              have hul' := layK_lt (hka i u ku Hu.out)
              have hxl' := layK_lt (hkb k x kx Hx.out)
              have e1 : (u.fn != x.fn) = true := by simp [hfn]
              obtain ⟨pu, hpu⟩ : ∃ v, o.prec[un]? = some v := ⟨_, List.getElem?_eq_getElem (by omega)⟩
              obtain ⟨px, hpx⟩ : ∃ v, o.prec[xn]? = some v := ⟨_, List.getElem?_eq_getElem (by omega)⟩
              have hru : rkI o.prec u.fn = pu := by unfold rkI; rw [hun', Int.toNat_natCast, List.getD_eq_getElem?_getD, hpu]; rfl
              have hrx : rkI o.prec x.fn = px := by unfold rkI; rw [hxn', Int.toNat_natCast, List.getD_eq_getElem?_getD, hpx]; rfl
              obtain ⟨pb, po, hPe, hpb, hpc1⟩ := HP.out.pr.get hpu
              obtain ⟨pb', po', hPe', _, hpc2⟩ := HP.out.pr.get hpx
              have hpe := hPe.symm.trans hPe'
              simp only [Option.some.injEq, Addr.mk.injEq, and_true] at hpe
              obtain ⟨rfl, rfl⟩ := hpe
              have hBw := HP.out.below (HK4.out.trans hKr.out)
              have z0 := cell_on hBw (show pb < bp + 1 by omega) hpc1
              have z1 := cell_on hBw (show pb < bp + 1 by omega) hpc2
              have z2 := cell_on hBw (show bp < bp + 1 by omega) HP.out.c1
              rw [hPe] at z2
              have hval : lpT o.prec u x = (decide (px < pu) && x.args.all fun y => lpT o.prec u y) := by rw [Hq1.out, if_neg hfn, hru, hrx]
              have Hval := Lib.hid hval
              have HAl : Hid (∀ z : LatC wr (FndC La.length rb) (PrI bp o P Q pc qc (some ⟨b1, o1, none⟩) (some ⟨b2, o2, none⟩) ca cb La Lb bo fc rb F), Calls Try.prog 31 #[.pointer (some ⟨bp, 0, none⟩), .int .i64 (i : Int), .int .i64 (k : Int)] z.w fun e w' => e = .returned (.bool (x.args.all fun y => lpT o.prec u y)) ∧ KeepsC (FndC La.length rb) z.w w' ∧ (PrI bp o P Q pc qc (some ⟨b1, o1, none⟩) (some ⟨b2, o2, none⟩) ca cb La Lb bo fc rb F z.w → PrI bp o P Q pc qc (some ⟨b1, o1, none⟩) (some ⟨b2, o2, none⟩) ca cb La Lb bo fc rb F w')) := Lib.hid fun z => (hL.lat HU.out Hu.out Hx.out hz z.w (z.i HIr.out)).mono fun e w' ⟨he, hk', hi'⟩ => ⟨he, hk', fun _ => hi'⟩
              have hlo := HP.out.pr.len
              have m0 : ∀ z : LatC wr (FndC La.length rb) (PrI bp o P Q pc qc (some ⟨b1, o1, none⟩) (some ⟨b2, o2, none⟩) ca cb La Lb bo fc rb F), z.w.cell? ⟨bp, 1, none⟩ = some (.slice (some ⟨pb, po, none⟩) o.prec.length pc) := fun z => z.cell (by omega) (HCb.out _ (by omega)) z2
              have m1 : ∀ z : LatC wr (FndC La.length rb) (PrI bp o P Q pc qc (some ⟨b1, o1, none⟩) (some ⟨b2, o2, none⟩) ca cb La Lb bo fc rb F), z.w.cell? ⟨b5, 0, none⟩ = some (.int .i64 (un : Int)) := fun z => hun' ▸ z.cell (by omega) hC5 a4
              have m2 : ∀ z : LatC wr (FndC La.length rb) (PrI bp o P Q pc qc (some ⟨b1, o1, none⟩) (some ⟨b2, o2, none⟩) ca cb La Lb bo fc rb F), z.w.cell? ⟨b6, 0, none⟩ = some (.int .i64 (xn : Int)) := fun z => hxn' ▸ z.cell (by omega) hC6 a2
              have m3 : ∀ z : LatC wr (FndC La.length rb) (PrI bp o P Q pc qc (some ⟨b1, o1, none⟩) (some ⟨b2, o2, none⟩) ca cb La Lb bo fc rb F), z.w.cell? ⟨pb, po + un, none⟩ = some (.int .i64 pu) := fun z => z.cell (by omega) (HCb.out _ (by omega)) z0
              have m4 : ∀ z : LatC wr (FndC La.length rb) (PrI bp o P Q pc qc (some ⟨b1, o1, none⟩) (some ⟨b2, o2, none⟩) ca cb La Lb bo fc rb F), z.w.cell? ⟨pb, po + xn, none⟩ = some (.int .i64 px) := fun z => z.cell (by omega) (HCb.out _ (by omega)) z1
              obtain ⟨al, hal⟩ : ∃ b, (x.args.all fun y => lpT o.prec u y) = b := ⟨_, rfl⟩
              rw [hal] at HAl Hval
              clear hal hval hpc1 hpc2 hpu hpx hru hrx hBw
              cases hg : decide (px < pu) with
              | true =>
                rw [hg, Bool.true_and] at Hval
                go_upto_region 12 with fail
                refine wp_region_latC wr (FndC La.length rb) (PrI bp o P Q pc qc (some ⟨b1, o1, none⟩) (some ⟨b2, o2, none⟩) ca cb La Lb bo fc rb F) (by kernel_rfl) (by kernel_rfl) (KeepsC.of_below (bl_drewN (Below.refl _ _) 1)) (fun h => h.on (bl_drewN (Below.refl _ _) 1)) ?_
                repeat (go_big_quiet_step (first
                  | (go_at_call 31; with_reducible refine calls_latCF _ (HAl.out _))
                  | fail))
                refine wpQuiet_nil ?_
                rintro _ ⟨z, rfl⟩
                clear m0 m1 m2 m3 m4
                go_wp2
                go_ret
                exact ⟨by rw [Hval.out]; rfl, HK4.out.trans (hKr.out.trans z.h), z.i HIr.out⟩
              | false =>
                rw [hg, Bool.false_and] at Hval
                go_upto_region 12 with fail
                refine wp_region_latC wr (FndC La.length rb) (PrI bp o P Q pc qc (some ⟨b1, o1, none⟩) (some ⟨b2, o2, none⟩) ca cb La Lb bo fc rb F) (by kernel_rfl) (by kernel_rfl) (KeepsC.of_below (bl_drewN (Below.refl _ _) 1)) (fun h => h.on (bl_drewN (Below.refl _ _) 1)) ?_
                repeat (go_big_quiet_step (first
                  | (go_at_call 31; with_reducible refine calls_latCF _ (HAl.out _))
                  | fail))
                refine wpQuiet_nil ?_
                rintro _ ⟨z, rfl⟩
                clear m0 m1 m2 m3 m4
                go_wp2
                go_ret
                exact ⟨by rw [Hval.out]; rfl, HK4.out.trans (hKr.out.trans z.h), z.i HIr.out⟩

end

end Go.Proofs.Ytkpkhnaflohjpaa

/- lpo: the document's own above is right, of parts of any size. -/

namespace Go.Proofs.Ytkpkhnaflohjpaa

open Go.RowKit Go.Shelf Go.Maps
set_option maxRecDepth 100000

section

variable {bp : Nat} {o : Odr} {P Q : Option Addr} {pc qc : Nat} {A B : Option Addr} {ca cb : Nat} {La Lb : List (Tm × List Nat)} {bo fc : Nat} {rb : Nat → Nat}

theorem refAbv_all (hNa : NdOk 0 La) (hNb : NdOk 0 Lb) (hka : ∀ (i : Nat) (u : Tm) (ku : List Nat), La[i]? = some (u, ku) → layK o.prec.length u = true) (hkb : ∀ (i : Nat) (u : Tm) (ku : List Nat), Lb[i]? = some (u, ku) → layK o.prec.length u = true) : ∀ m, AbvI bp o P Q pc qc A B ca cb La Lb bo fc rb m
  | 0 => refAbove9_any fun i k u ku x kx F w hu hx hz => by
    have := size_pos u
    omega
  | m + 1 => by
    have h := refAbv_all hNa hNb hka hkb m
    exact refAbove9_any (refAsk9_any h (refAll9_any h hNb) hNa hNb hka hkb)

end

/-- The rows of a table are parts of the term. -/
theorem nd_known {R : Nat} : ∀ {n : Nat} {t : Tm}, layK R t = true → ∀ (i : Nat) (u : Tm) (ku : List Nat), (ndT n t)[i]? = some (u, ku) → layK R u = true := by
  intro n t
  revert n
  refine Tm.ind (P := fun t => ∀ {n : Nat}, layK R t = true → ∀ (i : Nat) (u : Tm) (ku : List Nat), (ndT n t)[i]? = some (u, ku) → layK R u = true) (fun f xs ih => ?_) t
  intro n h i u ku hi
  have hL : ∀ x ∈ xs, layK R x = true := by
    rw [layK, Bool.and_eq_true] at h
    exact (layKL_take xs).1 h.2
  cases i with
  | zero =>
    rw [ndT_head] at hi
    simp only [Option.some.injEq, Prod.mk.injEq] at hi
    rw [← hi.1]; exact h
  | succ i =>
    rw [ndT, List.getElem?_cons_succ] at hi
    have key : ∀ (ys : List Tm) (n i : Nat), (∀ x ∈ ys, x ∈ xs) → (ndL n ys)[i]? = some (u, ku) → layK R u = true := by
      intro ys
      induction ys with
      | nil => intro n i _ h; rw [ndL] at h; simp at h
      | cons y ys ihy =>
        intro n i hy h
        rw [ndL] at h
        by_cases hlt : i < (ndT n y).length
        · rw [List.getElem?_append_left hlt] at h
          exact ih y (hy y (by simp)) (hL y (hy y (by simp))) i u ku h
        · rw [List.getElem?_append_right (by omega)] at h
          exact ihy _ _ (fun x hx => hy x (by simp [hx])) h
    exact key xs (n + 1) i (fun x hx => hx) hi

end Go.Proofs.Ytkpkhnaflohjpaa

/- kbo, lpo: the boxes of an order and two terms. -/

namespace Go.Proofs.Ytkpkhnaflohjpaa

open Go.RowKit Go.Shelf Go.Maps
set_option maxRecDepth 100000

/-- The boxes of an order and two terms that are parameters, and what stays of them. -/
theorem box_ott {w W : World} {o : Odr} {s t : Tm} {P Q A A2 : Option Addr} {pc qc c c2 : Nat} (hW : ((w.alloc (.cells #[.bool o.lpo, .slice P o.prec.length pc, .slice Q o.wts.length qc, .int .i64 o.var] 24)).alloc (.cells #[.int .i64 s.fn, .slice A s.args.length c] 27)).alloc (.cells #[.int .i64 t.fn, .slice A2 t.args.length c2] 27) = W) :
    Below w.heap.size w W ∧ W.heap.size = w.heap.size + 3 ∧ ∀ w', Below W.heap.size W w' → w'.cell? ⟨w.heap.size, 0, none⟩ = some (.bool o.lpo) ∧ w'.cell? ⟨w.heap.size, 1, none⟩ = some (.slice P o.prec.length pc) ∧ w'.cell? ⟨w.heap.size, 2, none⟩ = some (.slice Q o.wts.length qc) ∧ w'.cell? ⟨w.heap.size, 3, none⟩ = some (.int .i64 o.var) ∧
      w'.cell? ⟨w.heap.size + 1, 0, none⟩ = some (.int .i64 s.fn) ∧ w'.cell? ⟨w.heap.size + 1, 1, none⟩ = some (.slice A s.args.length c) ∧ w'.cell? ⟨w.heap.size + 2, 0, none⟩ = some (.int .i64 t.fn) ∧ w'.cell? ⟨w.heap.size + 2, 1, none⟩ = some (.slice A2 t.args.length c2) := by
  obtain ⟨q0, q1, q2⟩ := heap3 w (.cells #[.bool o.lpo, .slice P o.prec.length pc, .slice Q o.wts.length qc, .int .i64 o.var] 24) (.cells #[.int .i64 s.fn, .slice A s.args.length c] 27) (.cells #[.int .i64 t.fn, .slice A2 t.args.length c2] 27)
  rw [hW] at q0 q1 q2
  have hz : W.heap.size = w.heap.size + 3 := by rw [← hW]; simp
  refine ⟨by rw [← hW]; exact (((Below.refl _ _).alloc (Nat.le_refl _) _).alloc (by simp) _).alloc (by simp; omega) _, hz, fun w' hb => ?_⟩
  obtain ⟨a0, a1, a2, a3⟩ := cells_four ((hb.block _ (by omega)).trans q0)
  obtain ⟨b0, b1, _, _⟩ := cells_two ((hb.block _ (by omega)).trans q1)
  obtain ⟨d0, d1, _, _⟩ := cells_two ((hb.block _ (by omega)).trans q2)
  exact ⟨a0, a1, a2, a3, b0, b1, d0, d1⟩

end Go.Proofs.Ytkpkhnaflohjpaa

