import Derived.Test.YthgglobfkkcdgaaGreatP49S18
import Derived.Test.YthgglobfkkcdgaaGreatP49S17
import Derived.Test.YthgglobfkkcdgaaGreatP49S2
import Derived.ChangeSlices
import Derived.Test.YthgglobfkkcdgaaGreatRows
import Derived.Test.YthgglobfkkcdgaaGreatP49S16
import Derived.ProofKit
import Derived.Below
import Derived.Carry
namespace Go.Proofs.YthgglobfkkcdgaaGreat
open Go Go.RowKit Go.Shelf
set_option maxRecDepth 100000
set_option maxHeartbeats 4000000 in
theorem refMaximal_any (o : Odr) (l : List Li) (k : Nat) (x : Li) (st : Bool) (P Q A : Option Addr) (pc qc c : Nat) (w : World) (hM : OdrM w w.heap.size o P Q) (hL : ClsK w (· < w.heap.size) A l) (hll : l.length ≤ 1048576) (hx : l[k]? = some x) :
    Calls Tryz.prog 10 #[.agg #[.bool o.lpo, .slice P o.prec.length pc, .slice Q o.wts.length qc, .int .i64 o.var], .slice A l.length c, .int .i64 (k : Int), .bool st] w fun e w' => e = .returned (.bool (maxB o l k x st)) ∧ Below w.heap.size w w' := by
  have q0 := heap_alloc_new w (.cells #[.bool o.lpo, .slice P o.prec.length pc, .slice Q o.wts.length qc, .int .i64 o.var] 24)
  obtain ⟨W, hW⟩ : ∃ W, w.alloc (.cells #[.bool o.lpo, .slice P o.prec.length pc, .slice Q o.wts.length qc, .int .i64 o.var] 24) = W := ⟨_, rfl⟩
  have hB : Below w.heap.size w W := by rw [← hW]; exact (Below.refl _ _).alloc (Nat.le_refl _) _
  rw [hW] at q0
  have hq := (Array.getElem?_eq_some_iff.1 q0).1
  have hkl := (List.getElem?_eq_some_iff.1 hx).1
  obtain ⟨b, off, X1, xc1, X2, xc2, rfl, hb, e0, e1, e2, e3, e4, hxK⟩ := hL.get hx
  have HE := Lib.hid (And.intro e0 (And.intro e1 (And.intro e2 (And.intro e3 e4))))
  have HX := Lib.hid hxK
  have HL := Lib.hid hL
  have HM := Lib.hid hM
  have HW := Lib.hid hW
  have Hq := Lib.hid q0
  have Hb := Lib.hid hb
  have g0 : decide ((k : Int) < 0) = false := decide_eq_false (by omega)
  have g1 : decide ((k : Int) ≥ (l.length : Int)) = false := decide_eq_false (by omega)
  clear e0 e1 e2 e3 e4 hxK hL hM hW q0 hb hx
  go_enter Tryz.func10, Tryz.ntmps10
  go_upto_region 1 with fail
  rw [HW.out]
  go_wp2
  go_loopw [9] (fun i wr => ∃ m : Nat, m ≤ l.length ∧ i = .int .i64 (m : Int) ∧ Below W.heap.size W wr ∧ Hid (∀ (j : Nat) (y : Li), j < m → l[j]? = some y → j ≠ k → dsqO o y x st = false)) (fun i _ => l.length - (intOf i).toNat)
  case atStart => exact ⟨0, Nat.zero_le _, rfl, Below.refl _ _, Lib.hid fun j y hj => absurd hj (Nat.not_lt_zero _)⟩
  case round =>
    obtain ⟨m, hm, rfl, hBr, Hn⟩ := hrel
    have hBw : Below w.heap.size w wr := hB.trans (hBr.mono hB.size)
    by_cases hlt : m < l.length
    · obtain ⟨y, hy⟩ : ∃ y, l[m]? = some y := ⟨_, List.getElem?_eq_getElem hlt⟩
      have hwr1 : IntKind.i64.wrap ((m : Int) + 1) = (m : Int) + 1 := by rw [IntKind.wrap_i64]; omega
      by_cases hmk : m = k
      · have e : ((m : Int) == (k : Int)) = true := by simpa using (by omega : (m : Int) = (k : Int))
        have HN2 : Hid (∀ (j : Nat) (y : Li), j < m + 1 → l[j]? = some y → j ≠ k → dsqO o y x st = false) := Lib.hid fun j y hj hy hjk => Hn.out j y (by omega) hy hjk
        clear hy hmk
        go_wp2
        go_roundw
        case rel => exact ⟨m + 1, by omega, by go_num, hBr, HN2⟩
        case measure => simp [intOf]; omega
      · have e : ((m : Int) == (k : Int)) = false := by simpa using (by omega : ¬ (m : Int) = (k : Int))
        obtain ⟨b', off', Y1, yc1, Y2, yc2, hA, hb', d0, d1, d2, d3, d4, hyK⟩ := HL.out.get hy
        injection hA with hA
        injection hA with hA1 hA2
        subst hA1
        subst hA2
        have hy2 := fun z : Later wr.heap.size wr => hBw.trans (z.h.mono hBw.size)
        have HLit := Lib.hid fun z : Later wr.heap.size wr => refLits_any o y x P Q Y1 Y2 X1 X2 pc qc yc1 yc2 xc1 xc2 z.w (HM.out.on (hy2 z)) (hyK.on (hy2 z)) (HX.out.on (hy2 z))
        have hbo := fun z : Later wr.heap.size wr => cells_four (((hBr.trans (z.h.mono hBr.size)).block _ hq).trans Hq.out)
        have m1 := fun z : Later wr.heap.size wr => (hbo z).1
        have m2 := fun z : Later wr.heap.size wr => (hbo z).2.1
        have m3 := fun z : Later wr.heap.size wr => (hbo z).2.2.1
        have m4 := fun z : Later wr.heap.size wr => (hbo z).2.2.2
        have x0 := fun z : Later wr.heap.size wr => cell_on (hy2 z) Hb.out HE.out.1
        have x1 := fun z : Later wr.heap.size wr => cell_on (hy2 z) Hb.out HE.out.2.1
        have x2 := fun z : Later wr.heap.size wr => cell_on (hy2 z) Hb.out HE.out.2.2.1
        have x3 := fun z : Later wr.heap.size wr => cell_on (hy2 z) Hb.out HE.out.2.2.2.1
        have x4 := fun z : Later wr.heap.size wr => cell_on (hy2 z) Hb.out HE.out.2.2.2.2
        have y0 := fun z : Later wr.heap.size wr => cell_on (hy2 z) hb' d0
        have y1 := fun z : Later wr.heap.size wr => cell_on (hy2 z) hb' d1
        have y2 := fun z : Later wr.heap.size wr => cell_on (hy2 z) hb' d2
        have y3 := fun z : Later wr.heap.size wr => cell_on (hy2 z) hb' d3
        have y4 := fun z : Later wr.heap.size wr => cell_on (hy2 z) hb' d4
        obtain ⟨r, hr⟩ : ∃ r, litsO o y x = r := ⟨_, rfl⟩
        rw [hr] at HLit
        have hds : dsqO o y x st = (r == 3 || (r == 2 && st)) := by unfold dsqO; rw [hr]
        have Hds := Lib.hid hds
        have Hy := Lib.hid hy
        have Hmk := Lib.hid hmk
        clear hy hyK d0 d1 d2 d3 d4 hbo hr hy2 hds hmk
        go_upto_region 7 with fail
        refine wp_region_later wr.heap.size wr (by kernel_rfl) (by kernel_rfl) (bl_drewN (Below.refl _ _) 1) ?_
        repeat (go_big_quiet_step (first
          | (go_at_call 12; with_reducible refine calls_later _ (Nat.le_refl _) (HLit.out _))
          | fail))
        refine wpQuiet_nil ?_
        rintro _ ⟨z, rfl⟩
        clear m1 m2 m3 m4 x0 x1 x2 x3 x4 y0 y1 y2 y3 y4 HLit
        have hBz := hBr.trans (z.h.mono hBr.size)
        have HBz := Lib.hid (hB.trans (hBz.mono hB.size))
        have hno : Hid ((r == 3 || (r == 2 && st)) = true → maxB o l k x st = false) := Lib.hid fun h => by
          rw [← Bool.not_eq_true, maxB_iff]
          intro hh
          have := hh m y Hy.out Hmk.out
          rw [Hds.out, h] at this
          cases this
        have hyes : Hid ((r == 3 || (r == 2 && st)) = false → ∀ (j : Nat) (y : Li), j < m + 1 → l[j]? = some y → j ≠ k → dsqO o y x st = false) := Lib.hid fun h j y' hj hy' hjk => by
          by_cases ej : j = m
          · subst ej
            rw [Hy.out] at hy'; injection hy' with hy'; subst hy'
            rw [Hds.out, h]
          · exact Hn.out j y' (by omega) hy' hjk
        by_cases h3 : r = 3
        · subst h3
          have HR := Lib.hid (hno.out rfl)
          go_wp2
          go_ret
          exact ⟨ret_bool HR.out.symm, HBz.out⟩
        · have f3 : ((r : Int) == 3) = false := by simpa using h3
          by_cases h2 : r = 2
          · subst h2
            cases st with
            | true =>
              have HR := Lib.hid (hno.out rfl)
              go_wp2
              go_ret
              exact ⟨ret_bool HR.out.symm, HBz.out⟩
            | false =>
              have HR := Lib.hid (hyes.out rfl)
              go_wp2
              go_roundw
              case rel => exact ⟨m + 1, by omega, by go_num, hBz, HR⟩
              case measure => simp [intOf]; omega
          · have f2 : ((r : Int) == 2) = false := by simpa using h2
            have HR := Lib.hid (hyes.out (by rw [f3, f2]; rfl))
            clear h2 h3
            cases st with
            | true =>
              go_wp2
              go_roundw
              case rel => exact ⟨m + 1, by omega, by go_num, hBz, HR⟩
              case measure => simp [intOf]; omega
            | false =>
              go_wp2
              go_roundw
              case rel => exact ⟨m + 1, by omega, by go_num, hBz, HR⟩
              case measure => simp [intOf]; omega
    · obtain rfl : m = l.length := by omega
      have hfin : Hid (maxB o l k x st = true) := Lib.hid (maxB_iff.2 fun j y hy hjk => Hn.out j y (List.getElem?_eq_some_iff.1 hy).1 hy hjk)
      go_wp2
      go_ret
      exact ⟨ret_bool hfin.out.symm, hBw⟩
theorem oMaximal_out (o : Odr) (n : Nat) (i : Int) (st : Bool) (P Q A : Option Addr) (pc qc c : Nat) (w : World) (hi : i < 0 ∨ (n : Int) ≤ i) :
    Calls Tryz.prog 9 #[.agg #[.bool o.lpo, .slice P o.prec.length pc, .slice Q o.wts.length qc, .int .i64 o.var], .slice A n c, .int .i64 i, .bool st] w fun e w' => e = .returned (.bool false) ∧ Below w.heap.size w w' := by
  have HB : Hid (Below w.heap.size w (w.alloc (.cells #[.bool o.lpo, .slice P o.prec.length pc, .slice Q o.wts.length qc, .int .i64 o.var] 24))) := Lib.hid ((Below.refl _ _).alloc (Nat.le_refl _) _)
  by_cases h0 : i < 0
  case pos =>
    have g0 : decide (i < 0) = true := decide_eq_true h0
    clear hi
    go_enter Tryz.func9, Tryz.ntmps9
    go_wp2
    go_ret
    exact ⟨rfl, HB.out⟩
  case neg =>
    have g0 : decide (i < 0) = false := decide_eq_false h0
    have g1 : decide (i ≥ (n : Int)) = true := decide_eq_true (by omega)
    clear hi h0
    go_enter Tryz.func9, Tryz.ntmps9
    go_wp2
    go_ret
    exact ⟨rfl, HB.out⟩
theorem refMaximal_out (o : Odr) (n : Nat) (i : Int) (st : Bool) (P Q A : Option Addr) (pc qc c : Nat) (w : World) (hi : i < 0 ∨ (n : Int) ≤ i) :
    Calls Tryz.prog 10 #[.agg #[.bool o.lpo, .slice P o.prec.length pc, .slice Q o.wts.length qc, .int .i64 o.var], .slice A n c, .int .i64 i, .bool st] w fun e w' => e = .returned (.bool false) ∧ Below w.heap.size w w' := by
  have HB : Hid (Below w.heap.size w (w.alloc (.cells #[.bool o.lpo, .slice P o.prec.length pc, .slice Q o.wts.length qc, .int .i64 o.var] 24))) := Lib.hid ((Below.refl _ _).alloc (Nat.le_refl _) _)
  by_cases h0 : i < 0
  case pos =>
    have g0 : decide (i < 0) = true := decide_eq_true h0
    clear hi
    go_enter Tryz.func10, Tryz.ntmps10
    go_wp2
    go_ret
    exact ⟨rfl, HB.out⟩
  case neg =>
    have g0 : decide (i < 0) = false := decide_eq_false h0
    have g1 : decide (i ≥ (n : Int)) = true := decide_eq_true (by omega)
    clear hi h0
    go_enter Tryz.func10, Tryz.ntmps10
    go_wp2
    go_ret
    exact ⟨rfl, HB.out⟩
theorem oTurned_any (o : Odr) (x : Li) (P Q A1 A2 : Option Addr) (pc qc c1 c2 : Nat) (w : World) (hrk : o.prec.length ≤ 140737488351232) (hM : OdrM w w.heap.size o P Q) (hx : LiK w (· < w.heap.size) x A1 c1 A2 c2) :
    Calls Tryz.prog 15 #[.agg #[.bool o.lpo, .slice P o.prec.length pc, .slice Q o.wts.length qc, .int .i64 o.var], .agg #[.bool x.neg, .int .i64 x.l.fn, .slice A1 x.l.args.length c1, .int .i64 x.r.fn, .slice A2 x.r.args.length c2]] w fun e w' => e = .returned (.bool (ordV o x.r x.l == 3)) ∧ Below w.heap.size w w' := by
  obtain ⟨q0, q1⟩ := heap2 w (.cells #[.bool o.lpo, .slice P o.prec.length pc, .slice Q o.wts.length qc, .int .i64 o.var] 24) (.cells #[.bool x.neg, .int .i64 x.l.fn, .slice A1 x.l.args.length c1, .int .i64 x.r.fn, .slice A2 x.r.args.length c2] 38)
  obtain ⟨W, hW⟩ : ∃ W, (w.alloc (.cells #[.bool o.lpo, .slice P o.prec.length pc, .slice Q o.wts.length qc, .int .i64 o.var] 24)).alloc (.cells #[.bool x.neg, .int .i64 x.l.fn, .slice A1 x.l.args.length c1, .int .i64 x.r.fn, .slice A2 x.r.args.length c2] 38) = W := ⟨_, rfl⟩
  have hB : Below w.heap.size w W := by rw [← hW]; exact ((Below.refl _ _).alloc (Nat.le_refl _) _).alloc (by simp) _
  rw [hW] at q0 q1
  have hxW := hx.on hB
  have C := Lib.hid (oCmp_any o x.r x.l P Q A2 A1 pc qc c2 c1 W hrk (hM.on hB) ⟨hxW.ir, hxW.sr⟩ ⟨hxW.il, hxW.sl⟩ (by have := hxW.zr; have := hxW.zl; omega))
  obtain ⟨a0, a1, a2, a3⟩ := cells_four q0
  obtain ⟨b0, b1, b2, b3, b4⟩ := cells_5o q1
  have HW := Lib.hid hW
  have HB := Lib.hid hB
  clear hM hx hW hB q0 q1 hxW
  go_enter Tryz.func15, Tryz.ntmps15
  go_upto_region 1 with fail
  rw [HW.out]
  go_wp2_with (first
    | (go_at_call 13; (with_reducible refine C.out.mono ?_); go_must (rintro e w1 ⟨rfl, hb1⟩))
    | fail)
  go_ret
  exact ⟨rfl, HB.out.trans (hb1.mono HB.out.size)⟩
theorem refTurned_any (o : Odr) (x : Li) (P Q A1 A2 : Option Addr) (pc qc c1 c2 : Nat) (w : World) (hM : OdrM w w.heap.size o P Q) (hx : LiK w (· < w.heap.size) x A1 c1 A2 c2) :
    Calls Tryz.prog 16 #[.agg #[.bool o.lpo, .slice P o.prec.length pc, .slice Q o.wts.length qc, .int .i64 o.var], .agg #[.bool x.neg, .int .i64 x.l.fn, .slice A1 x.l.args.length c1, .int .i64 x.r.fn, .slice A2 x.r.args.length c2]] w fun e w' => e = .returned (.bool (ordV o x.r x.l == 3)) ∧ Below w.heap.size w w' := by
  obtain ⟨q0, q1⟩ := heap2 w (.cells #[.bool o.lpo, .slice P o.prec.length pc, .slice Q o.wts.length qc, .int .i64 o.var] 24) (.cells #[.bool x.neg, .int .i64 x.l.fn, .slice A1 x.l.args.length c1, .int .i64 x.r.fn, .slice A2 x.r.args.length c2] 38)
  obtain ⟨W, hW⟩ : ∃ W, (w.alloc (.cells #[.bool o.lpo, .slice P o.prec.length pc, .slice Q o.wts.length qc, .int .i64 o.var] 24)).alloc (.cells #[.bool x.neg, .int .i64 x.l.fn, .slice A1 x.l.args.length c1, .int .i64 x.r.fn, .slice A2 x.r.args.length c2] 38) = W := ⟨_, rfl⟩
  have hB : Below w.heap.size w W := by rw [← hW]; exact ((Below.refl _ _).alloc (Nat.le_refl _) _).alloc (by simp) _
  rw [hW] at q0 q1
  have hxW := hx.on hB
  have C := Lib.hid (refCmp10_any o x.r x.l P Q A2 A1 pc qc c2 c1 W (hM.on hB) ⟨hxW.ir, hxW.sr⟩ ⟨hxW.il, hxW.sl⟩ hxW.zr hxW.zl)
  obtain ⟨a0, a1, a2, a3⟩ := cells_four q0
  obtain ⟨b0, b1, b2, b3, b4⟩ := cells_5o q1
  have HW := Lib.hid hW
  have HB := Lib.hid hB
  clear hM hx hW hB q0 q1 hxW
  go_enter Tryz.func16, Tryz.ntmps16
  go_upto_region 1 with fail
  rw [HW.out]
  go_wp2_with (first
    | (go_at_call 14; (with_reducible refine C.out.mono ?_); go_must (rintro e w1 ⟨rfl, hb1⟩))
    | fail)
  go_ret
  exact ⟨rfl, HB.out.trans (hb1.mono HB.out.size)⟩
end Go.Proofs.YthgglobfkkcdgaaGreat
namespace Go.Proofs.YthgglobfkkcdgaaGreat
open Go Go.RowKit Go.Shelf
set_option maxRecDepth 100000
mutual
def lowG : Tm → Bool
  | .node f xs => if f < 0 then decide (-1099511627776 ≤ f ∧ xs.length = 0) else lowGL xs
def lowGL : List Tm → Bool
  | [] => true
  | t :: ts => lowG t && lowGL ts
end
theorem lowG_drop {xs : List Tm} {k : Nat} {u : Tm} (h : xs[k]? = some u) : lowGL (xs.drop k) = (lowG u && lowGL (xs.drop (k + 1))) := by
  have hlt := (List.getElem?_eq_some_iff.1 h).1
  rw [List.drop_eq_getElem_cons hlt]
  rw [List.getElem?_eq_getElem hlt] at h
  injection h with h
  rw [h]
  simp only [lowGL]
def RLowG (t : Tm) : Prop := ∀ (A : Option Addr) (c : Nat) (w : World), I64 t.fn → Args w w.heap.size A t.args →
  Calls Tryz.prog 35 #[.agg #[.int .i64 t.fn, .slice A t.args.length c], .int .i64 1099511627776] w fun e w' => e = .returned (.bool (lowG t)) ∧ Below w.heap.size w w'
set_option maxHeartbeats 1000000 in
theorem refLowG_any (t : Tm) : RLowG t := by
  refine Tm.ind (P := RLowG) (fun f xs ih => ?_) t
  intro A c w hf hA
  simp only [Tm.fn, Tm.args] at hf hA ⊢
  have hlen := hA.len
  obtain ⟨W, hW⟩ : ∃ W, w.alloc (.cells #[.int .i64 f, .slice A xs.length c] 36) = W := ⟨_, rfl⟩
  obtain ⟨hB, hlt, hS⟩ := box_term hW
  have HW := Lib.hid hW
  obtain ⟨x0, x1⟩ := hS W (Below.refl _ _)
  clear hW
  by_cases hf0 : f < 0
  · have hl := Lib.hid (show lowG (.node f xs) = decide (-1099511627776 ≤ f ∧ xs.length = 0) by simp only [lowG, if_pos hf0])
    by_cases h48 : -1099511627776 ≤ f
    · go_enter Tryz.func35, Tryz.ntmps35
      go_upto_region 1 with fail
      rw [HW.out]
      go_wp2
      go_ret
      exact ⟨ret_bool (by rw [hl.out]; simp only [h48, true_and]; cases xs <;> simp; omega), hB⟩
    · go_enter Tryz.func35, Tryz.ntmps35
      go_upto_region 1 with fail
      rw [HW.out]
      go_wp2
      go_ret
      exact ⟨ret_bool (by rw [hl.out]; exact (decide_eq_false fun h => by have := h.1; omega).symm), hB⟩
  · have hl := Lib.hid (show lowG (.node f xs) = lowGL xs by simp only [lowG, if_neg hf0])
    go_enter Tryz.func35, Tryz.ntmps35
    go_upto_region 1 with fail
    rw [HW.out]
    go_wp2
    clear x0 x1
    go_loopw [5] (fun i wr => ∃ k : Nat, k ≤ xs.length ∧ i = .int .i64 (k : Int) ∧ Below W.heap.size W wr ∧ Hid (lowGL xs = lowGL (xs.drop k))) (fun i _ => xs.length - (intOf i).toNat)
    case atStart => exact ⟨0, Nat.zero_le _, rfl, Below.refl _ _, rfl⟩
    case round =>
      obtain ⟨k, hk, rfl, hBr, H⟩ := hrel
      obtain ⟨_, x1⟩ := hS _ hBr
      by_cases hkl : k < xs.length
      · obtain ⟨u, hu⟩ : ∃ u, xs[k]? = some u := ⟨_, List.getElem?_eq_getElem hkl⟩
        obtain ⟨bb, off, A1, c1, rfl, ha⟩ := (hA.on (hB.trans (hBr.mono hB.size))).get hu
        have e0 := ha.c0
        have e1 := ha.c1
        have hmem := List.mem_of_getElem? hu
        have hd := lowG_drop hu
        have hsub := Lib.hid ha.sub
        have hu64 := ha.hi
        clear hu ha
        cases hb : lowG u with
        | true =>
          have H2 : Hid (lowGL xs = lowGL (xs.drop (k + 1))) := by rw [show lowGL xs = _ from H.out, hd, hb, Bool.true_and]; rfl
          clear H hd
          go_wp2_with (first
            | (go_at_call 35
               go_must (
               refine (ih u hmem A1 c1 wr hu64 hsub.out).mono ?_
               rintro e w2 ⟨rfl, hb2⟩
               rw [hb]))
            | fail)
          exact ⟨⟨k + 1, by omega, by go_num, hBr.trans (hb2.mono hBr.size), H2⟩, by simp [intOf]; omega⟩
        | false =>
          have H2 : Hid (lowG (.node f xs) = false) := by rw [hl.out, show lowGL xs = _ from H.out, hd, hb, Bool.false_and]; rfl
          clear H hd
          go_wp2_with (first
            | (go_at_call 35
               go_must (
               refine (ih u hmem A1 c1 wr hu64 hsub.out).mono ?_
               rintro e w2 ⟨rfl, hb2⟩
               rw [hb]))
            | fail)
          go_ret
          exact ⟨ret_bool H2.out.symm, (hB.trans (hBr.mono hB.size)).trans (hb2.mono (by have := hBr.size; omega))⟩
      · obtain rfl : k = xs.length := by omega
        have H2 : lowG (.node f xs) = true := by rw [hl.out, show lowGL xs = _ from H.out]; simp [lowGL]
        have H2 := Lib.hid H2
        go_wp2
        go_ret
        exact ⟨ret_bool H2.out.symm, hB.trans (hBr.mono hB.size)⟩
def smallG (t : Tm) : Bool := decide (t.size ≤ 300) && decide (t.depth ≤ 30) && lowG t
set_option maxHeartbeats 1000000 in
theorem refSmallG_any (t : Tm) (A : Option Addr) (c : Nat) (w : World) (hsz : t.size ≤ 4611686018427387904) (hf : I64 t.fn) (hA : Args w w.heap.size A t.args) :
    Calls Tryz.prog 17 #[.agg #[.int .i64 t.fn, .slice A t.args.length c], .int .i64 1099511627776] w fun e w' => e = .returned (.bool (smallG t)) ∧ Below w.heap.size w w' := by
  have hdz := depth_le_size t
  obtain ⟨W, hW⟩ : ∃ W, w.alloc (.cells #[.int .i64 t.fn, .slice A t.args.length c] 36) = W := ⟨_, rfl⟩
  obtain ⟨hB, hlt, hS⟩ := box_term hW
  have HW := Lib.hid hW
  have HA := Lib.hid (hA.on hB)
  clear hW hA
  by_cases h1 : t.size ≤ 300
  · by_cases h2 : t.depth ≤ 30
    · have hs := Lib.hid (show smallG t = lowG t by simp [smallG, h1, h2])
      go_enter Tryz.func17, Tryz.ntmps17
      go_wp2_with (first
        | (go_at_call 18; go_must (rw [HW.out]; refine (refSize_any t hsz A c W hf HA.out).mono ?_; rintro e w1 ⟨rfl, hb1⟩; obtain ⟨x0, x1⟩ := hS _ hb1))
        | (go_at_call 34; go_must (refine (refDepth_any t (by omega) A c w1 hf (HA.out.on hb1)).mono ?_; rintro e w2 ⟨rfl, hb2⟩; have hB2 := bl_step hb1 hb2; obtain ⟨x2, x3⟩ := hS _ hB2))
        | (go_at_call 35; go_must (refine (refLowG_any t A c w2 hf (HA.out.on hB2)).mono ?_; rintro e w3 ⟨rfl, hb3⟩; have hB3 := bl_step hB2 hb3))
        | fail)
      go_ret
      exact ⟨ret_bool hs.out.symm, hB.trans (hB3.mono hB.size)⟩
    · have hs := Lib.hid (show smallG t = false by simp [smallG, h2])
      go_enter Tryz.func17, Tryz.ntmps17
      go_wp2_with (first
        | (go_at_call 18; go_must (rw [HW.out]; refine (refSize_any t hsz A c W hf HA.out).mono ?_; rintro e w1 ⟨rfl, hb1⟩; obtain ⟨x0, x1⟩ := hS _ hb1))
        | (go_at_call 34; go_must (refine (refDepth_any t (by omega) A c w1 hf (HA.out.on hb1)).mono ?_; rintro e w2 ⟨rfl, hb2⟩; have hB2 := bl_step hb1 hb2))
        | fail)
      go_ret
      exact ⟨ret_bool hs.out.symm, hB.trans (hB2.mono hB.size)⟩
  · have hs := Lib.hid (show smallG t = false by simp [smallG, h1])
    go_enter Tryz.func17, Tryz.ntmps17
    go_wp2_with (first
      | (go_at_call 18; go_must (rw [HW.out]; refine (refSize_any t hsz A c W hf HA.out).mono ?_; rintro e w1 ⟨rfl, hb1⟩))
      | fail)
    go_ret
    exact ⟨ret_bool hs.out.symm, hB.trans (hb1.mono hB.size)⟩
def litG (x : Li) : Bool := smallG x.l && smallG x.r
def largeL (l : List Li) : Bool := !(l.all litG) || decide (16 < l.length)
theorem all_takeG {l : List Li} {k : Nat} {x : Li} (h : l[k]? = some x) : (l.take (k + 1)).all litG = ((l.take k).all litG && litG x) := by
  rw [List.take_add_one, h, List.all_append]; simp
set_option maxHeartbeats 4000000 in
theorem oLarge_any (l : List Li) (A : Option Addr) (c : Nat) (w : World) (hL : ClsK w (· < w.heap.size) A l) (hl : l.length ≤ 1048576) (hz : ∀ x ∈ l, x.l.size + x.r.size ≤ 2097152) :
    Calls Tryz.prog 4 #[.slice A l.length c] w fun e w' => e = .returned (.bool (largeL l)) ∧ Below w.heap.size w w' := by
  have HL := Lib.hid hL
  have HZ := Lib.hid hz
  clear hL hz
  go_enter Tryz.func4, Tryz.ntmps4
  go_wp2
  go_loopw [6] (fun i wr => ∃ k : Nat, k ≤ l.length ∧ i = .int .i64 (k : Int) ∧ Hid ((l.take k).all litG = true) ∧ Below w.heap.size w wr) (fun i _ => l.length - (intOf i).toNat)
  case atStart => exact ⟨0, Nat.zero_le _, rfl, Lib.hid rfl, Below.refl _ _⟩
  case round =>
    obtain ⟨k, hk, rfl, Hall, hBr⟩ := hrel
    by_cases hlt : k < l.length
    case pos =>
      obtain ⟨x, hx⟩ : ∃ x, l[k]? = some x := ⟨_, List.getElem?_eq_getElem hlt⟩
      obtain ⟨b, off, A1, c1, A2, c2, rfl, hb, e0, e1, e2, e3, e4, hK⟩ := HL.out.get hx
      have hst := Lib.hid (all_takeG hx)
      have hxz := HZ.out x (List.mem_of_getElem? hx)
      have hwr1 : IntKind.i64.wrap ((k : Int) + 1) = (k : Int) + 1 := by rw [IntKind.wrap_i64]; omega
      have hlt2 : (k : Int) < (l.length : Int) := by omega
      have HE := Lib.hid (fun (w1 : World) (h : Below w.heap.size w w1) => And.intro (cell_on h hb e1) (And.intro (cell_on h hb e2) (And.intro (cell_on h hb e3) (cell_on h hb e4))))
      have C1 := Lib.hid (refSmallG_any x.l A1 c1 wr (by omega) hK.il ((hK.on hBr).sl.toA))
      have C2 := Lib.hid (fun (w1 : World) (h : Below w.heap.size w w1) => refSmallG_any x.r A2 c2 w1 (by omega) hK.ir ((hK.on h).sr.toA))
      have Hbad : Hid (litG x = false → largeL l = true) := Lib.hid fun h => by
        unfold largeL
        have : l.all litG = false := by
          rw [← Bool.not_eq_true, List.all_eq_true]
          intro hh
          rw [hh x (List.mem_of_getElem? hx)] at h; cases h
        rw [this]; rfl
      obtain ⟨m1, m2, m3, m4⟩ := HE.out wr hBr
      obtain ⟨s1, hs1⟩ : ∃ s, smallG x.l = s := ⟨_, rfl⟩
      obtain ⟨s2, hs2⟩ : ∃ s, smallG x.r = s := ⟨_, rfl⟩
      have Hs1 := Lib.hid hs1
      have Hs2 := Lib.hid hs2
      rw [hs1] at C1
      rw [hs2] at C2
      clear hx hb e0 e1 e2 e3 e4 hK hxz hs1 hs2
      cases s1 with
      | false =>
        have HR := Lib.hid (Hbad.out (by unfold litG; rw [Hs1.out]; rfl))
        go_wp2_with (first
          | (go_at_call 17; (with_reducible refine C1.out.mono ?_); go_must (rintro e w1 ⟨rfl, hb1⟩))
          | fail)
        go_ret
        exact ⟨ret_bool HR.out.symm, hBr.trans (hb1.mono hBr.size)⟩
      | true =>
        cases s2 with
        | false =>
          have HR := Lib.hid (Hbad.out (by unfold litG; rw [Hs1.out, Hs2.out]; rfl))
          go_wp2_with (first
            | (go_at_call 17; first
              | ((with_reducible refine C1.out.mono ?_); go_must (rintro e w1 ⟨rfl, hb1⟩; have hB1 := hBr.trans (hb1.mono hBr.size); obtain ⟨n1, n2, n3, n4⟩ := HE.out w1 hB1; have C3 := Lib.hid (C2.out w1 hB1); clear C1))
              | ((with_reducible refine C3.out.mono ?_); go_must (rintro e w2 ⟨rfl, hb2⟩)))
            | fail)
          go_ret
          exact ⟨ret_bool HR.out.symm, hB1.trans (hb2.mono hB1.size)⟩
        | true =>
          have HR := Lib.hid (show (l.take (k + 1)).all litG = true by rw [hst.out, Hall.out]; unfold litG; rw [Hs1.out, Hs2.out]; rfl)
          go_wp2_with (first
            | (go_at_call 17; first
              | ((with_reducible refine C1.out.mono ?_); go_must (rintro e w1 ⟨rfl, hb1⟩; have hB1 := hBr.trans (hb1.mono hBr.size); obtain ⟨n1, n2, n3, n4⟩ := HE.out w1 hB1; have C3 := Lib.hid (C2.out w1 hB1); clear C1))
              | ((with_reducible refine C3.out.mono ?_); go_must (rintro e w2 ⟨rfl, hb2⟩; have hB2 := hB1.trans (hb2.mono hB1.size))))
            | fail)
          go_roundw
          case rel => exact ⟨k + 1, by omega, by go_num, HR, hB2⟩
          case measure => simp [intOf]; omega
    case neg =>
      obtain rfl : k = l.length := by omega
      have HF := Lib.hid (show largeL l = decide (16 < l.length) by
        have h := Hall.out
        rw [List.take_length] at h
        unfold largeL; rw [h]; rfl)
      go_wp2
      go_ret
      exact ⟨ret_bool (by rw [HF.out]; exact decide_eq_decide.2 (by omega)), hBr⟩
end Go.Proofs.YthgglobfkkcdgaaGreat
namespace Go.Proofs.YthgglobfkkcdgaaGreat
open Go Go.RowKit Go.Shelf
set_option maxRecDepth 100000
theorem orderTells_max (o : Odr) (a : List Li) (i : Int) (st : Bool) (P Q A : Option Addr) (pc qc ca : Nat) (W : World) (hrk : o.prec.length ≤ 140737488351232) (HMk : Hid (∀ w1, Below W.heap.size W w1 → OdrM w1 w1.heap.size o P Q)) (HAk : Hid (∀ w1, Below W.heap.size W w1 → ClsK w1 (· < w1.heap.size) A a)) (hla : a.length ≤ 1048576) :
    ∃ mx, (∀ w1, Below W.heap.size W w1 → Calls Tryz.prog 9 #[.agg #[.bool o.lpo, .slice P o.prec.length pc, .slice Q o.wts.length qc, .int .i64 o.var], .slice A a.length ca, .int .i64 i, .bool st] w1 fun e w' => e = .returned (.bool mx) ∧ Below w1.heap.size w1 w') ∧
      (∀ w1, Below W.heap.size W w1 → Calls Tryz.prog 10 #[.agg #[.bool o.lpo, .slice P o.prec.length pc, .slice Q o.wts.length qc, .int .i64 o.var], .slice A a.length ca, .int .i64 i, .bool st] w1 fun e w' => e = .returned (.bool mx) ∧ Below w1.heap.size w1 w') := by
  by_cases hi : i < 0 ∨ (a.length : Int) ≤ i
  · exact ⟨false, fun w1 _ => oMaximal_out o a.length i st P Q A pc qc ca w1 hi, fun w1 _ => refMaximal_out o a.length i st P Q A pc qc ca w1 hi⟩
  · obtain ⟨k, rfl⟩ : ∃ k : Nat, i = (k : Int) := ⟨i.toNat, by omega⟩
    obtain ⟨x, hx⟩ : ∃ x, a[k]? = some x := ⟨_, List.getElem?_eq_getElem (by omega)⟩
    exact ⟨maxB o a k x st, fun w1 h => oMaximal_any o a k x st P Q A pc qc ca w1 hrk (HMk.out w1 h) (HAk.out w1 h) hla hx, fun w1 h => refMaximal_any o a k x st P Q A pc qc ca w1 (HMk.out w1 h) (HAk.out w1 h) hla hx⟩
set_option maxHeartbeats 16000000 in
theorem orderTells_of (o : Odr) (a b : List Li) (i j : Int) (st : Bool) (P Q A B : Option Addr) (pc qc ca cb : Nat) (w : World) (hrk : o.prec.length ≤ 140737488351232) (hM : OdrM w w.heap.size o P Q) (hA : ClsK w (· < w.heap.size) A a) (hla : a.length ≤ 1048576) (hza : ∀ x ∈ a, x.l.size + x.r.size ≤ 2097152) (hB' : ClsK w (· < w.heap.size) B b) (hlb : b.length ≤ 1048576) (hzb : ∀ x ∈ b, x.l.size + x.r.size ≤ 2097152) :
    Calls Tryz.prog 3 #[.agg #[.bool o.lpo, .slice P o.prec.length pc, .slice Q o.wts.length qc, .int .i64 o.var], .slice A a.length ca, .slice B b.length cb, .int .i64 i, .int .i64 j, .bool st] w fun e w' => e = .returned (.bool true) ∧ Below w.heap.size w w' := by
  have q0 := heap_alloc_new w (.cells #[.bool o.lpo, .slice P o.prec.length pc, .slice Q o.wts.length qc, .int .i64 o.var] 24)
  obtain ⟨W, hW⟩ : ∃ W, w.alloc (.cells #[.bool o.lpo, .slice P o.prec.length pc, .slice Q o.wts.length qc, .int .i64 o.var] 24) = W := ⟨_, rfl⟩
  have hB : Below w.heap.size w W := by rw [← hW]; exact (Below.refl _ _).alloc (Nat.le_refl _) _
  rw [hW] at q0
  have HX : Hid (∀ w', Below W.heap.size W w' → w'.cell? ⟨w.heap.size, 0, none⟩ = some (.bool o.lpo) ∧ w'.cell? ⟨w.heap.size, 1, none⟩ = some (.slice P o.prec.length pc) ∧ w'.cell? ⟨w.heap.size, 2, none⟩ = some (.slice Q o.wts.length qc) ∧ w'.cell? ⟨w.heap.size, 3, none⟩ = some (.int .i64 o.var)) := Lib.hid fun w' h => cells_four ((h.block _ (Array.getElem?_eq_some_iff.1 q0).1).trans q0)
  have HBB : Hid (∀ w1, Below W.heap.size W w1 → Below w.heap.size w w1) := Lib.hid fun w1 h => hB.trans (h.mono hB.size)
  have HMk : Hid (∀ w1, Below W.heap.size W w1 → OdrM w1 w1.heap.size o P Q) := Lib.hid fun w1 h => hM.on (HBB.out w1 h)
  have HAk : Hid (∀ w1, Below W.heap.size W w1 → ClsK w1 (· < w1.heap.size) A a) := Lib.hid fun w1 h => hA.on (HBB.out w1 h)
  have HBk : Hid (∀ w1, Below W.heap.size W w1 → ClsK w1 (· < w1.heap.size) B b) := Lib.hid fun w1 h => hB'.on (HBB.out w1 h)
  have HA0 := Lib.hid hA
  have HB0 := Lib.hid hB'
  have HLa := Lib.hid fun (w1 : World) (h : Below W.heap.size W w1) => oLarge_any a A ca w1 (HAk.out w1 h) hla hza
  have HLb := Lib.hid fun (w1 : World) (h : Below W.heap.size W w1) => oLarge_any b B cb w1 (HBk.out w1 h) hlb hzb
  have HSa := Lib.hid fun (w1 : World) (h : Below W.heap.size W w1) => oSize_any a A ca w1 (HAk.out w1 h) hla hza
  have HSb := Lib.hid fun (w1 : World) (h : Below W.heap.size W w1) => oSize_any b B cb w1 (HBk.out w1 h) hlb hzb
  have Hwk := Lib.hid oWakes_any
  have hsa := sizC_le hza
  have hsb := sizC_le hzb
  have HZa := Lib.hid hza
  have HZb := Lib.hid hzb
  have HW := Lib.hid hW
  have H0 := Lib.hid (Below.refl W.heap.size W)
  clear hW hB q0 hM hA hB' hza hzb
  go_enter Tryz.func3, Tryz.ntmps3
  go_upto_region 1 with fail
  rw [HW.out]
  have C1 := Lib.hid (HLa.out W H0.out)
  cases hga : largeL a with
  | true =>
    rw [hga] at C1
    clear hga hsa hsb
    go_wp2_with (first
      | (go_at_call 4; (with_reducible refine C1.out.mono ?_); go_must (rintro e w1 ⟨rfl, hb1⟩))
      | (go_at_call 6; (with_reducible refine (Hwk.out _).mono ?_); go_must (rintro e w9 ⟨rfl, hb9⟩))
      | fail)
    go_ret
    exact ⟨rfl, HBB.out _ (hb1.trans (hb9.mono hb1.size))⟩
  | false =>
    rw [hga] at C1
    have hl16 : a.length ≤ 16 := by
      unfold largeL at hga
      rw [Bool.or_eq_false_iff] at hga
      have := hga.2
      simp at this
      exact this
    clear hga
    cases hgb : largeL b with
    | true =>
      clear hsa hsb
      go_wp2_with (first
        | (go_at_call 4; first
          | ((with_reducible refine C1.out.mono ?_); go_must (rintro e w1 ⟨rfl, hb1⟩; have C2 := Lib.hid (HLb.out w1 hb1); rw [hgb] at C2; clear C1))
          | ((with_reducible refine C2.out.mono ?_); go_must (rintro e w2 ⟨rfl, hb2⟩; have hB2 := hb1.trans (hb2.mono hb1.size))))
        | (go_at_call 6; (with_reducible refine (Hwk.out _).mono ?_); go_must (rintro e w9 ⟨rfl, hb9⟩))
        | fail)
      go_ret
      exact ⟨rfl, HBB.out _ (hB2.trans (hb9.mono hB2.size))⟩
    | false =>
      have hm16 : b.length ≤ 16 := by
        unfold largeL at hgb
        rw [Bool.or_eq_false_iff] at hgb
        have := hgb.2
        simp at this
        exact this
      have Hgb := Lib.hid hgb
      obtain ⟨n, hn⟩ : ∃ n, sizC a = n := ⟨_, rfl⟩
      obtain ⟨m, hm⟩ : ∃ m, sizC b = m := ⟨_, rfl⟩
      rw [hn] at HSa hsa
      rw [hm] at HSb hsb
      obtain ⟨tt, htt⟩ : ∃ tt, n + m = tt := ⟨_, rfl⟩
      have hw1 : IntKind.i64.wrap ((n : Int) + (m : Int)) = (tt : Int) := by rw [IntKind.wrap_i64]; omega
      clear hsa hsb hn hm htt hgb
      by_cases h4 : 400 < tt
      case pos =>
        have g4 : decide ((tt : Int) > 400) = true := decide_eq_true (by omega)
        clear h4 hl16 hm16
        go_wp2_with (first
          | (go_at_call 4; first
            | ((with_reducible refine C1.out.mono ?_); go_must (rintro e w1 ⟨rfl, hb1⟩; have C2 := Lib.hid (HLb.out w1 hb1); rw [Hgb.out] at C2; clear C1))
            | ((with_reducible refine C2.out.mono ?_); go_must (rintro e w2 ⟨rfl, hb2⟩; have hB2 := hb1.trans (hb2.mono hb1.size); have C3 := Lib.hid (HSa.out w2 hB2); clear C2)))
          | (go_at_call 5; first
            | ((with_reducible refine C3.out.mono ?_); go_must (rintro e w3 ⟨rfl, hb3⟩; have hB3 := hB2.trans (hb3.mono hB2.size); have C4 := Lib.hid (HSb.out w3 hB3); clear C3))
            | ((with_reducible refine C4.out.mono ?_); go_must (rintro e w4 ⟨rfl, hb4⟩; have hB4 := hB3.trans (hb4.mono hB3.size))))
          | (go_at_call 6; (with_reducible refine (Hwk.out _).mono ?_); go_must (rintro e w9 ⟨rfl, hb9⟩))
          | fail)
        go_ret
        exact ⟨rfl, HBB.out _ (hB4.trans (hb9.mono hB4.size))⟩
      case neg =>
        have g4 : decide ((tt : Int) > 400) = false := decide_eq_false (by omega)
        clear h4
        go_upto_region 3 with (first
          | (go_at_call 4; first
            | ((with_reducible refine C1.out.mono ?_); go_must (rintro e w1 ⟨rfl, hb1⟩; have C2 := Lib.hid (HLb.out w1 hb1); rw [Hgb.out] at C2; clear C1))
            | ((with_reducible refine C2.out.mono ?_); go_must (rintro e w2 ⟨rfl, hb2⟩; have hB2 := hb1.trans (hb2.mono hb1.size); have C3 := Lib.hid (HSa.out w2 hB2); clear C2)))
          | (go_at_call 5; first
            | ((with_reducible refine C3.out.mono ?_); go_must (rintro e w3 ⟨rfl, hb3⟩; have hB3 := hB2.trans (hb3.mono hB2.size); have C4 := Lib.hid (HSb.out w3 hB3); clear C3))
            | ((with_reducible refine C4.out.mono ?_); go_must (rintro e w4 ⟨rfl, hb4⟩; have hB4 := hB3.trans (hb4.mono hB3.size))))
          | fail)
        clear hw1 g4
        have hBz := fun z : Later w4.heap.size w4 => hB4.trans (z.h.mono hB4.size)
        obtain ⟨kc, hkc⟩ : ∃ k, clsO o a b = k := ⟨_, rfl⟩
        obtain ⟨mx, hmx1, hmx2⟩ := orderTells_max o a i st P Q A pc qc ca W hrk HMk HAk hla
        have K1 : Hid (∀ z : Later w4.heap.size w4, Calls Tryz.prog 7 #[.agg #[.bool o.lpo, .slice P o.prec.length pc, .slice Q o.wts.length qc, .int .i64 o.var], .slice A a.length ca, .slice B b.length cb] z.w fun e w' => e = .returned (.int .i64 kc) ∧ Below z.w.heap.size z.w w') := Lib.hid fun z => by
          rw [← hkc]; exact oClauses_any o a b P Q A B pc qc ca cb z.w hrk (HMk.out _ (hBz z)) (HAk.out _ (hBz z)) (HBk.out _ (hBz z)) hla hlb
        have K2 : Hid (∀ z : Later w4.heap.size w4, Calls Tryz.prog 8 #[.agg #[.bool o.lpo, .slice P o.prec.length pc, .slice Q o.wts.length qc, .int .i64 o.var], .slice A a.length ca, .slice B b.length cb] z.w fun e w' => e = .returned (.int .i64 kc) ∧ Below z.w.heap.size z.w w') := Lib.hid fun z => by
          rw [← hkc]; exact refClauses_any o a b P Q A B pc qc ca cb z.w (HMk.out _ (hBz z)) (HAk.out _ (hBz z)) (HBk.out _ (hBz z)) (by omega) (by omega)
        have K3 := Lib.hid fun z : Later w4.heap.size w4 => hmx1 z.w (hBz z)
        have K4 := Lib.hid fun z : Later w4.heap.size w4 => hmx2 z.w (hBz z)
        have m0 := fun z : Later w4.heap.size w4 => (HX.out z.w (hBz z)).1
        have m1 := fun z : Later w4.heap.size w4 => (HX.out z.w (hBz z)).2.1
        have m2 := fun z : Later w4.heap.size w4 => (HX.out z.w (hBz z)).2.2.1
        have m3 := fun z : Later w4.heap.size w4 => (HX.out z.w (hBz z)).2.2.2
        have g1 : ((kc : Int) != kc) = false := by simp
        have g2 : (mx == mx) = true := by simp
        have g3 : ((kc : Int) == kc) = true := by simp
        clear hmx1 hmx2 hkc hBz
        refine wp_region_later w4.heap.size w4 (by kernel_rfl) (by kernel_rfl) (bl_drewN (Below.refl _ _) 1) ?_
        repeat (go_big_quiet_step (first
          | (go_at_call 7; with_reducible refine calls_later _ (Nat.le_refl _) (K1.out _))
          | (go_at_call 8; with_reducible refine calls_later _ (Nat.le_refl _) (K2.out _))
          | (go_at_call 9; with_reducible refine calls_later _ (Nat.le_refl _) (K3.out _))
          | (go_at_call 10; with_reducible refine calls_later _ (Nat.le_refl _) (K4.out _))
          | fail))
        refine wpQuiet_nil ?_
        rintro _ ⟨z, rfl⟩
        clear m0 m1 m2 m3 K1 K2 K3 K4
        have hB5 := hB4.trans (z.h.mono hB4.size)
        obtain ⟨w5, hw5⟩ : ∃ w5, z.w = w5 := ⟨_, rfl⟩
        rw [hw5] at hB5 ⊢
        clear hw5
        by_cases r1 : i < 0
        case pos =>
          have e1 : decide (i < 0) = true := decide_eq_true r1
          clear r1
          go_wp2_with (first
            | (go_at_call 6; (with_reducible refine (Hwk.out _).mono ?_); go_must (rintro e w9 ⟨rfl, hb9⟩))
            | fail)
          go_ret
          exact ⟨rfl, HBB.out _ (hB5.trans (hb9.mono hB5.size))⟩
        case neg =>
          have e1 : decide (i < 0) = false := decide_eq_false r1
          by_cases r2 : j < 0
          case pos =>
            have e2 : decide (j < 0) = true := decide_eq_true r2
            clear r1 r2
            go_wp2_with (first
              | (go_at_call 6; (with_reducible refine (Hwk.out _).mono ?_); go_must (rintro e w9 ⟨rfl, hb9⟩))
              | fail)
            go_ret
            exact ⟨rfl, HBB.out _ (hB5.trans (hb9.mono hB5.size))⟩
          case neg =>
            have e2 : decide (j < 0) = false := decide_eq_false r2
            by_cases r3 : (a.length : Int) ≤ i
            case pos =>
              have e3 : decide (i ≥ (a.length : Int)) = true := decide_eq_true r3
              clear r1 r2 r3
              go_wp2_with (first
                | (go_at_call 6; (with_reducible refine (Hwk.out _).mono ?_); go_must (rintro e w9 ⟨rfl, hb9⟩))
                | fail)
              go_ret
              exact ⟨rfl, HBB.out _ (hB5.trans (hb9.mono hB5.size))⟩
            case neg =>
              have e3 : decide (i ≥ (a.length : Int)) = false := decide_eq_false r3
              by_cases r4 : (b.length : Int) ≤ j
              case pos =>
                have e4 : decide (j ≥ (b.length : Int)) = true := decide_eq_true r4
                clear r1 r2 r3 r4
                go_wp2_with (first
                  | (go_at_call 6; (with_reducible refine (Hwk.out _).mono ?_); go_must (rintro e w9 ⟨rfl, hb9⟩))
                  | fail)
                go_ret
                exact ⟨rfl, HBB.out _ (hB5.trans (hb9.mono hB5.size))⟩
              case neg =>
                have e4 : decide (j ≥ (b.length : Int)) = false := decide_eq_false r4
                obtain ⟨k, rfl⟩ : ∃ k : Nat, i = (k : Int) := ⟨i.toNat, by omega⟩
                obtain ⟨l, rfl⟩ : ∃ l : Nat, j = (l : Int) := ⟨j.toNat, by omega⟩
                have hk2 : (k : Int) < (a.length : Int) := by omega
                have hl2 : (l : Int) < (b.length : Int) := by omega
                obtain ⟨x, hx⟩ : ∃ x, a[k]? = some x := ⟨_, List.getElem?_eq_getElem (by omega)⟩
                obtain ⟨y, hy⟩ : ∃ y, b[l]? = some y := ⟨_, List.getElem?_eq_getElem (by omega)⟩
                obtain ⟨bA, oA, X1, xc1, X2, xc2, hAe, hbA0, x0, x1, x2, x3, x4, hxK⟩ := HA0.out.get hx
                obtain ⟨bB, oB, Y1, yc1, Y2, yc2, hBe, hbB0, y0, y1, y2, y3, y4, hyK⟩ := HB0.out.get hy
                have HXK := Lib.hid fun (w1 : World) (h : Below W.heap.size W w1) => hxK.on (HBB.out w1 h)
                have HYK := Lib.hid fun (w1 : World) (h : Below W.heap.size W w1) => hyK.on (HBB.out w1 h)
                subst hAe hBe
                have HE : Hid (∀ w', Below W.heap.size W w' → (w'.cell? ⟨w.heap.size, 0, none⟩ = some (.bool o.lpo) ∧ w'.cell? ⟨w.heap.size, 1, none⟩ = some (.slice P o.prec.length pc) ∧ w'.cell? ⟨w.heap.size, 2, none⟩ = some (.slice Q o.wts.length qc) ∧ w'.cell? ⟨w.heap.size, 3, none⟩ = some (.int .i64 o.var)) ∧ w'.cell? ⟨bA, oA + k * 5, none⟩ = some (.bool x.neg) ∧ w'.cell? ⟨bA, oA + k * 5 + 1, none⟩ = some (.int .i64 x.l.fn) ∧ w'.cell? ⟨bA, oA + k * 5 + 2, none⟩ = some (.slice X1 x.l.args.length xc1) ∧ w'.cell? ⟨bA, oA + k * 5 + 3, none⟩ = some (.int .i64 x.r.fn) ∧ w'.cell? ⟨bA, oA + k * 5 + 4, none⟩ = some (.slice X2 x.r.args.length xc2) ∧ w'.cell? ⟨bB, oB + l * 5, none⟩ = some (.bool y.neg) ∧ w'.cell? ⟨bB, oB + l * 5 + 1, none⟩ = some (.int .i64 y.l.fn) ∧ w'.cell? ⟨bB, oB + l * 5 + 2, none⟩ = some (.slice Y1 y.l.args.length yc1) ∧ w'.cell? ⟨bB, oB + l * 5 + 3, none⟩ = some (.int .i64 y.r.fn) ∧ w'.cell? ⟨bB, oB + l * 5 + 4, none⟩ = some (.slice Y2 y.r.args.length yc2)) := Lib.hid fun w' h => by
                  have h' := HBB.out w' h
                  exact ⟨HX.out w' h, cell_on h' hbA0 x0, cell_on h' hbA0 x1, cell_on h' hbA0 x2, cell_on h' hbA0 x3, cell_on h' hbA0 x4, cell_on h' hbB0 y0, cell_on h' hbB0 y1, cell_on h' hbB0 y2, cell_on h' hbB0 y3, cell_on h' hbB0 y4⟩
                obtain ⟨kl, hkl⟩ : ∃ v, litsO o x y = v := ⟨_, rfl⟩
                obtain ⟨kv, hkv⟩ : ∃ v, ordV o x.l y.r = v := ⟨_, rfl⟩
                obtain ⟨kt, hkt⟩ : ∃ v, (ordV o x.r x.l == 3) = v := ⟨_, rfl⟩
                have D1 : Hid (∀ w1, Below W.heap.size W w1 → Calls Tryz.prog 11 #[.agg #[.bool o.lpo, .slice P o.prec.length pc, .slice Q o.wts.length qc, .int .i64 o.var], .agg #[.bool x.neg, .int .i64 x.l.fn, .slice X1 x.l.args.length xc1, .int .i64 x.r.fn, .slice X2 x.r.args.length xc2], .agg #[.bool y.neg, .int .i64 y.l.fn, .slice Y1 y.l.args.length yc1, .int .i64 y.r.fn, .slice Y2 y.r.args.length yc2]] w1 fun e w' => e = .returned (.int .i64 kl) ∧ Below w1.heap.size w1 w') := Lib.hid fun w1 h => by
                  rw [← hkl]; exact oLits_any o x y P Q X1 X2 Y1 Y2 pc qc xc1 xc2 yc1 yc2 w1 hrk (HMk.out w1 h) (HXK.out w1 h) (HYK.out w1 h)
                have D2 : Hid (∀ w1, Below W.heap.size W w1 → Calls Tryz.prog 12 #[.agg #[.bool o.lpo, .slice P o.prec.length pc, .slice Q o.wts.length qc, .int .i64 o.var], .agg #[.bool x.neg, .int .i64 x.l.fn, .slice X1 x.l.args.length xc1, .int .i64 x.r.fn, .slice X2 x.r.args.length xc2], .agg #[.bool y.neg, .int .i64 y.l.fn, .slice Y1 y.l.args.length yc1, .int .i64 y.r.fn, .slice Y2 y.r.args.length yc2]] w1 fun e w' => e = .returned (.int .i64 kl) ∧ Below w1.heap.size w1 w') := Lib.hid fun w1 h => by
                  rw [← hkl]; exact refLits_any o x y P Q X1 X2 Y1 Y2 pc qc xc1 xc2 yc1 yc2 w1 (HMk.out w1 h) (HXK.out w1 h) (HYK.out w1 h)
                have D3 : Hid (∀ w1, Below W.heap.size W w1 → Calls Tryz.prog 13 #[.agg #[.bool o.lpo, .slice P o.prec.length pc, .slice Q o.wts.length qc, .int .i64 o.var], .agg #[.int .i64 x.l.fn, .slice X1 x.l.args.length xc1], .agg #[.int .i64 y.r.fn, .slice Y2 y.r.args.length yc2]] w1 fun e w' => e = .returned (.int .i64 kv) ∧ Below w1.heap.size w1 w') := Lib.hid fun w1 h => by
                  rw [← hkv]; exact oCmp_any o x.l y.r P Q X1 Y2 pc qc xc1 yc2 w1 hrk (HMk.out w1 h) ⟨(HXK.out w1 h).il, (HXK.out w1 h).sl⟩ ⟨(HYK.out w1 h).ir, (HYK.out w1 h).sr⟩ (by have := (HXK.out w1 h).zl; have := (HYK.out w1 h).zr; omega)
                have D4 : Hid (∀ w1, Below W.heap.size W w1 → Calls Tryz.prog 14 #[.agg #[.bool o.lpo, .slice P o.prec.length pc, .slice Q o.wts.length qc, .int .i64 o.var], .agg #[.int .i64 x.l.fn, .slice X1 x.l.args.length xc1], .agg #[.int .i64 y.r.fn, .slice Y2 y.r.args.length yc2]] w1 fun e w' => e = .returned (.int .i64 kv) ∧ Below w1.heap.size w1 w') := Lib.hid fun w1 h => by
                  rw [← hkv]; exact refCmp10_any o x.l y.r P Q X1 Y2 pc qc xc1 yc2 w1 (HMk.out w1 h) ⟨(HXK.out w1 h).il, (HXK.out w1 h).sl⟩ ⟨(HYK.out w1 h).ir, (HYK.out w1 h).sr⟩ (HXK.out w1 h).zl (HYK.out w1 h).zr
                have D5 : Hid (∀ w1, Below W.heap.size W w1 → Calls Tryz.prog 15 #[.agg #[.bool o.lpo, .slice P o.prec.length pc, .slice Q o.wts.length qc, .int .i64 o.var], .agg #[.bool x.neg, .int .i64 x.l.fn, .slice X1 x.l.args.length xc1, .int .i64 x.r.fn, .slice X2 x.r.args.length xc2]] w1 fun e w' => e = .returned (.bool kt) ∧ Below w1.heap.size w1 w') := Lib.hid fun w1 h => by
                  rw [← hkt]; exact oTurned_any o x P Q X1 X2 pc qc xc1 xc2 w1 hrk (HMk.out w1 h) (HXK.out w1 h)
                have D6 : Hid (∀ w1, Below W.heap.size W w1 → Calls Tryz.prog 16 #[.agg #[.bool o.lpo, .slice P o.prec.length pc, .slice Q o.wts.length qc, .int .i64 o.var], .agg #[.bool x.neg, .int .i64 x.l.fn, .slice X1 x.l.args.length xc1, .int .i64 x.r.fn, .slice X2 x.r.args.length xc2]] w1 fun e w' => e = .returned (.bool kt) ∧ Below w1.heap.size w1 w') := Lib.hid fun w1 h => by
                  rw [← hkt]; exact refTurned_any o x P Q X1 X2 pc qc xc1 xc2 w1 (HMk.out w1 h) (HXK.out w1 h)
                have f1 : ((kl : Int) == kl) = true := by simp
                have f2 : ((kv : Int) == kv) = true := by simp
                have f3 : (kt == kt) = true := by simp
                clear r1 r2 r3 r4 hx hy hbA0 x0 x1 x2 x3 x4 hxK hbB0 y0 y1 y2 y3 y4 hyK hkl hkv hkt hl16 hm16
                go_upto_region 7 with fail
                have hBz := fun z : Later w5.heap.size w5 => hB5.trans (z.h.mono hB5.size)
                have m0 := fun z : Later w5.heap.size w5 => (HE.out z.w (hBz z)).1.1
                have m1 := fun z : Later w5.heap.size w5 => (HE.out z.w (hBz z)).1.2.1
                have m2 := fun z : Later w5.heap.size w5 => (HE.out z.w (hBz z)).1.2.2.1
                have m3 := fun z : Later w5.heap.size w5 => (HE.out z.w (hBz z)).1.2.2.2
                have m4 := fun z : Later w5.heap.size w5 => (HE.out z.w (hBz z)).2.1
                have m5 := fun z : Later w5.heap.size w5 => (HE.out z.w (hBz z)).2.2.1
                have m6 := fun z : Later w5.heap.size w5 => (HE.out z.w (hBz z)).2.2.2.1
                have m7 := fun z : Later w5.heap.size w5 => (HE.out z.w (hBz z)).2.2.2.2.1
                have m8 := fun z : Later w5.heap.size w5 => (HE.out z.w (hBz z)).2.2.2.2.2.1
                have m9 := fun z : Later w5.heap.size w5 => (HE.out z.w (hBz z)).2.2.2.2.2.2.1
                have m10 := fun z : Later w5.heap.size w5 => (HE.out z.w (hBz z)).2.2.2.2.2.2.2.1
                have m11 := fun z : Later w5.heap.size w5 => (HE.out z.w (hBz z)).2.2.2.2.2.2.2.2.1
                have m12 := fun z : Later w5.heap.size w5 => (HE.out z.w (hBz z)).2.2.2.2.2.2.2.2.2.1
                have m13 := fun z : Later w5.heap.size w5 => (HE.out z.w (hBz z)).2.2.2.2.2.2.2.2.2.2
                have E1 := Lib.hid fun z : Later w5.heap.size w5 => D1.out z.w (hBz z)
                have E2 := Lib.hid fun z : Later w5.heap.size w5 => D2.out z.w (hBz z)
                have E3 := Lib.hid fun z : Later w5.heap.size w5 => D3.out z.w (hBz z)
                have E4 := Lib.hid fun z : Later w5.heap.size w5 => D4.out z.w (hBz z)
                have E5 := Lib.hid fun z : Later w5.heap.size w5 => D5.out z.w (hBz z)
                have E6 := Lib.hid fun z : Later w5.heap.size w5 => D6.out z.w (hBz z)
                have EW := Lib.hid fun z : Later w5.heap.size w5 => Hwk.out z.w
                clear hBz
                refine wp_region_later w5.heap.size w5 (by kernel_rfl) (by kernel_rfl) (bl_drewN (Below.refl _ _) 1) ?_
                simp only [List.append]
                repeat (go_big_quiet_step (first
                  | (go_at_call 11; with_reducible refine calls_later _ (Nat.le_refl _) (E1.out _))
                  | (go_at_call 12; with_reducible refine calls_later _ (Nat.le_refl _) (E2.out _))
                  | (go_at_call 13; with_reducible refine calls_later _ (Nat.le_refl _) (E3.out _))
                  | (go_at_call 14; with_reducible refine calls_later _ (Nat.le_refl _) (E4.out _))
                  | (go_at_call 15; with_reducible refine calls_later _ (Nat.le_refl _) (E5.out _))
                  | (go_at_call 16; with_reducible refine calls_later _ (Nat.le_refl _) (E6.out _))
                  | (go_at_call 6; with_reducible refine calls_later _ (Nat.le_refl _) (EW.out _))
                  | fail))
                refine wpQuiet_nil ?_
                rintro _ ⟨z', rfl⟩
                have hB6 := HBB.out _ (hB5.trans (z'.h.mono hB5.size))
                clear m0 m1 m2 m3 m4 m5 m6 m7 m8 m9 m10 m11 m12 m13
                go_wp2
                go_ret
                exact ⟨rfl, hB6⟩
end Go.Proofs.YthgglobfkkcdgaaGreat
namespace Go.Proofs.YthgglobfkkcdgaaGreat
open Go.ChangeShapes Go.WideShapes Go.ChangeAt Go.RowKit
set_option maxRecDepth 20000
section
variable {H : Type} {enc : TypeId × Value → H} {W : World} {base : Nat} {held : Bool}
theorem trodk_term : ∀ (n : Nat) (cs : List Value) (x : DataW H × List MemPlace), DataW.trod enc Tryz.prog W base (fun _ => true) held n 36 cs = some x →
    ∃ (t : Tm) (A : Option Addr) (c : Nat), cs = [.int .i64 t.fn, .slice A t.args.length c] ∧ I64 t.fn ∧ ArgsK W (· < W.heap.size) A c t.args ∧ t.size ≤ Rows.uptoBulk x.1 := by
  intro n
  induction n using Nat.strongRecOn with
  | ind n ih =>
    intro cs x h
    obtain ⟨xs, n', rfl, hx, hlen, hxs, hf⟩ := DataW.trod_struct Tryz.underlying36 h
    rw [cellsTerm] at hlen
    match cs, hlen with
    | [c0, c1], _ =>
      have hx2 : xs.length = 2 := by rw [hxs]; rfl
      match xs, hx2 with
      | [x0, x1], _ =>
        have g0 := hf 0 _ rfl
        have g1 := hf 1 _ rfl
        simp [cellsInt] at g0
        simp [cellsTerms] at g1
        obtain ⟨f, hfv, ef, hw⟩ := DataW.trod_int Tryz.underlying3 g0
        injection hfv with hfv
        subst hfv
        have hf64 : I64 f := by
          have := hw
          simp [Lit.wf, IntKind.min, IntKind.max, IntKind.signed, IntKind.bits] at this
          exact this
        rcases DataW.trod_slice Tryz.underlying34 g1 with ⟨hv, e1⟩ | ⟨a, len, cap, elems, rest, m, hm, hv, e1, _, hl, hmax, hlenE, hel, _, _⟩
        · injection hv with hv
          subst hv
          refine ⟨.node f [], none, 0, rfl, hf64, .nil none 0, ?_⟩
          subst hx
          simp [ef, e1, Tm.size, sizes, Rows.uptoBulk, Rows.uptoBulkAll]
        · injection hv with hv
          subst hv
          have each : ∀ i, i < len → ∃ q : Tm × Option Addr × Nat × DataW H, I64 q.1.fn ∧ W.cell? (a.add (i * 2)) = some (.int .i64 q.1.fn) ∧ W.cell? ((a.add (i * 2)).add 1) = some (.slice q.2.1 q.1.args.length q.2.2.1) ∧ ArgsK W (· < W.heap.size) q.2.1 q.2.2.1 q.1.args ∧ q.1.size ≤ Rows.uptoBulk q.2.2.2 ∧ (elems.map (·.1))[i]? = some q.2.2.2 := by
            intro i hi
            have h1 := hel i hi
            rw [cellsTerm] at h1
            rw [List.getElem?_eq_getElem (by omega)] at h1
            cases hc : W.cells? base (a.add (i * 2)) 2 with
            | none => rw [hc] at h1; cases h1
            | some cs' =>
              rw [hc] at h1
              simp only [Option.bind_some] at h1
              obtain ⟨t, A, c, rfl, ht64, hA, hb⟩ := ih m (by omega) cs' _ h1
              obtain ⟨_, _, hat⟩ := World.cells?_some hc
              refine ⟨(t, A, c, (elems[i]'(by omega)).1), ht64, ?_, hat 1 (by omega), hA, hb, by rw [List.getElem?_map, List.getElem?_eq_getElem (show i < elems.length by omega)]; rfl⟩
              have := hat 0 (by omega)
              simpa [Addr.add] using this
          haveI : Inhabited (Tm × Option Addr × Nat × DataW H) := ⟨(.node 0 [], none, 0, .nil)⟩
          obtain ⟨q, hq⟩ := Go.Deep.choose_lt each
          have hget : ∀ (i : Nat) (t : Tm), ((List.range len).map fun i => (q i).1)[i]? = some t → i < len ∧ t = (q i).1 := by
            intro i t e
            have hi : i < len := by have := (List.getElem?_eq_some_iff.1 e).1; simpa using this
            rw [List.getElem?_map, List.getElem?_range hi] at e
            simp at e
            exact ⟨hi, e.symm⟩
          refine ⟨.node f ((List.range len).map fun i => (q i).1), some a, cap, by simp [Tm.fn, Tm.args], hf64, ?_, ?_⟩
          · rcases Nat.eq_zero_or_pos len with h0 | h0
            · subst h0; exact .nil _ _
            · have c00 := (hq 0 h0).2.1
              simp only [Nat.zero_mul, Addr.add, if_true] at c00
              obtain ⟨blk, off, spot⟩ := a
              obtain rfl : spot = none := cell_spot c00
              have hblk : blk < W.heap.size := by
                unfold World.cell? at c00
                rcases Nat.lt_or_ge blk W.heap.size with h1 | h1
                · exact h1
                · simp [Array.getElem?_eq_none h1] at c00
              simp only [Tm.args]
              refine .row blk off cap _ (fun i => (q i).2.1) (fun i => (q i).2.2.1) (by simpa using hl) hblk (by unfold maxLen at hmax; simp; omega) (fun i t e => ?_) (fun i t e => ?_) (fun i t e => ?_) (fun i t e => ?_)
              · obtain ⟨hi, rfl⟩ := hget i t e
                exact (hq i hi).1
              · obtain ⟨hi, rfl⟩ := hget i t e
                have := (hq i hi).2.1
                rwa [Addr.add_lit] at this
              · obtain ⟨hi, rfl⟩ := hget i t e
                have := (hq i hi).2.2.1
                rwa [Addr.add_lit, Addr.add_lit] at this
              · obtain ⟨hi, rfl⟩ := hget i t e
                exact (hq i hi).2.2.2.1
          · subst hx
            have hb : sizes ((List.range len).map fun i => (q i).1) ≤ Rows.uptoBulkAll (elems.map (·.1)) := by
              refine bulk_all _ _ (by simp [hlenE]) fun i t d e1 e2 => ?_
              obtain ⟨hi, rfl⟩ := hget i t e1
              have h5 := (hq i hi).2.2.2.2
              rw [h5.2] at e2
              cases e2
              exact h5.1
            simp only [ef, e1, Tm.size, List.map_cons, List.map_nil, Rows.uptoBulk, Rows.uptoBulkAll]
            omega
theorem cellsInts1 : Tryz.prog.cellsOf 22 = 1 := by kernel_rfl
theorem cellsBool2 : Tryz.prog.cellsOf 4 = 1 := by kernel_rfl
theorem cellsOrder : Tryz.prog.cellsOf 24 = 4 := by kernel_rfl
theorem trod_ints1 {n : Nat} {c0 : Value} {x : DataW H × List MemPlace} (hf : DataW.trod enc Tryz.prog W base (fun _ => true) held n 22 [c0] = some x) :
    ∃ (p : List Int) (A : Option Addr) (c : Nat), c0 = .slice A p.length c ∧ p.length ≤ c ∧ Ints W W.heap.size A p := by
  rcases open_ints Tryz.underlying22 Tryz.underlying3 cellsInt hf with ⟨hcs, _⟩ | ⟨ad, len, cap, zs, hcs, _, hn, hmax, hzl, _, hcell, hwf⟩
  · injection hcs with hcs _
    exact ⟨[], none, 0, hcs, Nat.le_refl _, ⟨by simp, by simp, fun h => by simp at h⟩⟩
  · injection hcs with hcs _
    subst hcs
    simp only [if_true] at hzl
    have hl : (zs.take len).length = len := by rw [List.length_take]; omega
    refine ⟨zs.take len, some ad, cap, by rw [hl], by omega, ⟨by unfold maxLen at hmax; omega, fun x hx => ?_, fun hpos => ?_⟩⟩
    · have := hwf x (List.mem_of_mem_take hx)
      simp [Lit.wf, IntKind.min, IntKind.max, IntKind.signed, IntKind.bits] at this
      exact this
    · have c0 := hcell 0 (by omega)
      obtain ⟨blk, off, spot⟩ := ad
      simp only [Addr.add, if_true] at c0
      obtain rfl : spot = none := cell_spot c0
      refine ⟨blk, off, rfl, World.block_lt_of_cell? W _ c0, fun i x hi => ?_⟩
      have hil := (List.getElem?_eq_some_iff.1 hi).1
      have h1 := hcell i (by omega)
      rw [Addr.add_lit] at h1
      rw [h1]
      rw [List.getElem?_take] at hi
      split at hi
      · rw [List.getD_eq_getElem?_getD, hi]; rfl
      · cases hi
end
end Go.Proofs.YthgglobfkkcdgaaGreat
namespace Go.Proofs.YthgglobfkkcdgaaGreat
open Go.ChangeShapes Go.WideShapes Go.ChangeAt Go.RowKit
set_option maxRecDepth 20000
theorem bulk_pos {H : Type} (d : DataW H) : 1 ≤ Rows.uptoBulk d := by
  cases d with
  | lit l => cases l <;> simp [Rows.uptoBulk]
  | _ => simp [Rows.uptoBulk]
theorem bulk_length {H : Type} : ∀ ds : List (DataW H), ds.length ≤ Rows.uptoBulkAll ds
  | [] => by simp
  | d :: ds => by
    have h1 := bulk_pos d
    have h2 := bulk_length ds
    simp only [Rows.uptoBulkAll, List.length_cons]; omega
theorem trodAll_six {H : Type} {enc : TypeId × Value → H} {P : Program} {w : World} {base : Nat} {spare : Nat → Bool} {held : Bool} {t0 t1 t2 t3 t4 t5 : TypeId} {args : Array Value} {ds : List (DataW H)} {ps : List MemPlace} (h : DataW.TrodAll enc P w base spare held [t0, t1, t2, t3, t4, t5] args.toList ds ps) :
    ∃ v0 v1 v2 v3 v4 v5 d0 d1 d2 d3 d4 d5 p0 p1 p2 p3 p4 p5, args = #[v0, v1, v2, v3, v4, v5] ∧ ds = [d0, d1, d2, d3, d4, d5] ∧ ps = p0 ++ (p1 ++ (p2 ++ (p3 ++ (p4 ++ (p5))))) ∧ DataW.Trod enc P w base spare held t0 v0 d0 p0 ∧ DataW.Trod enc P w base spare held t1 v1 d1 p1 ∧ DataW.Trod enc P w base spare held t2 v2 d2 p2 ∧ DataW.Trod enc P w base spare held t3 v3 d3 p3 ∧ DataW.Trod enc P w base spare held t4 v4 d4 p4 ∧ DataW.Trod enc P w base spare held t5 v5 d5 p5 := by
  obtain ⟨v0, w0, d0, e0, p0, q0, hargs, rfl, rfl, k0, r0⟩ := trodAll_cons h
  obtain ⟨v1, w1, d1, e1, p1, q1, rfl, rfl, rfl, k1, r1⟩ := trodAll_cons r0
  obtain ⟨v2, w2, d2, e2, p2, q2, rfl, rfl, rfl, k2, r2⟩ := trodAll_cons r1
  obtain ⟨v3, w3, d3, e3, p3, q3, rfl, rfl, rfl, k3, r3⟩ := trodAll_cons r2
  obtain ⟨v4, w4, d4, e4, p4, q4, rfl, rfl, rfl, k4, r4⟩ := trodAll_cons r3
  obtain ⟨v5, w5, d5, e5, p5, q5, rfl, rfl, rfl, k5, r5⟩ := trodAll_cons r4
  obtain ⟨rfl, rfl, rfl⟩ := trodAll_nil r5
  exact ⟨v0, v1, v2, v3, v4, v5, d0, d1, d2, d3, d4, d5, p0, p1, p2, p3, p4, p5, by cases args; simp_all, rfl, by simp, k0, k1, k2, k3, k4, k5⟩
end Go.Proofs.YthgglobfkkcdgaaGreat
namespace Go.Proofs.YthgglobfkkcdgaaGreat
open Go.ChangeShapes Go.WideShapes Go.ChangeAt Go.RowKit
set_option maxRecDepth 20000
section
variable {H : Type} {enc : TypeId × Value → H} {W : World} {base : Nat} {held : Bool}
theorem cellsLitK : Tryz.prog.cellsOf 38 = 5 := by kernel_rfl
theorem bulk_memK {H : Type} : ∀ {ds : List (DataW H)} {d : DataW H}, d ∈ ds → Rows.uptoBulk d ≤ Rows.uptoBulkAll ds
  | [], _, h => by simp at h
  | d' :: ds, d, h => by
    simp only [Rows.uptoBulkAll]
    rcases List.mem_cons.1 h with rfl | h
    · omega
    · have := bulk_memK h; omega
theorem trodk_lit (n : Nat) (cs : List Value) (x : DataW H × List MemPlace) (h : DataW.trod enc Tryz.prog W base (fun _ => true) held n 38 cs = some x) :
    ∃ (y : Li) (A1 : Option Addr) (c1 : Nat) (A2 : Option Addr) (c2 : Nat), cs = [.bool y.neg, .int .i64 y.l.fn, .slice A1 y.l.args.length c1, .int .i64 y.r.fn, .slice A2 y.r.args.length c2] ∧ I64 y.l.fn ∧ I64 y.r.fn ∧ ArgsK W (· < W.heap.size) A1 c1 y.l.args ∧ ArgsK W (· < W.heap.size) A2 c2 y.r.args ∧ y.l.size + y.r.size ≤ Rows.uptoBulk x.1 := by
  obtain ⟨xs, n', rfl, hx, hlen, hxs, hf⟩ := DataW.trod_struct Tryz.underlying38 h
  rw [cellsLitK] at hlen
  match cs, hlen with
  | [c0, c1, c2, c3, c4], _ =>
    have hx2 : xs.length = 3 := by rw [hxs]; rfl
    match xs, hx2 with
    | [x0, x1, x2], _ =>
      have g0 := hf 0 _ rfl
      have g1 := hf 1 _ rfl
      have g2 := hf 2 _ rfl
      simp [cellsBool2] at g0
      simp [cellsTerm] at g1
      simp [cellsTerm] at g2
      obtain ⟨b, hbv, eb⟩ := DataW.trod_bool Tryz.underlying4 g0
      injection hbv with hbv
      subst hbv
      obtain ⟨t, A, c, hcs, ht64, hA, hb⟩ := trodk_term _ _ _ g1
      injection hcs with e1 hcs
      injection hcs with e2 _
      subst e1; subst e2
      obtain ⟨t2, A2, c2, hcs2, ht642, hA2, hb2⟩ := trodk_term _ _ _ g2
      injection hcs2 with e3 hcs2
      injection hcs2 with e4 _
      subst e3; subst e4
      refine ⟨⟨b, t, t2⟩, A, c, A2, c2, rfl, ht64, ht642, hA, hA2, ?_⟩
      subst hx
      simp only [List.map_cons, List.map_nil, Rows.uptoBulk, Rows.uptoBulkAll]
      omega
theorem openk_clause {r : Reach} {b0 : Nat} {v : Value} {d : DataW H} {ps : List MemPlace} (hv : Value.okWide Tryz.prog W r b0 26 v) (h : DataW.Trod enc Tryz.prog W base (fun _ => true) held 26 v d ps) (hbk : Rows.uptoBulk d ≤ 1048576) :
    ∃ (l : List Li) (A : Option Addr) (c : Nat), v = .slice A l.length c ∧ ClsK W (· < W.heap.size) A l ∧ l.length ≤ 1048576 ∧ ∀ x ∈ l, x.l.size + x.r.size ≤ 1048576 := by
  obtain ⟨a0, len0, cap0, rfl⟩ := okWide_slice Tryz.underlying26 hv
  obtain ⟨fuel, hf⟩ := h
  have hf' : DataW.trod enc Tryz.prog W base (fun _ => true) held fuel 26 [.slice a0 len0 cap0] = some (d, ps) := hf
  rcases DataW.trod_slice Tryz.underlying26 hf' with ⟨hv, e1⟩ | ⟨a, len, cap, elems, rest, m, hm, hv, e1, _, hl, hmax, hlenE, hel, _, _⟩
  · injection hv with hv
    injection hv with e2 e3 e4
    subst e2; subst e3; subst e4
    exact ⟨[], none, 0, rfl, ⟨fun h => by simp at h⟩, by simp, by simp⟩
  · injection hv with hv
    injection hv with e2 e3 e4
    subst e2; subst e3; subst e4
    have e5 := congrArg (fun z => Rows.uptoBulk z.1) e1
    simp only [Rows.uptoBulk] at e5
    have hlen : len0 ≤ 1048576 := by
      have h1 := bulk_length (elems.map (·.1))
      rw [List.length_map] at h1
      omega
    have each : ∀ i, i < len0 → ∃ q : Li × (Option Addr × Nat) × (Option Addr × Nat), W.cell? (a.add (i * 5)) = some (.bool q.1.neg) ∧ W.cell? ((a.add (i * 5)).add 1) = some (.int .i64 q.1.l.fn) ∧ W.cell? ((a.add (i * 5)).add 2) = some (.slice q.2.1.1 q.1.l.args.length q.2.1.2) ∧ W.cell? ((a.add (i * 5)).add 3) = some (.int .i64 q.1.r.fn) ∧ W.cell? ((a.add (i * 5)).add 4) = some (.slice q.2.2.1 q.1.r.args.length q.2.2.2) ∧ I64 q.1.l.fn ∧ I64 q.1.r.fn ∧ ArgsK W (· < W.heap.size) q.2.1.1 q.2.1.2 q.1.l.args ∧ ArgsK W (· < W.heap.size) q.2.2.1 q.2.2.2 q.1.r.args ∧ q.1.l.size + q.1.r.size ≤ 1048576 := by
      intro i hi
      have h1 := hel i hi
      rw [cellsLitK] at h1
      rw [List.getElem?_eq_getElem (by omega)] at h1
      cases hc : W.cells? base (a.add (i * 5)) 5 with
      | none => rw [hc] at h1; cases h1
      | some cs' =>
        rw [hc] at h1
        simp only [Option.bind_some] at h1
        obtain ⟨y, A1, c1, A2, c2, rfl, h64, h64', hA1, hA2, hb⟩ := trodk_lit _ cs' _ h1
        obtain ⟨_, _, hat⟩ := World.cells?_some hc
        refine ⟨(y, (A1, c1), (A2, c2)), ?_, hat 1 (by omega), hat 2 (by omega), hat 3 (by omega), hat 4 (by omega), h64, h64', hA1, hA2, ?_⟩
        · have := hat 0 (by omega)
          simpa [Addr.add] using this
        · have h9 := bulk_memK (List.mem_map.2 ⟨elems[i]'(by omega), List.getElem_mem _, rfl⟩ : (elems[i]'(by omega)).1 ∈ elems.map (·.1))
          show y.l.size + y.r.size ≤ _
          omega
    haveI : Inhabited (Li × (Option Addr × Nat) × (Option Addr × Nat)) := ⟨(⟨false, .node 0 [], .node 0 []⟩, (none, 0), (none, 0))⟩
    obtain ⟨q, hq⟩ := Go.Deep.choose_lt each
    have hget : ∀ (i : Nat) (t : Li), ((List.range len0).map fun i => (q i).1)[i]? = some t → i < len0 ∧ t = (q i).1 := by
      intro i t e
      have hi : i < len0 := by have := (List.getElem?_eq_some_iff.1 e).1; simpa using this
      rw [List.getElem?_map, List.getElem?_range hi] at e
      simp at e
      exact ⟨hi, e.symm⟩
    refine ⟨(List.range len0).map fun i => (q i).1, some a, cap0, by simp, ⟨fun hp => ?_⟩, by simpa using hlen, fun x hx => ?_⟩
    · have h0 : 0 < len0 := by simpa using hp
      have c00 := (hq 0 h0).1
      simp only [Nat.zero_mul, Addr.add, if_true] at c00
      obtain ⟨blk, off, spot⟩ := a
      obtain rfl : spot = none := cell_spot c00
      refine ⟨blk, off, rfl, World.block_lt_of_cell? W _ c00, fun i t e => ?_⟩
      obtain ⟨hi, rfl⟩ := hget i t e
      obtain ⟨h3, h4, h5, h6, h7, h1, h2, h8, h9, h10⟩ := hq i hi
      rw [Addr.add_lit] at h3
      rw [Addr.add_lit, Addr.add_lit] at h4 h5 h6 h7
      exact ⟨(q i).2.1.1, (q i).2.1.2, (q i).2.2.1, (q i).2.2.2, h3, h4, h5, h6, h7, h1, h2, h8, h9, by omega, by omega⟩
    · obtain ⟨i, hi, rfl⟩ := List.mem_map.1 hx
      exact (hq i (by simpa using hi)).2.2.2.2.2.2.2.2.2
end
end Go.Proofs.YthgglobfkkcdgaaGreat
namespace Go.Proofs.YthgglobfkkcdgaaGreat
open Go.ChangeShapes Go.WideShapes Go.ChangeAt Go.RowKit
set_option maxRecDepth 20000
section
variable {H : Type} {enc : TypeId × Value → H} {W : World} {base : Nat} {held : Bool}
theorem trod_ints1L {n : Nat} {c0 : Value} {x : DataW H × List MemPlace} (hf : DataW.trod enc Tryz.prog W base (fun _ => true) held n 22 [c0] = some x) :
    ∃ (p : List Int) (A : Option Addr) (c : Nat), c0 = .slice A p.length c ∧ p.length ≤ c ∧ Ints W W.heap.size A p ∧ p.length ≤ Rows.uptoBulk x.1 := by
  rcases open_ints Tryz.underlying22 Tryz.underlying3 cellsInt hf with ⟨hcs, hx⟩ | ⟨ad, len, cap, zs, hcs, _, hn, hmax, hzl, hx, hcell, hwf⟩
  · injection hcs with hcs _
    exact ⟨[], none, 0, hcs, Nat.le_refl _, ⟨by simp, by simp, fun h => by simp at h⟩, Nat.zero_le _⟩
  · injection hcs with hcs _
    subst hcs
    simp only [if_true] at hzl
    have hl : (zs.take len).length = len := by rw [List.length_take]; omega
    refine ⟨zs.take len, some ad, cap, by rw [hl], by omega, ⟨by unfold maxLen at hmax; omega, fun x hx => ?_, fun hpos => ?_⟩, ?_⟩
    · have := hwf x (List.mem_of_mem_take hx)
      simp [Lit.wf, IntKind.min, IntKind.max, IntKind.signed, IntKind.bits] at this
      exact this
    · have c0 := hcell 0 (by omega)
      obtain ⟨blk, off, spot⟩ := ad
      simp only [Addr.add, if_true] at c0
      obtain rfl : spot = none := cell_spot c0
      refine ⟨blk, off, rfl, World.block_lt_of_cell? W _ c0, fun i x hi => ?_⟩
      have hil := (List.getElem?_eq_some_iff.1 hi).1
      have h1 := hcell i (by omega)
      rw [Addr.add_lit] at h1
      rw [h1]
      rw [List.getElem?_take] at hi
      split at hi
      · rw [List.getD_eq_getElem?_getD, hi]; rfl
      · cases hi
    · rw [hx]
      have h1 := bulk_length (lits (H := H) .i64 (zs.take len))
      have h2 : (lits (H := H) .i64 (zs.take len)).length = (zs.take len).length := by simp [lits]
      simp only [Rows.uptoBulk]
      omega
theorem open_orderL {r : Reach} {b0 : Nat} {v : Value} {d : DataW H} {ps : List MemPlace} (hv : Value.okWide Tryz.prog W r b0 24 v) (h : DataW.Trod enc Tryz.prog W base (fun _ => true) held 24 v d ps) :
    ∃ (o : Odr) (P Q : Option Addr) (pc qc : Nat), v = .agg #[.bool o.lpo, .slice P o.prec.length pc, .slice Q o.wts.length qc, .int .i64 o.var] ∧ OdrM W W.heap.size o P Q ∧ o.prec.length ≤ Rows.uptoBulk d := by
  obtain ⟨cs, rfl, _⟩ := okWide_struct Tryz.underlying24 hv
  obtain ⟨fuel, hf⟩ := h
  have hf' : DataW.trod enc Tryz.prog W base (fun _ => true) held fuel 24 cs.toList = some (d, ps) := hf
  obtain ⟨xs, n', _, hx, hlen, hxs, hg⟩ := DataW.trod_struct Tryz.underlying24 hf'
  rw [cellsOrder] at hlen
  obtain ⟨l, hl⟩ : ∃ l, cs.toList = l := ⟨_, rfl⟩
  rw [hl] at hlen hg
  match l, hlen, hl with
  | [c0, c1, c2, c3], _, hl =>
    have hx2 : xs.length = 4 := by rw [hxs]; rfl
    match xs, hx2 with
    | [x0, x1, x2, x3], _ =>
      have g0 := hg 0 _ rfl
      have g1 := hg 1 _ rfl
      have g2 := hg 2 _ rfl
      have g3 := hg 3 _ rfl
      simp [cellsBool2] at g0
      simp [cellsInts1] at g1
      simp [cellsInts1] at g2
      simp [cellsInt] at g3
      obtain ⟨b, hbv, _⟩ := DataW.trod_bool Tryz.underlying4 g0
      injection hbv with hbv
      subst hbv
      obtain ⟨p, P, pc, rfl, h1, h2, h5⟩ := trod_ints1L g1
      obtain ⟨q, Q, qc, rfl, h3, h4⟩ := trod_ints1 g2
      obtain ⟨f, hfv, _, hw⟩ := DataW.trod_int Tryz.underlying3 g3
      injection hfv with hfv
      subst hfv
      have hf64 : I64 f := by
        have := hw
        simp [Lit.wf, IntKind.min, IntKind.max, IntKind.signed, IntKind.bits] at this
        exact this
      refine ⟨⟨b, p, q, f⟩, P, Q, pc, qc, ?_, ⟨h2, h4, hf64⟩, ?_⟩
      rw [show cs = #[.bool b, .slice P p.length pc, .slice Q q.length qc, .int .i64 f] from Array.toList_inj.1 (by rw [hl])]
      injection hx with hx _
      rw [hx]
      simp only [Rows.uptoBulk, Rows.uptoBulkAll, List.map_cons, List.map_nil]
      show p.length ≤ _
      omega
end
end Go.Proofs.YthgglobfkkcdgaaGreat
namespace Go.Proofs.YthgglobfkkcdgaaGreat
open Go.ChangeShapes Go.WideShapes Go.ChangeAt Go.RowKit
section
variable {H : Type} {enc : TypeId × Value → H} {P : Program}
theorem trodAll_later (hl : laidOutB P = true) {W W' : World} (hb : Below W.heap.size W W') : ∀ {ts : List TypeId} {vs : List Value} {ds : List (DataW H)} {ps : List MemPlace},
    (ts.all fun t => P.readableRec t && decide (t < P.types.size)) = true → (∀ x ∈ ps, x.block < W.heap.size) → DataW.TrodAll enc P W 0 (fun _ => true) true ts vs ds ps → DataW.TrodAll enc P W' 0 (fun b => decide (b < W.heap.size)) true ts vs ds ps
  | [], [], [], _, _, _, h => h
  | [], [], _ :: _, _, _, _, h => h.elim
  | [], _ :: _, _, _, _, _, h => h.elim
  | _ :: _, [], _, _, _, _, h => h.elim
  | _ :: _, _ :: _, [], _, _, _, h => h.elim
  | t :: ts, v :: vs, d :: ds, ps, hr, hlt, h => by
    obtain ⟨p, q, h1, h2, rfl⟩ := h
    simp only [List.all_cons, Bool.and_eq_true, decide_eq_true_eq] at hr
    exact ⟨p, q, Below.trod hl hr.1.1 hr.1.2 h1 hb (fun x hx => hlt x (List.mem_append_left _ hx)), trodAll_later hl hb hr.2 (fun x hx => hlt x (List.mem_append_right _ hx)) h2, rfl⟩
theorem law_post (hl : laidOutB P = true) {f : Func} {s : ChangeSpec} {tb : TypeId} (hv : s.vars = []) (hrt : f.resultTypes = #[tb]) (htb : P.underlying tb = some .bool)
    (hread : (f.params.toList.all fun t => P.readableRec t && decide (t < P.types.size)) = true) {W W' : World} {args : Array Value} {ds gs : List (DataW H)} {before : List MemPlace}
    (hW : DataW.Whole enc P f.params.toList s.vars false W args.toList ds gs before) (hfn : s.fn H (ds ++ gs) = { results := [.lit (.bool true)], args := ds }) (hb : Below W.heap.size W W') :
    s.post enc P f false true false false W args (.bool true) W' := by
  have hlt := hW.lt
  have hW' := hW
  obtain ⟨p, q, hA, hV, rfl, hfz, _⟩ := hW'
  have hV' : gs = [] ∧ q = [] := by
    rw [hv] at hV
    cases gs with
    | nil => exact ⟨rfl, hV⟩
    | cons _ _ => exact hV.elim
  obtain ⟨rfl, rfl⟩ := hV'
  have hold : ∀ x ∈ p, x.block < W.heap.size := fun x hx => hlt x (by simp [hx])
  refine ⟨ds, [], p ++ [], [], p, [], hW, ?_, ?_, ?_, World.keptBut_mono (fun x hx => ⟨hx, ?_⟩) (hb.frame (· ∈ p ++ [])), fun h => by cases h⟩
  · rw [hfn, hrt]
    exact trodAll_mk1 (shut_bool htb _)
  · rw [hfn]
    exact trodAll_later hl hb hread hold hA
  · rw [hfn, hv]
    rfl
  · rw [List.append_nil] at hx
    exact .inr (.inl hx)
end
end Go.Proofs.YthgglobfkkcdgaaGreat
