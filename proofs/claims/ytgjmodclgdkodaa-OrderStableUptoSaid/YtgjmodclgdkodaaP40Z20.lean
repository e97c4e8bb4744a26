import Derived.Test.YtgjmodclgdkodaaP40Z19
import Derived.Test.YtgjmodclgdkodaaP40Z2
import Derived.Test.YtgjmodclgdkodaaP40Z4
import Derived.Test.YtgjmodclgdkodaaP40Z3
import Derived.ChangeSlices
import Derived.Test.YtgjmodclgdkodaaRows
import Derived.ProofKit
import Derived.Below
import Derived.Carry
/- order: what its laws ask ahead: size, may, fits. -/

namespace Go.Proofs.Ytgjmodclgdkodaa

open Go.RowKit Go.Shelf
set_option maxRecDepth 100000

def sizC : List Li → Nat
  | [] => 0
  | x :: l => x.l.size + x.r.size + sizC l

theorem sizC_take {l : List Li} {k : Nat} {x : Li} (h : l[k]? = some x) : sizC (l.take (k + 1)) = sizC (l.take k) + (x.l.size + x.r.size) := by
  have : ∀ a b : List Li, sizC (a ++ b) = sizC a + sizC b := fun a b => by
    induction a with
    | nil => simp [sizC]
    | cons y a ih => simp only [List.cons_append, sizC, ih]; omega
  rw [List.take_add_one, h, this]
  simp [sizC]

theorem sizC_le {l : List Li} (h : ∀ x ∈ l, x.l.size + x.r.size ≤ 2097152) : sizC l ≤ l.length * 2097152 := by
  induction l with
  | nil => simp [sizC]
  | cons x l ih =>
    have h1 := h x (by simp)
    have h2 := ih fun y hy => h y (by simp [hy])
    rw [sizC, List.length_cons, Nat.succ_mul]; omega

theorem sizC_mem {l : List Li} {x : Li} (h : x ∈ l) : x.l.size + x.r.size ≤ sizC l := by
  induction l with
  | nil => simp at h
  | cons y l ih =>
    rw [sizC]
    rcases List.mem_cons.1 h with rfl | h
    · omega
    · have := ih h; omega

set_option maxHeartbeats 2000000 in
theorem oSize_any (l : List Li) (A : Option Addr) (c : Nat) (w : World) (hL : ClsK w (· < w.heap.size) A l) (hl : l.length ≤ 1048576) (hz : ∀ x ∈ l, x.l.size + x.r.size ≤ 2097152) :
    Calls Try.prog 18 #[.slice A l.length c] w fun e w' => e = .returned (.int .i64 (sizC l : Int)) ∧ Below w.heap.size w w' := by
  have HL := Lib.hid hL
  have HZ := Lib.hid hz
  clear hL hz
  go_enter Try.func18, Try.ntmps18
  go_wp2
  go_loopw [3, 7] (fun n i wr => ∃ k : Nat, k ≤ l.length ∧ i = .int .i64 (k : Int) ∧ n = .int .i64 (sizC (l.take k) : Int) ∧ Below w.heap.size w wr) (fun _ i _ => l.length - (intOf i).toNat)
  case atStart => exact ⟨0, Nat.zero_le _, rfl, rfl, Below.refl _ _⟩
  case round =>
    obtain ⟨k, hk, rfl, rfl, hBr⟩ := hrel
    by_cases hlt : k < l.length
    · obtain ⟨x, hx⟩ : ∃ x, l[k]? = some x := ⟨_, List.getElem?_eq_getElem hlt⟩
      obtain ⟨b, off, A1, c1, A2, c2, rfl, hb, e0, e1, e2, e3, e4, hK⟩ := HL.out.get hx
      have hst := Lib.hid (sizC_take hx)
      have hxz := HZ.out x (List.mem_of_getElem? hx)
      have hsk : sizC (l.take k) ≤ k * 2097152 := by
        have := sizC_le (l := l.take k) fun y hy => HZ.out y (List.mem_of_mem_take hy)
        rwa [List.length_take, Nat.min_eq_left hk] at this
      have hk2 : k * 2097152 ≤ 1048576 * 2097152 := Nat.mul_le_mul_right _ (by omega)
      have hwr1 : IntKind.i64.wrap ((k : Int) + 1) = (k : Int) + 1 := by rw [IntKind.wrap_i64]; omega
      have hw1 : IntKind.i64.wrap ((x.l.size : Int) + (x.r.size : Int)) = ((x.l.size + x.r.size : Nat) : Int) := by rw [IntKind.wrap_i64]; omega
      have hw2 : IntKind.i64.wrap ((sizC (l.take k) : Int) + ((x.l.size : Int) + (x.r.size : Int))) = ((sizC (l.take k) + (x.l.size + x.r.size) : Nat) : Int) := by rw [IntKind.wrap_i64]; omega
      have hBz := fun z : Later wr.heap.size wr => hBr.trans (z.h.mono hBr.size)
      have m1 := fun z : Later wr.heap.size wr => cell_on (hBz z) hb e1
      have m2 := fun z : Later wr.heap.size wr => cell_on (hBz z) hb e2
      have m3 := fun z : Later wr.heap.size wr => cell_on (hBz z) hb e3
      have m4 := fun z : Later wr.heap.size wr => cell_on (hBz z) hb e4
      have H1 := Lib.hid fun z : Later wr.heap.size wr => refSize_any x.l (by omega) A1 c1 z.w hK.il ((hK.on (hBz z)).sl.toA)
      have H2 := Lib.hid fun z : Later wr.heap.size wr => refSize_any x.r (by omega) A2 c2 z.w hK.ir ((hK.on (hBz z)).sr.toA)
      clear hx hb e0 e1 e2 e3 e4 hK hBz hxz hsk hk2
      go_upto_region 5 with fail
      refine wp_region_later wr.heap.size wr (by kernel_rfl) (by kernel_rfl) (bl_drewN (Below.refl _ _) 1) ?_
      repeat (go_big_quiet_step (first
        | (go_at_call 12; first
          | (with_reducible refine calls_later _ (Nat.le_refl _) (H1.out _))
          | (with_reducible refine calls_later _ (Nat.le_refl _) (H2.out _)))
        | fail))
      refine wpQuiet_nil ?_
      rintro _ ⟨z, rfl⟩
      clear m1 m2 m3 m4 H1 H2
      go_wp2
      go_roundw
      case rel => exact ⟨k + 1, by omega, by go_num, by rw [hst.out, Int.natCast_add, Int.natCast_add], hBr.trans (z.h.mono hBr.size)⟩
      case measure => simp [intOf]; omega
    · obtain rfl : k = l.length := by omega
      go_wp2
      go_ret
      exact ⟨ret_int (by rw [List.take_length]), hBr⟩

/-- Is a term's top a predicate? -/
def prdB (sy : List Sm) (f : Int) : Bool := if 0 ≤ f then (match sy[f.toNat]? with | some s => s.pred | none => false) else false

def badL (sy : List Sm) (x : Li) : Bool := (prdB sy x.l.fn != prdB sy x.r.fn) || (prdB sy x.l.fn && (decide (x.l.fn = 0) || !decide (x.r.fn = 0)))

def mayL (sy : List Sm) (x : Li) : Bool := decide (chkP sy x.l = 0) && (decide (chkP sy x.r = 0) && !badL sy x)

def mayB (sy : List Sm) (c : List Li) : Bool := c.all (mayL sy) && decide (c.length ≤ 16)

theorem chkP_top {sy : List Sm} {t : Tm} (h : chkP sy t = 0) (h0 : 0 ≤ t.fn) : t.fn < (sy.length : Int) := by
  unfold chkP at h
  split at h
  · split at h
    · split at h
      · rename_i ho
        obtain ⟨f, xs⟩ := t
        refine Classical.byContradiction fun hlt => ?_
        rw [over_out (by simp only [Tm.fn] at h0; omega) (by simp only [Tm.fn] at hlt; omega)] at ho
        cases ho
      · cases h
    · cases h
  · cases h

set_option maxHeartbeats 8000000 in
theorem oMay_any (sy : List Sm) (l : List Li) (As A : Option Addr) (n cs c : Nat) (w : World) (hS : Syms w w.heap.size As n sy) (hn : n * 32 ≤ 140737488351232) (hL : ClsK w (· < w.heap.size) A l) (hl : l.length ≤ 1048576) (hz : ∀ x ∈ l, x.l.size + x.r.size ≤ 2097152) :
    Calls Try.prog 17 #[.agg #[.slice As n cs], .slice A l.length c] w fun e w' => e = .returned (.bool (mayB sy l)) ∧ Below w.heap.size w w' := by
  obtain rfl := hS.len
  have q0 := heap_alloc_new w (.cells #[.slice As sy.length cs] 24)
  obtain ⟨W, hW⟩ : ∃ W, w.alloc (.cells #[.slice As sy.length cs] 24) = W := ⟨_, rfl⟩
  have hB : Below w.heap.size w W := by rw [← hW]; exact (Below.refl _ _).alloc (Nat.le_refl _) _
  rw [hW] at q0
  have hq := (Array.getElem?_eq_some_iff.1 q0).1
  have HW := Lib.hid hW
  have Hq := Lib.hid q0
  have HS := Lib.hid (hS.on hB)
  have HL := Lib.hid (hL.on hB)
  have HZ := Lib.hid hz
  have hll : (sy.length : Int) ≤ 4398046511104 := by omega
  clear hW q0 hS hL hz
  go_enter Try.func17, Try.ntmps17
  go_upto_region 1 with fail
  rw [HW.out]
  go_wp2
  go_loopw [11] (fun i wr => ∃ k : Nat, k ≤ l.length ∧ i = .int .i64 (k : Int) ∧ Below W.heap.size W wr ∧ Hid (∀ x ∈ l.take k, mayL sy x = true)) (fun i _ => l.length - (intOf i).toNat)
  case atStart => exact ⟨0, Nat.zero_le _, rfl, Below.refl _ _, Lib.hid fun x hx => by simp at hx⟩
  case round =>
    obtain ⟨k, hk, rfl, hBr, Hn⟩ := hrel
    by_cases hlt : k < l.length
    · obtain ⟨x, hx⟩ : ∃ x, l[k]? = some x := ⟨_, List.getElem?_eq_getElem hlt⟩
      obtain ⟨b, off, A1, c1, A2, c2, rfl, hb, e0, e1, e2, e3, e4, hK⟩ := HL.out.get hx
      have f0 := cell_on hBr hb e0
      have f1 := cell_on hBr hb e1
      have f2 := cell_on hBr hb e2
      have f3 := cell_on hBr hb e3
      have f4 := cell_on hBr hb e4
      have hxz := HZ.out x (List.mem_of_getElem? hx)
      have hwr1 : IntKind.i64.wrap ((k : Int) + 1) = (k : Int) + 1 := by rw [IntKind.wrap_i64]; omega
      have p0 := heap_alloc_new wr (.cells #[.bool x.neg, .int .i64 x.l.fn, .slice A1 x.l.args.length c1, .int .i64 x.r.fn, .slice A2 x.r.args.length c2] 41)
      obtain ⟨V, hV⟩ : ∃ V, wr.alloc (.cells #[.bool x.neg, .int .i64 x.l.fn, .slice A1 x.l.args.length c1, .int .i64 x.r.fn, .slice A2 x.r.args.length c2] 41) = V := ⟨_, rfl⟩
      have hBv : Below wr.heap.size wr V := by rw [← hV]; exact (Below.refl _ _).alloc (Nat.le_refl _) _
      rw [hV] at p0
      have hp := (Array.getElem?_eq_some_iff.1 p0).1
      have hWV := hBr.trans (hBv.mono hBr.size)
      have hKV := hK.on hWV
      have hSV := HS.out.on hWV
      have HK := Lib.hid hKV
      have HSV := Lib.hid hSV
      have HP := Lib.hid p0
      have HQ := Lib.hid ((hWV.block _ hq).trans Hq.out)
      have hqV : w.heap.size < V.heap.size := Nat.lt_of_lt_of_le hq hWV.size
      obtain ⟨a0, a1, a2, a3, a4⟩ := cells_5o p0
      obtain ⟨s0, _⟩ := cells_one HQ.out
      have Hc1 := Lib.hid (ref2ChkP_any sy x.l As A1 sy.length cs c1 V (by omega) hSV hn hK.il hKV.sl.toA)
      have Hc2 := Lib.hid fun V1 (h : Below V.heap.size V V1) => ref2ChkP_any sy x.r As A2 sy.length cs c2 V1 (by omega) (hSV.on h) hn hK.ir (hKV.on h).sr.toA
      have HV := Lib.hid hV
      have Hx := Lib.hid hx
      have hno : Hid (mayL sy x = false → mayB sy l = false) := Lib.hid fun h => by
        unfold mayB
        rw [show l.all (mayL sy) = false from List.all_eq_false.2 ⟨x, List.mem_of_getElem? Hx.out, by rw [h]; decide⟩, Bool.false_and]
      have hyes : Hid (mayL sy x = true → ∀ y ∈ l.take (k + 1), mayL sy y = true) := Lib.hid fun h y hy => by
        rw [List.take_add_one, Hx.out] at hy
        rcases List.mem_append.1 hy with hy | hy
        · exact Hn.out y hy
        · simp at hy; subst hy; exact h
      clear hx hb e0 e1 e2 e3 e4 hK hxz p0 hKV hSV hV
      go_upto_region 4 with fail
      rw [HV.out]
      clear f0 f1 f2 f3 f4
      by_cases hc1 : chkP sy x.l = 0
      · by_cases hc2 : chkP sy x.r = 0
        · rw [hc1] at Hc1
          rw [hc2] at Hc2
          go_upto_region 6 with (first
            | (go_at_call 11; first
              | ((with_reducible refine Hc1.out.mono ?_); go_must (rintro e w1 ⟨rfl, hb1⟩; have Hc3 := Lib.hid (Hc2.out w1 hb1); have v0 := cell_on hb1 hp a0; have v1 := cell_on hb1 hp a1; have v2 := cell_on hb1 hp a2; have v3 := cell_on hb1 hp a3; have v4 := cell_on hb1 hp a4; have v5 := cell_on hb1 hqV s0; clear Hc1))
              | ((with_reducible refine Hc3.out.mono ?_); go_must (rintro e w2 ⟨rfl, hb2⟩)))
            | fail)
          have hB2 := hb1.trans (hb2.mono hb1.size)
          obtain ⟨u0, u1, u2, u3, u4⟩ := cells_5o ((hB2.block _ hp).trans HP.out)
          obtain ⟨t0, _⟩ := cells_one ((hB2.block _ hqV).trans HQ.out)
          have HS2 := Lib.hid (HSV.out.on hB2)
          clear v0 v1 v2 v3 v4 v5 Hc3
          have t1 := chkP_top hc1
          have t2 := chkP_top hc2
          have Ht := Lib.hid (And.intro t1 t2)
          clear t1 t2
          go_cut [7, 8] from 12 to 73 (fun s7 s8 wx => s7 = .bool (prdB sy x.l.fn) ∧ s8 = .bool (prdB sy x.r.fn) ∧ Below w2.heap.size w2 wx)
          case first =>
            have hqz := Nat.lt_of_lt_of_le hqV hB2.size
            have hpz := Nat.lt_of_lt_of_le hp hB2.size
            have m0 := fun z : Later w2.heap.size w2 => cell_on z.h hqz t0
            have m1 := fun z : Later w2.heap.size w2 => cell_on z.h hpz u1
            have m3 := fun z : Later w2.heap.size w2 => cell_on z.h hpz u3
            clear u0 u1 u2 u3 u4 t0
            by_cases hl0 : 0 ≤ x.l.fn
            · obtain ⟨kl, hkl⟩ : ∃ kl : Nat, x.l.fn = (kl : Int) := ⟨x.l.fn.toNat, by omega⟩
              have hkll : (kl : Int) < (sy.length : Int) := by have := Ht.out.1 hl0; omega
              obtain ⟨sl, hsl⟩ : ∃ s, sy[kl]? = some s := ⟨_, List.getElem?_eq_getElem (by omega)⟩
              have hpl : prdB sy x.l.fn = sl.pred := by unfold prdB; rw [if_pos hl0, hkl, Int.toNat_natCast, hsl]
              have HPL := Lib.hid hpl
              obtain ⟨sb, so, rfl, hsb, hsc⟩ := HS2.out.ad (by omega)
              have e5 := (hsc _ _ hsl).2.2
              have m4 := fun z : Later w2.heap.size w2 => cell_on z.h hsb e5
              have g1 : decide ((kl : Int) ≥ 0) = true := decide_eq_true (by omega)
              rw [hkl] at m1
              clear e5 hpl hl0 hsl
              by_cases hr0 : 0 ≤ x.r.fn
              · obtain ⟨kr, hkr⟩ : ∃ kr : Nat, x.r.fn = (kr : Int) := ⟨x.r.fn.toNat, by omega⟩
                have hkrl : (kr : Int) < (sy.length : Int) := by have := Ht.out.2 hr0; omega
                obtain ⟨sr, hsr⟩ : ∃ s, sy[kr]? = some s := ⟨_, List.getElem?_eq_getElem (by omega)⟩
                have hpr : prdB sy x.r.fn = sr.pred := by unfold prdB; rw [if_pos hr0, hkr, Int.toNat_natCast, hsr]
                have HPR := Lib.hid hpr
                have e6 := (hsc _ _ hsr).2.2
                have m5 := fun z : Later w2.heap.size w2 => cell_on z.h hsb e6
                have g2 : decide ((kr : Int) ≥ 0) = true := decide_eq_true (by omega)
                rw [hkr] at m3
                clear e6 hpr hr0 hsr hsc hkl hkr
                refine wp_region_later w2.heap.size w2 (by kernel_rfl) (by kernel_rfl) (bl_drewN (Below.refl _ _) 1) ?_
                repeat (go_big_quiet_step (fail))
                refine wpQuiet_nil ?_
                rintro _ ⟨z, rfl⟩
                go_wp2
                go_meet
                case rel => exact ⟨by rw [HPL.out], by rw [HPR.out], z.h⟩
              · have hpr : prdB sy x.r.fn = false := by unfold prdB; rw [if_neg hr0]
                have HPR := Lib.hid hpr
                have g2 : decide (x.r.fn ≥ 0) = false := decide_eq_false hr0
                clear hpr hr0 hsc hkl
                refine wp_region_later w2.heap.size w2 (by kernel_rfl) (by kernel_rfl) (bl_drewN (Below.refl _ _) 1) ?_
                repeat (go_big_quiet_step (fail))
                refine wpQuiet_nil ?_
                rintro _ ⟨z, rfl⟩
                go_wp2
                go_meet
                case rel => exact ⟨by rw [HPL.out], by rw [HPR.out], z.h⟩
            · have hpl : prdB sy x.l.fn = false := by unfold prdB; rw [if_neg hl0]
              have HPL := Lib.hid hpl
              have g1 : decide (x.l.fn ≥ 0) = false := decide_eq_false hl0
              clear hpl hl0
              by_cases hr0 : 0 ≤ x.r.fn
              · obtain ⟨kr, hkr⟩ : ∃ kr : Nat, x.r.fn = (kr : Int) := ⟨x.r.fn.toNat, by omega⟩
                have hkrl : (kr : Int) < (sy.length : Int) := by have := Ht.out.2 hr0; omega
                obtain ⟨sr, hsr⟩ : ∃ s, sy[kr]? = some s := ⟨_, List.getElem?_eq_getElem (by omega)⟩
                have hpr : prdB sy x.r.fn = sr.pred := by unfold prdB; rw [if_pos hr0, hkr, Int.toNat_natCast, hsr]
                have HPR := Lib.hid hpr
                obtain ⟨sb, so, rfl, hsb, hsc⟩ := HS2.out.ad (by omega)
                have e6 := (hsc _ _ hsr).2.2
                have m5 := fun z : Later w2.heap.size w2 => cell_on z.h hsb e6
                have g2 : decide ((kr : Int) ≥ 0) = true := decide_eq_true (by omega)
                rw [hkr] at m3
                clear e6 hpr hr0 hsr hsc hkr
                refine wp_region_later w2.heap.size w2 (by kernel_rfl) (by kernel_rfl) (bl_drewN (Below.refl _ _) 1) ?_
                repeat (go_big_quiet_step (fail))
                refine wpQuiet_nil ?_
                rintro _ ⟨z, rfl⟩
                go_wp2
                go_meet
                case rel => exact ⟨by rw [HPL.out], by rw [HPR.out], z.h⟩
              · have hpr : prdB sy x.r.fn = false := by unfold prdB; rw [if_neg hr0]
                have HPR := Lib.hid hpr
                have g2 : decide (x.r.fn ≥ 0) = false := decide_eq_false hr0
                clear hpr hr0
                refine wp_region_later w2.heap.size w2 (by kernel_rfl) (by kernel_rfl) (bl_drewN (Below.refl _ _) 1) ?_
                repeat (go_big_quiet_step (fail))
                refine wpQuiet_nil ?_
                rintro _ ⟨z, rfl⟩
                go_wp2
                go_meet
                case rel => exact ⟨by rw [HPL.out], by rw [HPR.out], z.h⟩
          case rest =>
            obtain ⟨rfl, rfl, hb3⟩ := hcut
            have hpw := Nat.lt_of_lt_of_le hp hB2.size
            obtain ⟨r0, r1, r2, r3, r4⟩ := cells_5o ((hb3.block _ hpw).trans ((hB2.block _ hp).trans HP.out))
            have hBf := hWV.trans ((hB2.trans (hb3.mono hB2.size)).mono hWV.size)
            have hmx : mayL sy x = !badL sy x := by unfold mayL; rw [decide_eq_true hc1, decide_eq_true hc2]; rfl
            have hbx : badL sy x = ((prdB sy x.l.fn != prdB sy x.r.fn) || (prdB sy x.l.fn && (decide (x.l.fn = 0) || !decide (x.r.fn = 0)))) := rfl
            generalize prdB sy x.l.fn = pl at hbx
            generalize prdB sy x.r.fn = pr at hbx
            have HBF := Lib.hid hBf
            clear u0 u1 u2 u3 u4 t0 hc1 hc2 r0 r2 r4 hBf
            cases pl with
            | false =>
              cases pr with
              | false =>
                have HY := Lib.hid (hyes.out (by rw [hmx, hbx]; rfl))
                clear hmx hbx
                go_wp2
                go_roundw
                case rel => exact ⟨k + 1, by omega, by go_num, HBF.out, HY⟩
                case measure => simp [intOf]; omega
              | true =>
                have HN := Lib.hid (hno.out (by rw [hmx, hbx]; rfl))
                clear hmx hbx
                go_wp2
                go_ret
                exact ⟨ret_bool HN.out.symm, hB.trans (HBF.out.mono hB.size)⟩
            | true =>
              cases pr with
              | false =>
                have HN := Lib.hid (hno.out (by rw [hmx, hbx]; rfl))
                clear hmx hbx
                go_wp2
                go_ret
                exact ⟨ret_bool HN.out.symm, hB.trans (HBF.out.mono hB.size)⟩
              | true =>
                by_cases z1 : x.l.fn = 0
                · have y1 : ((x.l.fn : Int) == 0) = true := by simpa using z1
                  have HN := Lib.hid (hno.out (by rw [hmx, hbx, decide_eq_true z1]; rfl))
                  clear hmx hbx z1
                  go_wp2
                  go_ret
                  exact ⟨ret_bool HN.out.symm, hB.trans (HBF.out.mono hB.size)⟩
                · have y1 : ((x.l.fn : Int) == 0) = false := by simpa using z1
                  by_cases z2 : x.r.fn = 0
                  · have y2 : ((x.r.fn : Int) != 0) = false := by simpa using z2
                    have HY := Lib.hid (hyes.out (by rw [hmx, hbx, decide_eq_false z1, decide_eq_true z2]; rfl))
                    clear hmx hbx z1 z2
                    go_wp2
                    go_roundw
                    case rel => exact ⟨k + 1, by omega, by go_num, HBF.out, HY⟩
                    case measure => simp [intOf]; omega
                  · have y2 : ((x.r.fn : Int) != 0) = true := by simpa using z2
                    have HN := Lib.hid (hno.out (by rw [hmx, hbx, decide_eq_false z1, decide_eq_false z2]; rfl))
                    clear hmx hbx z1 z2
                    go_wp2
                    go_ret
                    exact ⟨ret_bool HN.out.symm, hB.trans (HBF.out.mono hB.size)⟩
        · have hm := Lib.hid (hno.out (by unfold mayL; rw [decide_eq_false hc2]; simp))
          obtain ⟨r, hr⟩ : ∃ r, chkP sy x.r = r := ⟨_, rfl⟩
          have hr0 : ((r : Int) != 0) = true := by rw [← hr]; simpa using hc2
          rw [hc1] at Hc1
          rw [hr] at Hc2
          clear hr hc1 hc2
          go_wp2_with (first
            | (go_at_call 11; first
              | ((with_reducible refine Hc1.out.mono ?_); go_must (rintro e w1 ⟨rfl, hb1⟩; have Hc3 := Lib.hid (Hc2.out w1 hb1); have v0 := cell_on hb1 hp a0; have v1 := cell_on hb1 hp a1; have v2 := cell_on hb1 hp a2; have v3 := cell_on hb1 hp a3; have v4 := cell_on hb1 hp a4; have v5 := cell_on hb1 hqV s0; clear Hc1))
              | ((with_reducible refine Hc3.out.mono ?_); go_must (rintro e w2 ⟨rfl, hb2⟩)))
            | fail)
          go_ret
          exact ⟨ret_bool hm.out.symm, hB.trans ((hWV.trans ((hb1.trans (hb2.mono hb1.size)).mono hWV.size)).mono hB.size)⟩
      · have hm := Lib.hid (hno.out (by unfold mayL; rw [decide_eq_false hc1, Bool.false_and]))
        obtain ⟨r, hr⟩ : ∃ r, chkP sy x.l = r := ⟨_, rfl⟩
        have hr0 : ((r : Int) != 0) = true := by rw [← hr]; simpa using hc1
        rw [hr] at Hc1
        clear hr hc1
        go_wp2_with (first
          | (go_at_call 11; (with_reducible refine Hc1.out.mono ?_); go_must (rintro e w1 ⟨rfl, hb1⟩))
          | fail)
        go_ret
        exact ⟨ret_bool hm.out.symm, hB.trans ((hWV.trans (hb1.mono hWV.size)).mono hB.size)⟩
    · obtain rfl : k = l.length := by omega
      have hfin : Hid (mayB sy l = decide ((l.length : Int) ≤ 16)) := Lib.hid (by
        have := Hn.out
        rw [List.take_length] at this
        unfold mayB
        rw [List.all_eq_true.2 this, Bool.true_and, Bool.eq_iff_iff, decide_eq_true_eq, decide_eq_true_eq]; omega)
      go_wp2
      go_ret
      exact ⟨ret_bool hfin.out.symm, hB.trans (hBr.mono hB.size)⟩

end Go.Proofs.Ytgjmodclgdkodaa

/- order: fits, turn, plain. -/

namespace Go.Proofs.Ytgjmodclgdkodaa

open Go.RowKit Go.Shelf
set_option maxRecDepth 100000

def RpC (N : Nat → Prop) (w : World) (c : List Li) (v : Value) : Prop := ∃ A cap, v = .slice A c.length cap ∧ ClsK w N A c ∧ c.length ≤ 1048576 ∧ ∀ x ∈ c, x.l.size + x.r.size ≤ 2097152

theorem RpC.to {N M : Nat → Prop} {w w' : World} {c : List Li} {v : Value} (h : RpC N w c v) (hk : ∀ g, N g → w'.heap[g]? = w.heap[g]?) (hm : ∀ g, N g → M g) : RpC M w' c v := by
  obtain ⟨A, cap, rfl, h1, h2, h3⟩ := h
  exact ⟨A, cap, rfl, h1.to hk hm, h2, h3⟩

def fitC (sy : List Sm) (c : List Li) : Bool := mayB sy c && !decide (120 < sizC c)

def fitsC (sy : List Sm) (o : Odr) (cs : List (List Li)) : Bool := decide (chkO sy o = 0) && cs.all (fitC sy)

set_option maxHeartbeats 4000000 in
theorem oFits_any (sy : List Sm) (o : Odr) (l : List (List Li)) (As P Q A : Option Addr) (n cs pc qc c : Nat) (w : World) (hS : Syms w w.heap.size As n sy) (hn : n * 32 ≤ 140737488351232) (hM : OdrM w w.heap.size o P Q) (hL : RowV RpC (· < w.heap.size) w A l) :
    Calls Try.prog 6 #[.agg #[.slice As n cs], .agg #[.bool o.lpo, .slice P o.prec.length pc, .slice Q o.wts.length qc, .int .i64 o.var], .slice A l.length c] w fun e w' => e = .returned (.bool (fitsC sy o l)) ∧ Below w.heap.size w w' := by
  obtain rfl := hS.len
  obtain ⟨W, hW⟩ : ∃ W, (w.alloc (.cells #[.slice As sy.length cs] 24)).alloc (.cells #[.bool o.lpo, .slice P o.prec.length pc, .slice Q o.wts.length qc, .int .i64 o.var] 27) = W := ⟨_, rfl⟩
  obtain ⟨q0, q1⟩ := heap2 w (.cells #[.slice As sy.length cs] 24) (.cells #[.bool o.lpo, .slice P o.prec.length pc, .slice Q o.wts.length qc, .int .i64 o.var] 27)
  have hB : Below w.heap.size w W := by rw [← hW]; exact ((Below.refl _ _).alloc (Nat.le_refl _) _).alloc (by simp) _
  rw [hW] at q0 q1
  have hl0 := (Array.getElem?_eq_some_iff.1 q0).1
  have hl1 := (Array.getElem?_eq_some_iff.1 q1).1
  obtain ⟨a0, _⟩ := cells_one q0
  obtain ⟨b0, b1, b2, b3⟩ := cells_four q1
  have hlen := hL.len
  have HC := Lib.hid (refOrderCheck_any sy o As P Q sy.length cs pc qc W (hS.on hB) hn (hM.on hB))
  have HS := Lib.hid (hS.on hB)
  have HL : Hid (RowV RpC (· < W.heap.size) W A l) := Lib.hid (RowV.to (Rp := RpC) RpC.to hL (fun g e => hB.block g e) fun _ e => Nat.lt_of_lt_of_le e hB.size)
  have HW := Lib.hid hW
  have Hq0 := Lib.hid q0
  clear hW hS hM hL q0 q1
  by_cases hc : chkO sy o = 0
  · rw [hc] at HC
    have Hc := Lib.hid hc
    clear hc
    go_enter Try.func6, Try.ntmps6
    go_upto_region 1 with fail
    rw [HW.out]
    go_wp2_with (first
      | (go_at_call 16; (with_reducible refine HC.out.mono ?_); go_must (rintro e w1 ⟨rfl, hb1⟩))
      | fail)
    go_loopw [14] (fun i wr => ∃ k : Nat, k ≤ l.length ∧ i = .int .i64 (k : Int) ∧ Below W.heap.size W wr ∧ Hid (∀ x ∈ l.take k, fitC sy x = true)) (fun i _ => l.length - (intOf i).toNat)
    case atStart => exact ⟨0, Nat.zero_le _, rfl, hb1, Lib.hid fun x hx => by simp at hx⟩
    case round =>
      obtain ⟨k, hk, rfl, hBr, Hn⟩ := hrel
      by_cases hlt : k < l.length
      · obtain ⟨x, hx⟩ : ∃ x, l[k]? = some x := ⟨_, List.getElem?_eq_getElem hlt⟩
        obtain ⟨b, off, A1, c1, rfl, hb, e0, hR⟩ := HL.out.get hx
        obtain ⟨A1', c1', hv, hK, hl2, hz2⟩ := hR
        injection hv with hA1 _ hc1
        subst hA1
        subst hc1
        have hwr1 : IntKind.i64.wrap ((k : Int) + 1) = (k : Int) + 1 := by rw [IntKind.wrap_i64]; omega
        have hBz := fun z : Later wr.heap.size wr => hBr.trans (z.h.mono hBr.size)
        have m0 := fun z : Later wr.heap.size wr => cell_on (hBz z) hl0 a0
        have m1 := fun z : Later wr.heap.size wr => cell_on (hBz z) hb e0
        have H1 := Lib.hid fun z : Later wr.heap.size wr => oMay_any sy x As A1 sy.length cs c1 z.w (HS.out.on (hBz z)) hn (hK.on (hBz z)) hl2 hz2
        have H2 := Lib.hid fun z : Later wr.heap.size wr => oSize_any x A1 c1 z.w (hK.on (hBz z)) hl2 hz2
        have Hx := Lib.hid hx
        have hno : Hid (fitC sy x = false → fitsC sy o l = false) := Lib.hid fun h => by
          unfold fitsC
          rw [show l.all (fitC sy) = false from List.all_eq_false.2 ⟨x, List.mem_of_getElem? Hx.out, by rw [h]; decide⟩, Bool.and_false]
        have hyes : Hid (fitC sy x = true → ∀ y ∈ l.take (k + 1), fitC sy y = true) := Lib.hid fun h y hy => by
          rw [List.take_add_one, Hx.out] at hy
          rcases List.mem_append.1 hy with hy | hy
          · exact Hn.out y hy
          · simp at hy; subst hy; exact h
        clear hx hb e0 hK hl2 hz2 hBz
        have hfx : fitC sy x = (mayB sy x && !decide (120 < sizC x)) := rfl
        obtain ⟨zc, hzc⟩ : ∃ zc, sizC x = zc := ⟨_, rfl⟩
        rw [hzc] at hfx H2
        clear hzc
        go_upto_region 6 with fail
        cases hm : mayB sy x with
        | false =>
          rw [hm] at H1
          have HN := Lib.hid (hno.out (by rw [hfx, hm]; rfl))
          clear hfx hm
          refine wp_region_later wr.heap.size wr (by kernel_rfl) (by kernel_rfl) (bl_drewN (Below.refl _ _) 1) ?_
          repeat (go_big_quiet_step (first
            | (go_at_call 17; with_reducible refine calls_later _ (Nat.le_refl _) (H1.out _))
            | (go_at_call 18; with_reducible refine calls_later _ (Nat.le_refl _) (H2.out _))
            | fail))
          refine wpQuiet_nil ?_
          rintro _ ⟨z, rfl⟩
          clear m0 m1 H1 H2
          go_wp2
          go_ret
          exact ⟨ret_bool HN.out.symm, hB.trans ((hBr.trans (z.h.mono hBr.size)).mono hB.size)⟩
        | true =>
          rw [hm] at H1
          by_cases hz : 120 < zc
          · have gz : decide ((zc : Int) > 120) = true := decide_eq_true (by omega)
            have HN := Lib.hid (hno.out (by rw [hfx, hm, decide_eq_true hz]; rfl))
            clear hfx hm hz
            refine wp_region_later wr.heap.size wr (by kernel_rfl) (by kernel_rfl) (bl_drewN (Below.refl _ _) 1) ?_
            repeat (go_big_quiet_step (first
              | (go_at_call 17; with_reducible refine calls_later _ (Nat.le_refl _) (H1.out _))
              | (go_at_call 18; with_reducible refine calls_later _ (Nat.le_refl _) (H2.out _))
              | fail))
            refine wpQuiet_nil ?_
            rintro _ ⟨z, rfl⟩
            clear m0 m1 H1 H2
            go_wp2
            go_ret
            exact ⟨ret_bool HN.out.symm, hB.trans ((hBr.trans (z.h.mono hBr.size)).mono hB.size)⟩
          · have gz : decide ((zc : Int) > 120) = false := decide_eq_false (by omega)
            have HY := Lib.hid (hyes.out (by rw [hfx, hm, decide_eq_false hz]; rfl))
            clear hfx hm hz
            refine wp_region_later wr.heap.size wr (by kernel_rfl) (by kernel_rfl) (bl_drewN (Below.refl _ _) 1) ?_
            repeat (go_big_quiet_step (first
              | (go_at_call 17; with_reducible refine calls_later _ (Nat.le_refl _) (H1.out _))
              | (go_at_call 18; with_reducible refine calls_later _ (Nat.le_refl _) (H2.out _))
              | fail))
            refine wpQuiet_nil ?_
            rintro _ ⟨z, rfl⟩
            clear m0 m1 H1 H2
            go_wp2
            go_roundw
            case rel => exact ⟨k + 1, by omega, by go_num, hBr.trans (z.h.mono hBr.size), HY⟩
            case measure => simp [intOf]; omega
      · obtain rfl : k = l.length := by omega
        have hfin : Hid (fitsC sy o l = true) := Lib.hid (by
          have := Hn.out
          rw [List.take_length] at this
          unfold fitsC
          rw [List.all_eq_true.2 this, decide_eq_true Hc.out]; rfl)
        go_wp2
        go_ret
        exact ⟨ret_bool hfin.out.symm, hB.trans (hBr.mono hB.size)⟩
  · have hfin : Hid (fitsC sy o l = false) := Lib.hid (by unfold fitsC; rw [decide_eq_false hc, Bool.false_and])
    obtain ⟨r, hr⟩ : ∃ r, chkO sy o = r := ⟨_, rfl⟩
    have hr0 : ((r : Int) != 0) = true := by rw [← hr]; simpa using hc
    rw [hr] at HC
    clear hr hc
    go_enter Try.func6, Try.ntmps6
    go_upto_region 1 with fail
    rw [HW.out]
    go_wp2_with (first
      | (go_at_call 16; (with_reducible refine HC.out.mono ?_); go_must (rintro e w1 ⟨rfl, hb1⟩))
      | fail)
    go_ret
    exact ⟨ret_bool hfin.out.symm, hB.trans (hb1.mono hB.size)⟩

theorem oTurn_any (r : Int) (w : World) : Calls Try.prog 9 #[.int .i64 r] w fun e w' => e = .returned (.int .i64 (trnI r)) ∧ Below w.heap.size w w' := by
  by_cases h1 : r = 1
  · subst h1
    go_enter Try.func9, Try.ntmps9
    go_wp2
    go_ret
    exact ⟨rfl, Below.refl _ _⟩
  · by_cases h3 : r = 3
    · subst h3
      go_enter Try.func9, Try.ntmps9
      go_wp2
      go_ret
      exact ⟨rfl, Below.refl _ _⟩
    · have hfin := Lib.hid (show trnI r = r by unfold trnI; rw [if_neg h1, if_neg h3])
      have g1 : ((r : Int) == 1) = false := by simpa using h1
      have g3 : ((r : Int) == 3) = false := by simpa using h3
      clear h1 h3
      go_enter Try.func9, Try.ntmps9
      go_wp2
      go_ret
      exact ⟨ret_int hfin.out.symm, Below.refl _ _⟩

end Go.Proofs.Ytgjmodclgdkodaa

/- order: plain, an order that the laws make. -/

namespace Go.Proofs.Ytgjmodclgdkodaa

open Go.RowKit Go.Shelf Go.Maps
set_option maxRecDepth 100000

set_option maxHeartbeats 4000000 in
theorem oPlain_any (n : Nat) (hn : n ≤ 1000) (w : World) : Calls Try.prog 19 #[.int .i64 (n : Int)] w fun e w' => ∃ vP vQ, e = .returned (.agg #[.bool false, vP, vQ, .int .i64 1]) ∧ IntsR w' w.heap.size vP (numsI n) ∧ IntsR w' w.heap.size vQ (List.replicate n 1) ∧ (∀ g, vP.ownBlock = some g → vQ.ownBlock ≠ some g) ∧ Below w.heap.size w w' := by
  obtain ⟨q0, q1⟩ := heap2 w (.cells #[.bool false, .slice none 0 0, .slice none 0 0, .int .i64 0] 27) (.cells #[.bool false, .slice none 0 0, .slice none 0 0, .int .i64 1] 27)
  obtain ⟨W, hW⟩ : ∃ W, ((w.alloc (.cells #[.bool false, .slice none 0 0, .slice none 0 0, .int .i64 0] 27)).alloc (.cells #[.bool false, .slice none 0 0, .slice none 0 0, .int .i64 1] 27)) = W := ⟨_, rfl⟩
  have hB : Below w.heap.size w W := by rw [← hW]; exact ((Below.refl _ _).alloc (Nat.le_refl _) _).alloc (by simp) _
  rw [hW] at q0 q1
  have hWz : W.heap.size = w.heap.size + 2 := by rw [← hW]; simp
  obtain ⟨i0, hi, hz0, hz1, hz2⟩ := info_parts info_int
  have hL0 : LstW W (w.heap.size + 1) (.slice none 0 0) (.slice none 0 0) [] [] W := ⟨q1, ⟨⟨by simp, .inl ⟨rfl, rfl⟩⟩, by simp⟩, ⟨⟨by simp, .inl ⟨rfl, rfl⟩⟩, by simp⟩, (fun g e => by cases e), KeepsC.refl _ _, by omega⟩
  have HL0 := Lib.hid hL0
  have HW := Lib.hid hW
  have Hq0 := Lib.hid q0
  clear hW hL0 q0 q1
  go_enter Try.func19, Try.ntmps19
  go_upto_region 2 with fail
  rw [HW.out]
  go_wp2
  go_loopw [7] (fun i wr => ∃ (k : Nat) (vP vQ : Value), k ≤ n ∧ i = .int .i64 (k : Int) ∧ Hid (LstW W (w.heap.size + 1) vP vQ (numsI k) (List.replicate k 1) wr)) (fun i _ => n - (intOf i).toNat)
  case atStart => exact ⟨0, _, _, Nat.zero_le _, rfl, HL0⟩
  case round =>
    obtain ⟨k, vP, vQ, hk, rfl, HL⟩ := hrel
    obtain ⟨c0, c1, c2, c3⟩ := cells_four HL.out.box
    by_cases hkl : k < n
    · obtain ⟨Ap, cp, hvp⟩ := row_slice HL.out.P.row
      obtain ⟨Aq, cq, hvq⟩ := row_slice HL.out.Q.row
      rw [numsI_len] at hvp
      rw [List.length_replicate] at hvq
      subst hvp; subst hvq
      have hrl := row_lt HL.out.P.row
      have hkp := HL.out.kp.size
      have hwr1 : IntKind.i64.wrap ((k : Int) + 1) = (k : Int) + 1 := by rw [IntKind.wrap_i64]; omega
      go_upto_region 6 with (first
        | (at_builtin
           go_must (
           refine wpList_append_own_at _ rfl _ _ 25 rfl W.heap.size 3 i0 (.int .i64 0) 1 8 Try.underlying25 hi hz0 hz1 hz2 rfl (by decide) (.slice Ap k cp) k _ rfl (row_keep (by have := HL.out.P.row; rwa [numsI_len] at this) fun g e => Below.heap_alloc wr _ g (hrl g e).2) ⟨wr.heap.size, 0, none⟩ 1 1 [.int .i64 (k : Int)] rfl rfl (cell_one_new _ _ _) (by simp [Value.oneCell']) (by unfold maxLen; omega) (by omega) (by simp; omega) ?_
           intro v5 w5 hown5 hgr5 _ hat5
           obtain ⟨A5, c5, rfl⟩ := row_slice hown5
           have H5 := Lib.hid (HL.out.p (x := (k : Int)) ⟨by omega, by omega⟩ (by rw [numsI_len]; exact hown5) hgr5 hat5)
           have hfz := frozen_9 H5.out.2 1
           have hc5 := (cells_four H5.out.2).2.1
           clear hown5 hgr5 hat5))
        | fail)
      obtain ⟨X, hX⟩ : ∃ X, w5.setCell ⟨w.heap.size + 1, 1, none⟩ (.slice A5 (k + 1) c5) = X := ⟨_, rfl⟩
      have HX : Hid (LstW W (w.heap.size + 1) (.slice A5 (k + 1) c5) (.slice Aq k cq) (numsI (k + 1)) (List.replicate k 1) X) := Lib.hid (by rw [← hX, numsI_succ]; exact H5.out.1)
      have HXe := Lib.hid hX
      obtain ⟨d0, d1, d2, d3⟩ := cells_four HX.out.box
      have hrl2 := row_lt HX.out.Q.row
      have hkp2 := HX.out.kp.size
      clear hX c0 c1 c2 c3 hfz hrl hkp hc5
      rw [HXe.out]
      go_wp2_with (first
        | (at_builtin
           go_must (
           refine wpList_append_own_at _ rfl _ _ 25 rfl W.heap.size 3 i0 (.int .i64 0) 1 8 Try.underlying25 hi hz0 hz1 hz2 rfl (by decide) (.slice Aq k cq) k _ rfl (row_keep (by have := HX.out.Q.row; rwa [List.length_replicate] at this) fun g e => Below.heap_alloc X _ g (hrl2 g e).2) ⟨X.heap.size, 0, none⟩ 1 1 [.int .i64 1] rfl rfl (cell_one_new _ _ _) (by simp [Value.oneCell']) (by unfold maxLen; omega) (by omega) (by simp; omega) ?_
           intro v6 w6 hown6 hgr6 _ hat6
           obtain ⟨A6, c6, rfl⟩ := row_slice hown6
           have H6 := Lib.hid (HX.out.q (x := 1) ⟨by omega, by omega⟩ (by rw [List.length_replicate]; exact hown6) hgr6 hat6)
           have hfz6 := frozen_9 H6.out.2 2
           have hc6 := (cells_four H6.out.2).2.2.1
           clear hown6 hgr6 hat6))
        | fail)
      go_roundw
      case rel => exact ⟨k + 1, _, _, by omega, by go_num, Lib.hid (by rw [ones_succ]; exact H6.out.1)⟩
      case measure => simp [intOf]; omega
    · obtain rfl : k = n := by omega
      obtain ⟨Ap, cp, hvp⟩ := row_slice HL.out.P.row
      obtain ⟨Aq, cq, hvq⟩ := row_slice HL.out.Q.row
      rw [numsI_len] at hvp
      rw [List.length_replicate] at hvq
      subst hvp; subst hvq
      have hr0 := (HL.out.kp.block (show w.heap.size < W.heap.size by omega) (show ¬ w.heap.size = w.heap.size + 1 by omega)).trans Hq0.out
      have hfr := frozen_9 hr0
      obtain ⟨r0, r1, r2, r3⟩ := cells_four hr0
      have hset := Lib.hid (fun (x y z u : Value) => set_four (x' := x) (y' := y) (z' := z) (u' := u) hr0)
      have hP := HL.out.P
      have hQ := HL.out.Q
      have hne := HL.out.ne
      have hkk := HL.out.kp
      have hs4 := fun (x y z u : Value) => keepsC_set1 (b := w.heap.size) (keepsC_set1 (keepsC_set1 (keepsC_set1 (KeepsC.refl _ wr) 0 x) 1 y) 2 z) 3 u
      have HR : Hid (∀ x y z u : Value, let W' := ((((wr.setCell ⟨w.heap.size, 0, none⟩ x).setCell ⟨w.heap.size, 1, none⟩ y).setCell ⟨w.heap.size, 2, none⟩ z).setCell ⟨w.heap.size, 3, none⟩ u); IntsR W' w.heap.size (.slice Ap k cp) (numsI k) ∧ IntsR W' w.heap.size (.slice Aq k cq) (List.replicate k 1) ∧ Below w.heap.size w W') := Lib.hid fun x y z u => by
        have h4 := hs4 x y z u
        have hw1 := hkk.size
        refine ⟨⟨row_low (row_keep hP.row fun g e => h4.block (row_lt hP.row g e).2 (by have := (row_lt hP.row g e).1; omega)) (by omega), hP.i64⟩, ⟨row_low (row_keep hQ.row fun g e => h4.block (row_lt hQ.row g e).2 (by have := (row_lt hQ.row g e).1; omega)) (by omega), hQ.i64⟩, ?_⟩
        exact (hB.trans (hkk.below (n := w.heap.size) (by omega) fun g hg => by omega)).trans (h4.below (by omega) fun g hg => by omega)
      have Hne := Lib.hid hne
      clear hP hQ hne hkk hs4 hr0
      go_wp2
      have hfin := hset.out (.bool false) (.slice Ap k cp) (.slice Aq k cq) (.int .i64 1)
      have hrr := Lib.hid (HR.out (.bool false) (.slice Ap k cp) (.slice Aq k cq) (.int .i64 1))
      obtain ⟨Y, hY⟩ : ∃ Y, ((((wr.setCell ⟨w.heap.size, 0, none⟩ (.bool false)).setCell ⟨w.heap.size, 1, none⟩ (.slice Ap k cp)).setCell ⟨w.heap.size, 2, none⟩ (.slice Aq k cq)).setCell ⟨w.heap.size, 3, none⟩ (.int .i64 1)) = Y := ⟨_, rfl⟩
      simp only [hY] at hrr
      rw [hY] at hfin ⊢
      obtain ⟨f0, f1, f2, f3⟩ := cells_four hfin
      refine bodyPost_ret (v := .agg #[.bool false, .slice Ap k cp, .slice Aq k cq, .int .i64 1]) (by simp [results, Try.results19, go_sem, f0, f1, f2, f3]) rfl ⟨_, _, rfl, ?_, ?_, Hne.out, ?_⟩
      · exact hrr.out.1
      · exact hrr.out.2.1
      · exact hrr.out.2.2

end Go.Proofs.Ytgjmodclgdkodaa

/- order: Maximal. -/

namespace Go.Proofs.Ytgjmodclgdkodaa

open Go.RowKit Go.Shelf
set_option maxRecDepth 100000

/-- Does one keep the other one from being maximal (strictly)? -/
def dsqO (o : Odr) (y x : Li) (st : Bool) : Bool := litsO o y x == 3 || (litsO o y x == 2 && st)

def maxB (o : Odr) (l : List Li) (k : Nat) (x : Li) (st : Bool) : Bool := l.zipIdx.all fun p => p.2 == k || !dsqO o p.1 x st

theorem maxB_iff {o : Odr} {l : List Li} {k : Nat} {x : Li} {st : Bool} : maxB o l k x st = true ↔ ∀ (j : Nat) (y : Li), l[j]? = some y → j ≠ k → dsqO o y x st = false := by
  unfold maxB
  rw [List.all_eq_true]
  constructor
  · intro h j y hy hj
    have := h (y, j) (by rw [List.mem_zipIdx_iff_getElem?]; simpa using hy)
    simpa [hj] using this
  · intro h p hp
    rw [List.mem_zipIdx_iff_getElem?] at hp
    by_cases e : p.2 = k
    · simp [e]
    · have := h p.2 p.1 (by simpa using hp) e
      simp [this]

set_option maxHeartbeats 4000000 in
theorem oMaximal_any (o : Odr) (l : List Li) (k : Nat) (x : Li) (st : Bool) (P Q A : Option Addr) (pc qc c : Nat) (w : World) (hrk : o.prec.length ≤ 140737488351232) (hM : OdrM w w.heap.size o P Q) (hL : ClsK w (· < w.heap.size) A l) (hll : l.length ≤ 1048576) (hx : l[k]? = some x) :
    Calls Try.prog 15 #[.agg #[.bool o.lpo, .slice P o.prec.length pc, .slice Q o.wts.length qc, .int .i64 o.var], .slice A l.length c, .int .i64 (k : Int), .bool st] w fun e w' => e = .returned (.bool (maxB o l k x st)) ∧ Below w.heap.size w w' := by
  have q0 := heap_alloc_new w (.cells #[.bool o.lpo, .slice P o.prec.length pc, .slice Q o.wts.length qc, .int .i64 o.var] 27)
  obtain ⟨W, hW⟩ : ∃ W, w.alloc (.cells #[.bool o.lpo, .slice P o.prec.length pc, .slice Q o.wts.length qc, .int .i64 o.var] 27) = W := ⟨_, rfl⟩
  have hB : Below w.heap.size w W := by rw [← hW]; exact (Below.refl _ _).alloc (Nat.le_refl _) _
  rw [hW] at q0
  have hq := (Array.getElem?_eq_some_iff.1 q0).1
  have hkl := (List.getElem?_eq_some_iff.1 hx).1
  obtain ⟨b, off, X1, xc1, X2, xc2, rfl, hb, e0, e1, e2, e3, e4, hxK⟩ := hL.get hx
  have HE := Lib.hid (And.intro e0 (And.intro e1 (And.intro e2 (And.intro e3 e4))))
  have HX := Lib.hid hxK
  have HL := Lib.hid hL
  have HM := Lib.hid hM
  have HW := Lib.hid hW
  have Hq := Lib.hid q0
  have Hb := Lib.hid hb
  have g0 : decide ((k : Int) < 0) = false := decide_eq_false (by omega)
  have g1 : decide ((k : Int) ≥ (l.length : Int)) = false := decide_eq_false (by omega)
  clear e0 e1 e2 e3 e4 hxK hL hM hW q0 hb hx
  go_enter Try.func15, Try.ntmps15
  go_upto_region 1 with fail
  rw [HW.out]
  go_wp2
  go_loopw [20] (fun i wr => ∃ m : Nat, m ≤ l.length ∧ i = .int .i64 (m : Int) ∧ Below W.heap.size W wr ∧ Hid (∀ (j : Nat) (y : Li), j < m → l[j]? = some y → j ≠ k → dsqO o y x st = false)) (fun i _ => l.length - (intOf i).toNat)
  case atStart => exact ⟨0, Nat.zero_le _, rfl, Below.refl _ _, Lib.hid fun j y hj => absurd hj (Nat.not_lt_zero _)⟩
  case round =>
    obtain ⟨m, hm, rfl, hBr, Hn⟩ := hrel
    have hBw : Below w.heap.size w wr := hB.trans (hBr.mono hB.size)
    by_cases hlt : m < l.length
    · obtain ⟨y, hy⟩ : ∃ y, l[m]? = some y := ⟨_, List.getElem?_eq_getElem hlt⟩
      have hwr1 : IntKind.i64.wrap ((m : Int) + 1) = (m : Int) + 1 := by rw [IntKind.wrap_i64]; omega
      by_cases hmk : m = k
      · have e : ((m : Int) == (k : Int)) = true := by simpa using (by omega : (m : Int) = (k : Int))
        have HN2 : Hid (∀ (j : Nat) (y : Li), j < m + 1 → l[j]? = some y → j ≠ k → dsqO o y x st = false) := Lib.hid fun j y hj hy hjk => Hn.out j y (by omega) hy hjk
        clear hy hmk
        go_wp2
        go_roundw
        case rel => exact ⟨m + 1, by omega, by go_num, hBr, HN2⟩
        case measure => simp [intOf]; omega
      · have e : ((m : Int) == (k : Int)) = false := by simpa using (by omega : ¬ (m : Int) = (k : Int))
        obtain ⟨b', off', Y1, yc1, Y2, yc2, hA, hb', d0, d1, d2, d3, d4, hyK⟩ := HL.out.get hy
        injection hA with hA
        injection hA with hA1 hA2
        subst hA1
        subst hA2
        have hy2 := fun z : Later wr.heap.size wr => hBw.trans (z.h.mono hBw.size)
        have HLit := Lib.hid fun z : Later wr.heap.size wr => oLits_any o y x P Q Y1 Y2 X1 X2 pc qc yc1 yc2 xc1 xc2 z.w hrk (HM.out.on (hy2 z)) (hyK.on (hy2 z)) (HX.out.on (hy2 z))
        have hbo := fun z : Later wr.heap.size wr => cells_four (((hBr.trans (z.h.mono hBr.size)).block _ hq).trans Hq.out)
        have m1 := fun z : Later wr.heap.size wr => (hbo z).1
        have m2 := fun z : Later wr.heap.size wr => (hbo z).2.1
        have m3 := fun z : Later wr.heap.size wr => (hbo z).2.2.1
        have m4 := fun z : Later wr.heap.size wr => (hbo z).2.2.2
        have x0 := fun z : Later wr.heap.size wr => cell_on (hy2 z) Hb.out HE.out.1
        have x1 := fun z : Later wr.heap.size wr => cell_on (hy2 z) Hb.out HE.out.2.1
        have x2 := fun z : Later wr.heap.size wr => cell_on (hy2 z) Hb.out HE.out.2.2.1
        have x3 := fun z : Later wr.heap.size wr => cell_on (hy2 z) Hb.out HE.out.2.2.2.1
        have x4 := fun z : Later wr.heap.size wr => cell_on (hy2 z) Hb.out HE.out.2.2.2.2
        have y0 := fun z : Later wr.heap.size wr => cell_on (hy2 z) hb' d0
        have y1 := fun z : Later wr.heap.size wr => cell_on (hy2 z) hb' d1
        have y2 := fun z : Later wr.heap.size wr => cell_on (hy2 z) hb' d2
        have y3 := fun z : Later wr.heap.size wr => cell_on (hy2 z) hb' d3
        have y4 := fun z : Later wr.heap.size wr => cell_on (hy2 z) hb' d4
        obtain ⟨r, hr⟩ : ∃ r, litsO o y x = r := ⟨_, rfl⟩
        rw [hr] at HLit
        have hds : dsqO o y x st = (r == 3 || (r == 2 && st)) := by unfold dsqO; rw [hr]
        have Hds := Lib.hid hds
        have Hy := Lib.hid hy
        have Hmk := Lib.hid hmk
        clear hy hyK d0 d1 d2 d3 d4 hbo hr hy2 hds hmk
        go_upto_region 7 with fail
        refine wp_region_later wr.heap.size wr (by kernel_rfl) (by kernel_rfl) (bl_drewN (Below.refl _ _) 1) ?_
        repeat (go_big_quiet_step (first
          | (go_at_call 13; with_reducible refine calls_later _ (Nat.le_refl _) (HLit.out _))
          | fail))
        refine wpQuiet_nil ?_
        rintro _ ⟨z, rfl⟩
        clear m1 m2 m3 m4 x0 x1 x2 x3 x4 y0 y1 y2 y3 y4 HLit
        have hBz := hBr.trans (z.h.mono hBr.size)
        have HBz := Lib.hid (hB.trans (hBz.mono hB.size))
        have hno : Hid ((r == 3 || (r == 2 && st)) = true → maxB o l k x st = false) := Lib.hid fun h => by
          rw [← Bool.not_eq_true, maxB_iff]
          intro hh
          have := hh m y Hy.out Hmk.out
          rw [Hds.out, h] at this
          cases this
        have hyes : Hid ((r == 3 || (r == 2 && st)) = false → ∀ (j : Nat) (y : Li), j < m + 1 → l[j]? = some y → j ≠ k → dsqO o y x st = false) := Lib.hid fun h j y' hj hy' hjk => by
          by_cases ej : j = m
          · subst ej
            rw [Hy.out] at hy'; injection hy' with hy'; subst hy'
            rw [Hds.out, h]
          · exact Hn.out j y' (by omega) hy' hjk
        by_cases h3 : r = 3
        · subst h3
          have HR := Lib.hid (hno.out rfl)
          go_wp2
          go_ret
          exact ⟨ret_bool HR.out.symm, HBz.out⟩
        · have f3 : ((r : Int) == 3) = false := by simpa using h3
          by_cases h2 : r = 2
          · subst h2
            cases st with
            | true =>
              have HR := Lib.hid (hno.out rfl)
              go_wp2
              go_ret
              exact ⟨ret_bool HR.out.symm, HBz.out⟩
            | false =>
              have HR := Lib.hid (hyes.out rfl)
              go_wp2
              go_roundw
              case rel => exact ⟨m + 1, by omega, by go_num, hBz, HR⟩
              case measure => simp [intOf]; omega
          · have f2 : ((r : Int) == 2) = false := by simpa using h2
            have HR := Lib.hid (hyes.out (by rw [f3, f2]; rfl))
            clear h2 h3
            go_wp2
            go_roundw
            case rel => exact ⟨m + 1, by omega, by go_num, hBz, HR⟩
            case measure => simp [intOf]; omega
    · obtain rfl : m = l.length := by omega
      have hfin : Hid (maxB o l k x st = true) := Lib.hid (maxB_iff.2 fun j y hy hjk => Hn.out j y (List.getElem?_eq_some_iff.1 hy).1 hy hjk)
      go_wp2
      go_ret
      exact ⟨ret_bool hfin.out.symm, hBw⟩

end Go.Proofs.Ytgjmodclgdkodaa

/- order: wakes. -/

namespace Go.Proofs.Ytgjmodclgdkodaa

open Go.RowKit Go.Shelf
set_option maxRecDepth 100000

def kA : Tm := .node 1 []

def kB : Tm := .node 2 []

def kG : Tm := .node 3 [.node 1 []]

def ordK : Odr := ⟨false, [0, 1, 2, 3], [1, 1, 1, 1], 1⟩

theorem wakeO1 : litsO ordK ⟨false, kG, kA⟩ ⟨false, kG, kB⟩ = 1 := by decide +kernel

theorem wakeO2 : litsO ordK ⟨false, kA, kB⟩ ⟨false, kB, kA⟩ = 2 := by decide +kernel

theorem wakeO3 : litsO ordK ⟨true, kA, kB⟩ ⟨false, kA, kB⟩ = 3 := by decide +kernel

theorem wakeO4 : ordV ordK kG kA = 3 := by decide +kernel

structure WkX (w w1 : World) (b : Nat) (P Q : Option Addr) (pc qc : Nat) (bo : Nat) : Prop where
  a0 : w1.cell? ⟨b, 0, none⟩ = some (.int .i64 1)
  a1 : w1.cell? ⟨b, 1, none⟩ = some (.slice none 0 0)
  b0 : w1.cell? ⟨b + 1, 0, none⟩ = some (.int .i64 2)
  b1 : w1.cell? ⟨b + 1, 1, none⟩ = some (.slice none 0 0)
  g0 : w1.cell? ⟨b + 1 + 1 + 1, 0, none⟩ = some (.int .i64 3)
  g1 : w1.cell? ⟨b + 1 + 1 + 1, 1, none⟩ = some (.slice (some ⟨b + 1 + 1, 0, none⟩) 1 1)
  o0 : w1.cell? ⟨bo, 0, none⟩ = some (.bool false)
  o1 : w1.cell? ⟨bo, 1, none⟩ = some (.slice P 4 pc)
  o2 : w1.cell? ⟨bo, 2, none⟩ = some (.slice Q 4 qc)
  o3 : w1.cell? ⟨bo, 3, none⟩ = some (.int .i64 1)
  h1 : Calls Try.prog 13 #[.agg #[.bool false, .slice P 4 pc, .slice Q 4 qc, .int .i64 1], .agg #[.bool false, .int .i64 3, .slice (some ⟨b + 1 + 1, 0, none⟩) 1 1, .int .i64 1, .slice none 0 0], .agg #[.bool false, .int .i64 3, .slice (some ⟨b + 1 + 1, 0, none⟩) 1 1, .int .i64 2, .slice none 0 0]] w1 fun e w' => e = .returned (.int .i64 1) ∧ Below w1.heap.size w1 w'
  h2 : Calls Try.prog 13 #[.agg #[.bool false, .slice P 4 pc, .slice Q 4 qc, .int .i64 1], .agg #[.bool false, .int .i64 1, .slice none 0 0, .int .i64 2, .slice none 0 0], .agg #[.bool false, .int .i64 2, .slice none 0 0, .int .i64 1, .slice none 0 0]] w1 fun e w' => e = .returned (.int .i64 2) ∧ Below w1.heap.size w1 w'
  h3 : Calls Try.prog 13 #[.agg #[.bool false, .slice P 4 pc, .slice Q 4 qc, .int .i64 1], .agg #[.bool true, .int .i64 1, .slice none 0 0, .int .i64 2, .slice none 0 0], .agg #[.bool false, .int .i64 1, .slice none 0 0, .int .i64 2, .slice none 0 0]] w1 fun e w' => e = .returned (.int .i64 3) ∧ Below w1.heap.size w1 w'
  h4 : Calls Try.prog 20 #[.agg #[.bool false, .slice P 4 pc, .slice Q 4 qc, .int .i64 1], .agg #[.int .i64 3, .slice (some ⟨b + 1 + 1, 0, none⟩) 1 1], .agg #[.int .i64 1, .slice none 0 0]] w1 fun e w' => e = .returned (.int .i64 3) ∧ Below w1.heap.size w1 w'
  hb : Below w.heap.size w w1

theorem wkX_of {w w1 : World} {b bo pc qc : Nat} {P Q : Option Addr} (hb : Below w.heap.size w w1) (ha : w1.heap[b]? = some (.cells #[.int .i64 1, .slice none 0 0] 39)) (hbb : w1.heap[b + 1]? = some (.cells #[.int .i64 2, .slice none 0 0] 39)) (hr : w1.heap[b + 1 + 1]? = some (.cells #[.int .i64 1, .slice none 0 0] 39)) (hg : w1.heap[b + 1 + 1 + 1]? = some (.cells #[.int .i64 3, .slice (some ⟨b + 1 + 1, 0, none⟩) 1 1] 39))
    (ho : w1.heap[bo]? = some (.cells #[.bool false, .slice P 4 pc, .slice Q 4 qc, .int .i64 1] 27)) (hP : Ints w1 w1.heap.size P [0, 1, 2, 3]) (hQ : Ints w1 w1.heap.size Q [1, 1, 1, 1]) : WkX w w1 b P Q pc qc bo := by
  obtain ⟨a0, a1, _, _⟩ := cells_two ha
  obtain ⟨b0, b1, _, _⟩ := cells_two hbb
  obtain ⟨g0, g1, _, _⟩ := cells_two hg
  obtain ⟨o0, o1, o2, o3⟩ := cells_four ho
  have hM : OdrM w1 w1.heap.size ordK P Q := ⟨hP, hQ, i64s _ (by decide) (by decide)⟩
  have hG : ArgsK w1 (· < w1.heap.size) (some ⟨b + 1 + 1, 0, none⟩) 1 [.node 1 []] := argsK_one (t := .node 1 []) hr (Array.getElem?_eq_some_iff.1 hr).1 (i64s _ (by decide) (by decide)) (.nil _ _)
  have iA : I64 kA.fn := i64s _ (by decide) (by decide)
  have iB : I64 kB.fn := i64s _ (by decide) (by decide)
  have iG : I64 kG.fn := i64s _ (by decide) (by decide)
  have e1 : LiK w1 (· < w1.heap.size) ⟨false, kG, kA⟩ (some ⟨b + 1 + 1, 0, none⟩) 1 none 0 := ⟨iG, iA, hG, .nil _ _, by decide, by decide⟩
  have e2 : LiK w1 (· < w1.heap.size) ⟨false, kG, kB⟩ (some ⟨b + 1 + 1, 0, none⟩) 1 none 0 := ⟨iG, iB, hG, .nil _ _, by decide, by decide⟩
  have e3 : ∀ n, LiK w1 (· < w1.heap.size) ⟨n, kA, kB⟩ none 0 none 0 := fun n => ⟨iA, iB, .nil _ _, .nil _ _, by show kA.size ≤ _; decide, by show kB.size ≤ _; decide⟩
  have e4 : LiK w1 (· < w1.heap.size) ⟨false, kB, kA⟩ none 0 none 0 := ⟨iB, iA, .nil _ _, .nil _ _, by decide, by decide⟩
  have l1 := oLits_any ordK ⟨false, kG, kA⟩ ⟨false, kG, kB⟩ P Q _ _ _ _ pc qc _ _ _ _ w1 (by decide) hM e1 e2
  have l2 := oLits_any ordK ⟨false, kA, kB⟩ ⟨false, kB, kA⟩ P Q _ _ _ _ pc qc _ _ _ _ w1 (by decide) hM (e3 false) e4
  have l3 := oLits_any ordK ⟨true, kA, kB⟩ ⟨false, kA, kB⟩ P Q _ _ _ _ pc qc _ _ _ _ w1 (by decide) hM (e3 true) (e3 false)
  have l4 := oCmp_any ordK kG kA P Q (some ⟨b + 1 + 1, 0, none⟩) none pc qc 1 0 w1 (by decide) hM ⟨iG, hG⟩ ⟨iA, .nil _ _⟩ (by decide)
  rw [wakeO1] at l1
  rw [wakeO2] at l2
  rw [wakeO3] at l3
  rw [wakeO4] at l4
  exact ⟨a0, a1, b0, b1, g0, g1, o0, o1, o2, o3, l1, l2, l3, l4, hb⟩

theorem heap4o (w : World) (o1 o2 o3 o4 : Obj) : ((((w.alloc o1).alloc o2).alloc o3).alloc o4).heap[w.heap.size]? = some o1 ∧ ((((w.alloc o1).alloc o2).alloc o3).alloc o4).heap[w.heap.size + 1]? = some o2 ∧ ((((w.alloc o1).alloc o2).alloc o3).alloc o4).heap[w.heap.size + 1 + 1]? = some o3 ∧ ((((w.alloc o1).alloc o2).alloc o3).alloc o4).heap[w.heap.size + 1 + 1 + 1]? = some o4 := by
  obtain ⟨e1, e2, e3⟩ := heap3o w o1 o2 o3
  have e4 := heap_alloc_new (((w.alloc o1).alloc o2).alloc o3) o4
  have hz : (((w.alloc o1).alloc o2).alloc o3).heap.size = w.heap.size + 1 + 1 + 1 := by simp
  rw [hz] at e4
  exact ⟨(Below.heap_alloc _ _ _ (by omega)).trans e1, (Below.heap_alloc _ _ _ (by omega)).trans e2, (Below.heap_alloc _ _ _ (by omega)).trans e3, e4⟩

set_option maxHeartbeats 4000000 in
theorem oWakes_any (w : World) : Calls Try.prog 7 #[] w fun e w' => e = .returned (.bool true) ∧ Below w.heap.size w w' := by
  obtain ⟨W, hW⟩ : ∃ W, ((((w.alloc (.cells #[.int .i64 1, .slice none 0 0] 39)).alloc (.cells #[.int .i64 2, .slice none 0 0] 39)).alloc (.cells #[.int .i64 1, .slice none 0 0] 39)).alloc (.cells #[.int .i64 3, .slice (some ⟨w.heap.size + 1 + 1, 0, none⟩) 1 1] 39)) = W := ⟨_, rfl⟩
  obtain ⟨q0, q1, q2, q3⟩ := heap4o w (.cells #[.int .i64 1, .slice none 0 0] 39) (.cells #[.int .i64 2, .slice none 0 0] 39) (.cells #[.int .i64 1, .slice none 0 0] 39) (.cells #[.int .i64 3, .slice (some ⟨w.heap.size + 1 + 1, 0, none⟩) 1 1] 39)
  have hB : Below w.heap.size w W := by rw [← hW]; exact ((((Below.refl _ _).alloc (Nat.le_refl _) _).alloc (by simp) _).alloc (by simp; omega) _).alloc (by simp; omega) _
  rw [hW] at q0 q1 q2 q3
  have HX : Hid (∀ (A B : Option Addr) (pc qc : Nat) (w1 w2 : World), Below W.heap.size W w1 → IntsR w1 W.heap.size (.slice A 4 pc) [0, 1, 2, 3] → IntsR w1 W.heap.size (.slice B 4 qc) [1, 1, 1, 1] → w2 = w1.alloc (.cells #[.bool false, .slice A 4 pc, .slice B 4 qc, .int .i64 1] 27) → ∀ w3, Below w2.heap.size w2 w3 → WkX w w3 w.heap.size A B pc qc w1.heap.size) := Lib.hid fun A B pc qc w1 w2 hb1 hP hQ e2 w3 hb3 => by
    have hb2 : Below w1.heap.size w1 w2 := by rw [e2]; exact (Below.refl _ _).alloc (Nat.le_refl _) _
    have p2 : w2.heap[w1.heap.size]? = some (.cells #[.bool false, .slice A 4 pc, .slice B 4 qc, .int .i64 1] 27) := by rw [e2]; exact heap_alloc_new w1 _
    have h13 := hb2.trans (hb3.mono hb2.size)
    have hW3 := hb1.trans (h13.mono hb1.size)
    have k := fun {i : Nat} {ob : Obj} (h : W.heap[i]? = some ob) => (hW3.block i (Array.getElem?_eq_some_iff.1 h).1).trans h
    exact wkX_of (hB.trans (hW3.mono hB.size)) (k q0) (k q1) (k q2) (k q3) ((hb3.block _ (Array.getElem?_eq_some_iff.1 p2).1).trans p2) ((hP.on h13).ints (by decide)) ((hQ.on h13).ints (by decide))
  have hpl : Calls Try.prog 19 #[.int .i64 4] W _ := oPlain_any 4 (by decide) W
  have h1 : numsI 4 = [0, 1, 2, 3] := by decide
  have h2 : List.replicate 4 (1 : Int) = [1, 1, 1, 1] := by decide
  rw [h1, h2] at hpl
  have HP := Lib.hid hpl
  have HW := Lib.hid hW
  obtain ⟨a0, a1, _, _⟩ := cells_two q0
  clear hW q0 q1 q2 q3 hpl h1 h2 a0 a1
  go_enter Try.func7, Try.ntmps7
  go_upto_region 3 with fail
  rw [HW.out]
  go_upto_region 4 with (first
    | (go_at_call 19; (with_reducible refine HP.out.mono ?_); go_must (rintro e w1 ⟨vP, vQ, rfl, hvP, hvQ, _, hb1⟩; obtain ⟨A, pc, rfl⟩ := row_slice hvP.row; obtain ⟨B, qc, rfl⟩ := row_slice hvQ.row; have H1 := Lib.hid (And.intro hvP (And.intro hvQ hb1)); clear hvP hvQ))
    | fail)
  obtain ⟨W2, hW2⟩ : ∃ W2, w1.alloc (.cells #[.bool false, .slice A 4 pc, .slice B 4 qc, .int .i64 1] 27) = W2 := ⟨_, rfl⟩
  have HY := Lib.hid (HX.out A B pc qc w1 W2 H1.out.2.2 H1.out.1 H1.out.2.1 hW2.symm)
  have hx := HY.out W2 (Below.refl _ _)
  obtain ⟨a0, a1, b0, b1, g0, g1, o0, o1, o2, o3, l1, l2, l3, l4, hb0⟩ := hx
  have L1 := Lib.hid l1
  have HW2 := Lib.hid hW2
  clear hW2 l1 l2 l3 l4 hb1
  first
    | rw [HW2.out]
    | simp only [List.length_cons, List.length_nil, Nat.zero_add, Nat.reduceAdd]; rw [HW2.out]
  go_wp2_with (first
    | (go_at_call 13; first
      | ((with_reducible refine L1.out.mono ?_); go_must (rintro e w3 ⟨rfl, hb3⟩; obtain ⟨c0, c1, d0, d1, e0, e1, p0, p1, p2, p3, m1, m2, m3, m4, hbm⟩ := HY.out w3 hb3; have L2 := Lib.hid m2; clear m1 m2 m3 m4 L1))
      | ((with_reducible refine L2.out.mono ?_); go_must (rintro e w4 ⟨rfl, hb4⟩; have hB4 := hb3.trans (hb4.mono hb3.size); obtain ⟨x0, x1, y0, y1, z0, z1, r0, r1, r2, r3, n1, n2, n3, n4, hbn⟩ := HY.out w4 hB4; have L3 := Lib.hid n3; clear n1 n2 n3 n4 L2))
      | ((with_reducible refine L3.out.mono ?_); go_must (rintro e w5 ⟨rfl, hb5⟩; have hB5 := hB4.trans (hb5.mono hB4.size); obtain ⟨s0, s1, t0, t1, u0, u1, v0, v1, v2, v3, k1, k2, k3, k4, hbk⟩ := HY.out w5 hB5; have L4 := Lib.hid k4; clear k1 k2 k3 k4 L3)))
    | (go_at_call 20; (with_reducible refine L4.out.mono ?_); go_must (rintro e w6 ⟨rfl, hb6⟩))
    | fail)
  go_ret
  exact ⟨rfl, hbk.trans (hb6.mono hbk.size)⟩

end Go.Proofs.Ytgjmodclgdkodaa

/- order: what its laws say, plain; rows of clauses. -/

namespace Go.Proofs.Ytgjmodclgdkodaa

open Go.RowKit Go.Shelf
set_option maxRecDepth 100000

/-- Terms, sides, literals that may be. -/
def GdT (sy : List Sm) (t : Tm) : Prop := Gd (arL sy) t

def GdS (sy : List Sm) (m : List Tm) : Prop := ∀ t ∈ m, GdT sy t

def GdL (sy : List Sm) (m : List (List Tm)) : Prop := ∀ s ∈ m, GdS sy s

def GdC (sy : List Sm) (m : List (List (List Tm))) : Prop := ∀ x ∈ m, GdL sy x

theorem lt_ord {sy : List Sm} {o : Odr} (hc : chkO sy o = 0) : OrdOn (ltR o) (GdL sy) := mul_ord (mul_ord (tm_ord hc))

theorem cl_ord {sy : List Sm} {o : Odr} (hc : chkO sy o = 0) : OrdOn (clR o) (GdC sy) := mul_ord (lt_ord hc)

theorem mayL_gd {sy : List Sm} {x : Li} (h : mayL sy x = true) : GdT sy x.l ∧ GdT sy x.r := by
  unfold mayL at h
  rw [Bool.and_eq_true, Bool.and_eq_true] at h
  exact ⟨chkP_gd (of_decide_eq_true h.1), chkP_gd (of_decide_eq_true h.2.1)⟩

theorem mb_gd {sy : List Sm} {x : Li} (h : GdT sy x.l ∧ GdT sy x.r) : GdL sy x.mb := by
  intro s hs t ht
  unfold Li.mb membs at hs
  split at hs
  · simp at hs; subst hs; simp at ht; rcases ht with rfl | rfl
    · exact h.1
    · exact h.2
  · simp at hs
    rcases hs with rfl | rfl
    · simp at ht; subst ht; exact h.1
    · simp at ht; subst ht; exact h.2

theorem fits_all {sy : List Sm} {o : Odr} {cs : List (List Li)} (h : fitsC sy o cs = true) : chkO sy o = 0 ∧ ∀ c ∈ cs, ∀ x ∈ c, GdT sy x.l ∧ GdT sy x.r := by
  unfold fitsC at h
  rw [Bool.and_eq_true] at h
  refine ⟨of_decide_eq_true h.1, fun c hc x hx => ?_⟩
  have h1 := List.all_eq_true.1 h.2 c hc
  unfold fitC mayB at h1
  rw [Bool.and_eq_true, Bool.and_eq_true] at h1
  exact mayL_gd (List.all_eq_true.1 h1.1.1 x hx)

theorem cls_gd {sy : List Sm} {c : List Li} (h : ∀ x ∈ c, GdT sy x.l ∧ GdT sy x.r) : GdC sy (c.map Li.mb) := by
  intro m hm
  obtain ⟨x, hx, rfl⟩ := List.mem_map.1 hm
  exact mb_gd (h x hx)

/-- A literal of a clause that is not empty is maximal. -/
theorem max_some {sy : List Sm} {o : Odr} {c : List Li} (hc : chkO sy o = 0) (hg : ∀ x ∈ c, GdT sy x.l ∧ GdT sy x.r) (hn : c ≠ []) : ∃ (i : Nat) (x : Li), c[i]? = some x ∧ maxB o c i x false = true := by
  obtain ⟨m, hm, hmax⟩ := maxM (lt_ord hc) (c.map Li.mb) (fun m hm => cls_gd hg m hm) (by simpa using hn)
  obtain ⟨x, hx, rfl⟩ := List.mem_map.1 hm
  obtain ⟨i, hi⟩ := List.getElem?_of_mem hx
  refine ⟨i, x, hi, maxB_iff.2 fun j y hy _ => ?_⟩
  have := hmax y.mb (List.mem_map.2 ⟨y, List.mem_of_getElem? hy, rfl⟩)
  unfold dsqO litsO
  simp [this]

theorem max_weak {o : Odr} {c : List Li} {i : Nat} {x : Li} (h : maxB o c i x true = true) : maxB o c i x false = true := by
  rw [maxB_iff] at h ⊢
  intro j y hy hj
  have := h j y hy hj
  unfold dsqO at this ⊢
  simp at this ⊢
  exact this.1

theorem neg_lits {sy : List Sm} {o : Odr} {x : Li} (hc : chkO sy o = 0) (h : GdT sy x.l ∧ GdT sy x.r) : litsO o ⟨true, x.l, x.r⟩ ⟨false, x.l, x.r⟩ = 3 :=
  neg_above (tm_ord hc) h.1 h.2

theorem rowC_one {w : World} {N : Nat → Prop} {b : Nat} {m : List Li} {A : Option Addr} {c : Nat} {ty : TypeId} (h : w.heap[b]? = some (.cells #[.slice A m.length c] ty)) (hN : N b) (h1 : RpC N w m (.slice A m.length c)) : RowV RpC N w (some ⟨b, 0, none⟩) [m] := by
  obtain ⟨z0, _⟩ := cells_one h
  refine ⟨by simp, fun _ => ⟨b, 0, rfl, hN, fun i u e => ?_⟩⟩
  match i, e with
  | 0, e => simp at e; subst e; exact ⟨A, c, z0, h1⟩
  | i + 1, e => simp at e

theorem rowC_two {w : World} {N : Nat → Prop} {b : Nat} {m n : List Li} {A B : Option Addr} {c d : Nat} {ty : TypeId} (h : w.heap[b]? = some (.cells #[.slice A m.length c, .slice B n.length d] ty)) (hN : N b) (h1 : RpC N w m (.slice A m.length c)) (h2 : RpC N w n (.slice B n.length d)) : RowV RpC N w (some ⟨b, 0, none⟩) [m, n] := by
  obtain ⟨z0, z1, _, _⟩ := cells_two h
  refine ⟨by simp, fun _ => ⟨b, 0, rfl, hN, fun i u e => ?_⟩⟩
  match i, e with
  | 0, e => simp at e; subst e; exact ⟨A, c, z0, h1⟩
  | 1, e => simp at e; subst e; exact ⟨B, d, z1, h2⟩
  | i + 2, e => simp at e

theorem rowC_three {w : World} {N : Nat → Prop} {b : Nat} {m n k : List Li} {A B C : Option Addr} {c d e : Nat} {ty : TypeId} (h : w.heap[b]? = some (.cells #[.slice A m.length c, .slice B n.length d, .slice C k.length e] ty)) (hN : N b) (h1 : RpC N w m (.slice A m.length c)) (h2 : RpC N w n (.slice B n.length d)) (h3 : RpC N w k (.slice C k.length e)) : RowV RpC N w (some ⟨b, 0, none⟩) [m, n, k] := by
  obtain ⟨z0, z1, z2, _⟩ := cells_three h
  refine ⟨by simp, fun _ => ⟨b, 0, rfl, hN, fun i u e => ?_⟩⟩
  match i, e with
  | 0, e => simp at e; subst e; exact ⟨A, c, z0, h1⟩
  | 1, e => simp at e; subst e; exact ⟨B, d, z1, h2⟩
  | 2, e => simp at e; subst e; exact ⟨C, _, z2, h3⟩
  | i + 3, e => simp at e

/-- The boxes of a signature and an order. -/
theorem box_so9 {w W : World} {o : Odr} {As P Q : Option Addr} {n cs pc qc : Nat} (hW : (w.alloc (.cells #[.slice As n cs] 24)).alloc (.cells #[.bool o.lpo, .slice P o.prec.length pc, .slice Q o.wts.length qc, .int .i64 o.var] 27) = W) :
    Below w.heap.size w W ∧ w.heap.size + 1 < W.heap.size ∧ ∀ w', Below W.heap.size W w' → BoxSO w' w.heap.size o As P Q n cs pc qc := by
  obtain ⟨q0, q1⟩ := heap2 w (.cells #[.slice As n cs] 24) (.cells #[.bool o.lpo, .slice P o.prec.length pc, .slice Q o.wts.length qc, .int .i64 o.var] 27)
  have hB : Below w.heap.size w W := by rw [← hW]; exact ((Below.refl _ _).alloc (Nat.le_refl _) _).alloc (by simp) _
  rw [hW] at q0 q1
  have l1 := (Array.getElem?_eq_some_iff.1 q1).1
  exact ⟨hB, l1, fun w' hb => boxSO_of ((hb.block _ (by omega)).trans q0) ((hb.block _ l1).trans q1)⟩

end Go.Proofs.Ytgjmodclgdkodaa

/- OrderIs, the law. -/

namespace Go.Proofs.Ytgjmodclgdkodaa

open Go.RowKit Go.Shelf
set_option maxRecDepth 100000

set_option maxHeartbeats 4000000 in
theorem orderIs_of (sy : List Sm) (o : Odr) (a b c : List Li) (As P Q A B C : Option Addr) (n cs pc qc ca cb cc : Nat) (w : World) (hS : Syms w w.heap.size As n sy) (hn : n * 32 ≤ 140737488351232) (hM : OdrM w w.heap.size o P Q) (hrk : o.prec.length ≤ 140737488351232)
    (ha : RpC (· < w.heap.size) w a (.slice A a.length ca)) (hb : RpC (· < w.heap.size) w b (.slice B b.length cb)) (hc : RpC (· < w.heap.size) w c (.slice C c.length cc)) :
    Calls Try.prog 3 #[.agg #[.slice As n cs], .agg #[.bool o.lpo, .slice P o.prec.length pc, .slice Q o.wts.length qc, .int .i64 o.var], .slice A a.length ca, .slice B b.length cb, .slice C c.length cc] w fun e w' => e = .returned (.bool true) ∧ Below w.heap.size w w' := by
  obtain ⟨W, hW⟩ : ∃ W, (w.alloc (.cells #[.slice As n cs] 24)).alloc (.cells #[.bool o.lpo, .slice P o.prec.length pc, .slice Q o.wts.length qc, .int .i64 o.var] 27) = W := ⟨_, rfl⟩
  obtain ⟨hB, hl1, hX⟩ := box_so9 hW
  have HX := Lib.hid hX
  have HW := Lib.hid hW
  have hSW := hS.on hB
  have hMW := hM.on hB
  have up : ∀ {x : List Li} {v : Value}, RpC (· < w.heap.size) w x v → ∀ w1, Below W.heap.size W w1 → RpC (· < w1.heap.size) w1 x v := fun h w1 h1 => h.to (fun g e => (hB.trans (h1.mono hB.size)).block g e) fun _ e => Nat.lt_of_lt_of_le e (hB.trans (h1.mono hB.size)).size
  have HF : Hid (Calls Try.prog 6 #[.agg #[.slice As n cs], .agg #[.bool o.lpo, .slice P o.prec.length pc, .slice Q o.wts.length qc, .int .i64 o.var], .slice (some ⟨W.heap.size, 0, none⟩) 3 3] (W.alloc (.cells #[.slice A a.length ca, .slice B b.length cb, .slice C c.length cc] 29)) fun e w' => e = .returned (.bool (fitsC sy o [a, b, c])) ∧ Below W.heap.size W w') := Lib.hid (by
    have h1 : Below W.heap.size W (W.alloc (.cells #[.slice A a.length ca, .slice B b.length cb, .slice C c.length cc] 29)) := (Below.refl _ _).alloc (Nat.le_refl _) _
    have h2 := heap_alloc_new W (.cells #[.slice A a.length ca, .slice B b.length cb, .slice C c.length cc] 29)
    exact (oFits_any sy o [a, b, c] As P Q (some ⟨W.heap.size, 0, none⟩) n cs pc qc 3 _ (hSW.on h1) hn (hMW.on h1) (rowC_three h2 (Array.getElem?_eq_some_iff.1 h2).1 (up ha _ h1) (up hb _ h1) (up hc _ h1))).mono fun e w' ⟨he, hw⟩ => ⟨he, h1.trans (hw.mono h1.size)⟩)
  have HC : ∀ {x y : List Li} {X Y : Option Addr} {cx cy : Nat}, RpC (· < w.heap.size) w x (.slice X x.length cx) → RpC (· < w.heap.size) w y (.slice Y y.length cy) → ∀ w1, Below W.heap.size W w1 → Calls Try.prog 8 #[.agg #[.bool o.lpo, .slice P o.prec.length pc, .slice Q o.wts.length qc, .int .i64 o.var], .slice X x.length cx, .slice Y y.length cy] w1 fun e w' => e = .returned (.int .i64 (clsO o x y)) ∧ Below w1.heap.size w1 w' := fun hx hy w1 h1 => by
    obtain ⟨X', cx', ex, kx, lx, _⟩ := up hx w1 h1
    obtain ⟨Y', cy', ey, ky, ly, _⟩ := up hy w1 h1
    injection ex with ex1 _ ex2
    injection ey with ey1 _ ey2
    subst ex1; subst ex2; subst ey1; subst ey2
    exact oClauses_any o _ _ P Q _ _ pc qc _ _ w1 hrk (hMW.on h1) kx ky lx ly
  have Hab := Lib.hid (HC ha hb)
  have Hbc := Lib.hid (HC hb hc)
  have Hac := Lib.hid (HC ha hc)
  have Hba := Lib.hid (HC hb ha)
  have Haa := Lib.hid (HC ha ha)
  have Hwk := Lib.hid oWakes_any
  have HBB : Hid (∀ w1, Below W.heap.size W w1 → Below w.heap.size w w1) := Lib.hid fun w1 h => hB.trans (h.mono hB.size)
  obtain ⟨x0, x1, x2, x3, x4⟩ := hX W (Below.refl _ _)
  clear hW hX hS hM ha hb hc hSW hMW up HC hB
  cases hft : fitsC sy o [a, b, c] with
  | false =>
    rw [hft] at HF
    clear hft
    go_enter Try.func3, Try.ntmps3
    go_upto_region 1 with fail
    rw [HW.out]
    go_wp2_with (first
      | (go_at_call 6; go_must ((with_reducible refine HF.out.mono ?_); rintro e w1 ⟨rfl, hb1⟩))
      | (go_at_call 7; go_must ((with_reducible refine (Hwk.out _).mono ?_); rintro e w9 ⟨rfl, hb9⟩))
      | fail)
    go_ret
    exact ⟨rfl, HBB.out _ (hb1.trans (hb9.mono hb1.size))⟩
  | true =>
    rw [hft] at HF
    obtain ⟨hck, hgd⟩ := fits_all hft
    have ga := cls_gd (hgd a (by simp))
    have gb := cls_gd (hgd b (by simp))
    have gc := cls_gd (hgd c (by simp))
    have K := cl_ord hck
    have k1 : clsO o b a = trnI (clsO o a b) := K.turn ga gb
    have k2 : clsO o a a = 2 := K.self ga
    have k3 : clsO o a b = 3 → clsO o b c = 3 → clsO o a c = 3 := K.trans ga gb gc
    have k4 : clsO o a b = 2 → clsO o a c = clsO o b c := K.cong ga gb gc
    obtain ⟨x, hx⟩ : ∃ x, clsO o a b = x := ⟨_, rfl⟩
    obtain ⟨y, hy⟩ : ∃ y, clsO o b c = y := ⟨_, rfl⟩
    obtain ⟨z, hz⟩ : ∃ z, clsO o a c = z := ⟨_, rfl⟩
    rw [hx] at Hab k1 k3 k4
    rw [hy] at Hbc k3 k4
    rw [hz] at Hac k3 k4
    rw [k1] at Hba
    rw [k2] at Haa
    have Htn := Lib.hid (oTurn_any x)
    obtain ⟨x', hx'⟩ : ∃ x', trnI x = x' := ⟨_, rfl⟩
    rw [hx'] at Hba Htn
    have K3 := Lib.hid k3
    have K4 := Lib.hid k4
    clear hft hck hgd ga gb gc K k1 k2 k3 k4 hx hy hz hx'
    go_enter Try.func3, Try.ntmps3
    go_upto_region 1 with fail
    rw [HW.out]
    go_upto_region 3 with (first
      | (go_at_call 6; go_must ((with_reducible refine HF.out.mono ?_); rintro e w1 ⟨rfl, hb1⟩))
      | fail)
    have hy9 := fun t : Later w1.heap.size w1 => hb1.trans (t.h.mono hb1.size)
    have m1 := fun t : Later w1.heap.size w1 => (HX.out t.w (hy9 t)).o0
    have m2 := fun t : Later w1.heap.size w1 => (HX.out t.w (hy9 t)).o1
    have m3 := fun t : Later w1.heap.size w1 => (HX.out t.w (hy9 t)).o2
    have m4 := fun t : Later w1.heap.size w1 => (HX.out t.w (hy9 t)).o3
    have H1 := Lib.hid fun t : Later w1.heap.size w1 => Hab.out t.w (hy9 t)
    have H2 := Lib.hid fun t : Later w1.heap.size w1 => Hbc.out t.w (hy9 t)
    have H3 := Lib.hid fun t : Later w1.heap.size w1 => Hac.out t.w (hy9 t)
    clear hy9 x0 x1 x2 x3 x4
    refine wp_region_later w1.heap.size w1 (by kernel_rfl) (by kernel_rfl) (bl_drewN (Below.refl _ _) 1) ?_
    repeat (go_big_quiet_step (first
      | (go_at_call 8; first
        | (with_reducible refine calls_later _ (Nat.le_refl _) (H1.out _))
        | (with_reducible refine calls_later _ (Nat.le_refl _) (H2.out _))
        | (with_reducible refine calls_later _ (Nat.le_refl _) (H3.out _)))
      | fail))
    refine wpQuiet_nil ?_
    rintro _ ⟨t, rfl⟩
    clear m1 m2 m3 m4 H1 H2 H3
    have hbt := hb1.trans (t.h.mono hb1.size)
    obtain ⟨y0, y1, y2, y3, y4⟩ := HX.out t.w hbt
    have Hba1 := Lib.hid (Hba.out t.w hbt)
    go_upto_region 6 with (first
      | (go_at_call 8; first
        | ((with_reducible refine Hba1.out.mono ?_); go_must (rintro e w2 ⟨rfl, hb2⟩; have hbt2 := hbt.trans (hb2.mono hbt.size)))
        | ((with_reducible refine Haa1.out.mono ?_); go_must (rintro e w4 ⟨rfl, hb4'⟩; have hb4 := hbt3.trans (hb4'.mono hbt3.size))))
      | (go_at_call 9; (with_reducible refine (Htn.out w2).mono ?_); go_must (rintro e w3 ⟨rfl, hb3⟩; have hbt3 := hbt2.trans (hb3.mono hbt2.size); obtain ⟨z0, z1, z2, z3, z4⟩ := HX.out w3 hbt3; have Haa1 := Lib.hid (Haa.out w3 hbt3)))
      | fail)
    by_cases e3 : x = 3
    · subst e3
      by_cases f3 : y = 3
      · subst f3
        obtain rfl : z = 3 := K3.out rfl rfl
        go_wp2_with (first
          | (go_at_call 7; go_must ((with_reducible refine (Hwk.out _).mono ?_); rintro e w9 ⟨rfl, hb9⟩))
          | fail)
        go_ret
        exact ⟨rfl, HBB.out _ (hb4.trans (hb9.mono hb4.size))⟩
        
      · have f3' : ((y : Int) != 3) = true := by simpa using f3
        clear f3
        go_wp2_with (first
          | (go_at_call 7; go_must ((with_reducible refine (Hwk.out _).mono ?_); rintro e w9 ⟨rfl, hb9⟩))
          | fail)
        go_ret
        exact ⟨rfl, HBB.out _ (hb4.trans (hb9.mono hb4.size))⟩
        
    · by_cases e2 : x = 2
      · subst e2
        obtain rfl : z = y := K4.out rfl
        go_wp2_with (first
          | (go_at_call 7; go_must ((with_reducible refine (Hwk.out _).mono ?_); rintro e w9 ⟨rfl, hb9⟩))
          | fail)
        go_ret
        exact ⟨rfl, HBB.out _ (hb4.trans (hb9.mono hb4.size))⟩
        
      · have e3' : ((x : Int) != 3) = true := by simpa using e3
        have e2' : ((x : Int) != 2) = true := by simpa using e2
        clear e3 e2
        go_wp2_with (first
          | (go_at_call 7; go_must ((with_reducible refine (Hwk.out _).mono ?_); rintro e w9 ⟨rfl, hb9⟩))
          | fail)
        go_ret
        exact ⟨rfl, HBB.out _ (hb4.trans (hb9.mono hb4.size))⟩
        

end Go.Proofs.Ytgjmodclgdkodaa

/- An order, and terms whose rows have room for what they hold, that are arguments. -/

namespace Go.Proofs.Ytgjmodclgdkodaa

open Go.ChangeShapes Go.WideShapes Go.ChangeAt Go.RowKit
set_option maxRecDepth 20000

section

variable {H : Type} {enc : TypeId × Value → H} {W : World} {base : Nat} {held : Bool}

theorem trodk_term : ∀ (n : Nat) (cs : List Value) (x : DataW H × List MemPlace), DataW.trod enc Try.prog W base (fun _ => true) held n 39 cs = some x →
    ∃ (t : Tm) (A : Option Addr) (c : Nat), cs = [.int .i64 t.fn, .slice A t.args.length c] ∧ I64 t.fn ∧ ArgsK W (· < W.heap.size) A c t.args ∧ t.size ≤ Rows.uptoBulk x.1 := by
  intro n
  induction n using Nat.strongRecOn with
  | ind n ih =>
    intro cs x h
    obtain ⟨xs, n', rfl, hx, hlen, hxs, hf⟩ := DataW.trod_struct Try.underlying39 h
    rw [cellsTerm] at hlen
    match cs, hlen with
    | [c0, c1], _ =>
      have hx2 : xs.length = 2 := by rw [hxs]; rfl
      match xs, hx2 with
      | [x0, x1], _ =>
        have g0 := hf 0 _ rfl
        have g1 := hf 1 _ rfl
        simp [cellsInt] at g0
        simp [cellsTerms] at g1
        obtain ⟨f, hfv, ef, hw⟩ := DataW.trod_int Try.underlying3 g0
        injection hfv with hfv
        subst hfv
        have hf64 : I64 f := by
          have := hw
          simp [Lit.wf, IntKind.min, IntKind.max, IntKind.signed, IntKind.bits] at this
          exact this
        rcases DataW.trod_slice Try.underlying37 g1 with ⟨hv, e1⟩ | ⟨a, len, cap, elems, rest, m, hm, hv, e1, _, hl, hmax, hlenE, hel, _, _⟩
        · injection hv with hv
          subst hv
          refine ⟨.node f [], none, 0, rfl, hf64, .nil none 0, ?_⟩
          subst hx
          simp [ef, e1, Tm.size, sizes, Rows.uptoBulk, Rows.uptoBulkAll]
        · injection hv with hv
          subst hv
          have each : ∀ i, i < len → ∃ q : Tm × Option Addr × Nat × DataW H, I64 q.1.fn ∧ W.cell? (a.add (i * 2)) = some (.int .i64 q.1.fn) ∧ W.cell? ((a.add (i * 2)).add 1) = some (.slice q.2.1 q.1.args.length q.2.2.1) ∧ ArgsK W (· < W.heap.size) q.2.1 q.2.2.1 q.1.args ∧ q.1.size ≤ Rows.uptoBulk q.2.2.2 ∧ (elems.map (·.1))[i]? = some q.2.2.2 := by
            intro i hi
            have h1 := hel i hi
            rw [cellsTerm] at h1
            rw [List.getElem?_eq_getElem (by omega)] at h1
            cases hc : W.cells? base (a.add (i * 2)) 2 with
            | none => rw [hc] at h1; cases h1
            | some cs' =>
              rw [hc] at h1
              simp only [Option.bind_some] at h1
              obtain ⟨t, A, c, rfl, ht64, hA, hb⟩ := ih m (by omega) cs' _ h1
              obtain ⟨_, _, hat⟩ := World.cells?_some hc
              refine ⟨(t, A, c, (elems[i]'(by omega)).1), ht64, ?_, hat 1 (by omega), hA, hb, by rw [List.getElem?_map, List.getElem?_eq_getElem (show i < elems.length by omega)]; rfl⟩
              have := hat 0 (by omega)
              simpa [Addr.add] using this
          haveI : Inhabited (Tm × Option Addr × Nat × DataW H) := ⟨(.node 0 [], none, 0, .nil)⟩
          obtain ⟨q, hq⟩ := Go.Deep.choose_lt each
          have hget : ∀ (i : Nat) (t : Tm), ((List.range len).map fun i => (q i).1)[i]? = some t → i < len ∧ t = (q i).1 := by
            intro i t e
            have hi : i < len := by have := (List.getElem?_eq_some_iff.1 e).1; simpa using this
            rw [List.getElem?_map, List.getElem?_range hi] at e
            simp at e
            exact ⟨hi, e.symm⟩
          refine ⟨.node f ((List.range len).map fun i => (q i).1), some a, cap, by simp [Tm.fn, Tm.args], hf64, ?_, ?_⟩
          · rcases Nat.eq_zero_or_pos len with h0 | h0
            · subst h0; exact .nil _ _
            · have c00 := (hq 0 h0).2.1
              simp only [Nat.zero_mul, Addr.add, if_true] at c00
              obtain ⟨blk, off, spot⟩ := a
              obtain rfl : spot = none := cell_spot c00
              have hblk : blk < W.heap.size := by
                unfold World.cell? at c00
                rcases Nat.lt_or_ge blk W.heap.size with h1 | h1
                · exact h1
                · simp [Array.getElem?_eq_none h1] at c00
              simp only [Tm.args]
              refine .row blk off cap _ (fun i => (q i).2.1) (fun i => (q i).2.2.1) (by simpa using hl) hblk (by unfold maxLen at hmax; simp; omega) (fun i t e => ?_) (fun i t e => ?_) (fun i t e => ?_) (fun i t e => ?_)
              · obtain ⟨hi, rfl⟩ := hget i t e
                exact (hq i hi).1
              · obtain ⟨hi, rfl⟩ := hget i t e
                have := (hq i hi).2.1
                rwa [Addr.add_lit] at this
              · obtain ⟨hi, rfl⟩ := hget i t e
                have := (hq i hi).2.2.1
                rwa [Addr.add_lit, Addr.add_lit] at this
              · obtain ⟨hi, rfl⟩ := hget i t e
                exact (hq i hi).2.2.2.1
          · subst hx
            have hb : sizes ((List.range len).map fun i => (q i).1) ≤ Rows.uptoBulkAll (elems.map (·.1)) := by
              refine bulk_all _ _ (by simp [hlenE]) fun i t d e1 e2 => ?_
              obtain ⟨hi, rfl⟩ := hget i t e1
              have h5 := (hq i hi).2.2.2.2
              rw [h5.2] at e2
              cases e2
              exact h5.1
            simp only [ef, e1, Tm.size, List.map_cons, List.map_nil, Rows.uptoBulk, Rows.uptoBulkAll]
            omega

/-- A term that is an argument. -/
theorem openk_term {r : Reach} {b0 : Nat} {v : Value} {d : DataW H} {ps : List MemPlace} (hv : Value.okWide Try.prog W r b0 39 v) (h : DataW.Trod enc Try.prog W base (fun _ => true) held 39 v d ps) :
    ∃ (t : Tm) (A : Option Addr) (c : Nat), v = .agg #[.int .i64 t.fn, .slice A t.args.length c] ∧ I64 t.fn ∧ ArgsK W (· < W.heap.size) A c t.args ∧ t.size ≤ Rows.uptoBulk d := by
  obtain ⟨cs, rfl, _⟩ := okWide_struct Try.underlying39 hv
  obtain ⟨fuel, hf⟩ := h
  obtain ⟨t, A, c, hcs, h1, h2, h3⟩ := trodk_term _ _ _ hf
  refine ⟨t, A, c, ?_, h1, h2, h3⟩
  have hcs' : cs.toList = [.int .i64 t.fn, .slice A t.args.length c] := hcs
  rw [show cs = #[.int .i64 t.fn, .slice A t.args.length c] from Array.toList_inj.1 (by rw [hcs'])]

theorem cellsInts1 : Try.prog.cellsOf 25 = 1 := by kernel_rfl

theorem cellsBool2 : Try.prog.cellsOf 4 = 1 := by kernel_rfl

theorem cellsOrder : Try.prog.cellsOf 27 = 4 := by kernel_rfl

theorem trod_ints1 {n : Nat} {c0 : Value} {x : DataW H × List MemPlace} (hf : DataW.trod enc Try.prog W base (fun _ => true) held n 25 [c0] = some x) :
    ∃ (p : List Int) (A : Option Addr) (c : Nat), c0 = .slice A p.length c ∧ p.length ≤ c ∧ Ints W W.heap.size A p := by
  rcases open_ints Try.underlying25 Try.underlying3 cellsInt hf with ⟨hcs, _⟩ | ⟨ad, len, cap, zs, hcs, _, hn, hmax, hzl, _, hcell, hwf⟩
  · injection hcs with hcs _
    exact ⟨[], none, 0, hcs, Nat.le_refl _, ⟨by simp, by simp, fun h => by simp at h⟩⟩
  · injection hcs with hcs _
    subst hcs
    simp only [if_true] at hzl
    have hl : (zs.take len).length = len := by rw [List.length_take]; omega
    refine ⟨zs.take len, some ad, cap, by rw [hl], by omega, ⟨by unfold maxLen at hmax; omega, fun x hx => ?_, fun hpos => ?_⟩⟩
    · have := hwf x (List.mem_of_mem_take hx)
      simp [Lit.wf, IntKind.min, IntKind.max, IntKind.signed, IntKind.bits] at this
      exact this
    · have c0 := hcell 0 (by omega)
      obtain ⟨blk, off, spot⟩ := ad
      simp only [Addr.add, if_true] at c0
      obtain rfl : spot = none := cell_spot c0
      refine ⟨blk, off, rfl, World.block_lt_of_cell? W _ c0, fun i x hi => ?_⟩
      have hil := (List.getElem?_eq_some_iff.1 hi).1
      have h1 := hcell i (by omega)
      rw [Addr.add_lit] at h1
      rw [h1]
      rw [List.getElem?_take] at hi
      split at hi
      · rw [List.getD_eq_getElem?_getD, hi]; rfl
      · cases hi

theorem open_order {r : Reach} {b0 : Nat} {v : Value} {d : DataW H} {ps : List MemPlace} (hv : Value.okWide Try.prog W r b0 27 v) (h : DataW.Trod enc Try.prog W base (fun _ => true) held 27 v d ps) :
    ∃ (o : Odr) (P Q : Option Addr) (pc qc : Nat), v = .agg #[.bool o.lpo, .slice P o.prec.length pc, .slice Q o.wts.length qc, .int .i64 o.var] ∧ OdrM W W.heap.size o P Q ∧ o.prec.length ≤ pc ∧ o.wts.length ≤ qc := by
  obtain ⟨cs, rfl, _⟩ := okWide_struct Try.underlying27 hv
  obtain ⟨fuel, hf⟩ := h
  have hf' : DataW.trod enc Try.prog W base (fun _ => true) held fuel 27 cs.toList = some (d, ps) := hf
  obtain ⟨xs, n', _, hx, hlen, hxs, hg⟩ := DataW.trod_struct Try.underlying27 hf'
  rw [cellsOrder] at hlen
  obtain ⟨l, hl⟩ : ∃ l, cs.toList = l := ⟨_, rfl⟩
  rw [hl] at hlen hg
  match l, hlen, hl with
  | [c0, c1, c2, c3], _, hl =>
    have hx2 : xs.length = 4 := by rw [hxs]; rfl
    match xs, hx2 with
    | [x0, x1, x2, x3], _ =>
      have g0 := hg 0 _ rfl
      have g1 := hg 1 _ rfl
      have g2 := hg 2 _ rfl
      have g3 := hg 3 _ rfl
      simp [cellsBool2] at g0
      simp [cellsInts1] at g1
      simp [cellsInts1] at g2
      simp [cellsInt] at g3
      obtain ⟨b, hbv, _⟩ := DataW.trod_bool Try.underlying4 g0
      injection hbv with hbv
      subst hbv
      obtain ⟨p, P, pc, rfl, h1, h2⟩ := trod_ints1 g1
      obtain ⟨q, Q, qc, rfl, h3, h4⟩ := trod_ints1 g2
      obtain ⟨f, hfv, _, hw⟩ := DataW.trod_int Try.underlying3 g3
      injection hfv with hfv
      subst hfv
      have hf64 : I64 f := by
        have := hw
        simp [Lit.wf, IntKind.min, IntKind.max, IntKind.signed, IntKind.bits] at this
        exact this
      refine ⟨⟨b, p, q, f⟩, P, Q, pc, qc, ?_, ⟨h2, h4, hf64⟩, h1, h3⟩
      rw [show cs = #[.bool b, .slice P p.length pc, .slice Q q.length qc, .int .i64 f] from Array.toList_inj.1 (by rw [hl])]

end

end Go.Proofs.Ytgjmodclgdkodaa

/- A signature that is an argument: its length is bounded by what the arguments hold together. -/

namespace Go.Proofs.Ytgjmodclgdkodaa

open Go.ChangeShapes Go.WideShapes Go.ChangeAt Go.RowKit
set_option maxRecDepth 20000

theorem bulk_pos {H : Type} (d : DataW H) : 1 ≤ Rows.uptoBulk d := by
  cases d with
  | lit l => cases l <;> simp [Rows.uptoBulk]
  | _ => simp [Rows.uptoBulk]

theorem bulk_length {H : Type} : ∀ ds : List (DataW H), ds.length ≤ Rows.uptoBulkAll ds
  | [] => by simp
  | d :: ds => by
    have h1 := bulk_pos d
    have h2 := bulk_length ds
    simp only [Rows.uptoBulkAll, List.length_cons]; omega

theorem sig_bulk {H : Type} {d : DataW H} {len : Nat} (hl : len = 0 ∨ ∃ elems spare, d = .agg [.slice elems spare] ∧ elems.length = len) : len ≤ Rows.uptoBulk d := by
  rcases hl with rfl | ⟨elems, spare, rfl, rfl⟩
  · omega
  · have := bulk_length elems
    simp only [Rows.uptoBulk, Rows.uptoBulkAll]; omega

theorem trodAll_five {H : Type} {enc : TypeId × Value → H} {P : Program} {w : World} {base : Nat} {spare : Nat → Bool} {held : Bool} {t0 t1 t2 t3 t4 : TypeId} {args : Array Value} {ds : List (DataW H)} {ps : List MemPlace} (h : DataW.TrodAll enc P w base spare held [t0, t1, t2, t3, t4] args.toList ds ps) :
    ∃ v0 v1 v2 v3 v4 d0 d1 d2 d3 d4 p0 p1 p2 p3 p4, args = #[v0, v1, v2, v3, v4] ∧ ds = [d0, d1, d2, d3, d4] ∧ ps = p0 ++ (p1 ++ (p2 ++ (p3 ++ (p4)))) ∧ DataW.Trod enc P w base spare held t0 v0 d0 p0 ∧ DataW.Trod enc P w base spare held t1 v1 d1 p1 ∧ DataW.Trod enc P w base spare held t2 v2 d2 p2 ∧ DataW.Trod enc P w base spare held t3 v3 d3 p3 ∧ DataW.Trod enc P w base spare held t4 v4 d4 p4 := by
  obtain ⟨v0, w0, d0, e0, p0, q0, hargs, rfl, rfl, k0, r0⟩ := trodAll_cons h
  obtain ⟨v1, w1, d1, e1, p1, q1, rfl, rfl, rfl, k1, r1⟩ := trodAll_cons r0
  obtain ⟨v2, w2, d2, e2, p2, q2, rfl, rfl, rfl, k2, r2⟩ := trodAll_cons r1
  obtain ⟨v3, w3, d3, e3, p3, q3, rfl, rfl, rfl, k3, r3⟩ := trodAll_cons r2
  obtain ⟨v4, w4, d4, e4, p4, q4, rfl, rfl, rfl, k4, r4⟩ := trodAll_cons r3
  obtain ⟨rfl, rfl, rfl⟩ := trodAll_nil r4
  exact ⟨v0, v1, v2, v3, v4, d0, d1, d2, d3, d4, p0, p1, p2, p3, p4, by cases args; simp_all, rfl, by simp, k0, k1, k2, k3, k4⟩

theorem trodAll_six {H : Type} {enc : TypeId × Value → H} {P : Program} {w : World} {base : Nat} {spare : Nat → Bool} {held : Bool} {t0 t1 t2 t3 t4 t5 : TypeId} {args : Array Value} {ds : List (DataW H)} {ps : List MemPlace} (h : DataW.TrodAll enc P w base spare held [t0, t1, t2, t3, t4, t5] args.toList ds ps) :
    ∃ v0 v1 v2 v3 v4 v5 d0 d1 d2 d3 d4 d5 p0 p1 p2 p3 p4 p5, args = #[v0, v1, v2, v3, v4, v5] ∧ ds = [d0, d1, d2, d3, d4, d5] ∧ ps = p0 ++ (p1 ++ (p2 ++ (p3 ++ (p4 ++ (p5))))) ∧ DataW.Trod enc P w base spare held t0 v0 d0 p0 ∧ DataW.Trod enc P w base spare held t1 v1 d1 p1 ∧ DataW.Trod enc P w base spare held t2 v2 d2 p2 ∧ DataW.Trod enc P w base spare held t3 v3 d3 p3 ∧ DataW.Trod enc P w base spare held t4 v4 d4 p4 ∧ DataW.Trod enc P w base spare held t5 v5 d5 p5 := by
  obtain ⟨v0, w0, d0, e0, p0, q0, hargs, rfl, rfl, k0, r0⟩ := trodAll_cons h
  obtain ⟨v1, w1, d1, e1, p1, q1, rfl, rfl, rfl, k1, r1⟩ := trodAll_cons r0
  obtain ⟨v2, w2, d2, e2, p2, q2, rfl, rfl, rfl, k2, r2⟩ := trodAll_cons r1
  obtain ⟨v3, w3, d3, e3, p3, q3, rfl, rfl, rfl, k3, r3⟩ := trodAll_cons r2
  obtain ⟨v4, w4, d4, e4, p4, q4, rfl, rfl, rfl, k4, r4⟩ := trodAll_cons r3
  obtain ⟨v5, w5, d5, e5, p5, q5, rfl, rfl, rfl, k5, r5⟩ := trodAll_cons r4
  obtain ⟨rfl, rfl, rfl⟩ := trodAll_nil r5
  exact ⟨v0, v1, v2, v3, v4, v5, d0, d1, d2, d3, d4, d5, p0, p1, p2, p3, p4, p5, by cases args; simp_all, rfl, by simp, k0, k1, k2, k3, k4, k5⟩

end Go.Proofs.Ytgjmodclgdkodaa

/- a clause that is an argument, opened -/

namespace Go.Proofs.Ytgjmodclgdkodaa

open Go.ChangeShapes Go.WideShapes Go.ChangeAt Go.RowKit
set_option maxRecDepth 20000

section

variable {H : Type} {enc : TypeId × Value → H} {W : World} {base : Nat} {held : Bool}

theorem cellsLitK : Try.prog.cellsOf 41 = 5 := by kernel_rfl

theorem bulk_memK {H : Type} : ∀ {ds : List (DataW H)} {d : DataW H}, d ∈ ds → Rows.uptoBulk d ≤ Rows.uptoBulkAll ds
  | [], _, h => by simp at h
  | d' :: ds, d, h => by
    simp only [Rows.uptoBulkAll]
    rcases List.mem_cons.1 h with rfl | h
    · omega
    · have := bulk_memK h; omega

theorem trodk_lit (n : Nat) (cs : List Value) (x : DataW H × List MemPlace) (h : DataW.trod enc Try.prog W base (fun _ => true) held n 41 cs = some x) :
    ∃ (y : Li) (A1 : Option Addr) (c1 : Nat) (A2 : Option Addr) (c2 : Nat), cs = [.bool y.neg, .int .i64 y.l.fn, .slice A1 y.l.args.length c1, .int .i64 y.r.fn, .slice A2 y.r.args.length c2] ∧ I64 y.l.fn ∧ I64 y.r.fn ∧ ArgsK W (· < W.heap.size) A1 c1 y.l.args ∧ ArgsK W (· < W.heap.size) A2 c2 y.r.args ∧ y.l.size + y.r.size ≤ Rows.uptoBulk x.1 := by
  obtain ⟨xs, n', rfl, hx, hlen, hxs, hf⟩ := DataW.trod_struct Try.underlying41 h
  rw [cellsLitK] at hlen
  match cs, hlen with
  | [c0, c1, c2, c3, c4], _ =>
    have hx2 : xs.length = 3 := by rw [hxs]; rfl
    match xs, hx2 with
    | [x0, x1, x2], _ =>
      have g0 := hf 0 _ rfl
      have g1 := hf 1 _ rfl
      have g2 := hf 2 _ rfl
      simp [cellsBool2] at g0
      simp [cellsTerm] at g1
      simp [cellsTerm] at g2
      obtain ⟨b, hbv, eb⟩ := DataW.trod_bool Try.underlying4 g0
      injection hbv with hbv
      subst hbv
      obtain ⟨t, A, c, hcs, ht64, hA, hb⟩ := trodk_term _ _ _ g1
      injection hcs with e1 hcs
      injection hcs with e2 _
      subst e1; subst e2
      obtain ⟨t2, A2, c2, hcs2, ht642, hA2, hb2⟩ := trodk_term _ _ _ g2
      injection hcs2 with e3 hcs2
      injection hcs2 with e4 _
      subst e3; subst e4
      refine ⟨⟨b, t, t2⟩, A, c, A2, c2, rfl, ht64, ht642, hA, hA2, ?_⟩
      subst hx
      simp only [List.map_cons, List.map_nil, Rows.uptoBulk, Rows.uptoBulkAll]
      omega

/-- A clause that is an argument. -/
theorem openk_clause {r : Reach} {b0 : Nat} {v : Value} {d : DataW H} {ps : List MemPlace} (hv : Value.okWide Try.prog W r b0 29 v) (h : DataW.Trod enc Try.prog W base (fun _ => true) held 29 v d ps) (hbk : Rows.uptoBulk d ≤ 1048576) :
    ∃ (l : List Li) (A : Option Addr) (c : Nat), v = .slice A l.length c ∧ ClsK W (· < W.heap.size) A l ∧ l.length ≤ 1048576 ∧ ∀ x ∈ l, x.l.size + x.r.size ≤ 1048576 := by
  obtain ⟨a0, len0, cap0, rfl⟩ := okWide_slice Try.underlying29 hv
  obtain ⟨fuel, hf⟩ := h
  have hf' : DataW.trod enc Try.prog W base (fun _ => true) held fuel 29 [.slice a0 len0 cap0] = some (d, ps) := hf
  rcases DataW.trod_slice Try.underlying29 hf' with ⟨hv, e1⟩ | ⟨a, len, cap, elems, rest, m, hm, hv, e1, _, hl, hmax, hlenE, hel, _, _⟩
  · injection hv with hv
    injection hv with e2 e3 e4
    subst e2; subst e3; subst e4
    exact ⟨[], none, 0, rfl, ⟨fun h => by simp at h⟩, by simp, by simp⟩
  · injection hv with hv
    injection hv with e2 e3 e4
    subst e2; subst e3; subst e4
    have e5 := congrArg (fun z => Rows.uptoBulk z.1) e1
    simp only [Rows.uptoBulk] at e5
    have hlen : len0 ≤ 1048576 := by
      have h1 := bulk_length (elems.map (·.1))
      rw [List.length_map] at h1
      omega
    have each : ∀ i, i < len0 → ∃ q : Li × (Option Addr × Nat) × (Option Addr × Nat), W.cell? (a.add (i * 5)) = some (.bool q.1.neg) ∧ W.cell? ((a.add (i * 5)).add 1) = some (.int .i64 q.1.l.fn) ∧ W.cell? ((a.add (i * 5)).add 2) = some (.slice q.2.1.1 q.1.l.args.length q.2.1.2) ∧ W.cell? ((a.add (i * 5)).add 3) = some (.int .i64 q.1.r.fn) ∧ W.cell? ((a.add (i * 5)).add 4) = some (.slice q.2.2.1 q.1.r.args.length q.2.2.2) ∧ I64 q.1.l.fn ∧ I64 q.1.r.fn ∧ ArgsK W (· < W.heap.size) q.2.1.1 q.2.1.2 q.1.l.args ∧ ArgsK W (· < W.heap.size) q.2.2.1 q.2.2.2 q.1.r.args ∧ q.1.l.size + q.1.r.size ≤ 1048576 := by
      intro i hi
      have h1 := hel i hi
      rw [cellsLitK] at h1
      rw [List.getElem?_eq_getElem (by omega)] at h1
      cases hc : W.cells? base (a.add (i * 5)) 5 with
      | none => rw [hc] at h1; cases h1
      | some cs' =>
        rw [hc] at h1
        simp only [Option.bind_some] at h1
        obtain ⟨y, A1, c1, A2, c2, rfl, h64, h64', hA1, hA2, hb⟩ := trodk_lit _ cs' _ h1
        obtain ⟨_, _, hat⟩ := World.cells?_some hc
        refine ⟨(y, (A1, c1), (A2, c2)), ?_, hat 1 (by omega), hat 2 (by omega), hat 3 (by omega), hat 4 (by omega), h64, h64', hA1, hA2, ?_⟩
        · have := hat 0 (by omega)
          simpa [Addr.add] using this
        · have h9 := bulk_memK (List.mem_map.2 ⟨elems[i]'(by omega), List.getElem_mem _, rfl⟩ : (elems[i]'(by omega)).1 ∈ elems.map (·.1))
          show y.l.size + y.r.size ≤ _
          omega
    haveI : Inhabited (Li × (Option Addr × Nat) × (Option Addr × Nat)) := ⟨(⟨false, .node 0 [], .node 0 []⟩, (none, 0), (none, 0))⟩
    obtain ⟨q, hq⟩ := Go.Deep.choose_lt each
    have hget : ∀ (i : Nat) (t : Li), ((List.range len0).map fun i => (q i).1)[i]? = some t → i < len0 ∧ t = (q i).1 := by
      intro i t e
      have hi : i < len0 := by have := (List.getElem?_eq_some_iff.1 e).1; simpa using this
      rw [List.getElem?_map, List.getElem?_range hi] at e
      simp at e
      exact ⟨hi, e.symm⟩
    refine ⟨(List.range len0).map fun i => (q i).1, some a, cap0, by simp, ⟨fun hp => ?_⟩, by simpa using hlen, fun x hx => ?_⟩
    · have h0 : 0 < len0 := by simpa using hp
      have c00 := (hq 0 h0).1
      simp only [Nat.zero_mul, Addr.add, if_true] at c00
      obtain ⟨blk, off, spot⟩ := a
      obtain rfl : spot = none := cell_spot c00
      refine ⟨blk, off, rfl, World.block_lt_of_cell? W _ c00, fun i t e => ?_⟩
      obtain ⟨hi, rfl⟩ := hget i t e
      obtain ⟨h3, h4, h5, h6, h7, h1, h2, h8, h9, h10⟩ := hq i hi
      rw [Addr.add_lit] at h3
      rw [Addr.add_lit, Addr.add_lit] at h4 h5 h6 h7
      exact ⟨(q i).2.1.1, (q i).2.1.2, (q i).2.2.1, (q i).2.2.2, h3, h4, h5, h6, h7, h1, h2, h8, h9, by omega, by omega⟩
    · obtain ⟨i, hi, rfl⟩ := List.mem_map.1 hx
      exact (hq i (by simpa using hi)).2.2.2.2.2.2.2.2.2

/-- A literal that is an argument. -/
theorem openk_lit {r : Reach} {b0 : Nat} {v : Value} {d : DataW H} {ps : List MemPlace} (hv : Value.okWide Try.prog W r b0 41 v) (h : DataW.Trod enc Try.prog W base (fun _ => true) held 41 v d ps) :
    ∃ (y : Li) (A1 : Option Addr) (c1 : Nat) (A2 : Option Addr) (c2 : Nat), v = .agg #[.bool y.neg, .int .i64 y.l.fn, .slice A1 y.l.args.length c1, .int .i64 y.r.fn, .slice A2 y.r.args.length c2] ∧ I64 y.l.fn ∧ I64 y.r.fn ∧ ArgsK W (· < W.heap.size) A1 c1 y.l.args ∧ ArgsK W (· < W.heap.size) A2 c2 y.r.args ∧ y.l.size + y.r.size ≤ Rows.uptoBulk d := by
  obtain ⟨cs, rfl, _⟩ := okWide_struct Try.underlying41 hv
  obtain ⟨fuel, hf⟩ := h
  obtain ⟨y, A1, c1, A2, c2, hcs, h⟩ := trodk_lit _ _ _ hf
  refine ⟨y, A1, c1, A2, c2, ?_, h⟩
  have hcs' : cs.toList = [.bool y.neg, .int .i64 y.l.fn, .slice A1 y.l.args.length c1, .int .i64 y.r.fn, .slice A2 y.r.args.length c2] := hcs
  rw [show cs = #[.bool y.neg, .int .i64 y.l.fn, .slice A1 y.l.args.length c1, .int .i64 y.r.fn, .slice A2 y.r.args.length c2] from Array.toList_inj.1 (by rw [hcs'])]

end

end Go.Proofs.Ytgjmodclgdkodaa

/- An order among the arguments: its ranks are no more than the argument's values. -/

namespace Go.Proofs.Ytgjmodclgdkodaa

open Go.ChangeShapes Go.WideShapes Go.ChangeAt Go.RowKit
set_option maxRecDepth 20000

section

variable {H : Type} {enc : TypeId × Value → H} {W : World} {base : Nat} {held : Bool}

theorem trod_ints1L {n : Nat} {c0 : Value} {x : DataW H × List MemPlace} (hf : DataW.trod enc Try.prog W base (fun _ => true) held n 25 [c0] = some x) :
    ∃ (p : List Int) (A : Option Addr) (c : Nat), c0 = .slice A p.length c ∧ p.length ≤ c ∧ Ints W W.heap.size A p ∧ p.length ≤ Rows.uptoBulk x.1 := by
  rcases open_ints Try.underlying25 Try.underlying3 cellsInt hf with ⟨hcs, hx⟩ | ⟨ad, len, cap, zs, hcs, _, hn, hmax, hzl, hx, hcell, hwf⟩
  · injection hcs with hcs _
    exact ⟨[], none, 0, hcs, Nat.le_refl _, ⟨by simp, by simp, fun h => by simp at h⟩, Nat.zero_le _⟩
  · injection hcs with hcs _
    subst hcs
    simp only [if_true] at hzl
    have hl : (zs.take len).length = len := by rw [List.length_take]; omega
    refine ⟨zs.take len, some ad, cap, by rw [hl], by omega, ⟨by unfold maxLen at hmax; omega, fun x hx => ?_, fun hpos => ?_⟩, ?_⟩
    · have := hwf x (List.mem_of_mem_take hx)
      simp [Lit.wf, IntKind.min, IntKind.max, IntKind.signed, IntKind.bits] at this
      exact this
    · have c0 := hcell 0 (by omega)
      obtain ⟨blk, off, spot⟩ := ad
      simp only [Addr.add, if_true] at c0
      obtain rfl : spot = none := cell_spot c0
      refine ⟨blk, off, rfl, World.block_lt_of_cell? W _ c0, fun i x hi => ?_⟩
      have hil := (List.getElem?_eq_some_iff.1 hi).1
      have h1 := hcell i (by omega)
      rw [Addr.add_lit] at h1
      rw [h1]
      rw [List.getElem?_take] at hi
      split at hi
      · rw [List.getD_eq_getElem?_getD, hi]; rfl
      · cases hi
    · rw [hx]
      have h1 := bulk_length (lits (H := H) .i64 (zs.take len))
      have h2 : (lits (H := H) .i64 (zs.take len)).length = (zs.take len).length := by simp [lits]
      simp only [Rows.uptoBulk]
      omega

theorem open_orderL {r : Reach} {b0 : Nat} {v : Value} {d : DataW H} {ps : List MemPlace} (hv : Value.okWide Try.prog W r b0 27 v) (h : DataW.Trod enc Try.prog W base (fun _ => true) held 27 v d ps) :
    ∃ (o : Odr) (P Q : Option Addr) (pc qc : Nat), v = .agg #[.bool o.lpo, .slice P o.prec.length pc, .slice Q o.wts.length qc, .int .i64 o.var] ∧ OdrM W W.heap.size o P Q ∧ o.prec.length ≤ Rows.uptoBulk d := by
  obtain ⟨cs, rfl, _⟩ := okWide_struct Try.underlying27 hv
  obtain ⟨fuel, hf⟩ := h
  have hf' : DataW.trod enc Try.prog W base (fun _ => true) held fuel 27 cs.toList = some (d, ps) := hf
  obtain ⟨xs, n', _, hx, hlen, hxs, hg⟩ := DataW.trod_struct Try.underlying27 hf'
  rw [cellsOrder] at hlen
  obtain ⟨l, hl⟩ : ∃ l, cs.toList = l := ⟨_, rfl⟩
  rw [hl] at hlen hg
  match l, hlen, hl with
  | [c0, c1, c2, c3], _, hl =>
    have hx2 : xs.length = 4 := by rw [hxs]; rfl
    match xs, hx2 with
    | [x0, x1, x2, x3], _ =>
      have g0 := hg 0 _ rfl
      have g1 := hg 1 _ rfl
      have g2 := hg 2 _ rfl
      have g3 := hg 3 _ rfl
      simp [cellsBool2] at g0
      simp [cellsInts1] at g1
      simp [cellsInts1] at g2
      simp [cellsInt] at g3
      obtain ⟨b, hbv, _⟩ := DataW.trod_bool Try.underlying4 g0
      injection hbv with hbv
      subst hbv
      obtain ⟨p, P, pc, rfl, h1, h2, h5⟩ := trod_ints1L g1
      obtain ⟨q, Q, qc, rfl, h3, h4⟩ := trod_ints1 g2
      obtain ⟨f, hfv, _, hw⟩ := DataW.trod_int Try.underlying3 g3
      injection hfv with hfv
      subst hfv
      have hf64 : I64 f := by
        have := hw
        simp [Lit.wf, IntKind.min, IntKind.max, IntKind.signed, IntKind.bits] at this
        exact this
      refine ⟨⟨b, p, q, f⟩, P, Q, pc, qc, ?_, ⟨h2, h4, hf64⟩, ?_⟩
      rw [show cs = #[.bool b, .slice P p.length pc, .slice Q q.length qc, .int .i64 f] from Array.toList_inj.1 (by rw [hl])]
      injection hx with hx _
      rw [hx]
      simp only [Rows.uptoBulk, Rows.uptoBulkAll, List.map_cons, List.map_nil]
      show p.length ≤ _
      omega

end

end Go.Proofs.Ytgjmodclgdkodaa

/- A law's last step, whatever its arguments: it answered true, and below the heap's old size nothing has turned. -/

namespace Go.Proofs.Ytgjmodclgdkodaa

open Go.ChangeShapes Go.WideShapes Go.ChangeAt Go.RowKit

section

variable {H : Type} {enc : TypeId × Value → H} {P : Program}

theorem trodAll_later (hl : laidOutB P = true) {W W' : World} (hb : Below W.heap.size W W') : ∀ {ts : List TypeId} {vs : List Value} {ds : List (DataW H)} {ps : List MemPlace},
    (ts.all fun t => P.readableRec t && decide (t < P.types.size)) = true → (∀ x ∈ ps, x.block < W.heap.size) → DataW.TrodAll enc P W 0 (fun _ => true) true ts vs ds ps → DataW.TrodAll enc P W' 0 (fun b => decide (b < W.heap.size)) true ts vs ds ps
  | [], [], [], _, _, _, h => h
  | [], [], _ :: _, _, _, _, h => h.elim
  | [], _ :: _, _, _, _, _, h => h.elim
  | _ :: _, [], _, _, _, _, h => h.elim
  | _ :: _, _ :: _, [], _, _, _, h => h.elim
  | t :: ts, v :: vs, d :: ds, ps, hr, hlt, h => by
    obtain ⟨p, q, h1, h2, rfl⟩ := h
    simp only [List.all_cons, Bool.and_eq_true, decide_eq_true_eq] at hr
    exact ⟨p, q, Below.trod hl hr.1.1 hr.1.2 h1 hb (fun x hx => hlt x (List.mem_append_left _ hx)), trodAll_later hl hb hr.2 (fun x hx => hlt x (List.mem_append_right _ hx)) h2, rfl⟩

theorem law_post (hl : laidOutB P = true) {f : Func} {s : ChangeSpec} {tb : TypeId} (hv : s.vars = []) (hrt : f.resultTypes = #[tb]) (htb : P.underlying tb = some .bool)
    (hread : (f.params.toList.all fun t => P.readableRec t && decide (t < P.types.size)) = true) {W W' : World} {args : Array Value} {ds gs : List (DataW H)} {before : List MemPlace}
    (hW : DataW.Whole enc P f.params.toList s.vars false W args.toList ds gs before) (hfn : s.fn H (ds ++ gs) = { results := [.lit (.bool true)], args := ds }) (hb : Below W.heap.size W W') :
    s.post enc P f false true false false W args (.bool true) W' := by
  have hlt := hW.lt
  have hW' := hW
  obtain ⟨p, q, hA, hV, rfl, hfz, _⟩ := hW'
  have hV' : gs = [] ∧ q = [] := by
    rw [hv] at hV
    cases gs with
    | nil => exact ⟨rfl, hV⟩
    | cons _ _ => exact hV.elim
  obtain ⟨rfl, rfl⟩ := hV'
  have hold : ∀ x ∈ p, x.block < W.heap.size := fun x hx => hlt x (by simp [hx])
  refine ⟨ds, [], p ++ [], [], p, [], hW, ?_, ?_, ?_, World.keptBut_mono (fun x hx => ⟨hx, ?_⟩) (hb.frame (· ∈ p ++ [])), fun h => by cases h⟩
  · rw [hfn, hrt]
    exact trodAll_mk1 (shut_bool htb _)
  · rw [hfn]
    exact trodAll_later hl hb hread hold hA
  · rw [hfn, hv]
    rfl
  · rw [List.append_nil] at hx
    exact .inr (.inl hx)

end

end Go.Proofs.Ytgjmodclgdkodaa

