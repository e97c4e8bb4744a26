import Derived.Test.YthgglobfkkcdgaaGreatP49S3
import Derived.Test.YthgglobfkkcdgaaGreatP49S9
import Derived.Test.YthgglobfkkcdgaaGreatP49S2
namespace Go.Proofs.YthgglobfkkcdgaaGreat
open Go.RowKit
set_option maxRecDepth 100000
def RCmp (t : Tm) : Prop := ∀ (u : Tm) (A A2 : Option Addr) (c c2 : Nat) (w : World), I64 t.fn → I64 u.fn → Args w w.heap.size A t.args → Args w w.heap.size A2 u.args →
  Calls Tryz.prog 63 #[.agg #[.int .i64 t.fn, .slice A t.args.length c], .agg #[.int .i64 u.fn, .slice A2 u.args.length c2]] w fun e w' => e = .returned (.int .i64 (cmpT t u)) ∧ Below w.heap.size w w'
theorem head_ne {f g : Int} (h : f ≠ g) : headI f g = if f < 0 ∧ g < 0 then (if g < f then -1 else 1) else if f < g then -1 else 1 := by unfold headI; rw [if_neg h]
theorem head_nz {f g : Int} (h : f ≠ g) : ¬ headI f g = 0 := by
  rw [head_ne h]
  split
  · split <;> omega
  · split <;> omega
set_option maxHeartbeats 2000000 in
theorem ref2Cmp_any (t : Tm) : RCmp t := by
  refine Tm.ind (P := RCmp) (fun f xs ih => ?_) t
  intro u A A2 c c2 w hf hg hA hA2
  obtain ⟨g, ys⟩ := u
  simp only [Tm.fn, Tm.args] at hf hg hA hA2 ⊢
  have hl1 := hA.len
  have hl2 := hA2.len
  obtain ⟨p0, p1⟩ := heap2 w (.cells #[.int .i64 f, .slice A xs.length c] 36) (.cells #[.int .i64 g, .slice A2 ys.length c2] 36)
  obtain ⟨W, hW⟩ : ∃ W, ((w.alloc (.cells #[.int .i64 f, .slice A xs.length c] 36)).alloc (.cells #[.int .i64 g, .slice A2 ys.length c2] 36)) = W := ⟨_, rfl⟩
  have hB : Below w.heap.size w W := by rw [← hW]; exact ((Below.refl _ _).alloc (Nat.le_refl _) _).alloc (by simp) _
  rw [hW] at p0 p1
  have hWs : w.heap.size + 1 < W.heap.size := (Array.getElem?_eq_some_iff.1 p1).1
  have HW := Lib.hid hW
  have hA' := Lib.hid (hA.on hB)
  have hA2' := Lib.hid (hA2.on hB)
  have hSS : ∀ w', Below W.heap.size W w' → w'.cell? ⟨w.heap.size, 0, none⟩ = some (.int .i64 f) ∧ w'.cell? ⟨w.heap.size, 1, none⟩ = some (.slice A xs.length c) ∧ w'.cell? ⟨w.heap.size + 1, 0, none⟩ = some (.int .i64 g) ∧ w'.cell? ⟨w.heap.size + 1, 1, none⟩ = some (.slice A2 ys.length c2) := fun w' h =>
    ⟨(cells_two ((h.block _ (by omega)).trans p0)).1, (cells_two ((h.block _ (by omega)).trans p0)).2.1, (cells_two ((h.block _ hWs).trans p1)).1, (cells_two ((h.block _ hWs).trans p1)).2.1⟩
  obtain ⟨x0, x1, x2, x3⟩ := hSS W (Below.refl _ _)
  clear hW hA hA2 p0 p1
  by_cases hfg : f = g
  · subst hfg
    have hh : headI f f = 0 := by unfold headI; rw [if_pos rfl]
    go_enter Tryz.func63, Tryz.ntmps63
    go_upto_region 1 with fail
    rw [HW.out]
    go_wp2
    clear x0 x1 x2 x3
    go_loopw [5] (fun i wr => ∃ k : Nat, k ≤ xs.length ∧ k ≤ ys.length ∧ i = .int .i64 (k : Int) ∧ Below W.heap.size W wr ∧ Hid (∀ (j : Nat) (x y : Tm), j < k → xs[j]? = some x → ys[j]? = some y → cmpT x y = 0)) (fun i _ => xs.length - (intOf i).toNat)
    case atStart => exact ⟨0, Nat.zero_le _, Nat.zero_le _, rfl, Below.refl _ _, fun j x y h => by omega⟩
    case round =>
      obtain ⟨k, hk, hk2, rfl, hBr, H⟩ := hrel
      obtain ⟨_, x1, _, x3⟩ := hSS _ hBr
      by_cases hkl : k < xs.length ∧ k < ys.length
      · obtain ⟨hkx, hky⟩ := hkl
        obtain ⟨a, ha⟩ : ∃ a, xs[k]? = some a := ⟨_, List.getElem?_eq_getElem hkx⟩
        obtain ⟨b, hb⟩ : ∃ b, ys[k]? = some b := ⟨_, List.getElem?_eq_getElem hky⟩
        obtain ⟨bb, off, A', c', rfl, h1⟩ := (hA'.out.on hBr).get ha
        obtain ⟨bb2, off2, A2', c2', rfl, h2⟩ := (hA2'.out.on hBr).get hb
        have a0 := h1.c0
        have a1 := h1.c1
        have b0 := h2.c0
        have b1 := h2.c1
        have q1 := h1.hb
        have q2 := h2.hb
        have i1 := h1.hi
        have i2 := h2.hi
        have s1 : Hid (Args wr.drew wr.drew.heap.size A' a.args) := h1.sub.drewN 1
        have s2 : Hid (Args wr.drew wr.drew.heap.size A2' b.args) := h2.sub.drewN 1
        have Hab := Lib.hid (And.intro ha hb)
        have hia := ih a (List.mem_of_getElem? ha)
        clear ha hb h1 h2
        by_cases h0 : cmpT a b = 0
        · go_wp2
          go_region_held3 (fun w' => w'.cell? ⟨w.heap.size, 1, none⟩ = some (.slice (some ⟨bb, off, none⟩) xs.length c) ∧ w'.cell? ⟨w.heap.size + 1, 1, none⟩ = some (.slice (some ⟨bb2, off2, none⟩) ys.length c2) ∧ w'.cell? ⟨bb, off + k * 2, none⟩ = some (.int .i64 a.fn) ∧ w'.cell? ⟨bb, off + k * 2 + 1, none⟩ = some (.slice A' a.args.length c') ∧ w'.cell? ⟨bb2, off2 + k * 2, none⟩ = some (.int .i64 b.fn) ∧ w'.cell? ⟨bb2, off2 + k * 2 + 1, none⟩ = some (.slice A2' b.args.length c2'))
            (first | exact ⟨x1, x3, a0, a1, b0, b1⟩ | exact ⟨(hSS _ hB1).2.1, (hSS _ hB1).2.2.2, cell_on hb1 q1 a0, cell_on hb1 q1 a1, cell_on hb1 q2 b0, cell_on hb1 q2 b1⟩ | fail)
            (first
              | (go_at_call 63; refine (hia b A' A2' c' c2' wr.drew i1 i2 s1.out s2.out).mono ?_; rintro e w1 ⟨rfl, hb1'⟩; have hb1 : Below wr.heap.size wr w1 := ⟨hb1'.os, hb1'.tape, hb1'.output, hb1'.size, hb1'.block⟩; have hB1 := bl_step hBr hb1; rw [h0])
              | fail)
          go_wp2
          go_roundw
          case rel =>
            refine ⟨k + 1, by omega, by omega, by go_num, hB1, fun j x y hj hx hy => ?_⟩
            by_cases e : j = k
            · subst e
              obtain ⟨e1, e2⟩ := Hab.out
              rw [hx] at e1; rw [hy] at e2
              cases e1; cases e2
              exact h0
            · exact H.out j x y (by omega) hx hy
          case measure => simp [intOf]; omega
        · have hcl := cmpL_hit Hab.out.1 Hab.out.2 H.out h0
          have hh2 := Lib.hid (show cmpT (.node f xs) (.node f ys) = cmpT a b by rw [cmpT_c hh (by rw [hcl]; exact h0), hcl])
          clear hcl
          go_wp2
          go_region_held3 (fun w' => w'.cell? ⟨w.heap.size, 1, none⟩ = some (.slice (some ⟨bb, off, none⟩) xs.length c) ∧ w'.cell? ⟨w.heap.size + 1, 1, none⟩ = some (.slice (some ⟨bb2, off2, none⟩) ys.length c2) ∧ w'.cell? ⟨bb, off + k * 2, none⟩ = some (.int .i64 a.fn) ∧ w'.cell? ⟨bb, off + k * 2 + 1, none⟩ = some (.slice A' a.args.length c') ∧ w'.cell? ⟨bb2, off2 + k * 2, none⟩ = some (.int .i64 b.fn) ∧ w'.cell? ⟨bb2, off2 + k * 2 + 1, none⟩ = some (.slice A2' b.args.length c2'))
            (first | exact ⟨x1, x3, a0, a1, b0, b1⟩ | exact ⟨(hSS _ hB1).2.1, (hSS _ hB1).2.2.2, cell_on hb1 q1 a0, cell_on hb1 q1 a1, cell_on hb1 q2 b0, cell_on hb1 q2 b1⟩ | fail)
            (first
              | (go_at_call 63; refine (hia b A' A2' c' c2' wr.drew i1 i2 s1.out s2.out).mono ?_; rintro e w1 ⟨rfl, hb1'⟩; have hb1 : Below wr.heap.size wr w1 := ⟨hb1'.os, hb1'.tape, hb1'.output, hb1'.size, hb1'.block⟩; have hB1 := bl_step hBr hb1)
              | fail)
          go_wp2
          go_ret
          exact ⟨ret_int hh2.out.symm, hB.trans (hB1.mono hB.size)⟩
      · have hcl : cmpL xs ys = 0 := cmpL_miss fun j x y hx hy => H.out j x y (by have h1 := (List.getElem?_eq_some_iff.1 hx).1; have h2 := (List.getElem?_eq_some_iff.1 hy).1; omega) hx hy
        have hh2 := Lib.hid (cmpT_n hh hcl : cmpT (.node f xs) (.node f ys) = numI xs.length ys.length)
        clear hcl
        rcases Nat.lt_trichotomy xs.length ys.length with h | h | h
        · have e : numI xs.length ys.length = -1 := by unfold numI; rw [if_pos (by omega)]
          have e := Lib.hid e
          go_wp2
          go_ret
          exact ⟨ret_int (by rw [hh2.out, e.out]), hB.trans (hBr.mono hB.size)⟩
        · have e : numI xs.length ys.length = 0 := by unfold numI; rw [if_neg (by omega), if_neg (by omega)]
          have e := Lib.hid e
          go_wp2
          go_ret
          exact ⟨ret_int (by rw [hh2.out, e.out]), hB.trans (hBr.mono hB.size)⟩
        · have e : numI xs.length ys.length = 1 := by unfold numI; rw [if_neg (by omega), if_pos (by omega)]
          have e := Lib.hid e
          go_wp2
          go_ret
          exact ⟨ret_int (by rw [hh2.out, e.out]), hB.trans (hBr.mono hB.size)⟩
  · have hh := Lib.hid ((cmpT_h (head_nz hfg) : cmpT (.node f xs) (.node g ys) = headI f g).trans (head_ne hfg))
    by_cases h1 : f < 0 ∧ g < 0
    · obtain ⟨h1, h2⟩ := h1
      by_cases h3 : g < f
      all_goals
        go_enter Tryz.func63, Tryz.ntmps63
        go_upto_region 1 with fail
        rw [HW.out]
        go_wp2
        go_ret
        exact ⟨ret_int (by rw [hh.out, if_pos ⟨h1, h2⟩]; first | rw [if_pos (by omega)] | rw [if_neg (by omega)]), hB⟩
    · by_cases h2 : f < 0
      · have h3 : ¬ g < 0 := fun e => h1 ⟨h2, e⟩
        have h4 : f < g := by omega
        go_enter Tryz.func63, Tryz.ntmps63
        go_upto_region 1 with fail
        rw [HW.out]
        go_wp2
        go_ret
        exact ⟨ret_int (by rw [hh.out, if_neg h1, if_pos h4]), hB⟩
      · by_cases h4 : f < g
        all_goals
          go_enter Tryz.func63, Tryz.ntmps63
          go_upto_region 1 with fail
          rw [HW.out]
          go_wp2
          go_ret
          exact ⟨ret_int (by rw [hh.out, if_neg h1]; first | rw [if_pos (by omega)] | rw [if_neg (by omega)]), hB⟩
theorem ref2Cmp_at (t u : Tm) (A A2 : Option Addr) (c c2 : Nat) (w : World) (hf : I64 t.fn) (hg : I64 u.fn) (hA : Args w w.heap.size A t.args) (hA2 : Args w w.heap.size A2 u.args) :
    Calls Tryz.prog 63 #[.agg #[.int .i64 t.fn, .slice A t.args.length c], .agg #[.int .i64 u.fn, .slice A2 u.args.length c2]] w fun e w' => e = .returned (.int .i64 (cmpT t u)) ∧ Below w.heap.size w w' :=
  ref2Cmp_any t u A A2 c c2 w hf hg hA hA2
theorem ref2Same_any' (t u : Tm) (A A2 : Option Addr) (c c2 : Nat) (w : World) (hf : I64 t.fn) (hg : I64 u.fn) (hA : Args w w.heap.size A t.args) (hA2 : Args w w.heap.size A2 u.args) :
    Calls Tryz.prog 43 #[.agg #[.int .i64 t.fn, .slice A t.args.length c], .agg #[.int .i64 u.fn, .slice A2 u.args.length c2]] w fun e w' => e = .returned (.bool (decide (cmpT t u = 0))) ∧ Below w.heap.size w w' := by
  have hWB : Below w.heap.size w ((w.alloc (.cells #[.int .i64 t.fn, .slice A t.args.length c] 36)).alloc (.cells #[.int .i64 u.fn, .slice A2 u.args.length c2] 36)) := ((Below.refl _ _).alloc (Nat.le_refl _) _).alloc (by simp) _
  go_enter Tryz.func43, Tryz.ntmps43
  go_wp2_with (first
    | (go_at_call 63; refine (ref2Cmp_at t u A A2 c c2 _ hf hg (hA.on hWB) (hA2.on hWB)).mono ?_; rintro e w1 ⟨rfl, hb1⟩; have hB1 := bl_step hWB hb1)
    | fail)
  go_ret
  exact ⟨rfl, hB1⟩
end Go.Proofs.YthgglobfkkcdgaaGreat
namespace Go.Proofs.YthgglobfkkcdgaaGreat
open Go.RowKit Go.Shelf Go.Maps
set_option maxRecDepth 100000
def arnT (f v : Int) : Tm → Bool
  | .node g [x] => (g == f) && (x.fn == v || arnT f v x)
  | _ => false
theorem arnT_one {f v g : Int} {x : Tm} : arnT f v (.node g [x]) = ((g == f) && (x.fn == v || arnT f v x)) := by rw [arnT]
theorem arnT_no {f v : Int} {t : Tm} (h : ¬ t.args.length = 1) : arnT f v t = false := by
  obtain ⟨g, xs⟩ := t
  match xs, h with
  | [], _ => rw [arnT]; intro _ _ e; cases e
  | [x], h => exact absurd rfl h
  | x :: y :: ys, _ => rw [arnT]; intro _ _ e; cases e
theorem arnT_top {f v : Int} {t : Tm} (h : ¬ t.fn = f) : arnT f v t = false := by
  by_cases h1 : t.args.length = 1
  · obtain ⟨g, xs⟩ := t
    match xs, h1 with
    | [x], _ =>
      rw [arnT_one, show (g == f) = false by simpa [Tm.fn] using h, Bool.false_and]
  · exact arnT_no h1
theorem arnT_yes {f v : Int} {t x : Tm} (h : t.fn = f) (h1 : t.args.length = 1) (hx : t.args[0]? = some x) : arnT f v t = (x.fn == v || arnT f v x) := by
  obtain ⟨g, xs⟩ := t
  match xs, h1, hx with
  | [y], _, hx =>
    simp only [Tm.args, List.getElem?_cons_zero, Option.some.injEq] at hx
    subst hx
    rw [arnT_one, show (g == f) = true by simpa [Tm.fn] using h, Bool.true_and]
def RArn (f v : Int) (t : Tm) : Prop := ∀ (A : Option Addr) (c : Nat) (w : World), I64 t.fn → Args w w.heap.size A t.args →
  Calls Tryz.prog 77 #[.agg #[.int .i64 t.fn, .slice A t.args.length c], .int .i64 f, .int .i64 v] w fun e w' => e = .returned (.bool (arnT f v t)) ∧ Below w.heap.size w w'
set_option maxHeartbeats 2000000 in
theorem refAround_any (f v : Int) (t : Tm) : RArn f v t := by
  refine Tm.ind (P := RArn f v) (fun f0 xs0 ih0 => ?_) t
  have ih : ∀ x ∈ (Tm.node f0 xs0).args, RArn f v x := ih0
  generalize Tm.node f0 xs0 = s at ih ⊢
  clear ih0
  intro A c w hf hA
  have hlen := hA.len
  obtain ⟨W, hW⟩ : ∃ W, w.alloc (.cells #[.int .i64 s.fn, .slice A s.args.length c] 36) = W := ⟨_, rfl⟩
  obtain ⟨hB, hlt, hS⟩ := box_term hW
  have HW := Lib.hid hW
  obtain ⟨x0, x1⟩ := hS W (Below.refl _ _)
  clear hW hS
  by_cases h1 : s.fn = f
  · have g1 : (s.fn != f) = false := by simp [h1]
    by_cases h2 : s.args.length = 1
    · obtain ⟨x, hx⟩ : ∃ x, s.args[0]? = some x := ⟨_, List.getElem?_eq_getElem (by omega)⟩
      have hfin := Lib.hid (arnT_yes (v := v) h1 h2 hx)
      obtain ⟨bb, off, A1, c1, rfl, ha⟩ := (hA.on hB).get hx
      have e0 := ha.c0
      have e1 := ha.c1
      rw [Nat.zero_mul, Nat.add_zero] at e0 e1
      have H1 := ih x (List.mem_of_getElem? hx) A1 c1 W ha.hi ha.sub
      have g2 : ((s.args.length : Int) != 1) = false := by simp [h2]
      have hl0 : 0 < s.args.length := by omega
      by_cases h3 : x.fn = v
      · have g3 : (x.fn == v) = true := by rw [beq_iff_eq]; exact h3
        rw [g3, Bool.true_or] at hfin
        clear h1 h2 h3 hx ha H1 hA
        go_enter Tryz.func77, Tryz.ntmps77
        go_upto_region 1 with fail
        rw [HW.out]
        go_wp2
        go_ret
        exact ⟨by rw [hfin.out]; rfl, hB⟩
      · have g3 : (x.fn == v) = false := by simp [h3]
        rw [g3, Bool.false_or] at hfin
        have H1 := Lib.hid H1
        clear h1 h2 h3 hx ha hA
        go_enter Tryz.func77, Tryz.ntmps77
        go_upto_region 1 with fail
        rw [HW.out]
        go_wp2_with (first
          | (go_at_call 77; (with_reducible refine H1.out.mono ?_); go_must (rintro e w1 ⟨rfl, hb1⟩))
          | fail)
        go_ret
        exact ⟨by rw [hfin.out]; rfl, hB.trans (hb1.mono hB.size)⟩
    · have hfin := Lib.hid (arnT_no (f := f) (v := v) h2)
      have g2 : ((s.args.length : Int) != 1) = true := by simp; omega
      clear h1 h2
      go_enter Tryz.func77, Tryz.ntmps77
      go_upto_region 1 with fail
      rw [HW.out]
      go_wp2
      go_ret
      exact ⟨by rw [hfin.out]; rfl, hB⟩
  · have hfin := Lib.hid (arnT_top (v := v) h1)
    have g1 : (s.fn != f) = true := by simp [h1]
    clear h1
    go_enter Tryz.func77, Tryz.ntmps77
    go_upto_region 1 with fail
    rw [HW.out]
    go_wp2
    go_ret
    exact ⟨by rw [hfin.out]; rfl, hB⟩
end Go.Proofs.YthgglobfkkcdgaaGreat
namespace Go.Proofs.YthgglobfkkcdgaaGreat
open Go.RowKit Go.Shelf Go.Maps
set_option maxRecDepth 100000
theorem box_ott {w W : World} {o : Odr} {s t : Tm} {P Q A A2 : Option Addr} {pc qc c c2 : Nat} (hW : ((w.alloc (.cells #[.bool o.lpo, .slice P o.prec.length pc, .slice Q o.wts.length qc, .int .i64 o.var] 24)).alloc (.cells #[.int .i64 s.fn, .slice A s.args.length c] 36)).alloc (.cells #[.int .i64 t.fn, .slice A2 t.args.length c2] 36) = W) :
    Below w.heap.size w W ∧ W.heap.size = w.heap.size + 3 ∧ ∀ w', Below W.heap.size W w' → w'.cell? ⟨w.heap.size, 0, none⟩ = some (.bool o.lpo) ∧ w'.cell? ⟨w.heap.size, 1, none⟩ = some (.slice P o.prec.length pc) ∧ w'.cell? ⟨w.heap.size, 2, none⟩ = some (.slice Q o.wts.length qc) ∧ w'.cell? ⟨w.heap.size, 3, none⟩ = some (.int .i64 o.var) ∧
      w'.cell? ⟨w.heap.size + 1, 0, none⟩ = some (.int .i64 s.fn) ∧ w'.cell? ⟨w.heap.size + 1, 1, none⟩ = some (.slice A s.args.length c) ∧ w'.cell? ⟨w.heap.size + 2, 0, none⟩ = some (.int .i64 t.fn) ∧ w'.cell? ⟨w.heap.size + 2, 1, none⟩ = some (.slice A2 t.args.length c2) := by
  obtain ⟨q0, q1, q2⟩ := heap3 w (.cells #[.bool o.lpo, .slice P o.prec.length pc, .slice Q o.wts.length qc, .int .i64 o.var] 24) (.cells #[.int .i64 s.fn, .slice A s.args.length c] 36) (.cells #[.int .i64 t.fn, .slice A2 t.args.length c2] 36)
  rw [hW] at q0 q1 q2
  have hz : W.heap.size = w.heap.size + 3 := by rw [← hW]; simp
  refine ⟨by rw [← hW]; exact (((Below.refl _ _).alloc (Nat.le_refl _) _).alloc (by simp) _).alloc (by simp; omega) _, hz, fun w' hb => ?_⟩
  obtain ⟨a0, a1, a2, a3⟩ := cells_four ((hb.block _ (by omega)).trans q0)
  obtain ⟨b0, b1, _, _⟩ := cells_two ((hb.block _ (by omega)).trans q1)
  obtain ⟨d0, d1, _, _⟩ := cells_two ((hb.block _ (by omega)).trans q2)
  exact ⟨a0, a1, a2, a3, b0, b1, d0, d1⟩
end Go.Proofs.YthgglobfkkcdgaaGreat
namespace Go.Proofs.YthgglobfkkcdgaaGreat
open Go.RowKit Go.Shelf Go.Maps
set_option maxRecDepth 100000
mutual
def abvT (o : Odr) : Tm → Tm → Bool
  | .node f xs, t => covU (.node f xs) t t && (if capI (wsT o (.node f xs)) = capI (wsT o t) then
      (if f < 0 then false else if t.fn < 0 then arnT f t.fn (.node f xs) else if f = t.fn then abvL o xs t.args else decide (o.prec.getD t.fn.toNat 0 < o.prec.getD f.toNat 0)) else decide (capI (wsT o t) < capI (wsT o (.node f xs))))
def abvL (o : Odr) : List Tm → List Tm → Bool
  | [], _ => false
  | _ :: _, [] => true
  | x :: xs, y :: ys => if cmpT x y = 0 then abvL o xs ys else abvT o x y
end
theorem abvT_eq (o : Odr) (s t : Tm) : abvT o s t = (covU s t t && (if capI (wsT o s) = capI (wsT o t) then
      (if s.fn < 0 then false else if t.fn < 0 then arnT s.fn t.fn s else if s.fn = t.fn then abvL o s.args t.args else decide (o.prec.getD t.fn.toNat 0 < o.prec.getD s.fn.toNat 0)) else decide (capI (wsT o t) < capI (wsT o s)))) := by
  obtain ⟨f, xs⟩ := s
  rw [abvT]; rfl
theorem abvL_same {o : Odr} {xs ys : List Tm} {k : Nat} {u v : Tm} (hu : xs[k]? = some u) (hv : ys[k]? = some v) (h : cmpT u v = 0) : abvL o (xs.drop k) (ys.drop k) = abvL o (xs.drop (k + 1)) (ys.drop (k + 1)) := by
  obtain ⟨h1, h2⟩ := List.getElem?_eq_some_iff.1 hu
  obtain ⟨h3, h4⟩ := List.getElem?_eq_some_iff.1 hv
  rw [List.drop_eq_getElem_cons h1, h2, List.drop_eq_getElem_cons h3, h4, abvL, if_pos h]
theorem abvL_other {o : Odr} {xs ys : List Tm} {k : Nat} {u v : Tm} (hu : xs[k]? = some u) (hv : ys[k]? = some v) (h : ¬ cmpT u v = 0) : abvL o (xs.drop k) (ys.drop k) = abvT o u v := by
  obtain ⟨h1, h2⟩ := List.getElem?_eq_some_iff.1 hu
  obtain ⟨h3, h4⟩ := List.getElem?_eq_some_iff.1 hv
  rw [List.drop_eq_getElem_cons h1, h2, List.drop_eq_getElem_cons h3, h4, abvL, if_neg h]
theorem abvL_end {o : Odr} {xs ys : List Tm} {k : Nat} (h1 : k ≤ xs.length) (h2 : k ≤ ys.length) (h : ¬ (k < xs.length ∧ k < ys.length)) : abvL o (xs.drop k) (ys.drop k) = decide (ys.length < xs.length) := by
  by_cases hx : k < xs.length
  · have hy : ys.drop k = [] := List.drop_eq_nil_of_le (by omega)
    rw [hy, List.drop_eq_getElem_cons hx, abvL, decide_eq_true (by omega)]
  · have hx0 : xs.drop k = [] := List.drop_eq_nil_of_le (by omega)
    rw [hx0, abvL, decide_eq_false (by omega)]
def RAbv (o : Odr) (s : Tm) : Prop := ∀ t : Tm, knowT o s = true → knowT o t = true → s.size ≤ 1073741824 → t.size ≤ 1073741824 → I64 s.fn → I64 t.fn → ∀ (P Q A A2 : Option Addr) (pc qc c c2 : Nat) (w : World), OdrM w w.heap.size o P Q → Args w w.heap.size A s.args → Args w w.heap.size A2 t.args →
  Calls Tryz.prog 52 #[.agg #[.bool o.lpo, .slice P o.prec.length pc, .slice Q o.wts.length qc, .int .i64 o.var], .agg #[.int .i64 s.fn, .slice A s.args.length c], .agg #[.int .i64 t.fn, .slice A2 t.args.length c2]] w fun e w' => e = .returned (.bool (abvT o s t)) ∧ Below w.heap.size w w'
set_option maxHeartbeats 8000000 in
theorem refAbove_any (o : Odr) (s : Tm) : RAbv o s := by
  refine Tm.ind (P := RAbv o) (fun f0 xs0 ih0 => ?_) s
  have ih : ∀ x ∈ (Tm.node f0 xs0).args, RAbv o x := ih0
  generalize Tm.node f0 xs0 = s at ih ⊢
  clear ih0
  intro t hks hkt hzs hzt hfs hft P Q A A2 pc qc c c2 w hM hA hA2
  have hlen := hA.len
  have hlen2 := hA2.len
  obtain ⟨W, hW⟩ : ∃ W, (((w.alloc (.cells #[.bool o.lpo, .slice P o.prec.length pc, .slice Q o.wts.length qc, .int .i64 o.var] 24)).alloc (.cells #[.int .i64 s.fn, .slice A s.args.length c] 36)).alloc (.cells #[.int .i64 t.fn, .slice A2 t.args.length c2] 36)) = W := ⟨_, rfl⟩
  obtain ⟨hB, hz, hS⟩ := box_ott hW
  have HW := Lib.hid hW
  obtain ⟨x0, x1, x2, x3, x4, x5, x6, x7⟩ := hS W (Below.refl _ _)
  have HS := Lib.hid hS
  have HA := Lib.hid hA
  have HA2 := Lib.hid hA2
  have HM := Lib.hid hM
  have Hks := Lib.hid hks
  have Hkt := Lib.hid hkt
  have Habv := Lib.hid (abvT_eq o s t)
  have h1 := refCovers_any s t hzs hzt hfs hft t A A2 A2 c c2 c2 W hft (hA.on hB) (hA2.on hB) (hA2.on hB)
  clear hW hS hA hA2 hM hks hkt
  cases hcv : covU s t t with
  | false =>
    have hfin := Lib.hid (show abvT o s t = false by rw [Habv.out, hcv, Bool.false_and])
    rw [hcv] at h1
    have H1 := Lib.hid h1
    clear h1 hcv
    go_enter Tryz.func52, Tryz.ntmps52
    go_upto_region 1 with fail
    rw [HW.out]
    go_wp2_with (first
      | (go_at_call 75; (with_reducible refine H1.out.mono ?_); go_must (rintro e w1 ⟨rfl, hb1⟩))
      | fail)
    go_ret
    exact ⟨by rw [hfin.out]; rfl, hB.trans (hb1.mono hB.size)⟩
  | true =>
    rw [hcv] at h1
    have H1 := Lib.hid h1
    have Habv : Hid (abvT o s t = _) := Lib.hid (by rw [Habv.out, hcv, Bool.true_and])
    clear h1 hcv
    go_enter Tryz.func52, Tryz.ntmps52
    go_upto_region 1 with fail
    rw [HW.out]
    go_upto_region 3 with (first
      | (go_at_call 75; (with_reducible refine H1.out.mono ?_); go_must (rintro e w1 ⟨rfl, hb1⟩))
      | fail)
    have hBw1 := hB.trans (hb1.mono hB.size)
    have hM1 := HM.out.on hBw1
    have hA1 := HA.out.on hBw1
    have hA21 := HA2.out.on hBw1
    have HW1 : Hid (∀ y : Later w1.heap.size w1, Calls Tryz.prog 76 #[.agg #[.bool o.lpo, .slice P o.prec.length pc, .slice Q o.wts.length qc, .int .i64 o.var], .agg #[.int .i64 s.fn, .slice A s.args.length c]] y.w fun e w' => e = .returned (.int .i64 (capI (wsT o s))) ∧ Below y.w.heap.size y.w w') := Lib.hid fun y => refWgt_any o s Hks.out P Q A pc qc c y.w (hM1.on y.h) hfs (hA1.on y.h)
    have HW2 : Hid (∀ y : Later w1.heap.size w1, Calls Tryz.prog 76 #[.agg #[.bool o.lpo, .slice P o.prec.length pc, .slice Q o.wts.length qc, .int .i64 o.var], .agg #[.int .i64 t.fn, .slice A2 t.args.length c2]] y.w fun e w' => e = .returned (.int .i64 (capI (wsT o t))) ∧ Below y.w.heap.size y.w w') := Lib.hid fun y => refWgt_any o t Hkt.out P Q A2 pc qc c2 y.w (hM1.on y.h) hft (hA21.on y.h)
    have m0 : ∀ y : Later w1.heap.size w1, y.w.cell? ⟨w.heap.size, 0, none⟩ = some (.bool o.lpo) := fun y => (HS.out y.w (hb1.trans (y.h.mono hb1.size))).1
    have m1 : ∀ y : Later w1.heap.size w1, y.w.cell? ⟨w.heap.size, 1, none⟩ = some (.slice P o.prec.length pc) := fun y => (HS.out y.w (hb1.trans (y.h.mono hb1.size))).2.1
    have m2 : ∀ y : Later w1.heap.size w1, y.w.cell? ⟨w.heap.size, 2, none⟩ = some (.slice Q o.wts.length qc) := fun y => (HS.out y.w (hb1.trans (y.h.mono hb1.size))).2.2.1
    have m3 : ∀ y : Later w1.heap.size w1, y.w.cell? ⟨w.heap.size, 3, none⟩ = some (.int .i64 o.var) := fun y => (HS.out y.w (hb1.trans (y.h.mono hb1.size))).2.2.2.1
    have m4 : ∀ y : Later w1.heap.size w1, y.w.cell? ⟨w.heap.size + 1, 0, none⟩ = some (.int .i64 s.fn) := fun y => (HS.out y.w (hb1.trans (y.h.mono hb1.size))).2.2.2.2.1
    have m5 : ∀ y : Later w1.heap.size w1, y.w.cell? ⟨w.heap.size + 1, 1, none⟩ = some (.slice A s.args.length c) := fun y => (HS.out y.w (hb1.trans (y.h.mono hb1.size))).2.2.2.2.2.1
    have m6 : ∀ y : Later w1.heap.size w1, y.w.cell? ⟨w.heap.size + 2, 0, none⟩ = some (.int .i64 t.fn) := fun y => (HS.out y.w (hb1.trans (y.h.mono hb1.size))).2.2.2.2.2.2.1
    have m7 : ∀ y : Later w1.heap.size w1, y.w.cell? ⟨w.heap.size + 2, 1, none⟩ = some (.slice A2 t.args.length c2) := fun y => (HS.out y.w (hb1.trans (y.h.mono hb1.size))).2.2.2.2.2.2.2
    obtain ⟨va, hva⟩ : ∃ v, capI (wsT o s) = v := ⟨_, rfl⟩
    obtain ⟨vb, hvb⟩ : ∃ v, capI (wsT o t) = v := ⟨_, rfl⟩
    rw [hva] at HW1 Habv
    rw [hvb] at HW2 Habv
    clear hM1 hA1 hA21 hva hvb
    refine wp_region_later w1.heap.size w1 (by kernel_rfl) (by kernel_rfl) (bl_drewN (Below.refl _ _) 1) ?_
    repeat (go_big_quiet_step (first | (go_at_call 76; first | (with_reducible refine calls_later _ (Nat.le_refl _) (HW1.out _)) | (with_reducible refine calls_later _ (Nat.le_refl _) (HW2.out _))) | fail))
    refine wpQuiet_nil ?_
    rintro _ ⟨z, rfl⟩
    clear m0 m1 m2 m3 m4 m5 m6 m7 HW1 HW2
    have hBz : Below W.heap.size W z.w := hb1.trans (z.h.mono hb1.size)
    have hBwz := hB.trans (hBz.mono hB.size)
    have hMz := HM.out.on hBwz
    have hAz := HA.out.on hBwz
    have hA2z := HA2.out.on hBwz
    obtain ⟨y0, y1, y2, y3, y4, y5, y6, y7⟩ := HS.out z.w hBz
    have HMz := Lib.hid hMz
    have HAz := Lib.hid hAz
    have HA2z := Lib.hid hA2z
    clear hMz hAz hA2z
    by_cases hab : va = vb
    · have g1 : (va != vb) = false := by simp [hab]
      have Habv : Hid (abvT o s t = _) := Lib.hid (by rw [Habv.out, if_pos hab])
      clear hab
      by_cases hs0 : s.fn < 0
      · have hfin := Lib.hid (show abvT o s t = false by rw [Habv.out, if_pos hs0])
        go_wp2
        go_ret
        exact ⟨by rw [hfin.out]; rfl, hBwz⟩
      · have Habv : Hid (abvT o s t = _) := Lib.hid (by rw [Habv.out, if_neg hs0])
        by_cases ht0 : t.fn < 0
        · have hfin := Lib.hid (show abvT o s t = arnT s.fn t.fn s by rw [Habv.out, if_pos ht0])
          have H2 := Lib.hid (refAround_any s.fn t.fn s A c z.w hfs HAz.out)
          go_wp2_with (first
            | (go_at_call 77; (with_reducible refine H2.out.mono ?_); go_must (rintro e w2 ⟨rfl, hb2⟩))
            | fail)
          go_ret
          exact ⟨by rw [hfin.out]; rfl, hBwz.trans (hb2.mono hBwz.size)⟩
        · have Habv : Hid (abvT o s t = _) := Lib.hid (by rw [Habv.out, if_neg ht0])
          by_cases hst : s.fn = t.fn
          · have g2 : (s.fn != t.fn) = false := by simp [hst]
            have Habv : Hid (abvT o s t = abvL o s.args t.args) := Lib.hid (by rw [Habv.out, if_pos hst])
            clear hst
            go_wp2
            go_loopw [9] (fun i wr => ∃ k : Nat, k ≤ s.args.length ∧ k ≤ t.args.length ∧ i = .int .i64 (k : Int) ∧ Below W.heap.size W wr ∧ Hid (abvT o s t = abvL o (s.args.drop k) (t.args.drop k))) (fun i _ => s.args.length - (intOf i).toNat)
            case atStart => exact ⟨0, Nat.zero_le _, Nat.zero_le _, rfl, hBz, Habv⟩
            case round =>
              obtain ⟨k, hk, hk2, rfl, hBr, Hk⟩ := hrel
              obtain ⟨z0, z1, z2, z3, z4, z5, z6, z7⟩ := HS.out wr hBr
              have hBwr := hB.trans (hBr.mono hB.size)
              clear y0 y1 y2 y3 y4 y5 y6 y7
              by_cases hkl : k < s.args.length ∧ k < t.args.length
              · obtain ⟨hkl, hkl2⟩ := hkl
                obtain ⟨u, hu⟩ : ∃ u, s.args[k]? = some u := ⟨_, List.getElem?_eq_getElem hkl⟩
                obtain ⟨v, hv⟩ : ∃ v, t.args[k]? = some v := ⟨_, List.getElem?_eq_getElem hkl2⟩
                obtain ⟨bb, off, A1, c1, hAA, ha⟩ := (HA.out.on hBwr).get hu
                obtain ⟨bb2, off2, A3, c3, hAA2, ha2⟩ := (HA2.out.on hBwr).get hv
                have hMr := HM.out.on hBwr
                have hsu := size_mem (List.mem_of_getElem? hu)
                have hsv := size_mem (List.mem_of_getElem? hv)
                have hns := size_node s
                have hnt := size_node t
                have hku := knowL_mem (know_node Hks.out).2 (List.mem_of_getElem? hu)
                have hkv := knowL_mem (know_node Hkt.out).2 (List.mem_of_getElem? hv)
                have HI : Hid (∀ w2, Below wr.heap.size wr w2 → ∀ y : Later w2.heap.size w2, Calls Tryz.prog 52 #[.agg #[.bool o.lpo, .slice P o.prec.length pc, .slice Q o.wts.length qc, .int .i64 o.var], .agg #[.int .i64 u.fn, .slice A1 u.args.length c1], .agg #[.int .i64 v.fn, .slice A3 v.args.length c3]] y.w fun e w' => e = .returned (.bool (abvT o u v)) ∧ Below y.w.heap.size y.w w') := Lib.hid fun w2 hb2 y => ih u (List.mem_of_getElem? hu) v hku hkv (by omega) (by omega) ha.hi ha2.hi P Q A1 A3 pc qc c1 c3 y.w ((hMr.on hb2).on y.h) ((ha.sub.on hb2).on y.h) ((ha2.sub.on hb2).on y.h)
                have HE : Hid (∀ y : Later wr.heap.size wr, Calls Tryz.prog 43 #[.agg #[.int .i64 u.fn, .slice A1 u.args.length c1], .agg #[.int .i64 v.fn, .slice A3 v.args.length c3]] y.w fun e w' => e = .returned (.bool (decide (cmpT u v = 0))) ∧ Below y.w.heap.size y.w w') := Lib.hid fun y => ref2Same_any' u v A1 A3 c1 c3 y.w ha.hi ha2.hi (ha.sub.on y.h) (ha2.sub.on y.h)
                have HM7 : Hid (∀ w2, Below wr.heap.size wr w2 → (w2.cell? ⟨w.heap.size, 0, none⟩ = some (.bool o.lpo) ∧ w2.cell? ⟨w.heap.size, 1, none⟩ = some (.slice P o.prec.length pc) ∧ w2.cell? ⟨w.heap.size, 2, none⟩ = some (.slice Q o.wts.length qc) ∧ w2.cell? ⟨w.heap.size, 3, none⟩ = some (.int .i64 o.var) ∧ w2.cell? ⟨w.heap.size + 1, 1, none⟩ = some (.slice A s.args.length c) ∧ w2.cell? ⟨w.heap.size + 2, 1, none⟩ = some (.slice A2 t.args.length c2) ∧
                    w2.cell? ⟨bb, off + k * 2, none⟩ = some (.int .i64 u.fn) ∧ w2.cell? ⟨bb, off + k * 2 + 1, none⟩ = some (.slice A1 u.args.length c1) ∧ w2.cell? ⟨bb2, off2 + k * 2, none⟩ = some (.int .i64 v.fn) ∧ w2.cell? ⟨bb2, off2 + k * 2 + 1, none⟩ = some (.slice A3 v.args.length c3))) := Lib.hid fun w2 hb2 => by
                  obtain ⟨n0, n1, n2, n3, n4, n5, n6, n7⟩ := HS.out w2 (hBr.trans (hb2.mono hBr.size))
                  exact ⟨n0, n1, n2, n3, n5, n7, cell_on hb2 ha.hb ha.c0, cell_on hb2 ha.hb ha.c1, cell_on hb2 ha2.hb ha2.c0, cell_on hb2 ha2.hb ha2.c1⟩
                have m4 : ∀ y : Later wr.heap.size wr, y.w.cell? ⟨w.heap.size + 1, 1, none⟩ = some (.slice A s.args.length c) := fun y => (HM7.out y.w y.h).2.2.2.2.1
                have m5 : ∀ y : Later wr.heap.size wr, y.w.cell? ⟨w.heap.size + 2, 1, none⟩ = some (.slice A2 t.args.length c2) := fun y => (HM7.out y.w y.h).2.2.2.2.2.1
                have m6 : ∀ y : Later wr.heap.size wr, y.w.cell? ⟨bb, off + k * 2, none⟩ = some (.int .i64 u.fn) := fun y => (HM7.out y.w y.h).2.2.2.2.2.2.1
                have m7 : ∀ y : Later wr.heap.size wr, y.w.cell? ⟨bb, off + k * 2 + 1, none⟩ = some (.slice A1 u.args.length c1) := fun y => (HM7.out y.w y.h).2.2.2.2.2.2.2.1
                have m8 : ∀ y : Later wr.heap.size wr, y.w.cell? ⟨bb2, off2 + k * 2, none⟩ = some (.int .i64 v.fn) := fun y => (HM7.out y.w y.h).2.2.2.2.2.2.2.2.1
                have m9 : ∀ y : Later wr.heap.size wr, y.w.cell? ⟨bb2, off2 + k * 2 + 1, none⟩ = some (.slice A3 v.args.length c3) := fun y => (HM7.out y.w y.h).2.2.2.2.2.2.2.2.2
                subst hAA; subst hAA2
                by_cases heq : cmpT u v = 0
                · rw [decide_eq_true heq] at HE
                  have Hn : Hid (abvT o s t = abvL o (s.args.drop (k + 1)) (t.args.drop (k + 1))) := Lib.hid (by rw [Hk.out, abvL_same hu hv heq])
                  clear heq hu hv ha ha2 hMr hku hkv hsu hsv hns hnt HI HM7
                  go_upto_region 15 with fail
                  refine wp_region_later wr.heap.size wr (by kernel_rfl) (by kernel_rfl) (bl_drewN (Below.refl _ _) 1) ?_
                  repeat (go_big_quiet_step (first | (go_at_call 43; with_reducible refine calls_later _ (Nat.le_refl _) (HE.out _)) | fail))
                  refine wpQuiet_nil ?_
                  rintro _ ⟨z', rfl⟩
                  clear m4 m5 m6 m7 m8 m9
                  go_wp2
                  go_roundw
                  case rel => exact ⟨k + 1, by omega, by omega, by go_num, hBr.trans (z'.h.mono hBr.size), Hn⟩
                  case measure => simp [intOf]; omega
                · rw [decide_eq_false heq] at HE
                  have Hn : Hid (abvT o s t = abvT o u v) := Lib.hid (by rw [Hk.out, abvL_other hu hv heq])
                  clear heq hu hv ha ha2 hMr hku hkv hsu hsv hns hnt
                  go_upto_region 15 with fail
                  refine wp_region_later wr.heap.size wr (by kernel_rfl) (by kernel_rfl) (bl_drewN (Below.refl _ _) 1) ?_
                  repeat (go_big_quiet_step (first | (go_at_call 43; with_reducible refine calls_later _ (Nat.le_refl _) (HE.out _)) | fail))
                  refine wpQuiet_nil ?_
                  rintro _ ⟨z', rfl⟩
                  clear m4 m5 m6 m7 m8 m9
                  have HI := Lib.hid (HI.out z'.w z'.h)
                  have HM8 : Hid (∀ y : Later z'.w.heap.size z'.w, _) := Lib.hid fun y => HM7.out y.w (z'.h.trans (y.h.mono z'.h.size))
                  have m0 : ∀ y : Later z'.w.heap.size z'.w, y.w.cell? ⟨w.heap.size, 0, none⟩ = some (.bool o.lpo) := fun y => (HM8.out y).1
                  have m1 : ∀ y : Later z'.w.heap.size z'.w, y.w.cell? ⟨w.heap.size, 1, none⟩ = some (.slice P o.prec.length pc) := fun y => (HM8.out y).2.1
                  have m2 : ∀ y : Later z'.w.heap.size z'.w, y.w.cell? ⟨w.heap.size, 2, none⟩ = some (.slice Q o.wts.length qc) := fun y => (HM8.out y).2.2.1
                  have m3 : ∀ y : Later z'.w.heap.size z'.w, y.w.cell? ⟨w.heap.size, 3, none⟩ = some (.int .i64 o.var) := fun y => (HM8.out y).2.2.2.1
                  have m4 : ∀ y : Later z'.w.heap.size z'.w, y.w.cell? ⟨w.heap.size + 1, 1, none⟩ = some (.slice (some ⟨bb, off, none⟩) s.args.length c) := fun y => (HM8.out y).2.2.2.2.1
                  have m5 : ∀ y : Later z'.w.heap.size z'.w, y.w.cell? ⟨w.heap.size + 2, 1, none⟩ = some (.slice (some ⟨bb2, off2, none⟩) t.args.length c2) := fun y => (HM8.out y).2.2.2.2.2.1
                  have m6 : ∀ y : Later z'.w.heap.size z'.w, y.w.cell? ⟨bb, off + k * 2, none⟩ = some (.int .i64 u.fn) := fun y => (HM8.out y).2.2.2.2.2.2.1
                  have m7 : ∀ y : Later z'.w.heap.size z'.w, y.w.cell? ⟨bb, off + k * 2 + 1, none⟩ = some (.slice A1 u.args.length c1) := fun y => (HM8.out y).2.2.2.2.2.2.2.1
                  have m8 : ∀ y : Later z'.w.heap.size z'.w, y.w.cell? ⟨bb2, off2 + k * 2, none⟩ = some (.int .i64 v.fn) := fun y => (HM8.out y).2.2.2.2.2.2.2.2.1
                  have m9 : ∀ y : Later z'.w.heap.size z'.w, y.w.cell? ⟨bb2, off2 + k * 2 + 1, none⟩ = some (.slice A3 v.args.length c3) := fun y => (HM8.out y).2.2.2.2.2.2.2.2.2
                  go_upto_region 16 with fail
                  refine wp_region_later z'.w.heap.size z'.w (by kernel_rfl) (by kernel_rfl) (bl_drewN (Below.refl _ _) 1) ?_
                  repeat (go_big_quiet_step (first | (go_at_call 52; with_reducible refine calls_later _ (Nat.le_refl _) (HI.out _)) | fail))
                  refine wpQuiet_nil ?_
                  rintro _ ⟨z'', rfl⟩
                  clear m0 m1 m2 m3 m4 m5 m6 m7 m8 m9
                  go_wp2
                  go_ret
                  exact ⟨by rw [Hn.out]; rfl, (hBwr.trans (z'.h.mono hBwr.size)).trans (z''.h.mono (Nat.le_trans hBwr.size z'.h.size))⟩
              · have hfin := Lib.hid (show abvT o s t = decide (t.args.length < s.args.length) by rw [Hk.out, abvL_end hk hk2 hkl])
                by_cases hk1 : k < s.args.length
                · have hk3 : ¬ k < t.args.length := fun h => hkl ⟨hk1, h⟩
                  clear hkl
                  go_wp2
                  go_ret
                  exact ⟨by rw [hfin.out]; rfl, hBwr⟩
                · clear hkl
                  go_wp2
                  go_ret
                  exact ⟨by rw [hfin.out]; rfl, hBwr⟩
          · have g2 : (s.fn != t.fn) = true := by simp [hst]
            have Habv : Hid (abvT o s t = _) := Lib.hid (by rw [Habv.out, if_neg hst])
            clear hst
            have p1 := (know_top (know_node Hks.out).1).2.1
            have p2 := (know_top (know_node Hkt.out).1).2.1
            obtain ⟨i, hi⟩ : ∃ i : Nat, s.fn = (i : Int) := ⟨s.fn.toNat, by omega⟩
            obtain ⟨j, hj⟩ : ∃ j : Nat, t.fn = (j : Int) := ⟨t.fn.toNat, by omega⟩
            obtain ⟨a, ha⟩ : ∃ a, o.prec[i]? = some a := ⟨_, List.getElem?_eq_getElem (by omega)⟩
            obtain ⟨b, hb⟩ : ∃ b, o.prec[j]? = some b := ⟨_, List.getElem?_eq_getElem (by omega)⟩
            have hfin := Lib.hid (show abvT o s t = decide (a > b) by
              rw [Habv.out, hi, hj, List.getD_eq_getElem?_getD, List.getD_eq_getElem?_getD, show ((i : Int).toNat) = i from rfl, show ((j : Int).toNat) = j from rfl, ha, hb]; rfl)
            obtain ⟨bp, op, hPP, hbp, hca⟩ := HMz.out.p.get ha
            obtain ⟨bp2, op2, hPP2, _, hcb⟩ := HMz.out.p.get hb
            have m1 : ∀ y : Later z.w.heap.size z.w, y.w.cell? ⟨w.heap.size, 1, none⟩ = some (.slice P o.prec.length pc) := fun y => (HS.out y.w (hBz.trans (y.h.mono hBz.size))).2.1
            have m4 : ∀ y : Later z.w.heap.size z.w, y.w.cell? ⟨w.heap.size + 1, 0, none⟩ = some (.int .i64 (i : Int)) := fun y => by rw [← hi]; exact (HS.out y.w (hBz.trans (y.h.mono hBz.size))).2.2.2.2.1
            have m6 : ∀ y : Later z.w.heap.size z.w, y.w.cell? ⟨w.heap.size + 2, 0, none⟩ = some (.int .i64 (j : Int)) := fun y => by rw [← hj]; exact (HS.out y.w (hBz.trans (y.h.mono hBz.size))).2.2.2.2.2.2.1
            have hil : i < o.prec.length := by omega
            have hjl : j < o.prec.length := by omega
            subst hPP
            injection hPP2 with hPP2
            injection hPP2 with e1 e2 _
            subst e1; subst e2
            have m8 : ∀ y : Later z.w.heap.size z.w, y.w.cell? ⟨bp, op + i, none⟩ = some (.int .i64 a) := fun y => cell_on y.h hbp hca
            have m9 : ∀ y : Later z.w.heap.size z.w, y.w.cell? ⟨bp, op + j, none⟩ = some (.int .i64 b) := fun y => cell_on y.h hbp hcb
            have Hi := Lib.hid hi
            have Hj := Lib.hid hj
            clear hi hj ha hb hca hcb p1 p2
            go_upto_region 11 with fail
            refine wp_region_later z.w.heap.size z.w (by kernel_rfl) (by kernel_rfl) (bl_drewN (Below.refl _ _) 1) ?_
            repeat (go_big_quiet_step (fail))
            refine wpQuiet_nil ?_
            rintro _ ⟨z', rfl⟩
            clear m1 m4 m6 m8 m9
            go_wp2
            go_ret
            exact ⟨by rw [hfin.out]; rfl, hBwz.trans (z'.h.mono hBwz.size)⟩
    · have g1 : (va != vb) = true := by simp [hab]
      have hfin := Lib.hid (show abvT o s t = decide (va > vb) by rw [Habv.out, if_neg hab])
      clear hab
      go_wp2
      go_ret
      exact ⟨by rw [hfin.out]; rfl, hBwz⟩
end Go.Proofs.YthgglobfkkcdgaaGreat
namespace Go.Proofs.YthgglobfkkcdgaaGreat
open Go.RowKit Go.Shelf Go.Maps
set_option maxRecDepth 100000
def cmpR (o : Odr) (s t : Tm) : Int := if knowT o s && knowT o t then (if cmpT s t = 0 then 2 else if abvT o s t then 3 else if abvT o t s then 1 else 0) else 0
set_option maxHeartbeats 4000000 in
theorem refCmp8_any (o : Odr) (s t : Tm) (P Q A A2 : Option Addr) (pc qc c c2 : Nat) (w : World) (hM : OdrM w w.heap.size o P Q) (hf : I64 s.fn) (hg : I64 t.fn) (hzs : s.size ≤ 1073741824) (hzt : t.size ≤ 1073741824) (hA : Args w w.heap.size A s.args) (hA2 : Args w w.heap.size A2 t.args) :
    Calls Tryz.prog 33 #[.agg #[.bool o.lpo, .slice P o.prec.length pc, .slice Q o.wts.length qc, .int .i64 o.var], .agg #[.int .i64 s.fn, .slice A s.args.length c], .agg #[.int .i64 t.fn, .slice A2 t.args.length c2]] w fun e w' => e = .returned (.int .i64 (cmpR o s t)) ∧ Below w.heap.size w w' := by
  obtain ⟨W, hW⟩ : ∃ W, (((w.alloc (.cells #[.bool o.lpo, .slice P o.prec.length pc, .slice Q o.wts.length qc, .int .i64 o.var] 24)).alloc (.cells #[.int .i64 s.fn, .slice A s.args.length c] 36)).alloc (.cells #[.int .i64 t.fn, .slice A2 t.args.length c2] 36)) = W := ⟨_, rfl⟩
  obtain ⟨hB, hz, hS⟩ := box_ott hW
  have HW := Lib.hid hW
  obtain ⟨x0, x1, x2, x3, x4, x5, x6, x7⟩ := hS W (Below.refl _ _)
  have HS := Lib.hid hS
  have HBB : ∀ w1, Below W.heap.size W w1 → Below w.heap.size w w1 := fun w1 h => hB.trans (h.mono hB.size)
  have HK1 : Hid (∀ w1, Below W.heap.size W w1 → Calls Tryz.prog 51 #[.agg #[.bool o.lpo, .slice P o.prec.length pc, .slice Q o.wts.length qc, .int .i64 o.var], .agg #[.int .i64 s.fn, .slice A s.args.length c]] w1 fun e w' => e = .returned (.bool (knowT o s)) ∧ Below w1.heap.size w1 w') := Lib.hid fun w1 hb => refKnows8_any o s P Q A pc qc c w1 hf (hA.on (HBB w1 hb))
  have HK2 : Hid (∀ w1, Below W.heap.size W w1 → Calls Tryz.prog 51 #[.agg #[.bool o.lpo, .slice P o.prec.length pc, .slice Q o.wts.length qc, .int .i64 o.var], .agg #[.int .i64 t.fn, .slice A2 t.args.length c2]] w1 fun e w' => e = .returned (.bool (knowT o t)) ∧ Below w1.heap.size w1 w') := Lib.hid fun w1 hb => refKnows8_any o t P Q A2 pc qc c2 w1 hg (hA2.on (HBB w1 hb))
  have HE : Hid (∀ w1, Below W.heap.size W w1 → Calls Tryz.prog 43 #[.agg #[.int .i64 s.fn, .slice A s.args.length c], .agg #[.int .i64 t.fn, .slice A2 t.args.length c2]] w1 fun e w' => e = .returned (.bool (decide (cmpT s t = 0))) ∧ Below w1.heap.size w1 w') := Lib.hid fun w1 hb => ref2Same_any' s t A A2 c c2 w1 hf hg (hA.on (HBB w1 hb)) (hA2.on (HBB w1 hb))
  have HA1 : Hid (knowT o s = true → knowT o t = true → ∀ w1, Below W.heap.size W w1 → Calls Tryz.prog 52 #[.agg #[.bool o.lpo, .slice P o.prec.length pc, .slice Q o.wts.length qc, .int .i64 o.var], .agg #[.int .i64 s.fn, .slice A s.args.length c], .agg #[.int .i64 t.fn, .slice A2 t.args.length c2]] w1 fun e w' => e = .returned (.bool (abvT o s t)) ∧ Below w1.heap.size w1 w') := Lib.hid fun k1 k2 w1 hb => refAbove_any o s t k1 k2 hzs hzt hf hg P Q A A2 pc qc c c2 w1 (hM.on (HBB w1 hb)) (hA.on (HBB w1 hb)) (hA2.on (HBB w1 hb))
  have HA2' : Hid (knowT o s = true → knowT o t = true → ∀ w1, Below W.heap.size W w1 → Calls Tryz.prog 52 #[.agg #[.bool o.lpo, .slice P o.prec.length pc, .slice Q o.wts.length qc, .int .i64 o.var], .agg #[.int .i64 t.fn, .slice A2 t.args.length c2], .agg #[.int .i64 s.fn, .slice A s.args.length c]] w1 fun e w' => e = .returned (.bool (abvT o t s)) ∧ Below w1.heap.size w1 w') := Lib.hid fun k1 k2 w1 hb => refAbove_any o t s k2 k1 hzt hzs hg hf P Q A2 A pc qc c2 c w1 (hM.on (HBB w1 hb)) (hA2.on (HBB w1 hb)) (hA.on (HBB w1 hb))
  clear hW hS hA hA2 hM
  go_enter Tryz.func33, Tryz.ntmps33
  go_upto_region 1 with fail
  rw [HW.out]
  have H1 := HK1.out W (Below.refl _ _)
  cases hks : knowT o s with
  | false =>
    have hfin := Lib.hid (show cmpR o s t = 0 by unfold cmpR; rw [hks]; rfl)
    rw [hks] at H1
    have H1 := Lib.hid H1
    clear hks
    go_wp2_with (first
      | (go_at_call 51; (with_reducible refine H1.out.mono ?_); go_must (rintro e w1 ⟨rfl, hb1⟩))
      | fail)
    go_ret
    exact ⟨by rw [hfin.out]; rfl, HBB w1 hb1⟩
  | true =>
    rw [hks] at H1
    have H1 := Lib.hid H1
    have Hks := Lib.hid hks
    clear hks
    cases hkt : knowT o t with
    | false =>
      have hfin := Lib.hid (show cmpR o s t = 0 by unfold cmpR; rw [hkt, Bool.and_false]; rfl)
      have H2 : Hid (∀ w1, Below W.heap.size W w1 → _) := Lib.hid fun w1 hb => HK2.out w1 hb
      rw [hkt] at H2
      clear hkt
      go_wp2_with (first
        | (go_at_call 51; (with_reducible refine H1.out.mono ?_); go_must (rintro e w1 ⟨rfl, hb1⟩; obtain ⟨u0, u1, u2, u3, u4, u5, u6, u7⟩ := HS.out w1 hb1; have h2 := Lib.hid (H2.out w1 hb1); clear H1))
        | (go_at_call 51; (with_reducible refine h2.out.mono ?_); go_must (rintro e w2 ⟨rfl, hb2⟩))
        | fail)
      go_ret
      exact ⟨by rw [hfin.out]; rfl, HBB w2 (hb1.trans (hb2.mono hb1.size))⟩
    | true =>
      have H2 : Hid (∀ w1, Below W.heap.size W w1 → _) := Lib.hid fun w1 hb => HK2.out w1 hb
      rw [hkt] at H2
      have hcm := Lib.hid (show cmpR o s t = if cmpT s t = 0 then 2 else if abvT o s t then 3 else if abvT o t s then 1 else 0 by unfold cmpR; rw [Hks.out, hkt]; rfl)
      have HA1 := Lib.hid (HA1.out Hks.out hkt)
      have HA2' := Lib.hid (HA2'.out Hks.out hkt)
      clear hkt HK1 HK2
      go_upto_region 3 with (first
        | (go_at_call 51; (with_reducible refine H1.out.mono ?_); go_must (rintro e w1 ⟨rfl, hb1⟩; obtain ⟨u0, u1, u2, u3, u4, u5, u6, u7⟩ := HS.out w1 hb1; have h2 := Lib.hid (H2.out w1 hb1); clear H1))
        | (go_at_call 51; (with_reducible refine h2.out.mono ?_); go_must (rintro e w2 ⟨rfl, hb2⟩))
        | fail)
      have hbW : Below W.heap.size W w2 := hb1.trans (hb2.mono hb1.size)
      obtain ⟨v0, v1, v2, v3, v4, v5, v6, v7⟩ := HS.out w2 hbW
      have h3 := HE.out w2 hbW
      clear u0 u1 u2 u3 u4 u5 u6 u7 h2 H2 hb1 hb2
      by_cases heq : cmpT s t = 0
      · have hfin := Lib.hid (show cmpR o s t = 2 by rw [hcm.out, if_pos heq])
        rw [decide_eq_true heq] at h3
        have H3 := Lib.hid h3
        clear heq h3
        go_wp2_with (first
          | (go_at_call 43; (with_reducible refine H3.out.mono ?_); go_must (rintro e w3 ⟨rfl, hb3⟩))
          | fail)
        go_ret
        exact ⟨by rw [hfin.out]; rfl, HBB w3 (hbW.trans (hb3.mono hbW.size))⟩
      · have hcm := Lib.hid (show cmpR o s t = if abvT o s t then 3 else if abvT o t s then 1 else 0 by rw [hcm.out, if_neg heq])
        rw [decide_eq_false heq] at h3
        have H3 := Lib.hid h3
        clear heq h3
        go_upto_region 5 with (first
          | (go_at_call 43; (with_reducible refine H3.out.mono ?_); go_must (rintro e w3 ⟨rfl, hb3⟩))
          | fail)
        have hbX : Below W.heap.size W w3 := hbW.trans (hb3.mono hbW.size)
        obtain ⟨u0, u1, u2, u3, u4, u5, u6, u7⟩ := HS.out w3 hbX
        have h4 := HA1.out w3 hbX
        clear v0 v1 v2 v3 v4 v5 v6 v7
        cases ha1 : abvT o s t with
        | true =>
          have hfin := Lib.hid (show cmpR o s t = 3 by rw [hcm.out, ha1, if_pos rfl])
          rw [ha1] at h4
          have H4 := Lib.hid h4
          clear h4 ha1
          go_wp2_with (first
            | (go_at_call 52; (with_reducible refine H4.out.mono ?_); go_must (rintro e w4 ⟨rfl, hb4⟩))
            | fail)
          go_ret
          exact ⟨by rw [hfin.out]; rfl, HBB w4 (hbX.trans (hb4.mono hbX.size))⟩
        | false =>
          have hcm := Lib.hid (show cmpR o s t = if abvT o t s then 1 else 0 by rw [hcm.out, ha1]; rfl)
          rw [ha1] at h4
          have H4 := Lib.hid h4
          clear h4 ha1
          go_upto_region 7 with (first
            | (go_at_call 52; (with_reducible refine H4.out.mono ?_); go_must (rintro e w4 ⟨rfl, hb4⟩))
            | fail)
          have hbY : Below W.heap.size W w4 := hbX.trans (hb4.mono hbX.size)
          obtain ⟨v0, v1, v2, v3, v4, v5, v6, v7⟩ := HS.out w4 hbY
          have h5 := HA2'.out w4 hbY
          clear u0 u1 u2 u3 u4 u5 u6 u7
          cases ha2 : abvT o t s with
          | true =>
            have hfin := Lib.hid (show cmpR o s t = 1 by rw [hcm.out, ha2, if_pos rfl])
            rw [ha2] at h5
            have H5 := Lib.hid h5
            clear h5 ha2 H4
            go_wp2_with (first
              | (go_at_call 52; (with_reducible refine H5.out.mono ?_); go_must (rintro e w5 ⟨rfl, hb5⟩))
              | fail)
            go_ret
            exact ⟨by rw [hfin.out]; rfl, HBB w5 (hbY.trans (hb5.mono hbY.size))⟩
          | false =>
            have hfin := Lib.hid (show cmpR o s t = 0 by rw [hcm.out, ha2]; rfl)
            rw [ha2] at h5
            have H5 := Lib.hid h5
            clear h5 ha2 H4
            go_wp2_with (first
              | (go_at_call 52; (with_reducible refine H5.out.mono ?_); go_must (rintro e w5 ⟨rfl, hb5⟩))
              | fail)
            go_ret
            exact ⟨by rw [hfin.out]; rfl, HBB w5 (hbY.trans (hb5.mono hbY.size))⟩
end Go.Proofs.YthgglobfkkcdgaaGreat
namespace Go.Proofs.YthgglobfkkcdgaaGreat
open Go.RowKit Go.Shelf Go.Maps
set_option maxRecDepth 100000
def pS : Nat → (Int → Int) → Int
  | 0, _ => 0
  | N + 1, V => pS N V + max 0 (V (-1 - (N : Int)))
theorem pS_out : ∀ (N : Nat) (V V' : Int → Int) (f : Int), f < -(N : Int) → (∀ x, x ≠ f → V' x = V x) → pS N V' = pS N V
  | 0, _, _, _, _, _ => rfl
  | N + 1, V, V', f, hf, h => by
    rw [pS, pS, pS_out N V V' f (by omega) h, h (-1 - (N : Int)) (by omega)]
theorem pS_put : ∀ (N : Nat) (V V' : Int → Int) (f : Int), f < 0 → -(N : Int) ≤ f → (∀ x, x ≠ f → V' x = V x) → pS N V' = pS N V - max 0 (V f) + max 0 (V' f)
  | 0, _, _, _, h1, h2, _ => by omega
  | N + 1, V, V', f, h1, h2, h => by
    rw [pS, pS]
    by_cases e : f = -1 - (N : Int)
    · rw [pS_out N V V' f (by omega) h, ← e]; omega
    · rw [pS_put N V V' f h1 (by omega) h, h (-1 - (N : Int)) (fun e' => e e'.symm)]; omega
theorem pS_lo : ∀ (N : Nat) (V : Int → Int), 0 ≤ pS N V
  | 0, _ => Int.le_refl _
  | N + 1, V => by have := pS_lo N V; rw [pS]; omega
theorem pS_zero : ∀ (N : Nat) (V : Int → Int), (∀ v, v < 0 → V v ≤ 0) → pS N V = 0
  | 0, _, _ => rfl
  | N + 1, V, h => by have h1 := pS_zero N V h; have h2 := h (-1 - (N : Int)) (by omega); rw [pS, h1]; omega
theorem pS_pos : ∀ (N : Nat) (V : Int → Int) (v : Int), v < 0 → -(N : Int) ≤ v → 0 < V v → 0 < pS N V
  | 0, _, _, h1, h2, _ => by omega
  | N + 1, V, v, h1, h2, h => by
    rw [pS]
    by_cases e : v = -1 - (N : Int)
    · have := pS_lo N V; rw [← e]; omega
    · have := pS_pos N V v h1 (by omega) h; omega
structure InvB (N : Nat) (b : Bal) : Prop where
  a0 : b.a0 = pS N b.V
  a1 : b.a1 = pS N fun x => - b.V x
structure Laid (N : Nat) (b b' : Bal) (d0 d1 : Int) (d : Int → Int) : Prop where
  w0 : b'.w0 = b.w0 + d0
  w1 : b'.w1 = b.w1 + d1
  V : ∀ v, v < 0 → b'.V v = b.V v + d v
  inv : InvB N b → InvB N b'
theorem Laid.refl (N : Nat) (b : Bal) : Laid N b b 0 0 fun _ => 0 := ⟨by omega, by omega, fun _ _ => by omega, id⟩
theorem Laid.cat {N : Nat} {b b' b'' : Bal} {d0 d1 e0 e1 g0 g1 : Int} {d e g : Int → Int} (h : Laid N b b' d0 d1 d) (k : Laid N b' b'' e0 e1 e) (h0 : g0 = d0 + e0) (h1 : g1 = d1 + e1) (hg : ∀ v, v < 0 → g v = d v + e v) : Laid N b b'' g0 g1 g :=
  ⟨by rw [k.w0, h.w0, h0]; omega, by rw [k.w1, h.w1, h1]; omega, fun v hv => by rw [k.V v hv, h.V v hv, hg v hv]; omega, fun i => k.inv (h.inv i)⟩
theorem Laid.to {N : Nat} {b b' : Bal} {d0 d1 g0 g1 : Int} {d g : Int → Int} (h : Laid N b b' d0 d1 d) (h0 : g0 = d0) (h1 : g1 = d1) (hg : ∀ v, v < 0 → g v = d v) : Laid N b b' g0 g1 g :=
  ⟨by rw [h.w0, h0], by rw [h.w1, h1], fun v hv => by rw [h.V v hv, hg v hv], h.inv⟩
theorem cnt_laid0 {o : Odr} {N : Nat} {b : Bal} {f : Int} (hv : f < 0 → -(N : Int) ≤ f) : Laid N b (cntB o 0 b f) (wtI o f) 0 fun v => if v = f then 1 else 0 := by
  by_cases hf : f < 0
  · by_cases h0 : 0 ≤ b.V f
    · rw [cntB_neg00 hf h0]
      refine ⟨rfl, by show b.w1 = b.w1 + 0; omega, fun v _ => ?_, fun i => ⟨?_, ?_⟩⟩
      · show (if v = f then b.V f + 1 else b.V v) = _; split <;> simp_all
      · show b.a0 + 1 = pS N fun x => if x = f then b.V f + 1 else b.V x
        rw [pS_put N b.V _ f hf (hv hf) (fun x hx => by rw [if_neg hx]), i.a0, if_pos rfl]; omega
      · show b.a1 = pS N fun x => - (if x = f then b.V f + 1 else b.V x)
        rw [pS_put N (fun x => - b.V x) _ f hf (hv hf) (fun x hx => by rw [if_neg hx]), i.a1, if_pos rfl]; omega
    · rw [cntB_neg01 hf h0]
      refine ⟨rfl, by show b.w1 = b.w1 + 0; omega, fun v _ => ?_, fun i => ⟨?_, ?_⟩⟩
      · show (if v = f then b.V f + 1 else b.V v) = _; split <;> simp_all
      · show b.a0 = pS N fun x => if x = f then b.V f + 1 else b.V x
        rw [pS_put N b.V _ f hf (hv hf) (fun x hx => by rw [if_neg hx]), i.a0, if_pos rfl]; omega
      · show b.a1 - 1 = pS N fun x => - (if x = f then b.V f + 1 else b.V x)
        rw [pS_put N (fun x => - b.V x) _ f hf (hv hf) (fun x hx => by rw [if_neg hx]), i.a1, if_pos rfl]; omega
  · rw [cntB_pos0 hf]
    exact ⟨rfl, by show b.w1 = b.w1 + 0; omega, fun v hv' => by show b.V v = _; rw [if_neg (by omega)]; omega, fun i => ⟨i.a0, i.a1⟩⟩
theorem cnt_laid1 {o : Odr} {N : Nat} {b : Bal} {f : Int} (hv : f < 0 → -(N : Int) ≤ f) : Laid N b (cntB o 1 b f) 0 (wtI o f) fun v => if v = f then -1 else 0 := by
  by_cases hf : f < 0
  · by_cases h0 : 0 ≤ -b.V f
    · rw [cntB_neg10 hf h0]
      refine ⟨by show b.w0 = b.w0 + 0; omega, rfl, fun v _ => ?_, fun i => ⟨?_, ?_⟩⟩
      · show (if v = f then b.V f + -1 else b.V v) = _; split <;> simp_all
      · show b.a0 = pS N fun x => if x = f then b.V f + -1 else b.V x
        rw [pS_put N b.V _ f hf (hv hf) (fun x hx => by rw [if_neg hx]), i.a0, if_pos rfl]; omega
      · show b.a1 + 1 = pS N fun x => - (if x = f then b.V f + -1 else b.V x)
        rw [pS_put N (fun x => - b.V x) _ f hf (hv hf) (fun x hx => by rw [if_neg hx]), i.a1, if_pos rfl]; omega
    · rw [cntB_neg11 hf h0]
      refine ⟨by show b.w0 = b.w0 + 0; omega, rfl, fun v _ => ?_, fun i => ⟨?_, ?_⟩⟩
      · show (if v = f then b.V f + -1 else b.V v) = _; split <;> simp_all
      · show b.a0 - 1 = pS N fun x => if x = f then b.V f + -1 else b.V x
        rw [pS_put N b.V _ f hf (hv hf) (fun x hx => by rw [if_neg hx]), i.a0, if_pos rfl]; omega
      · show b.a1 = pS N fun x => - (if x = f then b.V f + -1 else b.V x)
        rw [pS_put N (fun x => - b.V x) _ f hf (hv hf) (fun x hx => by rw [if_neg hx]), i.a1, if_pos rfl]; omega
  · rw [cntB_pos1 hf]
    exact ⟨by show b.w0 = b.w0 + 0; omega, rfl, fun v hv' => by show b.V v = _; rw [if_neg (by omega)]; omega, fun i => ⟨i.a0, i.a1⟩⟩
def VB (N : Nat) (t : Tm) : Prop := ∀ v, v < 0 → 0 < ofT v t → -(N : Int) ≤ v
def VBL (N : Nat) (ts : List Tm) : Prop := ∀ v, v < 0 → 0 < ofL v ts → -(N : Int) ≤ v
theorem VB.top {N : Nat} {f : Int} {xs : List Tm} (h : VB N (.node f xs)) : f < 0 → -(N : Int) ≤ f := fun hf => h f hf (by rw [ofT, if_pos rfl]; omega)
theorem VB.args {N : Nat} {f : Int} {xs : List Tm} (h : VB N (.node f xs)) : VBL N xs := fun v hv hp => h v hv (by rw [ofT]; omega)
theorem VBL.head {N : Nat} {x : Tm} {xs : List Tm} (h : VBL N (x :: xs)) : VB N x := fun v hv hp => h v hv (by rw [ofL]; omega)
theorem VBL.tail {N : Nat} {x : Tm} {xs : List Tm} (h : VBL N (x :: xs)) : VBL N xs := fun v hv hp => h v hv (by rw [ofL]; omega)
theorem VB_ex (t : Tm) : ∃ N : Nat, VB N t := by
  have key : ∀ xs : List Tm, (∀ t ∈ xs, ∃ N : Nat, VB N t) → ∃ N : Nat, VBL N xs := by
    intro xs
    induction xs with
    | nil => intro _; exact ⟨0, fun v _ h => by rw [ofL] at h; omega⟩
    | cons x xs ih =>
      intro h
      obtain ⟨N1, h1⟩ := h x (by simp)
      obtain ⟨N2, h2⟩ := ih fun t ht => h t (by simp [ht])
      refine ⟨N1 + N2, fun v hv hp => ?_⟩
      rw [ofL] at hp
      by_cases e : 0 < ofT v x
      · have := h1 v hv e; omega
      · have := h2 v hv (by omega); omega
  refine Tm.ind (P := fun t => ∃ N : Nat, VB N t) (fun f xs ih => ?_) t
  obtain ⟨N, h⟩ := key xs ih
  refine ⟨N + f.natAbs, fun v hv hp => ?_⟩
  rw [ofT] at hp
  by_cases e : f = v
  · omega
  · rw [if_neg e] at hp; have := h v hv (by omega); omega
theorem lay_yes (o : Odr) (at_ : Int) (t : Tm) : ∀ b, (evT (lvis o at_) b t).2 = true ∧ layB o at_ b t = layL o at_ (cntB o at_ b t.fn) t.args := by
  have key : ∀ xs : List Tm, (∀ t ∈ xs, ∀ b, (evT (lvis o at_) b t).2 = true ∧ layB o at_ b t = layL o at_ (cntB o at_ b t.fn) t.args) → ∀ b, evL (lvis o at_) b xs = (layL o at_ b xs, true) := by
    intro xs
    induction xs with
    | nil => intro _ b; rw [evL, layL]
    | cons x xs ih =>
      intro h b
      rw [evL, (h x (by simp) b).1, if_pos rfl, ih (fun t ht => h t (by simp [ht])), layL]; rfl
  refine Tm.ind (P := fun t => ∀ b, (evT (lvis o at_) b t).2 = true ∧ layB o at_ b t = layL o at_ (cntB o at_ b t.fn) t.args) (fun f xs ih b => ?_) t
  have e : evT (lvis o at_) b (.node f xs) = evL (lvis o at_) (cntB o at_ b f) xs := by rw [evT]; rfl
  unfold layB
  rw [e, key xs ih]
  exact ⟨rfl, rfl⟩
mutual
theorem lay_laid0 {o : Odr} {N : Nat} : ∀ (t : Tm) (b : Bal), VB N t → Laid N b (layB o 0 b t) (wsT o t) 0 fun v => (ofT v t : Int)
  | .node f xs, b, h => by
    rw [(lay_yes o 0 (.node f xs) b).2]
    refine (cnt_laid0 (o := o) (b := b) h.top).cat (layL_laid0 xs _ h.args) (by rw [wsT]) (by omega) fun v _ => ?_
    rw [ofT]
    by_cases e : f = v
    · rw [if_pos e, if_pos e.symm]; omega
    · rw [if_neg e, if_neg (fun h => e h.symm)]; omega
theorem layL_laid0 {o : Odr} {N : Nat} : ∀ (ts : List Tm) (b : Bal), VBL N ts → Laid N b (layL o 0 b ts) (wsL o ts) 0 fun v => (ofL v ts : Int)
  | [], b, _ => by rw [layL]; exact (Laid.refl N b).to (by rw [wsL]) rfl fun v _ => by rw [ofL]; rfl
  | t :: ts, b, h => by
    rw [layL]
    exact (lay_laid0 t b h.head).cat (layL_laid0 ts _ h.tail) (by rw [wsL]) (by omega) fun v _ => by rw [ofL]; omega
end
mutual
theorem lay_laid1 {o : Odr} {N : Nat} : ∀ (t : Tm) (b : Bal), VB N t → Laid N b (layB o 1 b t) 0 (wsT o t) fun v => -(ofT v t : Int)
  | .node f xs, b, h => by
    rw [(lay_yes o 1 (.node f xs) b).2]
    refine (cnt_laid1 (o := o) (b := b) h.top).cat (layL_laid1 xs _ h.args) (by omega) (by rw [wsT]) fun v _ => ?_
    rw [ofT]
    by_cases e : f = v
    · rw [if_pos e, if_pos e.symm]; omega
    · rw [if_neg e, if_neg (fun h => e h.symm)]; omega
theorem layL_laid1 {o : Odr} {N : Nat} : ∀ (ts : List Tm) (b : Bal), VBL N ts → Laid N b (layL o 1 b ts) 0 (wsL o ts) fun v => -(ofL v ts : Int)
  | [], b, _ => by rw [layL]; exact (Laid.refl N b).to rfl (by rw [wsL]) fun v _ => by rw [ofL]; rfl
  | t :: ts, b, h => by
    rw [layL]
    exact (lay_laid1 t b h.head).cat (layL_laid1 ts _ h.tail) (by omega) (by rw [wsL]) fun v _ => by rw [ofL]; omega
end
mutual
theorem rsn_laid {o : Odr} {N : Nat} : ∀ (s : Tm) (b : Bal) (t : Tm), VB N s → VB N t → Laid N b (rsnB o s b t).1 (wsT o s) (wsT o t) fun v => (ofT v s : Int) - (ofT v t : Int)
  | .node f xs, b, .node g ys, hs, ht => by
    rw [rsnB]
    by_cases e : f = (Tm.node g ys).fn
    · rw [if_pos e]
      have h1 := cnt_laid0 (o := o) (b := b) hs.top
      have h2 := cnt_laid1 (o := o) (b := cntB o 0 b f) ht.top
      have h3 := arg_laid (o := o) xs (cntB o 1 (cntB o 0 b f) g) ys hs.args ht.args
      refine ((h1.cat h2 rfl rfl fun v _ => rfl).cat h3 (by rw [wsT]; omega) (by rw [wsT]; omega) fun v _ => ?_)
      change f = g at e
      subst e
      rw [ofT, ofT]
      by_cases e : f = v
      · rw [if_pos e, if_pos e.symm, if_pos e.symm]; omega
      · rw [if_neg e, if_neg (fun h => e h.symm), if_neg (fun h => e h.symm)]; omega
    · rw [if_neg e]
      exact (lay_laid0 (o := o) (.node f xs) b hs).cat (lay_laid1 (.node g ys) _ ht) (by omega) (by omega) fun v _ => by omega
theorem arg_laid {o : Odr} {N : Nat} : ∀ (xs : List Tm) (b : Bal) (ys : List Tm), VBL N xs → VBL N ys → Laid N b (argB o xs b ys).1 (wsL o xs) (wsL o ys) fun v => (ofL v xs : Int) - (ofL v ys : Int)
  | [], b, ys, _, hy => by
    rw [argB]
    exact (layL_laid1 ys b hy).to (by rw [wsL]) rfl fun v _ => by rw [ofL]; omega
  | x :: xs, b, [], hx, _ => by
    rw [argB]
    exact (layL_laid0 (x :: xs) b hx).to rfl (by rw [wsL]) fun v _ => by rw [ofL.eq_1 v]; omega
  | x :: xs, b, y :: ys, hx, hy => by
    rw [argB]
    have h1 := rsn_laid (o := o) x b y hx.head hy.head
    split
    · exact h1.cat (arg_laid xs _ ys hx.tail hy.tail) (by rw [wsL]) (by rw [wsL]) fun v _ => by rw [ofL, ofL]; omega
    · exact (h1.cat (layL_laid0 xs _ hx.tail) rfl rfl fun v _ => rfl).cat (layL_laid1 ys _ hy.tail) (by rw [wsL]; omega) (by rw [wsL]; omega) fun v _ => by rw [ofL, ofL]; omega
end
end Go.Proofs.YthgglobfkkcdgaaGreat
namespace Go.Proofs.YthgglobfkkcdgaaGreat
open Go.RowKit Go.Shelf Go.Maps
set_option maxRecDepth 100000
theorem covL_iff {s t : Tm} : ∀ {xs : List Tm}, (∀ u ∈ xs, (covU s t u = true ↔ ∀ v, v < 0 → 0 < ofT v u → ofT v t ≤ ofT v s)) → (covL s t xs = true ↔ ∀ v, v < 0 → 0 < ofL v xs → ofT v t ≤ ofT v s)
  | [], _ => by rw [covL]; exact ⟨fun _ v _ h => by rw [ofL] at h; omega, fun _ => rfl⟩
  | x :: xs, h => by
    rw [covL, Bool.and_eq_true, h x (by simp), covL_iff fun u hu => h u (by simp [hu])]
    constructor
    · rintro ⟨h1, h2⟩ v hv hp
      rw [ofL] at hp
      by_cases e : 0 < ofT v x
      · exact h1 v hv e
      · exact h2 v hv (by omega)
    · intro h1
      exact ⟨fun v hv hp => h1 v hv (by rw [ofL]; omega), fun v hv hp => h1 v hv (by rw [ofL]; omega)⟩
theorem covU_iff {o : Odr} (s t u : Tm) : knowT o u = true → (covU s t u = true ↔ ∀ v, v < 0 → 0 < ofT v u → ofT v t ≤ ofT v s) := by
  refine Tm.ind (P := fun u => knowT o u = true → (covU s t u = true ↔ ∀ v, v < 0 → 0 < ofT v u → ofT v t ≤ ofT v s)) (fun f xs ih hk => ?_) u
  obtain ⟨k1, k2⟩ := know_node hk
  by_cases hf : f < 0
  · have hx : xs = [] := List.eq_nil_of_length_eq_zero ((know_top k1).2.2 hf)
    subst hx
    rw [covU, if_pos hf, decide_eq_true_eq]
    constructor
    · intro h v hv hp
      rw [ofT, ofL] at hp
      by_cases e : f = v
      · subst e; exact h
      · rw [if_neg e] at hp; omega
    · intro h
      exact h f hf (by rw [ofT, if_pos rfl]; omega)
  · rw [covU, if_neg hf, covL_iff fun u hu => ih u hu (knowL_mem k2 hu)]
    constructor
    · intro h v hv hp
      rw [ofT, if_neg (by omega)] at hp
      exact h v hv (by omega)
    · intro h v hv hp
      exact h v hv (by rw [ofT]; omega)
theorem cov_iff {o : Odr} {s t : Tm} (hk : knowT o t = true) : covU s t t = true ↔ ∀ v, v < 0 → ofT v t ≤ ofT v s := by
  rw [covU_iff s t t hk]
  constructor
  · intro h v hv
    by_cases e : 0 < ofT v t
    · exact h v hv e
    · omega
  · exact fun h v hv _ => h v hv
theorem arn_end {top v : Int} (ht : ¬ top < 0) (hv : v < 0) : ∀ t : Tm, t.fn = top → (arnT top v t = decide ((arndEnd top t).fn = v)) := by
  intro t
  refine Tm.ind (P := fun t => t.fn = top → (arnT top v t = decide ((arndEnd top t).fn = v))) (fun f xs ih hf => ?_) t
  change f = top at hf
  by_cases h1 : xs.length = 1
  · match xs, h1, ih with
    | [x], _, ih =>
      rw [arnT_one, arnd_step hf, show (f == top) = true by rw [beq_iff_eq]; exact hf, Bool.true_and]
      by_cases hx : x.fn = top
      · rw [ih x (by simp) hx, show (x.fn == v) = false by rw [beq_eq_false_iff_ne]; omega, Bool.false_or]
      · rw [arnT_top hx, Bool.or_false, arnd_stop (fun e => hx e.1)]
        rw [Bool.eq_iff_iff, beq_iff_eq, decide_eq_true_eq]
  · rw [arnT_no (t := .node f xs) h1, arnd_stop (t := .node f xs) (fun e => h1 e.2)]
    symm
    apply decide_eq_false
    show ¬ f = v
    omega
theorem abvL_asym {o : Odr} : ∀ (xs ys : List Tm), (∀ x ∈ xs, ∀ t, abvT o x t = true → abvT o t x = false) → abvL o xs ys = true → abvL o ys xs = false
  | [], _, _, h => by rw [abvL] at h; cases h
  | x :: xs, [], _, _ => by rw [abvL]
  | x :: xs, y :: ys, ih, h => by
    rw [abvL] at h ⊢
    by_cases e : cmpT x y = 0
    · have e' := cmp_zero_iff.1 e
      subst e'
      rw [if_pos e] at h ⊢
      exact abvL_asym xs ys (fun z hz => ih z (by simp [hz])) h
    · have e' : ¬ cmpT y x = 0 := fun h' => e (cmp_zero_iff.2 (cmp_zero_iff.1 h').symm)
      rw [if_neg e] at h
      rw [if_neg e']
      exact ih x (by simp) y h
theorem abv_asym {o : Odr} (s : Tm) : ∀ t, abvT o s t = true → abvT o t s = false := by
  refine Tm.ind (P := fun s => ∀ t, abvT o s t = true → abvT o t s = false) (fun f xs ih t h => ?_) s
  have ih' : ∀ x ∈ (Tm.node f xs).args, ∀ t, abvT o x t = true → abvT o t x = false := ih
  generalize Tm.node f xs = s at ih' h ⊢
  rw [abvT_eq, Bool.and_eq_true] at h
  rw [abvT_eq, Bool.and_eq_false_iff]
  right
  obtain ⟨_, h⟩ := h
  by_cases hw : capI (wsT o s) = capI (wsT o t)
  · rw [if_pos hw] at h
    rw [if_pos hw.symm]
    by_cases h1 : s.fn < 0
    · rw [if_pos h1] at h; cases h
    · rw [if_neg h1] at h
      by_cases h2 : t.fn < 0
      · rw [if_pos h2]
      · rw [if_neg h2] at h
        rw [if_neg h2, if_neg h1]
        by_cases h3 : s.fn = t.fn
        · rw [if_pos h3] at h
          rw [if_pos h3.symm]
          exact abvL_asym s.args t.args ih' h
        · rw [if_neg h3, decide_eq_true_eq] at h
          rw [if_neg (fun e => h3 e.symm)]
          exact decide_eq_false (by omega)
  · rw [if_neg hw, decide_eq_true_eq] at h
    rw [if_neg (fun e => hw e.symm)]
    exact decide_eq_false (by omega)
def cmpK (o : Odr) (s t : Tm) : Int := if cmpT s t = 0 then 2 else if abvT o s t then 3 else if abvT o t s then 1 else 0
theorem cmpK_two {o : Odr} {s t : Tm} : cmpK o s t = 2 ↔ s = t := by
  unfold cmpK
  rw [← cmp_zero_iff]
  by_cases e : cmpT s t = 0
  · rw [if_pos e]; exact ⟨fun _ => e, fun _ => rfl⟩
  · rw [if_neg e]
    constructor
    · intro h
      split at h
      · omega
      · split at h <;> omega
    · exact fun h => absurd h e
structure ArgK (o : Odr) (xs ys : List Tm) (q : Int) : Prop where
  same : xs = ys → q = 2
  diff : ¬ xs = ys → q = if abvL o xs ys then 3 else if abvL o ys xs then 1 else 0
theorem numI_rel0 (n : Nat) : relC (numI 0 ((n + 1 : Nat) : Int)) = 1 := by
  have : numI 0 ((n + 1 : Nat) : Int) = -1 := by unfold numI; rw [if_pos (by omega)]
  rw [this]; rfl
theorem numI_rel1 (n : Nat) : relC (numI ((n + 1 : Nat) : Int) 0) = 3 := by
  have : numI ((n + 1 : Nat) : Int) 0 = 1 := by unfold numI; rw [if_neg (by omega), if_pos (by omega)]
  rw [this]; rfl
theorem zero_cnt {o : Odr} {N : Nat} {b : Bal} {f : Int} (hv : f < 0 → -(N : Int) ≤ f) (hi : InvB N b) (hz : ∀ v, v < 0 → b.V v = 0) : InvB N (cntB o 1 (cntB o 0 b f) f) ∧ ∀ v, v < 0 → (cntB o 1 (cntB o 0 b f) f).V v = 0 := by
  have h1 := cnt_laid0 (o := o) (b := b) hv
  have h2 := cnt_laid1 (o := o) (b := cntB o 0 b f) hv
  refine ⟨h2.inv (h1.inv hi), fun v hv' => ?_⟩
  rw [h2.V v hv', h1.V v hv', hz v hv']
  split <;> omega
theorem fin_of {o : Odr} {N : Nat} {b : Bal} {s t : Tm} {r : Bal × Int} (hl : Laid N b r.1 (wsT o s) (wsT o t) fun v => (ofT v s : Int) - (ofT v t : Int)) (hi : InvB N b) (hz : ∀ v, v < 0 → b.V v = 0) (hks : knowT o s = true) (hkt : knowT o t = true) (hs : VB N s) (ht : VB N t) :
    (0 < r.1.a1 ↔ covU s t t = false) ∧ (0 < r.1.a0 ↔ covU t s s = false) ∧ finQ b r = if numI (capI (wsT o s)) (capI (wsT o t)) = 0 then r.2 else relC (numI (capI (wsT o s)) (capI (wsT o t))) := by
  have hV : ∀ v, v < 0 → r.1.V v = (ofT v s : Int) - (ofT v t : Int) := fun v hv => by rw [hl.V v hv, hz v hv]; omega
  have hir := hl.inv hi
  refine ⟨?_, ?_, ?_⟩
  · rw [hir.a1]
    cases hc : covU s t t with
    | true =>
      have := (cov_iff hkt).1 hc
      rw [pS_zero N _ fun v hv => by rw [hV v hv]; have := this v hv; omega]
      simp
    | false =>
      have hn : ¬ ∀ v, v < 0 → ofT v t ≤ ofT v s := fun h => by rw [(cov_iff hkt).2 h] at hc; cases hc
      obtain ⟨v, hv⟩ := Classical.not_forall.1 hn
      obtain ⟨hv0, hv1⟩ := Classical.not_imp.1 hv
      exact ⟨fun _ => rfl, fun _ => pS_pos N _ v hv0 (ht v hv0 (by omega)) (by rw [hV v hv0]; omega)⟩
  · rw [hir.a0]
    cases hc : covU t s s with
    | true =>
      have := (cov_iff hks).1 hc
      rw [pS_zero N _ fun v hv => by rw [hV v hv]; have := this v hv; omega]
      simp
    | false =>
      have hn : ¬ ∀ v, v < 0 → ofT v s ≤ ofT v t := fun h => by rw [(cov_iff hks).2 h] at hc; cases hc
      obtain ⟨v, hv⟩ := Classical.not_forall.1 hn
      obtain ⟨hv0, hv1⟩ := Classical.not_imp.1 hv
      exact ⟨fun _ => rfl, fun _ => pS_pos N _ v hv0 (hs v hv0 (by omega)) (by rw [hV v hv0]; omega)⟩
  · unfold finQ
    rw [hl.w0, hl.w1, show b.w0 + wsT o s - b.w0 = wsT o s by omega, show b.w1 + wsT o t - b.w1 = wsT o t by omega]
structure RsnK (o : Odr) (s t : Tm) (q : Int) : Prop where
  same : s = t → q = 2
  diff : ¬ s = t → q = if (if s.fn < 0 then false else if t.fn < 0 then arnT s.fn t.fn s else if s.fn = t.fn then abvL o s.args t.args else decide (o.prec.getD t.fn.toNat 0 < o.prec.getD s.fn.toNat 0)) then 3 else
    if (if t.fn < 0 then false else if s.fn < 0 then arnT t.fn s.fn t else if t.fn = s.fn then abvL o t.args s.args else decide (o.prec.getD s.fn.toNat 0 < o.prec.getD t.fn.toNat 0)) then 1 else 0
  asym : abvL o s.args t.args = true → abvL o t.args s.args = false
theorem fin_eq_of {o : Odr} {N : Nat} {b : Bal} {s t : Tm} {r : Bal × Int} (hl : Laid N b r.1 (wsT o s) (wsT o t) fun v => (ofT v s : Int) - (ofT v t : Int)) (hi : InvB N b) (hz : ∀ v, v < 0 → b.V v = 0) (hks : knowT o s = true) (hkt : knowT o t = true) (hs : VB N s) (ht : VB N t) (hr : RsnK o s t r.2) :
    finB b r = cmpK o s t := by
  obtain ⟨c1, c0, cq⟩ := fin_of hl hi hz hks hkt hs ht
  unfold finB cmpK
  rw [cq]
  by_cases hst : s = t
  · subst hst
    have hn : numI (capI (wsT o s)) (capI (wsT o s)) = 0 := by unfold numI; simp
    rw [if_pos hn, hr.same rfl, if_pos (cmp_zero_iff.2 rfl)]
    unfold finR; simp
  · rw [if_neg (fun h => hst (cmp_zero_iff.1 h)), abvT_eq o s t, abvT_eq o t s]
    by_cases hw : capI (wsT o s) = capI (wsT o t)
    · have hn : numI (capI (wsT o s)) (capI (wsT o t)) = 0 := by unfold numI; rw [if_neg (by omega), if_neg (by omega)]
      rw [if_pos hn, if_pos hw, if_pos hw.symm, hr.diff hst]
      obtain ⟨B1, hB1⟩ : ∃ B : Bool, (if s.fn < 0 then false else if t.fn < 0 then arnT s.fn t.fn s else if s.fn = t.fn then abvL o s.args t.args else decide (o.prec.getD t.fn.toNat 0 < o.prec.getD s.fn.toNat 0)) = B := ⟨_, rfl⟩
      obtain ⟨B2, hB2⟩ : ∃ B : Bool, (if t.fn < 0 then false else if s.fn < 0 then arnT t.fn s.fn t else if t.fn = s.fn then abvL o t.args s.args else decide (o.prec.getD s.fn.toNat 0 < o.prec.getD t.fn.toNat 0)) = B := ⟨_, rfl⟩
      have hB : ¬ (B1 = true ∧ B2 = true) := by
        rintro ⟨e1, e2⟩
        rw [e1] at hB1
        rw [e2] at hB2
        by_cases h1 : s.fn < 0
        · rw [if_pos h1] at hB1; cases hB1
        · by_cases h2 : t.fn < 0
          · rw [if_pos h2] at hB2; cases hB2
          · rw [if_neg h1, if_neg h2] at hB1
            rw [if_neg h2, if_neg h1] at hB2
            by_cases h3 : s.fn = t.fn
            · rw [if_pos h3] at hB1
              rw [if_pos h3.symm, hr.asym hB1] at hB2
              cases hB2
            · rw [if_neg h3, decide_eq_true_eq] at hB1
              rw [if_neg (fun e => h3 e.symm), decide_eq_true_eq] at hB2
              omega
      rw [hB1, hB2]
      clear hB1 hB2 hr cq hl
      unfold finR
      simp only [c1, c0]
      cases B1 <;> cases B2 <;> cases covU s t t <;> cases covU t s s <;> simp_all
    · rw [if_neg hw, if_neg (show ¬ capI (wsT o t) = capI (wsT o s) from fun e => hw e.symm)]
      by_cases hlt : capI (wsT o s) < capI (wsT o t)
      · have hn : numI (capI (wsT o s)) (capI (wsT o t)) = -1 := by unfold numI; rw [if_pos hlt]
        rw [hn, decide_eq_false (show ¬ capI (wsT o t) < capI (wsT o s) by omega), decide_eq_true hlt, if_neg (show ¬ (-1 : Int) = 0 by decide)]
        unfold finR
        simp only [c1, c0, show relC (-1) = 1 from rfl]
        cases covU s t t <;> cases covU t s s <;> simp
      · have hgt : capI (wsT o t) < capI (wsT o s) := by omega
        have hn : numI (capI (wsT o s)) (capI (wsT o t)) = 1 := by unfold numI; rw [if_neg hlt, if_pos hgt]
        rw [hn, decide_eq_false hlt, decide_eq_true hgt, if_neg (show ¬ (1 : Int) = 0 by decide)]
        unfold finR
        simp only [c1, c0, show relC 1 = 3 from rfl]
        cases covU s t t <;> cases covU t s s <;> simp
theorem rsnB_same (o : Odr) (f : Int) (xs ys : List Tm) (b : Bal) : rsnB o (.node f xs) b (.node f ys) = argB o xs (cntB o 1 (cntB o 0 b f) f) ys := by rw [rsnB]; exact if_pos rfl
theorem rsnB_other (o : Odr) {f g : Int} (h : ¬ f = g) (xs ys : List Tm) (b : Bal) : rsnB o (.node f xs) b (.node g ys) = (layB o 1 (layB o 0 b (.node f xs)) (.node g ys), topsR o (.node f xs) (.node g ys)) := by rw [rsnB]; exact if_neg h
mutual
theorem fin_eq {o : Odr} {N : Nat} : ∀ (s : Tm) (b : Bal) (t : Tm), InvB N b → (∀ v, v < 0 → b.V v = 0) → knowT o s = true → knowT o t = true → VB N s → VB N t → finB b (rsnB o s b t) = cmpK o s t
  | .node f xs, b, .node g ys, hi, hz, hks, hkt, hs, ht => by
    refine fin_eq_of (rsn_laid (o := o) _ b _ hs ht) hi hz hks hkt hs ht ?_
    obtain ⟨k1, k2⟩ := know_node hks
    obtain ⟨k3, k4⟩ := know_node hkt
    simp only [Tm.fn, Tm.args] at k1 k2 k3 k4
    refine ⟨fun e => ?_, fun e => ?_, abvL_asym xs ys fun x _ => abv_asym x⟩
    · injection e with e1 e2
      subst e1; subst e2
      rw [rsnB_same]
      obtain ⟨i1, z1⟩ := zero_cnt (o := o) hs.top hi hz
      exact (arg_eq xs _ xs i1 z1 k2 k2 hs.args hs.args).same rfl
    · simp only [Tm.fn, Tm.args]
      by_cases hfg : f = g
      · subst hfg
        have hne : ¬ xs = ys := fun h => e (by rw [h])
        have hf0 : ¬ f < 0 := fun h => hne (by
          rw [List.eq_nil_of_length_eq_zero ((know_top k1).2.2 h), List.eq_nil_of_length_eq_zero ((know_top k3).2.2 h)])
        rw [rsnB_same]
        obtain ⟨i1, z1⟩ := zero_cnt (o := o) hs.top hi hz
        simp only [hf0, ↓reduceIte]
        exact (arg_eq xs _ ys i1 z1 k2 k4 hs.args ht.args).diff hne
      · rw [rsnB_other o hfg]
        show topsR o (.node f xs) (.node g ys) = _
        unfold topsR topsP
        have tf : ∀ (f : Int) (xs : List Tm), (Tm.node f xs).fn = f := fun _ _ => rfl
        simp only [tf]
        by_cases h1 : f < 0
        · by_cases h2 : g < 0
          · simp [h1, h2]
          · have ha := arn_end h2 h1 (.node g ys) rfl
            by_cases h3 : (arndEnd g (.node g ys)).fn = f
            · simp [h1, h2, h3, relT, ha]
            · simp [h1, h2, h3, relT, ha]
        · by_cases h2 : g < 0
          · have ha := arn_end h1 h2 (.node f xs) rfl
            by_cases h3 : (arndEnd f (.node f xs)).fn = g
            · simp [h1, h2, h3, ha]
            · simp [h1, h2, h3, ha]
          · have hgf : ¬ g = f := fun e => hfg e.symm
            by_cases h3 : o.prec.getD g.toNat 0 < o.prec.getD f.toNat 0
            · simp only [h1, h2, hfg, ↓reduceIte, h3, decide_true]
            · by_cases h4 : o.prec.getD f.toNat 0 = o.prec.getD g.toNat 0
              · have h5 : ¬ o.prec.getD f.toNat 0 < o.prec.getD g.toNat 0 := by omega
                simp only [h1, h2, hfg, hgf, ↓reduceIte, h4, decide_false, Bool.false_eq_true, Int.lt_irrefl]
              · have h5 : o.prec.getD f.toNat 0 < o.prec.getD g.toNat 0 := by omega
                simp only [h1, h2, hfg, hgf, ↓reduceIte, h3, h4, h5, decide_false, decide_true, Bool.false_eq_true]
theorem arg_eq {o : Odr} {N : Nat} : ∀ (xs : List Tm) (b : Bal) (ys : List Tm), InvB N b → (∀ v, v < 0 → b.V v = 0) → knowL o xs = true → knowL o ys = true → VBL N xs → VBL N ys → ArgK o xs ys (argB o xs b ys).2
  | [], b, [], _, _, _, _, _, _ => by
    rw [argB]; exact ⟨fun _ => rfl, fun h => absurd rfl h⟩
  | [], b, y :: ys, _, _, _, _, _, _ => by
    rw [argB]
    exact ⟨fun h => (by cases h), fun _ => by rw [abvL, abvL]; exact numI_rel0 ys.length⟩
  | x :: xs, b, [], _, _, _, _, _, _ => by
    rw [argB]
    exact ⟨fun h => (by cases h), fun _ => by rw [abvL]; exact numI_rel1 xs.length⟩
  | x :: xs, b, y :: ys, hi, hz, hkx, hky, hx, hy => by
    rw [knowL, Bool.and_eq_true] at hkx hky
    have h1 := fin_eq (o := o) x b y hi hz hkx.1 hky.1 hx.head hy.head
    have hl := rsn_laid (o := o) x b y hx.head hy.head
    rw [argB, h1]
    by_cases e : x = y
    · subst e
      rw [if_pos (cmpK_two.2 rfl)]
      have h2 := arg_eq (o := o) xs (rsnB o x b x).1 ys (hl.inv hi) (fun v hv => by rw [hl.V v hv, hz v hv]; omega) hkx.2 hky.2 hx.tail hy.tail
      refine ⟨fun h => h2.same (by injection h), fun h => ?_⟩
      rw [h2.diff (fun h' => h (by rw [h'])), abvL, abvL, if_pos (cmp_zero_iff.2 rfl), if_pos (cmp_zero_iff.2 rfl)]
    · rw [if_neg (fun h => e (cmpK_two.1 h))]
      refine ⟨fun h => absurd (by injection h) e, fun _ => ?_⟩
      have e1 : ¬ cmpT x y = 0 := fun h => e (cmp_zero_iff.1 h)
      have e2 : ¬ cmpT y x = 0 := fun h => e (cmp_zero_iff.1 h).symm
      rw [abvL, abvL, if_neg e1, if_neg e2]
      show cmpK o x y = _
      unfold cmpK
      rw [if_neg e1]
end
theorem cmpO_eq (o : Odr) (s t : Tm) : cmpO o s t = cmpR o s t := by
  unfold cmpO cmpR
  cases hs : knowT o s with
  | false => rfl
  | true =>
    cases ht : knowT o t with
    | false => rfl
    | true =>
      obtain ⟨N1, h1⟩ := VB_ex s
      obtain ⟨N2, h2⟩ := VB_ex t
      have hi : InvB (N1 + N2) bal0 := ⟨(pS_zero (N1 + N2) bal0.V fun v _ => Int.le_refl 0).symm, (pS_zero (N1 + N2) (fun x => - bal0.V x) fun v _ => Int.le_refl 0).symm⟩
      have h := fin_eq (o := o) s bal0 t hi (fun _ _ => rfl) hs ht (fun v hv hp => by have := h1 v hv hp; omega) (fun v hv hp => by have := h2 v hv hp; omega)
      simp only [Bool.and_self, ↓reduceIte]
      rw [h]
      rfl
end Go.Proofs.YthgglobfkkcdgaaGreat
namespace Go.Proofs.YthgglobfkkcdgaaGreat
open Go.RowKit
set_option maxRecDepth 20000
section
variable {o : Odr} {ar : List Nat}
end
section
variable {o : Odr} {ar : List Nat}
end
end Go.Proofs.YthgglobfkkcdgaaGreat
namespace Go.Proofs.YthgglobfkkcdgaaGreat
open Go.RowKit Go.Shelf Go.Maps
set_option maxRecDepth 100000
end Go.Proofs.YthgglobfkkcdgaaGreat
namespace Go.Proofs.YthgglobfkkcdgaaGreat
open Go.RowKit Go.Shelf Go.Maps
set_option maxRecDepth 100000
theorem kboCmp_at {W : World} {o : Odr} {s t : Tm} {P Q A A2 : Option Addr} {pc qc c c2 : Nat} (hM : OdrM W W.heap.size o P Q) (hs : TmK W s A c) (ht : TmK W t A2 c2) (hz : s.size + t.size ≤ 1073741824) : ∀ w1, Below W.heap.size W w1 →
    Calls Tryz.prog 31 #[.agg #[.bool o.lpo, .slice P o.prec.length pc, .slice Q o.wts.length qc, .int .i64 o.var], .agg #[.int .i64 s.fn, .slice A s.args.length c], .agg #[.int .i64 t.fn, .slice A2 t.args.length c2]] w1 fun e w' => e = .returned (.int .i64 (cmpR o s t)) ∧ Below w1.heap.size w1 w' := fun w1 hb => by
  have := kboCmp_any o s t P Q A A2 pc qc c c2 w1 (hM.on hb) hs.i64 ht.i64 hz (hs.on hb).args (ht.on hb).args
  rwa [cmpO_eq] at this
section
variable {o : Odr} {ar : List Nat} {s t u : Tm}
end
end Go.Proofs.YthgglobfkkcdgaaGreat
namespace Go.Proofs.YthgglobfkkcdgaaGreat
open Go.RowKit
set_option maxRecDepth 20000
def lexB (A : Tm → Tm → Bool) : List Tm → List Tm → Bool
  | [], _ => false
  | _ :: _, [] => true
  | x :: xs, y :: ys => A x y || (decide (cmpT x y = 0) && lexB A xs ys)
def rkI (p : List Int) (f : Int) : Int := p.getD f.toNat 0
def lpN (p : List Int) : Nat → Tm → Tm → Bool
  | 0, _, _ => false
  | n + 1, .node f xs, t => !decide (f < 0) && ((decide (t.fn < 0) && decide (0 < ofT t.fn (.node f xs))) || (xs.any fun x => decide (cmpT x t = 0) || lpN p n x t) ||
      (!decide (t.fn < 0) && ((t.args.all fun y => lpN p n (.node f xs) y) && (decide (rkI p t.fn < rkI p f) || (decide (f = t.fn) && lexB (lpN p n) xs t.args)))))
def lpT (p : List Int) (s t : Tm) : Bool := lpN p (s.size + t.size) s t
theorem lexB_congr {A B : Tm → Tm → Bool} : ∀ (xs ys : List Tm), (∀ x ∈ xs, ∀ y ∈ ys, A x y = B x y) → lexB A xs ys = lexB B xs ys
  | [], _, _ => rfl
  | _ :: _, [], _ => rfl
  | x :: xs, y :: ys, h => by
    rw [lexB, lexB, lexB_congr xs ys fun a ha b hb => h a (by simp [ha]) b (by simp [hb]), h x (by simp) y (by simp)]
theorem size_arg {f : Int} {xs : List Tm} {x : Tm} (h : x ∈ xs) : x.size < (Tm.node f xs).size := by
  have := size_mem h
  rw [Tm.size]; omega
theorem size_args {t y : Tm} (h : y ∈ t.args) : y.size < t.size := by
  obtain ⟨f, xs⟩ := t
  exact size_arg h
theorem all_congr' {A B : Tm → Bool} : ∀ (xs : List Tm), (∀ x ∈ xs, A x = B x) → xs.all A = xs.all B
  | [], _ => rfl
  | x :: xs, h => by rw [List.all_cons, List.all_cons, h x (by simp), all_congr' xs fun y hy => h y (by simp [hy])]
theorem any_congr' {A B : Tm → Bool} : ∀ (xs : List Tm), (∀ x ∈ xs, A x = B x) → xs.any A = xs.any B
  | [], _ => rfl
  | x :: xs, h => by rw [List.any_cons, List.any_cons, h x (by simp), any_congr' xs fun y hy => h y (by simp [hy])]
theorem lpN_more (p : List Int) : ∀ (n m : Nat) (s t : Tm), s.size + t.size ≤ n → n ≤ m → lpN p n s t = lpN p m s t
  | 0, m, s, t, h, _ => by have := size_pos s; omega
  | n + 1, 0, s, t, _, h => by omega
  | n + 1, m + 1, .node f xs, t, h, hm => by
    rw [lpN, lpN]
    rw [any_congr' xs (B := fun x => decide (cmpT x t = 0) || lpN p m x t) fun x hx => by rw [lpN_more p n m x t (by have := size_arg (f := f) hx; omega) (by omega)],
      all_congr' t.args (B := fun y => lpN p m (.node f xs) y) fun y hy => lpN_more p n m _ y (by have := size_args hy; omega) (by omega),
      lexB_congr (B := lpN p m) xs t.args fun x hx y hy => lpN_more p n m x y (by have := size_arg (f := f) hx; have := size_args hy; omega) (by omega)]
theorem lpT_of (p : List Int) {n : Nat} {s t : Tm} (h : s.size + t.size ≤ n) : lpN p n s t = lpT p s t := (lpN_more p _ n s t (Nat.le_refl _) h).symm
theorem lpT_eq (p : List Int) (f : Int) (xs : List Tm) (t : Tm) : lpT p (.node f xs) t = (!decide (f < 0) && ((decide (t.fn < 0) && decide (0 < ofT t.fn (.node f xs))) || (xs.any fun x => decide (cmpT x t = 0) || lpT p x t) ||
      (!decide (t.fn < 0) && ((t.args.all fun y => lpT p (.node f xs) y) && (decide (rkI p t.fn < rkI p f) || (decide (f = t.fn) && lexB (lpT p) xs t.args)))))) := by
  have hp := size_pos t
  rw [← lpT_of p (n := (Tm.node f xs).size + t.size - 1 + 1) (by omega), lpN]
  rw [any_congr' xs (B := fun x => decide (cmpT x t = 0) || lpT p x t) fun x hx => by rw [lpT_of p (by have := size_arg (f := f) hx; omega)],
    all_congr' t.args (B := fun y => lpT p (.node f xs) y) fun y hy => lpT_of p (by have := size_args hy; omega),
    lexB_congr (B := lpT p) xs t.args fun x hx y hy => lpT_of p (by have := size_arg (f := f) hx; have := size_args hy; omega)]
section
variable {p : List Int}
inductive LpR (p : List Int) (f : Int) (xs : List Tm) (t : Tm) : Prop
  | var (h : t.fn < 0) (ho : 0 < ofT t.fn (.node f xs))
  | sub (x : Tm) (hx : x ∈ xs) (h : x = t ∨ lpT p x t = true)
  | rank (h : ¬ t.fn < 0) (ha : ∀ y ∈ t.args, lpT p (.node f xs) y = true) (hr : rkI p t.fn < rkI p f)
  | lex (h : ¬ t.fn < 0) (ha : ∀ y ∈ t.args, lpT p (.node f xs) y = true) (he : f = t.fn) (hl : lexB (lpT p) xs t.args = true)
theorem lp_iff {f : Int} {xs : List Tm} {t : Tm} : lpT p (.node f xs) t = true ↔ ¬ f < 0 ∧ LpR p f xs t := by
  rw [lpT_eq]
  simp only [Bool.and_eq_true, Bool.or_eq_true, Bool.not_eq_true', decide_eq_false_iff_not, decide_eq_true_eq, List.any_eq_true, List.all_eq_true]
  constructor
  · rintro ⟨h0, (⟨h1, h2⟩ | ⟨x, hx, h⟩) | ⟨h1, h2, h3⟩⟩
    · exact ⟨h0, .var h1 h2⟩
    · exact ⟨h0, .sub x hx (h.imp (fun e => cmp_zero_iff.1 e) id)⟩
    · rcases h3 with h3 | ⟨h3, h4⟩
      · exact ⟨h0, .rank h1 h2 h3⟩
      · exact ⟨h0, .lex h1 h2 h3 h4⟩
  · rintro ⟨h0, h⟩
    refine ⟨h0, ?_⟩
    cases h with
    | var h ho => exact .inl (.inl ⟨h, ho⟩)
    | sub x hx h => exact .inl (.inr ⟨x, hx, h.imp (fun e => cmp_zero_iff.2 e) id⟩)
    | rank h ha hr => exact .inr ⟨h, ha, .inl hr⟩
    | lex h ha he hl => exact .inr ⟨h, ha, .inr ⟨he, hl⟩⟩
mutual
def vnT : Tm → Bool
  | .node f xs => (!decide (f < 0) || decide (xs.length = 0)) && vnTL xs
def vnTL : List Tm → Bool
  | [] => true
  | t :: ts => vnT t && vnTL ts
end
theorem vnTL_mem : ∀ {xs : List Tm} {t : Tm}, vnTL xs = true → t ∈ xs → vnT t = true
  | [], _, _, h => by simp at h
  | x :: xs, t, h, ht => by
    rw [vnTL, Bool.and_eq_true] at h
    rcases List.mem_cons.1 ht with rfl | ht
    · exact h.1
    · exact vnTL_mem h.2 ht
theorem vn_args {f : Int} {xs : List Tm} {x : Tm} (h : vnT (.node f xs) = true) (hx : x ∈ xs) : vnT x = true := by
  rw [vnT, Bool.and_eq_true] at h
  exact vnTL_mem h.2 hx
theorem vn_arg {t y : Tm} (h : vnT t = true) (hy : y ∈ t.args) : vnT y = true := by
  obtain ⟨f, xs⟩ := t
  exact vn_args h hy
theorem vn_var {t : Tm} (h : vnT t = true) (hf : t.fn < 0) : t = .node t.fn [] := by
  obtain ⟨f, xs⟩ := t
  change f < 0 at hf
  rw [vnT, Bool.and_eq_true, Bool.or_eq_true, Bool.not_eq_true', decide_eq_false_iff_not, decide_eq_true_eq] at h
  rcases h.1 with h1 | h1
  · exact absurd hf h1
  · rw [List.eq_nil_of_length_eq_zero h1]; rfl
theorem of_mem {v : Int} : ∀ {xs : List Tm}, 0 < ofL v xs → ∃ x ∈ xs, 0 < ofT v x
  | [], h => by rw [ofL] at h; omega
  | y :: ys, h => by
    rw [ofL] at h
    by_cases hy : 0 < ofT v y
    · exact ⟨y, by simp, hy⟩
    · obtain ⟨x, hx, h⟩ := of_mem (v := v) (xs := ys) (by omega); exact ⟨x, by simp [hx], h⟩
theorem of_le {v : Int} : ∀ {xs : List Tm} {x : Tm}, x ∈ xs → ofT v x ≤ ofL v xs
  | [], _, h => by simp at h
  | y :: ys, x, h => by
    rw [ofL]
    rcases List.mem_cons.1 h with rfl | h
    · omega
    · have := of_le (v := v) h; omega
theorem lp_vars : ∀ (n : Nat) (s t : Tm) (v : Int), s.size + t.size ≤ n → vnT t = true → lpT p s t = true → v < 0 → 0 < ofT v t → 0 < ofT v s
  | 0, s, t, v, hn, _, _, _, _ => by have := size_pos s; omega
  | n + 1, .node f xs, t, v, hn, ht, h, hv, ho => by
    obtain ⟨hf, h⟩ := lp_iff.1 h
    have hargs : ¬ t.fn < 0 → (∀ y ∈ t.args, lpT p (.node f xs) y = true) → 0 < ofT v (.node f xs) := fun htn ha => by
      obtain ⟨g, ys⟩ := t
      rw [ofT] at ho
      change ¬ g < 0 at htn
      rw [if_neg (by omega)] at ho
      obtain ⟨y, hy, hoy⟩ := of_mem (show 0 < ofL v ys from by simpa using ho)
      exact lp_vars n _ y v (by have := size_arg (f := g) hy; omega) (vn_args ht hy) (ha y hy) hv hoy
    cases h with
    | var h1 h2 =>
      rw [vn_var ht h1, ofT, ofL] at ho
      by_cases e : t.fn = v
      · rw [← e]; exact h2
      · rw [if_neg e] at ho; omega
    | sub x hx h =>
      have hxo : 0 < ofT v x := by
        rcases h with rfl | h
        · exact ho
        · exact lp_vars n x t v (by have := size_arg (f := f) hx; omega) ht h hv ho
      rw [ofT]
      have := of_le (v := v) hx
      omega
    | rank h ha _ => exact hargs h ha
    | lex h ha _ _ => exact hargs h ha
theorem lexB_trans {A : Tm → Tm → Bool} : ∀ (xs ys zs : List Tm), (∀ x ∈ xs, ∀ y ∈ ys, ∀ z ∈ zs, A x y = true → A y z = true → A x z = true) → lexB A xs ys = true → lexB A ys zs = true → lexB A xs zs = true
  | [], _, _, _, h, _ => by rw [lexB] at h; cases h
  | _ :: _, [], _, _, _, h => by rw [lexB] at h; cases h
  | _ :: _, _ :: _, [], _, _, _ => by rw [lexB]
  | x :: xs, y :: ys, z :: zs, ht, h1, h2 => by
    rw [lexB, Bool.or_eq_true, Bool.and_eq_true, decide_eq_true_eq, cmp_zero_iff] at h1 h2 ⊢
    rcases h1 with h1 | ⟨rfl, h1⟩
    · rcases h2 with h2 | ⟨rfl, h2⟩
      · exact .inl (ht x (by simp) y (by simp) z (by simp) h1 h2)
      · exact .inl h1
    · rcases h2 with h2 | ⟨rfl, h2⟩
      · exact .inl h2
      · exact .inr ⟨rfl, lexB_trans xs ys zs (fun a ha b hb c hc => ht a (by simp [ha]) b (by simp [hb]) c (by simp [hc])) h1 h2⟩
theorem lexB_self {A : Tm → Tm → Bool} : ∀ xs : List Tm, (∀ x ∈ xs, A x x = false) → lexB A xs xs = false
  | [], _ => rfl
  | x :: xs, h => by rw [lexB, h x (by simp), lexB_self xs fun y hy => h y (by simp [hy])]; simp
theorem lp_trans_n : ∀ (n : Nat) (s t u : Tm), s.size + t.size + u.size ≤ n → vnT s = true → vnT t = true → vnT u = true → lpT p s t = true → lpT p t u = true → lpT p s u = true
  | 0, s, _, _, h, _, _, _, _, _ => by have := size_pos s; omega
  | n + 1, s, t, u, hn, hs, ht, hu, h1, h2 => by
    have ihT := lp_trans_n n
    obtain ⟨f, xs⟩ := s
    obtain ⟨g, ys⟩ := t
    have zt := size_pos (Tm.node g ys)
    have zu := size_pos u
    obtain ⟨hf, r1⟩ := lp_iff.1 h1
    have hg : ¬ g < 0 := (lp_iff.1 h2).1
    have deep : (∀ y ∈ ys, lpT p (.node f xs) y = true) → (rkI p g < rkI p f ∨ (f = g ∧ lexB (lpT p) xs ys = true)) → lpT p (.node f xs) u = true := fun ha hr => by
      have hall : (∀ z ∈ u.args, lpT p (.node g ys) z = true) → ∀ z ∈ u.args, lpT p (.node f xs) z = true := fun hz z hzm => ihT _ _ z (by have := size_args hzm; omega) hs ht (vn_arg hu hzm) h1 (hz z hzm)
      cases (lp_iff.1 h2).2 with
      | var h ho => exact lp_iff.2 ⟨hf, .var h (lp_vars _ _ _ _ (Nat.le_refl _) ht h1 h ho)⟩
      | sub y hy h =>
        rcases h with rfl | h
        · exact ha y hy
        · exact ihT _ y u (by have := size_arg (f := g) hy; omega) hs (vn_args ht hy) hu (ha y hy) h
      | rank h hz hr2 =>
        refine lp_iff.2 ⟨hf, .rank h (hall hz) ?_⟩
        rcases hr with hr | ⟨rfl, _⟩
        · omega
        · exact hr2
      | lex h hz he hl =>
        change g = u.fn at he
        rcases hr with hr | ⟨rfl, hl1⟩
        · exact lp_iff.2 ⟨hf, .rank h (hall hz) (by rw [← he]; exact hr)⟩
        · exact lp_iff.2 ⟨hf, .lex h (hall hz) he (lexB_trans xs ys u.args (fun x hx y hy z hz' => ihT x y z (by have := size_arg (f := f) hx; have := size_arg (f := f) hy; have := size_args hz'; omega) (vn_args hs hx) (vn_args ht hy) (vn_arg hu hz')) hl1 hl)⟩
    cases r1 with
    | var h _ => exact absurd h hg
    | sub x hx h =>
      refine lp_iff.2 ⟨hf, .sub x hx (.inr ?_)⟩
      rcases h with rfl | h
      · exact h2
      · exact ihT x _ u (by have := size_arg (f := f) hx; omega) (vn_args hs hx) ht hu h h2
    | rank h ha hr => exact deep ha (.inl hr)
    | lex h ha he hl => exact deep ha (.inr ⟨he, hl⟩)
theorem lp_trans {s t u : Tm} (hs : vnT s = true) (ht : vnT t = true) (hu : vnT u = true) (h1 : lpT p s t = true) (h2 : lpT p t u = true) : lpT p s u = true := lp_trans_n _ s t u (Nat.le_refl _) hs ht hu h1 h2
theorem lp_arg {f : Int} {xs : List Tm} {x : Tm} (hs : vnT (.node f xs) = true) (hx : x ∈ xs) : lpT p (.node f xs) x = true := by
  refine lp_iff.2 ⟨fun hf => ?_, .sub x hx (.inl rfl)⟩
  have := vn_var hs hf
  injection this with _ h
  rw [h] at hx
  simp at hx
theorem lp_irr : ∀ s : Tm, vnT s = true → lpT p s s = false := by
  refine Tm.ind fun f xs ih hs => ?_
  cases h : lpT p (.node f xs) (.node f xs) with
  | false => rfl
  | true =>
    exfalso
    obtain ⟨hf, r⟩ := lp_iff.1 h
    cases r with
    | var h _ => exact hf h
    | sub x hx h =>
      have hz := size_arg (f := f) hx
      rcases h with rfl | h
      · omega
      · have := lp_trans (vn_args hs hx) hs (vn_args hs hx) h (lp_arg hs hx)
        rw [ih x hx (vn_args hs hx)] at this
        cases this
    | rank _ _ hr => change rkI p f < rkI p f at hr; omega
    | lex _ _ _ hl =>
      change lexB (lpT p) xs xs = true at hl
      rw [lexB_self xs fun x hx => ih x hx (vn_args hs hx)] at hl
      cases hl
def lexA (A : Tm → Tm → Bool) : List Tm → List Tm → Bool
  | [], _ => false
  | _ :: _, [] => true
  | x :: xs, y :: ys => if cmpT x y = 0 then lexA A xs ys else A x y
theorem lexA_B : ∀ (xs ys : List Tm), (∀ x ∈ xs, vnT x = true) → lexB (lpT p) xs ys = lexA (lpT p) xs ys
  | [], _, _ => rfl
  | _ :: _, [], _ => rfl
  | x :: xs, y :: ys, h => by
    rw [lexB, lexA, lexA_B xs ys fun a ha => h a (by simp [ha])]
    by_cases e : cmpT x y = 0
    · have e' := cmp_zero_iff.1 e
      subst e'
      rw [lp_irr x (h x (by simp)), if_pos e, decide_eq_true e]; simp
    · rw [if_neg e, decide_eq_false e]; simp
end
end Go.Proofs.YthgglobfkkcdgaaGreat
namespace Go.Proofs.YthgglobfkkcdgaaGreat
open Go.RowKit
set_option maxRecDepth 20000
section
variable {p : List Int}
theorem lp_sub {f : Int} {xs : List Tm} {x t : Tm} (hs : vnT (.node f xs) = true) (hx : x ∈ xs) (h : x = t ∨ lpT p x t = true) : lpT p (.node f xs) t = true := by
  refine lp_iff.2 ⟨fun hf => ?_, .sub x hx h⟩
  have := vn_var hs hf
  injection this with _ h
  rw [h] at hx
  simp at hx
variable {ar : List Nat}
end
end Go.Proofs.YthgglobfkkcdgaaGreat
namespace Go.Proofs.YthgglobfkkcdgaaGreat
open Go.RowKit
set_option maxRecDepth 20000
def difL : List Tm → List Tm → List Tm × List Tm
  | x :: xs, y :: ys => if cmpT x y = 0 then difL xs ys else (x :: xs, y :: ys)
  | xs, ys => (xs, ys)
theorem difL_spec : ∀ (xs ys : List Tm), ∃ pre, xs = pre ++ (difL xs ys).1 ∧ ys = pre ++ (difL xs ys).2 ∧ ∀ a l b m, (difL xs ys).1 = a :: l → (difL xs ys).2 = b :: m → ¬ a = b
  | [], ys => ⟨[], by simp [difL], by simp [difL], fun a l b m h => by simp [difL] at h⟩
  | x :: xs, [] => ⟨[], by simp [difL], by simp [difL], fun a l b m _ h => by simp [difL] at h⟩
  | x :: xs, y :: ys => by
    by_cases e : cmpT x y = 0
    · have e' := cmp_zero_iff.1 e
      subst e'
      obtain ⟨pre, h1, h2, h3⟩ := difL_spec xs ys
      have hd : difL (x :: xs) (x :: ys) = difL xs ys := by rw [difL, if_pos e]
      rw [hd]
      exact ⟨x :: pre, by rw [List.cons_append, ← h1], by rw [List.cons_append, ← h2], h3⟩
    · have hd : difL (x :: xs) (y :: ys) = (x :: xs, y :: ys) := by rw [difL, if_neg e]
      rw [hd]
      refine ⟨[], rfl, rfl, fun a l b m h1 h2 => ?_⟩
      injection h1 with h1 _
      injection h2 with h2 _
      rw [← h1, ← h2]
      exact fun h => e (cmp_zero_iff.2 h)
section
variable {p : List Int}
theorem lexB_pre {A : Tm → Tm → Bool} : ∀ (pre l m : List Tm), (∀ x ∈ pre, A x x = false) → lexB A (pre ++ l) (pre ++ m) = lexB A l m
  | [], l, m, _ => rfl
  | x :: pre, l, m, h => by
    rw [List.cons_append, List.cons_append, lexB, h x (by simp), decide_eq_true (cmp_zero_iff.2 rfl), lexB_pre pre l m fun y hy => h y (by simp [hy])]; simp
def contB (s t : Tm) : Bool := decide (t.fn < 0) && (!decide (s.fn < 0) && decide (0 < ofT t.fn s))
def higB (p : List Int) (s t : Tm) : Bool := !decide (s.fn < 0) && (!decide (t.fn < 0) && decide (rkI p t.fn < rkI p s.fn))
def outB (p : List Int) (s t : Tm) : Bool := higB p s t && t.args.all fun y => lpT p s y
def leadB (p : List Int) (s t : Tm) : Bool := decide (s.fn = t.fn) && (match difL s.args t.args with
  | ([], _) => false
  | (_ :: _, []) => true
  | (a :: _, b :: m) => lpT p a b && m.all fun y => lpT p s y)
def covRow (s t : Tm) : List Tm := if s.fn = t.fn then (difL s.args t.args).1.tail else s.args
def covB (p : List Int) (s t : Tm) : Bool := !decide (t.fn < 0) && (!higB p s t && (covRow s t).any fun x => decide (cmpT x t = 0) || lpT p x t)
def fndB (p : List Int) (s t : Tm) : Bool := contB s t || (outB p s t || (leadB p s t || covB p s t))
theorem find_eq {s t : Tm} (hs : vnT s = true) (ht : vnT t = true) : fndB p s t = lpT p s t := by
  obtain ⟨f, xs⟩ := s
  rw [Bool.eq_iff_iff]
  obtain ⟨pre, e1, e2, e3⟩ := difL_spec xs t.args
  have below : ∀ y, lpT p (.node f xs) t = true → y ∈ t.args → lpT p (.node f xs) y = true := fun y h hy => lp_trans hs ht (vn_arg ht hy) h (by
    obtain ⟨g, ys⟩ := t
    exact lp_arg ht hy)
  constructor
  · intro h
    unfold fndB at h
    simp only [Bool.or_eq_true] at h
    rcases h with h | h | h | h
    · unfold contB at h
      simp only [Bool.and_eq_true, Bool.not_eq_true', decide_eq_false_iff_not, decide_eq_true_eq] at h
      exact lp_iff.2 ⟨h.2.1, .var h.1 h.2.2⟩
    · unfold outB higB at h
      simp only [Bool.and_eq_true, Bool.not_eq_true', decide_eq_false_iff_not, decide_eq_true_eq, List.all_eq_true] at h
      exact lp_iff.2 ⟨h.1.1, .rank h.1.2.1 h.2 h.1.2.2⟩
    · unfold leadB at h
      rw [Bool.and_eq_true, decide_eq_true_eq] at h
      obtain ⟨hfg, h⟩ := h
      change f = t.fn at hfg
      change (match difL xs t.args with | ([], _) => false | (_ :: _, []) => true | (a :: _, b :: m) => lpT p a b && m.all fun y => lpT p (.node f xs) y) = true at h
      have hirr : ∀ x ∈ pre, lpT p x x = false := fun x hx => lp_irr x (vn_args hs (by rw [e1]; simp [hx]))
      match hd : difL xs t.args with
      | ([], m) => rw [hd] at h; simp at h
      | (a :: l, m) =>
        rw [hd] at h e1 e2 e3
        simp only at h e1 e2 e3
        have hf : ¬ f < 0 := fun hf => by
          have := vn_var hs hf
          injection this with _ h'
          rw [h'] at e1
          simp at e1
        have hpre : ∀ y ∈ pre, lpT p (.node f xs) y = true := fun y hy => lp_arg hs (by rw [e1]; simp [hy])
        match m, h, e2 with
        | [], h, e2 =>
          refine lp_iff.2 ⟨hf, .lex (by rw [← hfg]; exact hf) (fun y hy => hpre y (by rw [e2] at hy; simpa using hy)) hfg ?_⟩
          rw [e1, e2, lexB_pre pre _ _ hirr, lexB]
        | b :: m, h, e2 =>
          rw [Bool.and_eq_true, List.all_eq_true] at h
          refine lp_iff.2 ⟨hf, .lex (by rw [← hfg]; exact hf) (fun y hy => ?_) hfg ?_⟩
          · rw [e2] at hy
            rcases List.mem_append.1 hy with hy | hy
            · exact hpre y hy
            · rcases List.mem_cons.1 hy with rfl | hy
              · exact lp_sub hs (x := a) (by rw [e1]; simp) (.inr h.1)
              · exact h.2 y hy
          · rw [e1, e2, lexB_pre pre _ _ hirr, lexB, h.1]; rfl
    · unfold covB at h
      simp only [Bool.and_eq_true, Bool.not_eq_true', List.any_eq_true, Bool.or_eq_true, decide_eq_true_eq] at h
      obtain ⟨_, _, x, hx, h⟩ := h
      refine lp_sub hs (x := x) ?_ (h.imp cmp_zero_iff.1 id)
      unfold covRow at hx
      by_cases hfg : (Tm.node f xs).fn = t.fn
      · rw [if_pos hfg] at hx
        rw [e1]
        exact List.mem_append_right _ (List.mem_of_mem_tail hx)
      · rw [if_neg hfg] at hx
        exact hx
  · intro h
    obtain ⟨hf, r⟩ := lp_iff.1 h
    have hcont : t.fn < 0 → 0 < ofT t.fn (.node f xs) → fndB p (.node f xs) t = true := fun h1 h2 => by
      unfold fndB contB
      rw [decide_eq_true h1, decide_eq_false (show ¬ (Tm.node f xs).fn < 0 from hf), decide_eq_true h2]; rfl
    have hout : ¬ t.fn < 0 → rkI p t.fn < rkI p f → fndB p (.node f xs) t = true := fun h1 h2 => by
      have hh : outB p (.node f xs) t = true := by
        unfold outB higB
        rw [decide_eq_false (show ¬ (Tm.node f xs).fn < 0 from hf), decide_eq_false h1, decide_eq_true (show rkI p t.fn < rkI p (Tm.node f xs).fn from h2), Bool.and_eq_true, List.all_eq_true]
        exact ⟨rfl, fun y hy => below y h hy⟩
      unfold fndB; rw [hh]; simp
    have hlead : f = t.fn → (∀ a l b m, difL xs t.args = (a :: l, b :: m) → lpT p a b = true) → (∀ m, difL xs t.args ≠ ([], m)) → fndB p (.node f xs) t = true := fun h1 h2 h3 => by
      have hh : leadB p (.node f xs) t = true := by
        unfold leadB
        rw [decide_eq_true (show (Tm.node f xs).fn = t.fn from h1), Bool.true_and]
        change (match difL xs t.args with | ([], _) => false | (_ :: _, []) => true | (a :: _, b :: m) => lpT p a b && m.all fun y => lpT p (.node f xs) y) = true
        match hd : difL xs t.args with
        | ([], m) => exact absurd hd (h3 m)
        | (a :: l, []) => rfl
        | (a :: l, b :: m) =>
          rw [hd] at e2
          simp only at e2
          simp only [Bool.and_eq_true, List.all_eq_true]
          exact ⟨h2 a l b m hd, fun y hy => below y h (by rw [e2]; simp [hy])⟩
      unfold fndB; rw [hh]; simp
    cases r with
    | var h1 h2 => exact hcont h1 h2
    | sub x hx hxt =>
      by_cases htv : t.fn < 0
      · refine hcont htv ?_
        have h0 : 0 < ofT t.fn x := by
          rcases hxt with rfl | hxt
          · rw [vn_var (vn_args hs hx) htv, ofT]
            change 0 < (if x.fn = x.fn then 1 else 0) + ofL x.fn []
            rw [if_pos rfl]; omega
          · refine lp_vars _ x t t.fn (Nat.le_refl _) ht hxt htv ?_
            rw [vn_var ht htv]
            change 0 < ofT t.fn (.node t.fn [])
            rw [ofT, if_pos rfl]; omega
        have h1 := of_le (v := t.fn) hx
        rw [ofT]; omega
      · by_cases hr : rkI p t.fn < rkI p f
        · exact hout htv hr
        · have hhig : higB p (.node f xs) t = false := by
            unfold higB
            rw [decide_eq_false (show ¬ rkI p t.fn < rkI p (Tm.node f xs).fn from hr)]; simp
          have hcov : x ∈ covRow (.node f xs) t → fndB p (.node f xs) t = true := fun hm => by
            have hh : covB p (.node f xs) t = true := by
              unfold covB
              rw [decide_eq_false htv, hhig]
              simp only [Bool.not_false, Bool.true_and, List.any_eq_true, Bool.or_eq_true, decide_eq_true_eq]
              exact ⟨x, hm, hxt.imp cmp_zero_iff.2 id⟩
            unfold fndB; rw [hh]; simp
          by_cases hfg : f = t.fn
          · rw [e1] at hx
            have targ : ∀ y ∈ t.args, lpT p t y = true := fun y hy => by
              obtain ⟨g, ys⟩ := t
              exact lp_arg ht hy
            have hxs : ∀ y, y ∈ (difL xs t.args).1 → y ∈ xs := fun y hy => by rw [e1]; exact List.mem_append_right _ hy
            rcases List.mem_append.1 hx with hx | hx
            · exfalso
              have hxy : x ∈ t.args := by rw [e2]; simp [hx]
              have hvx := vn_arg ht hxy
              have h1 := targ x hxy
              rcases hxt with rfl | hxt
              · rw [lp_irr x hvx] at h1; cases h1
              · have := lp_trans hvx ht hvx hxt h1
                rw [lp_irr x hvx] at this; cases this
            · match hd : (difL xs t.args).1, hx with
              | a :: l, hx =>
                rcases List.mem_cons.1 hx with rfl | hx
                · refine hlead hfg (fun a' l' b m hdd => ?_) (fun m hdd => ?_)
                  · rw [hdd] at hd
                    injection hd with hd _
                    subst hd
                    have hb : b ∈ t.args := by rw [e2, hdd]; simp
                    have h1 := targ b hb
                    rcases hxt with rfl | hxt
                    · exact h1
                    · exact lp_trans (vn_args hs (hxs _ (by rw [hdd]; simp))) ht (vn_arg ht hb) hxt h1
                  · rw [hdd] at hd; cases hd
                · refine hcov ?_
                  unfold covRow
                  rw [if_pos (show (Tm.node f xs).fn = t.fn from hfg)]
                  change x ∈ (difL xs t.args).1.tail
                  rw [hd]; exact hx
          · refine hcov ?_
            unfold covRow
            rw [if_neg (show ¬ (Tm.node f xs).fn = t.fn from hfg)]; exact hx
    | rank h1 ha hr => exact hout h1 hr
    | lex h1 ha he hl =>
      have hirr : ∀ x ∈ pre, lpT p x x = false := fun x hx => lp_irr x (vn_args hs (by rw [e1]; simp [hx]))
      rw [(congr (congrArg (lexB (lpT p)) e1) e2).trans (lexB_pre pre _ _ hirr)] at hl
      refine hlead he (fun a l b m hdd => ?_) (fun m hdd => ?_)
      · rw [hdd] at hl e1 e2
        simp only at hl e1 e2
        rw [lexB, Bool.or_eq_true, Bool.and_eq_true, decide_eq_true_eq, cmp_zero_iff] at hl
        rcases hl with hl | ⟨hl, _⟩
        · exact hl
        · exact absurd hl (e3 a l b m (by rw [hdd]) (by rw [hdd]))
      · rw [hdd] at hl
        simp only at hl
        rw [lexB] at hl; cases hl
end
end Go.Proofs.YthgglobfkkcdgaaGreat
namespace Go.Proofs.YthgglobfkkcdgaaGreat
open Go.RowKit
set_option maxRecDepth 20000
def lkN (R : Nat) (L : List (Int × Int)) (b l : Int) : Int × List (Int × Int) :=
  if (b, l) ∈ L then ((R : Int) + (L.idxOf (b, l) : Nat), L) else ((R : Int) + (L.length : Nat), L ++ [(b, l)])
mutual
def nmT (R : Nat) : List (Int × Int) → Tm → Int × List (Int × Int)
  | L, .node f xs => nmL R L f xs
def nmL (R : Nat) : List (Int × Int) → Int → List Tm → Int × List (Int × Int)
  | L, n, [] => (n, L)
  | L, n, x :: xs => nmL R (lkN R (nmT R L x).2 n (nmT R L x).1).2 (lkN R (nmT R L x).2 n (nmT R L x).1).1 xs
end
inductive Dec (R : Nat) (L : List (Int × Int)) : Int → Int → List Tm → Prop
  | sym (n : Int) (h : n < (R : Int)) : Dec R L n n []
  | lk (k : Nat) (b l f g : Int) (xs ys : List Tm) (h : L[k]? = some (b, l)) (h1 : Dec R L b f xs) (h2 : Dec R L l g ys) : Dec R L ((R : Int) + (k : Int)) f (xs ++ [.node g ys])
section
variable {R : Nat} {L L' : List (Int × Int)}
theorem Dec.mono {n f : Int} {xs : List Tm} (h : Dec R L n f xs) (hp : L <+: L') : Dec R L' n f xs := by
  induction h with
  | sym n h => exact .sym n h
  | lk k b l f g xs ys h _ _ ih1 ih2 =>
    refine .lk k b l f g xs ys ?_ ih1 ih2
    obtain ⟨r, rfl⟩ := hp
    rw [List.getElem?_append_left (List.getElem?_eq_some_iff.1 h).1]; exact h
theorem Dec.fun {n f : Int} {xs : List Tm} (h : Dec R L n f xs) : ∀ (f' : Int) (xs' : List Tm), Dec R L n f' xs' → f = f' ∧ xs = xs' := by
  induction h with
  | sym n h =>
    intro f' xs' h'
    cases h' with
    | sym _ _ => exact ⟨rfl, rfl⟩
    | lk k b l f g xs ys _ _ _ => omega
  | lk k b l f g xs ys h _ _ ih1 ih2 =>
    intro f' xs' h'
    generalize hn : (R : Int) + (k : Int) = n at h'
    cases h' with
    | sym _ h0 => omega
    | lk k' b' l' f' g' xs' ys' h' h1' h2' =>
      have hk : k = k' := by omega
      subst hk
      rw [h] at h'
      injection h' with h'
      injection h' with e1 e2
      subst e1 e2
      obtain ⟨rfl, rfl⟩ := ih1 _ _ h1'
      obtain ⟨rfl, rfl⟩ := ih2 _ _ h2'
      exact ⟨rfl, rfl⟩
theorem Dec.inj (hL : L.Nodup) {n f : Int} {xs : List Tm} (h : Dec R L n f xs) : ∀ m : Int, Dec R L m f xs → n = m := by
  induction h with
  | sym n h =>
    intro m h'
    generalize hx : ([] : List Tm) = xs at h'
    cases h' with
    | sym _ _ => rfl
    | lk k b l f g xs ys _ _ _ => simp at hx
  | lk k b l f g xs ys h _ _ ih1 ih2 =>
    intro m h'
    generalize hx : xs ++ [Tm.node g ys] = zs at h'
    cases h' with
    | sym _ _ => simp at hx
    | lk k' b' l' f' g' xs' ys' h' h1' h2' =>
      obtain ⟨e1, e2⟩ := List.append_inj' hx rfl
      subst e1
      injection e2 with e2 _
      injection e2 with e3 e4
      subst e3 e4
      have hb := ih1 _ h1'
      have hl := ih2 _ h2'
      subst hb hl
      have hk : k = k' := (List.getElem?_inj (List.getElem?_eq_some_iff.1 h).1 hL).1 (h.trans h'.symm)
      rw [hk]
theorem idx_get {a : Int × Int} : ∀ {L : List (Int × Int)}, a ∈ L → L[L.idxOf a]? = some a
  | [], h => by simp at h
  | b :: L, h => by
    by_cases e : b = a
    · subst e; simp
    · have h' : a ∈ L := by
        rcases List.mem_cons.1 h with h | h
        · exact absurd h.symm e
        · exact h
      have hbe : (b == a) = false := by simpa using e
      rw [List.idxOf_cons, hbe, cond_false, List.getElem?_cons_succ]
      exact idx_get h'
theorem lk_spec (hL : L.Nodup) (b l : Int) : (lkN R L b l).2.Nodup ∧ L <+: (lkN R L b l).2 ∧ ∃ k : Nat, (lkN R L b l).1 = (R : Int) + (k : Int) ∧ (lkN R L b l).2[k]? = some (b, l) := by
  unfold lkN
  by_cases h : (b, l) ∈ L
  · rw [if_pos h]
    exact ⟨hL, List.prefix_rfl, _, rfl, idx_get h⟩
  · rw [if_neg h]
    refine ⟨?_, List.prefix_append _ _, L.length, rfl, by simp⟩
    rw [List.nodup_append]
    exact ⟨hL, by simp, fun x hx y hy => by simp at hy; subst hy; exact fun e => h (e ▸ hx)⟩
mutual
def rkT (R : Nat) : Tm → Bool
  | .node f xs => decide (f < (R : Int)) && rkL R xs
def rkL (R : Nat) : List Tm → Bool
  | [] => true
  | t :: ts => rkT R t && rkL R ts
end
mutual
theorem nm_spec : ∀ (t : Tm) (L : List (Int × Int)), L.Nodup → rkT R t = true → (nmT R L t).2.Nodup ∧ L <+: (nmT R L t).2 ∧ Dec R (nmT R L t).2 (nmT R L t).1 t.fn t.args
  | .node f xs, L, hL, hr => by
    rw [rkT, Bool.and_eq_true, decide_eq_true_eq] at hr
    rw [nmT]
    have h := nmL_spec xs L f f [] hL (.sym f hr.1) hr.2
    rw [List.nil_append] at h
    exact h
theorem nmL_spec : ∀ (xs : List Tm) (L : List (Int × Int)) (n f : Int) (pre : List Tm), L.Nodup → Dec R L n f pre → rkL R xs = true → (nmL R L n xs).2.Nodup ∧ L <+: (nmL R L n xs).2 ∧ Dec R (nmL R L n xs).2 (nmL R L n xs).1 f (pre ++ xs)
  | [], L, n, f, pre, hL, hD, _ => by
    rw [nmL, List.append_nil]
    exact ⟨hL, List.prefix_rfl, hD⟩
  | x :: xs, L, n, f, pre, hL, hD, hr => by
    rw [rkL, Bool.and_eq_true] at hr
    rw [nmL]
    obtain ⟨h1, h2, h3⟩ := nm_spec x L hL hr.1
    obtain ⟨h4, h5, k, h6, h7⟩ := lk_spec (R := R) h1 n (nmT R L x).1
    have hx : Dec R (lkN R (nmT R L x).2 n (nmT R L x).1).2 (lkN R (nmT R L x).2 n (nmT R L x).1).1 f (pre ++ [x]) := by
      have e : pre ++ [x] = pre ++ [.node x.fn x.args] := by cases x; rfl
      rw [h6, e]
      exact .lk k _ _ f x.fn pre x.args h7 ((hD.mono h2).mono h5) (h3.mono h5)
    obtain ⟨h8, h9, h10⟩ := nmL_spec xs _ _ f (pre ++ [x]) h4 hx hr.2
    exact ⟨h8, (h2.trans h5).trans h9, by rw [List.append_assoc] at h10; exact h10⟩
end
noncomputable def numO (R : Nat) (L : List (Int × Int)) (t : Tm) : Int := open Classical in if h : ∃ n, Dec R L n t.fn t.args then h.choose else 0
theorem num_of (hL : L.Nodup) {n : Int} {t : Tm} (h : Dec R L n t.fn t.args) : numO R L t = n := by
  unfold numO
  have hx : ∃ n, Dec R L n t.fn t.args := ⟨n, h⟩
  rw [dif_pos hx]
  exact Dec.inj hL hx.choose_spec n h
theorem num_inj (hL : L.Nodup) {n m : Int} {s t : Tm} (hs : Dec R L n s.fn s.args) (ht : Dec R L m t.fn t.args) (h : numO R L s = numO R L t) : s = t := by
  rw [num_of hL hs, num_of hL ht] at h
  subst h
  obtain ⟨e1, e2⟩ := hs.fun _ _ ht
  cases s; cases t
  simp only [Tm.fn, Tm.args] at e1 e2
  rw [e1, e2]
end
end Go.Proofs.YthgglobfkkcdgaaGreat
