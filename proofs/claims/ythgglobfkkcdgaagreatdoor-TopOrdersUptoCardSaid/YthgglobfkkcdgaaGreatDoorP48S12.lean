import Derived.Test.YthgglobfkkcdgaaGreatDoorP48S5
import Derived.Test.YthgglobfkkcdgaaGreatDoorP48S11
import Derived.Test.YthgglobfkkcdgaaGreatDoorP48S2
namespace Go.Proofs.YthgglobfkkcdgaaGreatDoor
open Go.RowKit
set_option maxRecDepth 100000
def RCmp (t : Tm) : Prop := ∀ (u : Tm) (A A2 : Option Addr) (c c2 : Nat) (w : World), I64 t.fn → I64 u.fn → Args w w.heap.size A t.args → Args w w.heap.size A2 u.args →
  Calls Tryz.prog 24 #[.agg #[.int .i64 t.fn, .slice A t.args.length c], .agg #[.int .i64 u.fn, .slice A2 u.args.length c2]] w fun e w' => e = .returned (.int .i64 (cmpT t u)) ∧ Below w.heap.size w w'
theorem head_ne {f g : Int} (h : f ≠ g) : headI f g = if f < 0 ∧ g < 0 then (if g < f then -1 else 1) else if f < g then -1 else 1 := by unfold headI; rw [if_neg h]
theorem head_nz {f g : Int} (h : f ≠ g) : ¬ headI f g = 0 := by
  rw [head_ne h]
  split
  · split <;> omega
  · split <;> omega
set_option maxHeartbeats 2000000 in
theorem ref2Cmp_any (t : Tm) : RCmp t := by
  refine Tm.ind (P := RCmp) (fun f xs ih => ?_) t
  intro u A A2 c c2 w hf hg hA hA2
  obtain ⟨g, ys⟩ := u
  simp only [Tm.fn, Tm.args] at hf hg hA hA2 ⊢
  have hl1 := hA.len
  have hl2 := hA2.len
  obtain ⟨p0, p1⟩ := heap2 w (.cells #[.int .i64 f, .slice A xs.length c] 32) (.cells #[.int .i64 g, .slice A2 ys.length c2] 32)
  obtain ⟨W, hW⟩ : ∃ W, ((w.alloc (.cells #[.int .i64 f, .slice A xs.length c] 32)).alloc (.cells #[.int .i64 g, .slice A2 ys.length c2] 32)) = W := ⟨_, rfl⟩
  have hB : Below w.heap.size w W := by rw [← hW]; exact ((Below.refl _ _).alloc (Nat.le_refl _) _).alloc (by simp) _
  rw [hW] at p0 p1
  have hWs : w.heap.size + 1 < W.heap.size := (Array.getElem?_eq_some_iff.1 p1).1
  have HW := Lib.hid hW
  have hA' := Lib.hid (hA.on hB)
  have hA2' := Lib.hid (hA2.on hB)
  have hSS : ∀ w', Below W.heap.size W w' → w'.cell? ⟨w.heap.size, 0, none⟩ = some (.int .i64 f) ∧ w'.cell? ⟨w.heap.size, 1, none⟩ = some (.slice A xs.length c) ∧ w'.cell? ⟨w.heap.size + 1, 0, none⟩ = some (.int .i64 g) ∧ w'.cell? ⟨w.heap.size + 1, 1, none⟩ = some (.slice A2 ys.length c2) := fun w' h =>
    ⟨(cells_two ((h.block _ (by omega)).trans p0)).1, (cells_two ((h.block _ (by omega)).trans p0)).2.1, (cells_two ((h.block _ hWs).trans p1)).1, (cells_two ((h.block _ hWs).trans p1)).2.1⟩
  obtain ⟨x0, x1, x2, x3⟩ := hSS W (Below.refl _ _)
  clear hW hA hA2 p0 p1
  by_cases hfg : f = g
  · subst hfg
    have hh : headI f f = 0 := by unfold headI; rw [if_pos rfl]
    go_enter Tryz.func24, Tryz.ntmps24
    go_upto_region 1 with fail
    rw [HW.out]
    go_wp2
    clear x0 x1 x2 x3
    go_loopw [5] (fun i wr => ∃ k : Nat, k ≤ xs.length ∧ k ≤ ys.length ∧ i = .int .i64 (k : Int) ∧ Below W.heap.size W wr ∧ Hid (∀ (j : Nat) (x y : Tm), j < k → xs[j]? = some x → ys[j]? = some y → cmpT x y = 0)) (fun i _ => xs.length - (intOf i).toNat)
    case atStart => exact ⟨0, Nat.zero_le _, Nat.zero_le _, rfl, Below.refl _ _, fun j x y h => by omega⟩
    case round =>
      obtain ⟨k, hk, hk2, rfl, hBr, H⟩ := hrel
      obtain ⟨_, x1, _, x3⟩ := hSS _ hBr
      by_cases hkl : k < xs.length ∧ k < ys.length
      · obtain ⟨hkx, hky⟩ := hkl
        obtain ⟨a, ha⟩ : ∃ a, xs[k]? = some a := ⟨_, List.getElem?_eq_getElem hkx⟩
        obtain ⟨b, hb⟩ : ∃ b, ys[k]? = some b := ⟨_, List.getElem?_eq_getElem hky⟩
        obtain ⟨bb, off, A', c', rfl, h1⟩ := (hA'.out.on hBr).get ha
        obtain ⟨bb2, off2, A2', c2', rfl, h2⟩ := (hA2'.out.on hBr).get hb
        have a0 := h1.c0
        have a1 := h1.c1
        have b0 := h2.c0
        have b1 := h2.c1
        have q1 := h1.hb
        have q2 := h2.hb
        have i1 := h1.hi
        have i2 := h2.hi
        have s1 : Hid (Args wr.drew wr.drew.heap.size A' a.args) := h1.sub.drewN 1
        have s2 : Hid (Args wr.drew wr.drew.heap.size A2' b.args) := h2.sub.drewN 1
        have Hab := Lib.hid (And.intro ha hb)
        have hia := ih a (List.mem_of_getElem? ha)
        clear ha hb h1 h2
        by_cases h0 : cmpT a b = 0
        · go_wp2
          go_region_held3 (fun w' => w'.cell? ⟨w.heap.size, 1, none⟩ = some (.slice (some ⟨bb, off, none⟩) xs.length c) ∧ w'.cell? ⟨w.heap.size + 1, 1, none⟩ = some (.slice (some ⟨bb2, off2, none⟩) ys.length c2) ∧ w'.cell? ⟨bb, off + k * 2, none⟩ = some (.int .i64 a.fn) ∧ w'.cell? ⟨bb, off + k * 2 + 1, none⟩ = some (.slice A' a.args.length c') ∧ w'.cell? ⟨bb2, off2 + k * 2, none⟩ = some (.int .i64 b.fn) ∧ w'.cell? ⟨bb2, off2 + k * 2 + 1, none⟩ = some (.slice A2' b.args.length c2'))
            (first | exact ⟨x1, x3, a0, a1, b0, b1⟩ | exact ⟨(hSS _ hB1).2.1, (hSS _ hB1).2.2.2, cell_on hb1 q1 a0, cell_on hb1 q1 a1, cell_on hb1 q2 b0, cell_on hb1 q2 b1⟩ | fail)
            (first
              | (go_at_call 24; refine (hia b A' A2' c' c2' wr.drew i1 i2 s1.out s2.out).mono ?_; rintro e w1 ⟨rfl, hb1'⟩; have hb1 : Below wr.heap.size wr w1 := ⟨hb1'.os, hb1'.tape, hb1'.output, hb1'.size, hb1'.block⟩; have hB1 := bl_step hBr hb1; rw [h0])
              | fail)
          go_wp2
          go_roundw
          case rel =>
            refine ⟨k + 1, by omega, by omega, by go_num, hB1, fun j x y hj hx hy => ?_⟩
            by_cases e : j = k
            · subst e
              obtain ⟨e1, e2⟩ := Hab.out
              rw [hx] at e1; rw [hy] at e2
              cases e1; cases e2
              exact h0
            · exact H.out j x y (by omega) hx hy
          case measure => simp [intOf]; omega
        · have hcl := cmpL_hit Hab.out.1 Hab.out.2 H.out h0
          have hh2 := Lib.hid (show cmpT (.node f xs) (.node f ys) = cmpT a b by rw [cmpT_c hh (by rw [hcl]; exact h0), hcl])
          clear hcl
          go_wp2
          go_region_held3 (fun w' => w'.cell? ⟨w.heap.size, 1, none⟩ = some (.slice (some ⟨bb, off, none⟩) xs.length c) ∧ w'.cell? ⟨w.heap.size + 1, 1, none⟩ = some (.slice (some ⟨bb2, off2, none⟩) ys.length c2) ∧ w'.cell? ⟨bb, off + k * 2, none⟩ = some (.int .i64 a.fn) ∧ w'.cell? ⟨bb, off + k * 2 + 1, none⟩ = some (.slice A' a.args.length c') ∧ w'.cell? ⟨bb2, off2 + k * 2, none⟩ = some (.int .i64 b.fn) ∧ w'.cell? ⟨bb2, off2 + k * 2 + 1, none⟩ = some (.slice A2' b.args.length c2'))
            (first | exact ⟨x1, x3, a0, a1, b0, b1⟩ | exact ⟨(hSS _ hB1).2.1, (hSS _ hB1).2.2.2, cell_on hb1 q1 a0, cell_on hb1 q1 a1, cell_on hb1 q2 b0, cell_on hb1 q2 b1⟩ | fail)
            (first
              | (go_at_call 24; refine (hia b A' A2' c' c2' wr.drew i1 i2 s1.out s2.out).mono ?_; rintro e w1 ⟨rfl, hb1'⟩; have hb1 : Below wr.heap.size wr w1 := ⟨hb1'.os, hb1'.tape, hb1'.output, hb1'.size, hb1'.block⟩; have hB1 := bl_step hBr hb1)
              | fail)
          go_wp2
          go_ret
          exact ⟨ret_int hh2.out.symm, hB.trans (hB1.mono hB.size)⟩
      · have hcl : cmpL xs ys = 0 := cmpL_miss fun j x y hx hy => H.out j x y (by have h1 := (List.getElem?_eq_some_iff.1 hx).1; have h2 := (List.getElem?_eq_some_iff.1 hy).1; omega) hx hy
        have hh2 := Lib.hid (cmpT_n hh hcl : cmpT (.node f xs) (.node f ys) = numI xs.length ys.length)
        clear hcl
        rcases Nat.lt_trichotomy xs.length ys.length with h | h | h
        · have e : numI xs.length ys.length = -1 := by unfold numI; rw [if_pos (by omega)]
          have e := Lib.hid e
          go_wp2
          go_ret
          exact ⟨ret_int (by rw [hh2.out, e.out]), hB.trans (hBr.mono hB.size)⟩
        · have e : numI xs.length ys.length = 0 := by unfold numI; rw [if_neg (by omega), if_neg (by omega)]
          have e := Lib.hid e
          go_wp2
          go_ret
          exact ⟨ret_int (by rw [hh2.out, e.out]), hB.trans (hBr.mono hB.size)⟩
        · have e : numI xs.length ys.length = 1 := by unfold numI; rw [if_neg (by omega), if_pos (by omega)]
          have e := Lib.hid e
          go_wp2
          go_ret
          exact ⟨ret_int (by rw [hh2.out, e.out]), hB.trans (hBr.mono hB.size)⟩
  · have hh := Lib.hid ((cmpT_h (head_nz hfg) : cmpT (.node f xs) (.node g ys) = headI f g).trans (head_ne hfg))
    by_cases h1 : f < 0 ∧ g < 0
    · obtain ⟨h1, h2⟩ := h1
      by_cases h3 : g < f
      all_goals
        go_enter Tryz.func24, Tryz.ntmps24
        go_upto_region 1 with fail
        rw [HW.out]
        go_wp2
        go_ret
        exact ⟨ret_int (by rw [hh.out, if_pos ⟨h1, h2⟩]; first | rw [if_pos (by omega)] | rw [if_neg (by omega)]), hB⟩
    · by_cases h2 : f < 0
      · have h3 : ¬ g < 0 := fun e => h1 ⟨h2, e⟩
        have h4 : f < g := by omega
        go_enter Tryz.func24, Tryz.ntmps24
        go_upto_region 1 with fail
        rw [HW.out]
        go_wp2
        go_ret
        exact ⟨ret_int (by rw [hh.out, if_neg h1, if_pos h4]), hB⟩
      · by_cases h4 : f < g
        all_goals
          go_enter Tryz.func24, Tryz.ntmps24
          go_upto_region 1 with fail
          rw [HW.out]
          go_wp2
          go_ret
          exact ⟨ret_int (by rw [hh.out, if_neg h1]; first | rw [if_pos (by omega)] | rw [if_neg (by omega)]), hB⟩
theorem ref2Cmp_at (t u : Tm) (A A2 : Option Addr) (c c2 : Nat) (w : World) (hf : I64 t.fn) (hg : I64 u.fn) (hA : Args w w.heap.size A t.args) (hA2 : Args w w.heap.size A2 u.args) :
    Calls Tryz.prog 24 #[.agg #[.int .i64 t.fn, .slice A t.args.length c], .agg #[.int .i64 u.fn, .slice A2 u.args.length c2]] w fun e w' => e = .returned (.int .i64 (cmpT t u)) ∧ Below w.heap.size w w' :=
  ref2Cmp_any t u A A2 c c2 w hf hg hA hA2
theorem ref2Same_any' (t u : Tm) (A A2 : Option Addr) (c c2 : Nat) (w : World) (hf : I64 t.fn) (hg : I64 u.fn) (hA : Args w w.heap.size A t.args) (hA2 : Args w w.heap.size A2 u.args) :
    Calls Tryz.prog 10 #[.agg #[.int .i64 t.fn, .slice A t.args.length c], .agg #[.int .i64 u.fn, .slice A2 u.args.length c2]] w fun e w' => e = .returned (.bool (decide (cmpT t u = 0))) ∧ Below w.heap.size w w' := by
  have hWB : Below w.heap.size w ((w.alloc (.cells #[.int .i64 t.fn, .slice A t.args.length c] 32)).alloc (.cells #[.int .i64 u.fn, .slice A2 u.args.length c2] 32)) := ((Below.refl _ _).alloc (Nat.le_refl _) _).alloc (by simp) _
  go_enter Tryz.func10, Tryz.ntmps10
  go_wp2_with (first
    | (go_at_call 24; refine (ref2Cmp_at t u A A2 c c2 _ hf hg (hA.on hWB) (hA2.on hWB)).mono ?_; rintro e w1 ⟨rfl, hb1⟩; have hB1 := bl_step hWB hb1)
    | fail)
  go_ret
  exact ⟨rfl, hB1⟩
end Go.Proofs.YthgglobfkkcdgaaGreatDoor
namespace Go.Proofs.YthgglobfkkcdgaaGreatDoor
open Go.RowKit Go.Shelf Go.Maps
set_option maxRecDepth 100000
def arnT (f v : Int) : Tm → Bool
  | .node g [x] => (g == f) && (x.fn == v || arnT f v x)
  | _ => false
theorem arnT_one {f v g : Int} {x : Tm} : arnT f v (.node g [x]) = ((g == f) && (x.fn == v || arnT f v x)) := by rw [arnT]
theorem arnT_no {f v : Int} {t : Tm} (h : ¬ t.args.length = 1) : arnT f v t = false := by
  obtain ⟨g, xs⟩ := t
  match xs, h with
  | [], _ => rw [arnT]; intro _ _ e; cases e
  | [x], h => exact absurd rfl h
  | x :: y :: ys, _ => rw [arnT]; intro _ _ e; cases e
theorem arnT_top {f v : Int} {t : Tm} (h : ¬ t.fn = f) : arnT f v t = false := by
  by_cases h1 : t.args.length = 1
  · obtain ⟨g, xs⟩ := t
    match xs, h1 with
    | [x], _ =>
      rw [arnT_one, show (g == f) = false by simpa [Tm.fn] using h, Bool.false_and]
  · exact arnT_no h1
end Go.Proofs.YthgglobfkkcdgaaGreatDoor
namespace Go.Proofs.YthgglobfkkcdgaaGreatDoor
open Go.RowKit Go.Shelf Go.Maps
set_option maxRecDepth 100000
end Go.Proofs.YthgglobfkkcdgaaGreatDoor
namespace Go.Proofs.YthgglobfkkcdgaaGreatDoor
open Go.RowKit Go.Shelf Go.Maps
set_option maxRecDepth 100000
mutual
def abvT (o : Odr) : Tm → Tm → Bool
  | .node f xs, t => covU (.node f xs) t t && (if capI (wsT o (.node f xs)) = capI (wsT o t) then
      (if f < 0 then false else if t.fn < 0 then arnT f t.fn (.node f xs) else if f = t.fn then abvL o xs t.args else decide (o.prec.getD t.fn.toNat 0 < o.prec.getD f.toNat 0)) else decide (capI (wsT o t) < capI (wsT o (.node f xs))))
def abvL (o : Odr) : List Tm → List Tm → Bool
  | [], _ => false
  | _ :: _, [] => true
  | x :: xs, y :: ys => if cmpT x y = 0 then abvL o xs ys else abvT o x y
end
theorem abvT_eq (o : Odr) (s t : Tm) : abvT o s t = (covU s t t && (if capI (wsT o s) = capI (wsT o t) then
      (if s.fn < 0 then false else if t.fn < 0 then arnT s.fn t.fn s else if s.fn = t.fn then abvL o s.args t.args else decide (o.prec.getD t.fn.toNat 0 < o.prec.getD s.fn.toNat 0)) else decide (capI (wsT o t) < capI (wsT o s)))) := by
  obtain ⟨f, xs⟩ := s
  rw [abvT]; rfl
end Go.Proofs.YthgglobfkkcdgaaGreatDoor
namespace Go.Proofs.YthgglobfkkcdgaaGreatDoor
open Go.RowKit Go.Shelf Go.Maps
set_option maxRecDepth 100000
def cmpR (o : Odr) (s t : Tm) : Int := if knowT o s && knowT o t then (if cmpT s t = 0 then 2 else if abvT o s t then 3 else if abvT o t s then 1 else 0) else 0
end Go.Proofs.YthgglobfkkcdgaaGreatDoor
namespace Go.Proofs.YthgglobfkkcdgaaGreatDoor
open Go.RowKit Go.Shelf Go.Maps
set_option maxRecDepth 100000
def pS : Nat → (Int → Int) → Int
  | 0, _ => 0
  | N + 1, V => pS N V + max 0 (V (-1 - (N : Int)))
theorem pS_out : ∀ (N : Nat) (V V' : Int → Int) (f : Int), f < -(N : Int) → (∀ x, x ≠ f → V' x = V x) → pS N V' = pS N V
  | 0, _, _, _, _, _ => rfl
  | N + 1, V, V', f, hf, h => by
    rw [pS, pS, pS_out N V V' f (by omega) h, h (-1 - (N : Int)) (by omega)]
theorem pS_put : ∀ (N : Nat) (V V' : Int → Int) (f : Int), f < 0 → -(N : Int) ≤ f → (∀ x, x ≠ f → V' x = V x) → pS N V' = pS N V - max 0 (V f) + max 0 (V' f)
  | 0, _, _, _, h1, h2, _ => by omega
  | N + 1, V, V', f, h1, h2, h => by
    rw [pS, pS]
    by_cases e : f = -1 - (N : Int)
    · rw [pS_out N V V' f (by omega) h, ← e]; omega
    · rw [pS_put N V V' f h1 (by omega) h, h (-1 - (N : Int)) (fun e' => e e'.symm)]; omega
theorem pS_lo : ∀ (N : Nat) (V : Int → Int), 0 ≤ pS N V
  | 0, _ => Int.le_refl _
  | N + 1, V => by have := pS_lo N V; rw [pS]; omega
theorem pS_zero : ∀ (N : Nat) (V : Int → Int), (∀ v, v < 0 → V v ≤ 0) → pS N V = 0
  | 0, _, _ => rfl
  | N + 1, V, h => by have h1 := pS_zero N V h; have h2 := h (-1 - (N : Int)) (by omega); rw [pS, h1]; omega
theorem pS_pos : ∀ (N : Nat) (V : Int → Int) (v : Int), v < 0 → -(N : Int) ≤ v → 0 < V v → 0 < pS N V
  | 0, _, _, h1, h2, _ => by omega
  | N + 1, V, v, h1, h2, h => by
    rw [pS]
    by_cases e : v = -1 - (N : Int)
    · have := pS_lo N V; rw [← e]; omega
    · have := pS_pos N V v h1 (by omega) h; omega
structure InvB (N : Nat) (b : Bal) : Prop where
  a0 : b.a0 = pS N b.V
  a1 : b.a1 = pS N fun x => - b.V x
structure Laid (N : Nat) (b b' : Bal) (d0 d1 : Int) (d : Int → Int) : Prop where
  w0 : b'.w0 = b.w0 + d0
  w1 : b'.w1 = b.w1 + d1
  V : ∀ v, v < 0 → b'.V v = b.V v + d v
  inv : InvB N b → InvB N b'
theorem Laid.refl (N : Nat) (b : Bal) : Laid N b b 0 0 fun _ => 0 := ⟨by omega, by omega, fun _ _ => by omega, id⟩
theorem Laid.cat {N : Nat} {b b' b'' : Bal} {d0 d1 e0 e1 g0 g1 : Int} {d e g : Int → Int} (h : Laid N b b' d0 d1 d) (k : Laid N b' b'' e0 e1 e) (h0 : g0 = d0 + e0) (h1 : g1 = d1 + e1) (hg : ∀ v, v < 0 → g v = d v + e v) : Laid N b b'' g0 g1 g :=
  ⟨by rw [k.w0, h.w0, h0]; omega, by rw [k.w1, h.w1, h1]; omega, fun v hv => by rw [k.V v hv, h.V v hv, hg v hv]; omega, fun i => k.inv (h.inv i)⟩
theorem Laid.to {N : Nat} {b b' : Bal} {d0 d1 g0 g1 : Int} {d g : Int → Int} (h : Laid N b b' d0 d1 d) (h0 : g0 = d0) (h1 : g1 = d1) (hg : ∀ v, v < 0 → g v = d v) : Laid N b b' g0 g1 g :=
  ⟨by rw [h.w0, h0], by rw [h.w1, h1], fun v hv => by rw [h.V v hv, hg v hv], h.inv⟩
theorem cnt_laid0 {o : Odr} {N : Nat} {b : Bal} {f : Int} (hv : f < 0 → -(N : Int) ≤ f) : Laid N b (cntB o 0 b f) (wtI o f) 0 fun v => if v = f then 1 else 0 := by
  by_cases hf : f < 0
  · by_cases h0 : 0 ≤ b.V f
    · rw [cntB_neg00 hf h0]
      refine ⟨rfl, by show b.w1 = b.w1 + 0; omega, fun v _ => ?_, fun i => ⟨?_, ?_⟩⟩
      · show (if v = f then b.V f + 1 else b.V v) = _; split <;> simp_all
      · show b.a0 + 1 = pS N fun x => if x = f then b.V f + 1 else b.V x
        rw [pS_put N b.V _ f hf (hv hf) (fun x hx => by rw [if_neg hx]), i.a0, if_pos rfl]; omega
      · show b.a1 = pS N fun x => - (if x = f then b.V f + 1 else b.V x)
        rw [pS_put N (fun x => - b.V x) _ f hf (hv hf) (fun x hx => by rw [if_neg hx]), i.a1, if_pos rfl]; omega
    · rw [cntB_neg01 hf h0]
      refine ⟨rfl, by show b.w1 = b.w1 + 0; omega, fun v _ => ?_, fun i => ⟨?_, ?_⟩⟩
      · show (if v = f then b.V f + 1 else b.V v) = _; split <;> simp_all
      · show b.a0 = pS N fun x => if x = f then b.V f + 1 else b.V x
        rw [pS_put N b.V _ f hf (hv hf) (fun x hx => by rw [if_neg hx]), i.a0, if_pos rfl]; omega
      · show b.a1 - 1 = pS N fun x => - (if x = f then b.V f + 1 else b.V x)
        rw [pS_put N (fun x => - b.V x) _ f hf (hv hf) (fun x hx => by rw [if_neg hx]), i.a1, if_pos rfl]; omega
  · rw [cntB_pos0 hf]
    exact ⟨rfl, by show b.w1 = b.w1 + 0; omega, fun v hv' => by show b.V v = _; rw [if_neg (by omega)]; omega, fun i => ⟨i.a0, i.a1⟩⟩
theorem cnt_laid1 {o : Odr} {N : Nat} {b : Bal} {f : Int} (hv : f < 0 → -(N : Int) ≤ f) : Laid N b (cntB o 1 b f) 0 (wtI o f) fun v => if v = f then -1 else 0 := by
  by_cases hf : f < 0
  · by_cases h0 : 0 ≤ -b.V f
    · rw [cntB_neg10 hf h0]
      refine ⟨by show b.w0 = b.w0 + 0; omega, rfl, fun v _ => ?_, fun i => ⟨?_, ?_⟩⟩
      · show (if v = f then b.V f + -1 else b.V v) = _; split <;> simp_all
      · show b.a0 = pS N fun x => if x = f then b.V f + -1 else b.V x
        rw [pS_put N b.V _ f hf (hv hf) (fun x hx => by rw [if_neg hx]), i.a0, if_pos rfl]; omega
      · show b.a1 + 1 = pS N fun x => - (if x = f then b.V f + -1 else b.V x)
        rw [pS_put N (fun x => - b.V x) _ f hf (hv hf) (fun x hx => by rw [if_neg hx]), i.a1, if_pos rfl]; omega
    · rw [cntB_neg11 hf h0]
      refine ⟨by show b.w0 = b.w0 + 0; omega, rfl, fun v _ => ?_, fun i => ⟨?_, ?_⟩⟩
      · show (if v = f then b.V f + -1 else b.V v) = _; split <;> simp_all
      · show b.a0 - 1 = pS N fun x => if x = f then b.V f + -1 else b.V x
        rw [pS_put N b.V _ f hf (hv hf) (fun x hx => by rw [if_neg hx]), i.a0, if_pos rfl]; omega
      · show b.a1 = pS N fun x => - (if x = f then b.V f + -1 else b.V x)
        rw [pS_put N (fun x => - b.V x) _ f hf (hv hf) (fun x hx => by rw [if_neg hx]), i.a1, if_pos rfl]; omega
  · rw [cntB_pos1 hf]
    exact ⟨by show b.w0 = b.w0 + 0; omega, rfl, fun v hv' => by show b.V v = _; rw [if_neg (by omega)]; omega, fun i => ⟨i.a0, i.a1⟩⟩
def VB (N : Nat) (t : Tm) : Prop := ∀ v, v < 0 → 0 < ofT v t → -(N : Int) ≤ v
def VBL (N : Nat) (ts : List Tm) : Prop := ∀ v, v < 0 → 0 < ofL v ts → -(N : Int) ≤ v
theorem VB.top {N : Nat} {f : Int} {xs : List Tm} (h : VB N (.node f xs)) : f < 0 → -(N : Int) ≤ f := fun hf => h f hf (by rw [ofT, if_pos rfl]; omega)
theorem VB.args {N : Nat} {f : Int} {xs : List Tm} (h : VB N (.node f xs)) : VBL N xs := fun v hv hp => h v hv (by rw [ofT]; omega)
theorem VBL.head {N : Nat} {x : Tm} {xs : List Tm} (h : VBL N (x :: xs)) : VB N x := fun v hv hp => h v hv (by rw [ofL]; omega)
theorem VBL.tail {N : Nat} {x : Tm} {xs : List Tm} (h : VBL N (x :: xs)) : VBL N xs := fun v hv hp => h v hv (by rw [ofL]; omega)
theorem VB_ex (t : Tm) : ∃ N : Nat, VB N t := by
  have key : ∀ xs : List Tm, (∀ t ∈ xs, ∃ N : Nat, VB N t) → ∃ N : Nat, VBL N xs := by
    intro xs
    induction xs with
    | nil => intro _; exact ⟨0, fun v _ h => by rw [ofL] at h; omega⟩
    | cons x xs ih =>
      intro h
      obtain ⟨N1, h1⟩ := h x (by simp)
      obtain ⟨N2, h2⟩ := ih fun t ht => h t (by simp [ht])
      refine ⟨N1 + N2, fun v hv hp => ?_⟩
      rw [ofL] at hp
      by_cases e : 0 < ofT v x
      · have := h1 v hv e; omega
      · have := h2 v hv (by omega); omega
  refine Tm.ind (P := fun t => ∃ N : Nat, VB N t) (fun f xs ih => ?_) t
  obtain ⟨N, h⟩ := key xs ih
  refine ⟨N + f.natAbs, fun v hv hp => ?_⟩
  rw [ofT] at hp
  by_cases e : f = v
  · omega
  · rw [if_neg e] at hp; have := h v hv (by omega); omega
theorem lay_yes (o : Odr) (at_ : Int) (t : Tm) : ∀ b, (evT (lvis o at_) b t).2 = true ∧ layB o at_ b t = layL o at_ (cntB o at_ b t.fn) t.args := by
  have key : ∀ xs : List Tm, (∀ t ∈ xs, ∀ b, (evT (lvis o at_) b t).2 = true ∧ layB o at_ b t = layL o at_ (cntB o at_ b t.fn) t.args) → ∀ b, evL (lvis o at_) b xs = (layL o at_ b xs, true) := by
    intro xs
    induction xs with
    | nil => intro _ b; rw [evL, layL]
    | cons x xs ih =>
      intro h b
      rw [evL, (h x (by simp) b).1, if_pos rfl, ih (fun t ht => h t (by simp [ht])), layL]; rfl
  refine Tm.ind (P := fun t => ∀ b, (evT (lvis o at_) b t).2 = true ∧ layB o at_ b t = layL o at_ (cntB o at_ b t.fn) t.args) (fun f xs ih b => ?_) t
  have e : evT (lvis o at_) b (.node f xs) = evL (lvis o at_) (cntB o at_ b f) xs := by rw [evT]; rfl
  unfold layB
  rw [e, key xs ih]
  exact ⟨rfl, rfl⟩
mutual
theorem lay_laid0 {o : Odr} {N : Nat} : ∀ (t : Tm) (b : Bal), VB N t → Laid N b (layB o 0 b t) (wsT o t) 0 fun v => (ofT v t : Int)
  | .node f xs, b, h => by
    rw [(lay_yes o 0 (.node f xs) b).2]
    refine (cnt_laid0 (o := o) (b := b) h.top).cat (layL_laid0 xs _ h.args) (by rw [wsT]) (by omega) fun v _ => ?_
    rw [ofT]
    by_cases e : f = v
    · rw [if_pos e, if_pos e.symm]; omega
    · rw [if_neg e, if_neg (fun h => e h.symm)]; omega
theorem layL_laid0 {o : Odr} {N : Nat} : ∀ (ts : List Tm) (b : Bal), VBL N ts → Laid N b (layL o 0 b ts) (wsL o ts) 0 fun v => (ofL v ts : Int)
  | [], b, _ => by rw [layL]; exact (Laid.refl N b).to (by rw [wsL]) rfl fun v _ => by rw [ofL]; rfl
  | t :: ts, b, h => by
    rw [layL]
    exact (lay_laid0 t b h.head).cat (layL_laid0 ts _ h.tail) (by rw [wsL]) (by omega) fun v _ => by rw [ofL]; omega
end
mutual
theorem lay_laid1 {o : Odr} {N : Nat} : ∀ (t : Tm) (b : Bal), VB N t → Laid N b (layB o 1 b t) 0 (wsT o t) fun v => -(ofT v t : Int)
  | .node f xs, b, h => by
    rw [(lay_yes o 1 (.node f xs) b).2]
    refine (cnt_laid1 (o := o) (b := b) h.top).cat (layL_laid1 xs _ h.args) (by omega) (by rw [wsT]) fun v _ => ?_
    rw [ofT]
    by_cases e : f = v
    · rw [if_pos e, if_pos e.symm]; omega
    · rw [if_neg e, if_neg (fun h => e h.symm)]; omega
theorem layL_laid1 {o : Odr} {N : Nat} : ∀ (ts : List Tm) (b : Bal), VBL N ts → Laid N b (layL o 1 b ts) 0 (wsL o ts) fun v => -(ofL v ts : Int)
  | [], b, _ => by rw [layL]; exact (Laid.refl N b).to rfl (by rw [wsL]) fun v _ => by rw [ofL]; rfl
  | t :: ts, b, h => by
    rw [layL]
    exact (lay_laid1 t b h.head).cat (layL_laid1 ts _ h.tail) (by omega) (by rw [wsL]) fun v _ => by rw [ofL]; omega
end
mutual
theorem rsn_laid {o : Odr} {N : Nat} : ∀ (s : Tm) (b : Bal) (t : Tm), VB N s → VB N t → Laid N b (rsnB o s b t).1 (wsT o s) (wsT o t) fun v => (ofT v s : Int) - (ofT v t : Int)
  | .node f xs, b, .node g ys, hs, ht => by
    rw [rsnB]
    by_cases e : f = (Tm.node g ys).fn
    · rw [if_pos e]
      have h1 := cnt_laid0 (o := o) (b := b) hs.top
      have h2 := cnt_laid1 (o := o) (b := cntB o 0 b f) ht.top
      have h3 := arg_laid (o := o) xs (cntB o 1 (cntB o 0 b f) g) ys hs.args ht.args
      refine ((h1.cat h2 rfl rfl fun v _ => rfl).cat h3 (by rw [wsT]; omega) (by rw [wsT]; omega) fun v _ => ?_)
      change f = g at e
      subst e
      rw [ofT, ofT]
      by_cases e : f = v
      · rw [if_pos e, if_pos e.symm, if_pos e.symm]; omega
      · rw [if_neg e, if_neg (fun h => e h.symm), if_neg (fun h => e h.symm)]; omega
    · rw [if_neg e]
      exact (lay_laid0 (o := o) (.node f xs) b hs).cat (lay_laid1 (.node g ys) _ ht) (by omega) (by omega) fun v _ => by omega
theorem arg_laid {o : Odr} {N : Nat} : ∀ (xs : List Tm) (b : Bal) (ys : List Tm), VBL N xs → VBL N ys → Laid N b (argB o xs b ys).1 (wsL o xs) (wsL o ys) fun v => (ofL v xs : Int) - (ofL v ys : Int)
  | [], b, ys, _, hy => by
    rw [argB]
    exact (layL_laid1 ys b hy).to (by rw [wsL]) rfl fun v _ => by rw [ofL]; omega
  | x :: xs, b, [], hx, _ => by
    rw [argB]
    exact (layL_laid0 (x :: xs) b hx).to rfl (by rw [wsL]) fun v _ => by rw [ofL.eq_1 v]; omega
  | x :: xs, b, y :: ys, hx, hy => by
    rw [argB]
    have h1 := rsn_laid (o := o) x b y hx.head hy.head
    split
    · exact h1.cat (arg_laid xs _ ys hx.tail hy.tail) (by rw [wsL]) (by rw [wsL]) fun v _ => by rw [ofL, ofL]; omega
    · exact (h1.cat (layL_laid0 xs _ hx.tail) rfl rfl fun v _ => rfl).cat (layL_laid1 ys _ hy.tail) (by rw [wsL]; omega) (by rw [wsL]; omega) fun v _ => by rw [ofL, ofL]; omega
end
end Go.Proofs.YthgglobfkkcdgaaGreatDoor
namespace Go.Proofs.YthgglobfkkcdgaaGreatDoor
open Go.RowKit Go.Shelf Go.Maps
set_option maxRecDepth 100000
theorem covL_iff {s t : Tm} : ∀ {xs : List Tm}, (∀ u ∈ xs, (covU s t u = true ↔ ∀ v, v < 0 → 0 < ofT v u → ofT v t ≤ ofT v s)) → (covL s t xs = true ↔ ∀ v, v < 0 → 0 < ofL v xs → ofT v t ≤ ofT v s)
  | [], _ => by rw [covL]; exact ⟨fun _ v _ h => by rw [ofL] at h; omega, fun _ => rfl⟩
  | x :: xs, h => by
    rw [covL, Bool.and_eq_true, h x (by simp), covL_iff fun u hu => h u (by simp [hu])]
    constructor
    · rintro ⟨h1, h2⟩ v hv hp
      rw [ofL] at hp
      by_cases e : 0 < ofT v x
      · exact h1 v hv e
      · exact h2 v hv (by omega)
    · intro h1
      exact ⟨fun v hv hp => h1 v hv (by rw [ofL]; omega), fun v hv hp => h1 v hv (by rw [ofL]; omega)⟩
theorem covU_iff {o : Odr} (s t u : Tm) : knowT o u = true → (covU s t u = true ↔ ∀ v, v < 0 → 0 < ofT v u → ofT v t ≤ ofT v s) := by
  refine Tm.ind (P := fun u => knowT o u = true → (covU s t u = true ↔ ∀ v, v < 0 → 0 < ofT v u → ofT v t ≤ ofT v s)) (fun f xs ih hk => ?_) u
  obtain ⟨k1, k2⟩ := know_node hk
  by_cases hf : f < 0
  · have hx : xs = [] := List.eq_nil_of_length_eq_zero ((know_top k1).2.2 hf)
    subst hx
    rw [covU, if_pos hf, decide_eq_true_eq]
    constructor
    · intro h v hv hp
      rw [ofT, ofL] at hp
      by_cases e : f = v
      · subst e; exact h
      · rw [if_neg e] at hp; omega
    · intro h
      exact h f hf (by rw [ofT, if_pos rfl]; omega)
  · rw [covU, if_neg hf, covL_iff fun u hu => ih u hu (knowL_mem k2 hu)]
    constructor
    · intro h v hv hp
      rw [ofT, if_neg (by omega)] at hp
      exact h v hv (by omega)
    · intro h v hv hp
      exact h v hv (by rw [ofT]; omega)
theorem cov_iff {o : Odr} {s t : Tm} (hk : knowT o t = true) : covU s t t = true ↔ ∀ v, v < 0 → ofT v t ≤ ofT v s := by
  rw [covU_iff s t t hk]
  constructor
  · intro h v hv
    by_cases e : 0 < ofT v t
    · exact h v hv e
    · omega
  · exact fun h v hv _ => h v hv
theorem arn_end {top v : Int} (ht : ¬ top < 0) (hv : v < 0) : ∀ t : Tm, t.fn = top → (arnT top v t = decide ((arndEnd top t).fn = v)) := by
  intro t
  refine Tm.ind (P := fun t => t.fn = top → (arnT top v t = decide ((arndEnd top t).fn = v))) (fun f xs ih hf => ?_) t
  change f = top at hf
  by_cases h1 : xs.length = 1
  · match xs, h1, ih with
    | [x], _, ih =>
      rw [arnT_one, arnd_step hf, show (f == top) = true by rw [beq_iff_eq]; exact hf, Bool.true_and]
      by_cases hx : x.fn = top
      · rw [ih x (by simp) hx, show (x.fn == v) = false by rw [beq_eq_false_iff_ne]; omega, Bool.false_or]
      · rw [arnT_top hx, Bool.or_false, arnd_stop (fun e => hx e.1)]
        rw [Bool.eq_iff_iff, beq_iff_eq, decide_eq_true_eq]
  · rw [arnT_no (t := .node f xs) h1, arnd_stop (t := .node f xs) (fun e => h1 e.2)]
    symm
    apply decide_eq_false
    show ¬ f = v
    omega
theorem abvL_asym {o : Odr} : ∀ (xs ys : List Tm), (∀ x ∈ xs, ∀ t, abvT o x t = true → abvT o t x = false) → abvL o xs ys = true → abvL o ys xs = false
  | [], _, _, h => by rw [abvL] at h; cases h
  | x :: xs, [], _, _ => by rw [abvL]
  | x :: xs, y :: ys, ih, h => by
    rw [abvL] at h ⊢
    by_cases e : cmpT x y = 0
    · have e' := cmp_zero_iff.1 e
      subst e'
      rw [if_pos e] at h ⊢
      exact abvL_asym xs ys (fun z hz => ih z (by simp [hz])) h
    · have e' : ¬ cmpT y x = 0 := fun h' => e (cmp_zero_iff.2 (cmp_zero_iff.1 h').symm)
      rw [if_neg e] at h
      rw [if_neg e']
      exact ih x (by simp) y h
theorem abv_asym {o : Odr} (s : Tm) : ∀ t, abvT o s t = true → abvT o t s = false := by
  refine Tm.ind (P := fun s => ∀ t, abvT o s t = true → abvT o t s = false) (fun f xs ih t h => ?_) s
  have ih' : ∀ x ∈ (Tm.node f xs).args, ∀ t, abvT o x t = true → abvT o t x = false := ih
  generalize Tm.node f xs = s at ih' h ⊢
  rw [abvT_eq, Bool.and_eq_true] at h
  rw [abvT_eq, Bool.and_eq_false_iff]
  right
  obtain ⟨_, h⟩ := h
  by_cases hw : capI (wsT o s) = capI (wsT o t)
  · rw [if_pos hw] at h
    rw [if_pos hw.symm]
    by_cases h1 : s.fn < 0
    · rw [if_pos h1] at h; cases h
    · rw [if_neg h1] at h
      by_cases h2 : t.fn < 0
      · rw [if_pos h2]
      · rw [if_neg h2] at h
        rw [if_neg h2, if_neg h1]
        by_cases h3 : s.fn = t.fn
        · rw [if_pos h3] at h
          rw [if_pos h3.symm]
          exact abvL_asym s.args t.args ih' h
        · rw [if_neg h3, decide_eq_true_eq] at h
          rw [if_neg (fun e => h3 e.symm)]
          exact decide_eq_false (by omega)
  · rw [if_neg hw, decide_eq_true_eq] at h
    rw [if_neg (fun e => hw e.symm)]
    exact decide_eq_false (by omega)
def cmpK (o : Odr) (s t : Tm) : Int := if cmpT s t = 0 then 2 else if abvT o s t then 3 else if abvT o t s then 1 else 0
theorem cmpK_two {o : Odr} {s t : Tm} : cmpK o s t = 2 ↔ s = t := by
  unfold cmpK
  rw [← cmp_zero_iff]
  by_cases e : cmpT s t = 0
  · rw [if_pos e]; exact ⟨fun _ => e, fun _ => rfl⟩
  · rw [if_neg e]
    constructor
    · intro h
      split at h
      · omega
      · split at h <;> omega
    · exact fun h => absurd h e
structure ArgK (o : Odr) (xs ys : List Tm) (q : Int) : Prop where
  same : xs = ys → q = 2
  diff : ¬ xs = ys → q = if abvL o xs ys then 3 else if abvL o ys xs then 1 else 0
theorem numI_rel0 (n : Nat) : relC (numI 0 ((n + 1 : Nat) : Int)) = 1 := by
  have : numI 0 ((n + 1 : Nat) : Int) = -1 := by unfold numI; rw [if_pos (by omega)]
  rw [this]; rfl
theorem numI_rel1 (n : Nat) : relC (numI ((n + 1 : Nat) : Int) 0) = 3 := by
  have : numI ((n + 1 : Nat) : Int) 0 = 1 := by unfold numI; rw [if_neg (by omega), if_pos (by omega)]
  rw [this]; rfl
theorem zero_cnt {o : Odr} {N : Nat} {b : Bal} {f : Int} (hv : f < 0 → -(N : Int) ≤ f) (hi : InvB N b) (hz : ∀ v, v < 0 → b.V v = 0) : InvB N (cntB o 1 (cntB o 0 b f) f) ∧ ∀ v, v < 0 → (cntB o 1 (cntB o 0 b f) f).V v = 0 := by
  have h1 := cnt_laid0 (o := o) (b := b) hv
  have h2 := cnt_laid1 (o := o) (b := cntB o 0 b f) hv
  refine ⟨h2.inv (h1.inv hi), fun v hv' => ?_⟩
  rw [h2.V v hv', h1.V v hv', hz v hv']
  split <;> omega
theorem fin_of {o : Odr} {N : Nat} {b : Bal} {s t : Tm} {r : Bal × Int} (hl : Laid N b r.1 (wsT o s) (wsT o t) fun v => (ofT v s : Int) - (ofT v t : Int)) (hi : InvB N b) (hz : ∀ v, v < 0 → b.V v = 0) (hks : knowT o s = true) (hkt : knowT o t = true) (hs : VB N s) (ht : VB N t) :
    (0 < r.1.a1 ↔ covU s t t = false) ∧ (0 < r.1.a0 ↔ covU t s s = false) ∧ finQ b r = if numI (capI (wsT o s)) (capI (wsT o t)) = 0 then r.2 else relC (numI (capI (wsT o s)) (capI (wsT o t))) := by
  have hV : ∀ v, v < 0 → r.1.V v = (ofT v s : Int) - (ofT v t : Int) := fun v hv => by rw [hl.V v hv, hz v hv]; omega
  have hir := hl.inv hi
  refine ⟨?_, ?_, ?_⟩
  · rw [hir.a1]
    cases hc : covU s t t with
    | true =>
      have := (cov_iff hkt).1 hc
      rw [pS_zero N _ fun v hv => by rw [hV v hv]; have := this v hv; omega]
      simp
    | false =>
      have hn : ¬ ∀ v, v < 0 → ofT v t ≤ ofT v s := fun h => by rw [(cov_iff hkt).2 h] at hc; cases hc
      obtain ⟨v, hv⟩ := Classical.not_forall.1 hn
      obtain ⟨hv0, hv1⟩ := Classical.not_imp.1 hv
      exact ⟨fun _ => rfl, fun _ => pS_pos N _ v hv0 (ht v hv0 (by omega)) (by rw [hV v hv0]; omega)⟩
  · rw [hir.a0]
    cases hc : covU t s s with
    | true =>
      have := (cov_iff hks).1 hc
      rw [pS_zero N _ fun v hv => by rw [hV v hv]; have := this v hv; omega]
      simp
    | false =>
      have hn : ¬ ∀ v, v < 0 → ofT v s ≤ ofT v t := fun h => by rw [(cov_iff hks).2 h] at hc; cases hc
      obtain ⟨v, hv⟩ := Classical.not_forall.1 hn
      obtain ⟨hv0, hv1⟩ := Classical.not_imp.1 hv
      exact ⟨fun _ => rfl, fun _ => pS_pos N _ v hv0 (hs v hv0 (by omega)) (by rw [hV v hv0]; omega)⟩
  · unfold finQ
    rw [hl.w0, hl.w1, show b.w0 + wsT o s - b.w0 = wsT o s by omega, show b.w1 + wsT o t - b.w1 = wsT o t by omega]
structure RsnK (o : Odr) (s t : Tm) (q : Int) : Prop where
  same : s = t → q = 2
  diff : ¬ s = t → q = if (if s.fn < 0 then false else if t.fn < 0 then arnT s.fn t.fn s else if s.fn = t.fn then abvL o s.args t.args else decide (o.prec.getD t.fn.toNat 0 < o.prec.getD s.fn.toNat 0)) then 3 else
    if (if t.fn < 0 then false else if s.fn < 0 then arnT t.fn s.fn t else if t.fn = s.fn then abvL o t.args s.args else decide (o.prec.getD s.fn.toNat 0 < o.prec.getD t.fn.toNat 0)) then 1 else 0
  asym : abvL o s.args t.args = true → abvL o t.args s.args = false
theorem fin_eq_of {o : Odr} {N : Nat} {b : Bal} {s t : Tm} {r : Bal × Int} (hl : Laid N b r.1 (wsT o s) (wsT o t) fun v => (ofT v s : Int) - (ofT v t : Int)) (hi : InvB N b) (hz : ∀ v, v < 0 → b.V v = 0) (hks : knowT o s = true) (hkt : knowT o t = true) (hs : VB N s) (ht : VB N t) (hr : RsnK o s t r.2) :
    finB b r = cmpK o s t := by
  obtain ⟨c1, c0, cq⟩ := fin_of hl hi hz hks hkt hs ht
  unfold finB cmpK
  rw [cq]
  by_cases hst : s = t
  · subst hst
    have hn : numI (capI (wsT o s)) (capI (wsT o s)) = 0 := by unfold numI; simp
    rw [if_pos hn, hr.same rfl, if_pos (cmp_zero_iff.2 rfl)]
    unfold finR; simp
  · rw [if_neg (fun h => hst (cmp_zero_iff.1 h)), abvT_eq o s t, abvT_eq o t s]
    by_cases hw : capI (wsT o s) = capI (wsT o t)
    · have hn : numI (capI (wsT o s)) (capI (wsT o t)) = 0 := by unfold numI; rw [if_neg (by omega), if_neg (by omega)]
      rw [if_pos hn, if_pos hw, if_pos hw.symm, hr.diff hst]
      obtain ⟨B1, hB1⟩ : ∃ B : Bool, (if s.fn < 0 then false else if t.fn < 0 then arnT s.fn t.fn s else if s.fn = t.fn then abvL o s.args t.args else decide (o.prec.getD t.fn.toNat 0 < o.prec.getD s.fn.toNat 0)) = B := ⟨_, rfl⟩
      obtain ⟨B2, hB2⟩ : ∃ B : Bool, (if t.fn < 0 then false else if s.fn < 0 then arnT t.fn s.fn t else if t.fn = s.fn then abvL o t.args s.args else decide (o.prec.getD s.fn.toNat 0 < o.prec.getD t.fn.toNat 0)) = B := ⟨_, rfl⟩
      have hB : ¬ (B1 = true ∧ B2 = true) := by
        rintro ⟨e1, e2⟩
        rw [e1] at hB1
        rw [e2] at hB2
        by_cases h1 : s.fn < 0
        · rw [if_pos h1] at hB1; cases hB1
        · by_cases h2 : t.fn < 0
          · rw [if_pos h2] at hB2; cases hB2
          · rw [if_neg h1, if_neg h2] at hB1
            rw [if_neg h2, if_neg h1] at hB2
            by_cases h3 : s.fn = t.fn
            · rw [if_pos h3] at hB1
              rw [if_pos h3.symm, hr.asym hB1] at hB2
              cases hB2
            · rw [if_neg h3, decide_eq_true_eq] at hB1
              rw [if_neg (fun e => h3 e.symm), decide_eq_true_eq] at hB2
              omega
      rw [hB1, hB2]
      clear hB1 hB2 hr cq hl
      unfold finR
      simp only [c1, c0]
      cases B1 <;> cases B2 <;> cases covU s t t <;> cases covU t s s <;> simp_all
    · rw [if_neg hw, if_neg (show ¬ capI (wsT o t) = capI (wsT o s) from fun e => hw e.symm)]
      by_cases hlt : capI (wsT o s) < capI (wsT o t)
      · have hn : numI (capI (wsT o s)) (capI (wsT o t)) = -1 := by unfold numI; rw [if_pos hlt]
        rw [hn, decide_eq_false (show ¬ capI (wsT o t) < capI (wsT o s) by omega), decide_eq_true hlt, if_neg (show ¬ (-1 : Int) = 0 by decide)]
        unfold finR
        simp only [c1, c0, show relC (-1) = 1 from rfl]
        cases covU s t t <;> cases covU t s s <;> simp
      · have hgt : capI (wsT o t) < capI (wsT o s) := by omega
        have hn : numI (capI (wsT o s)) (capI (wsT o t)) = 1 := by unfold numI; rw [if_neg hlt, if_pos hgt]
        rw [hn, decide_eq_false hlt, decide_eq_true hgt, if_neg (show ¬ (1 : Int) = 0 by decide)]
        unfold finR
        simp only [c1, c0, show relC 1 = 3 from rfl]
        cases covU s t t <;> cases covU t s s <;> simp
theorem rsnB_same (o : Odr) (f : Int) (xs ys : List Tm) (b : Bal) : rsnB o (.node f xs) b (.node f ys) = argB o xs (cntB o 1 (cntB o 0 b f) f) ys := by rw [rsnB]; exact if_pos rfl
theorem rsnB_other (o : Odr) {f g : Int} (h : ¬ f = g) (xs ys : List Tm) (b : Bal) : rsnB o (.node f xs) b (.node g ys) = (layB o 1 (layB o 0 b (.node f xs)) (.node g ys), topsR o (.node f xs) (.node g ys)) := by rw [rsnB]; exact if_neg h
mutual
theorem fin_eq {o : Odr} {N : Nat} : ∀ (s : Tm) (b : Bal) (t : Tm), InvB N b → (∀ v, v < 0 → b.V v = 0) → knowT o s = true → knowT o t = true → VB N s → VB N t → finB b (rsnB o s b t) = cmpK o s t
  | .node f xs, b, .node g ys, hi, hz, hks, hkt, hs, ht => by
    refine fin_eq_of (rsn_laid (o := o) _ b _ hs ht) hi hz hks hkt hs ht ?_
    obtain ⟨k1, k2⟩ := know_node hks
    obtain ⟨k3, k4⟩ := know_node hkt
    simp only [Tm.fn, Tm.args] at k1 k2 k3 k4
    refine ⟨fun e => ?_, fun e => ?_, abvL_asym xs ys fun x _ => abv_asym x⟩
    · injection e with e1 e2
      subst e1; subst e2
      rw [rsnB_same]
      obtain ⟨i1, z1⟩ := zero_cnt (o := o) hs.top hi hz
      exact (arg_eq xs _ xs i1 z1 k2 k2 hs.args hs.args).same rfl
    · simp only [Tm.fn, Tm.args]
      by_cases hfg : f = g
      · subst hfg
        have hne : ¬ xs = ys := fun h => e (by rw [h])
        have hf0 : ¬ f < 0 := fun h => hne (by
          rw [List.eq_nil_of_length_eq_zero ((know_top k1).2.2 h), List.eq_nil_of_length_eq_zero ((know_top k3).2.2 h)])
        rw [rsnB_same]
        obtain ⟨i1, z1⟩ := zero_cnt (o := o) hs.top hi hz
        simp only [hf0, ↓reduceIte]
        exact (arg_eq xs _ ys i1 z1 k2 k4 hs.args ht.args).diff hne
      · rw [rsnB_other o hfg]
        show topsR o (.node f xs) (.node g ys) = _
        unfold topsR topsP
        have tf : ∀ (f : Int) (xs : List Tm), (Tm.node f xs).fn = f := fun _ _ => rfl
        simp only [tf]
        by_cases h1 : f < 0
        · by_cases h2 : g < 0
          · simp [h1, h2]
          · have ha := arn_end h2 h1 (.node g ys) rfl
            by_cases h3 : (arndEnd g (.node g ys)).fn = f
            · simp [h1, h2, h3, relT, ha]
            · simp [h1, h2, h3, relT, ha]
        · by_cases h2 : g < 0
          · have ha := arn_end h1 h2 (.node f xs) rfl
            by_cases h3 : (arndEnd f (.node f xs)).fn = g
            · simp [h1, h2, h3, ha]
            · simp [h1, h2, h3, ha]
          · have hgf : ¬ g = f := fun e => hfg e.symm
            by_cases h3 : o.prec.getD g.toNat 0 < o.prec.getD f.toNat 0
            · simp only [h1, h2, hfg, ↓reduceIte, h3, decide_true]
            · by_cases h4 : o.prec.getD f.toNat 0 = o.prec.getD g.toNat 0
              · have h5 : ¬ o.prec.getD f.toNat 0 < o.prec.getD g.toNat 0 := by omega
                simp only [h1, h2, hfg, hgf, ↓reduceIte, h4, decide_false, Bool.false_eq_true, Int.lt_irrefl]
              · have h5 : o.prec.getD f.toNat 0 < o.prec.getD g.toNat 0 := by omega
                simp only [h1, h2, hfg, hgf, ↓reduceIte, h3, h4, h5, decide_false, decide_true, Bool.false_eq_true]
theorem arg_eq {o : Odr} {N : Nat} : ∀ (xs : List Tm) (b : Bal) (ys : List Tm), InvB N b → (∀ v, v < 0 → b.V v = 0) → knowL o xs = true → knowL o ys = true → VBL N xs → VBL N ys → ArgK o xs ys (argB o xs b ys).2
  | [], b, [], _, _, _, _, _, _ => by
    rw [argB]; exact ⟨fun _ => rfl, fun h => absurd rfl h⟩
  | [], b, y :: ys, _, _, _, _, _, _ => by
    rw [argB]
    exact ⟨fun h => (by cases h), fun _ => by rw [abvL, abvL]; exact numI_rel0 ys.length⟩
  | x :: xs, b, [], _, _, _, _, _, _ => by
    rw [argB]
    exact ⟨fun h => (by cases h), fun _ => by rw [abvL]; exact numI_rel1 xs.length⟩
  | x :: xs, b, y :: ys, hi, hz, hkx, hky, hx, hy => by
    rw [knowL, Bool.and_eq_true] at hkx hky
    have h1 := fin_eq (o := o) x b y hi hz hkx.1 hky.1 hx.head hy.head
    have hl := rsn_laid (o := o) x b y hx.head hy.head
    rw [argB, h1]
    by_cases e : x = y
    · subst e
      rw [if_pos (cmpK_two.2 rfl)]
      have h2 := arg_eq (o := o) xs (rsnB o x b x).1 ys (hl.inv hi) (fun v hv => by rw [hl.V v hv, hz v hv]; omega) hkx.2 hky.2 hx.tail hy.tail
      refine ⟨fun h => h2.same (by injection h), fun h => ?_⟩
      rw [h2.diff (fun h' => h (by rw [h'])), abvL, abvL, if_pos (cmp_zero_iff.2 rfl), if_pos (cmp_zero_iff.2 rfl)]
    · rw [if_neg (fun h => e (cmpK_two.1 h))]
      refine ⟨fun h => absurd (by injection h) e, fun _ => ?_⟩
      have e1 : ¬ cmpT x y = 0 := fun h => e (cmp_zero_iff.1 h)
      have e2 : ¬ cmpT y x = 0 := fun h => e (cmp_zero_iff.1 h).symm
      rw [abvL, abvL, if_neg e1, if_neg e2]
      show cmpK o x y = _
      unfold cmpK
      rw [if_neg e1]
end
theorem cmpO_eq (o : Odr) (s t : Tm) : cmpO o s t = cmpR o s t := by
  unfold cmpO cmpR
  cases hs : knowT o s with
  | false => rfl
  | true =>
    cases ht : knowT o t with
    | false => rfl
    | true =>
      obtain ⟨N1, h1⟩ := VB_ex s
      obtain ⟨N2, h2⟩ := VB_ex t
      have hi : InvB (N1 + N2) bal0 := ⟨(pS_zero (N1 + N2) bal0.V fun v _ => Int.le_refl 0).symm, (pS_zero (N1 + N2) (fun x => - bal0.V x) fun v _ => Int.le_refl 0).symm⟩
      have h := fin_eq (o := o) s bal0 t hi (fun _ _ => rfl) hs ht (fun v hv hp => by have := h1 v hv hp; omega) (fun v hv hp => by have := h2 v hv hp; omega)
      simp only [Bool.and_self, ↓reduceIte]
      rw [h]
      rfl
end Go.Proofs.YthgglobfkkcdgaaGreatDoor
namespace Go.Proofs.YthgglobfkkcdgaaGreatDoor
open Go.RowKit
set_option maxRecDepth 20000
structure Adm (o : Odr) (ar : List Nat) : Prop where
  np : o.prec.length = ar.length
  nw : o.wts.length = ar.length
  inj : ∀ i k : Nat, i < ar.length → k < ar.length → o.prec.getD i 0 = o.prec.getD k 0 → i = k
  v1 : 1 ≤ o.var
  v2 : o.var ≤ 1000
  w0 : ∀ i : Nat, i < ar.length → 0 ≤ o.wts.getD i 0
  w1 : ∀ i : Nat, i < ar.length → o.wts.getD i 0 ≤ 1000
  a0 : ∀ i : Nat, i < ar.length → ar.getD i 0 = 0 → o.var ≤ o.wts.getD i 0
  a1 : ∀ i : Nat, i < ar.length → ar.getD i 0 = 1 → o.wts.getD i 0 = 0 → ∀ k : Nat, k < ar.length → k ≠ i → ¬ o.prec.getD i 0 < o.prec.getD k 0
section
variable {o : Odr} {ar : List Nat}
theorem Adm.wt_var (A : Adm o ar) {f : Int} (hf : f < 0) : wtI o f = o.var := by
  have := A.v1; have := A.v2
  unfold wtI capI; rw [if_pos hf]; omega
theorem Adm.wt_sym (A : Adm o ar) {f : Int} (hf : ¬ f < 0) (hl : f < (ar.length : Int)) : wtI o f = o.wts.getD f.toNat 0 := by
  have := A.w0 f.toNat (by omega); have := A.w1 f.toNat (by omega)
  unfold wtI capI; rw [if_neg hf]; omega
theorem Adm.wt_le (A : Adm o ar) {f : Int} (hl : f < (ar.length : Int)) : wtI o f ≤ 1000 := by
  by_cases hf : f < 0
  · rw [A.wt_var hf]; exact A.v2
  · rw [A.wt_sym hf hl]; exact A.w1 _ (by omega)
theorem wtI_lo (o : Odr) (f : Int) : 0 ≤ wtI o f := by unfold wtI capI; omega
theorem Adm.know (A : Adm o ar) : ∀ t : Tm, wfT ar t = true → knowT o t = true := by
  refine Tm.ind fun f xs ih h => ?_
  have hL : ∀ ys : List Tm, (∀ y ∈ ys, y ∈ xs) → knowL o ys = true := by
    intro ys
    induction ys with
    | nil => intro _; rfl
    | cons y ys ih2 =>
      intro hy
      rw [knowL, Bool.and_eq_true]
      exact ⟨ih y (hy y (by simp)) (wfL_mem (wf_args h) (hy y (by simp))), ih2 fun z hz => hy z (by simp [hz])⟩
  rw [knowT, Bool.and_eq_true]
  refine ⟨?_, hL xs fun _ h => h⟩
  unfold knowTop
  by_cases hf : f < 0
  · rw [if_pos hf, wf_var h hf]; rfl
  · have := (wf_sym h hf).1
    rw [if_neg hf, A.np, A.nw]
    simp [this]
theorem Adm.ws_ge (A : Adm o ar) : ∀ t : Tm, wfT ar t = true → o.var ≤ wsT o t := by
  refine Tm.ind fun f xs ih h => ?_
  rw [wsT]
  by_cases hf : f < 0
  · rw [A.wt_var hf, wf_var h hf, wsL]; omega
  · obtain ⟨h1, h2⟩ := wf_sym h hf
    match xs, h2, ih, h with
    | [], h2, _, _ =>
      rw [A.wt_sym hf h1, wsL]
      have := A.a0 f.toNat (by omega) h2.symm
      omega
    | x :: xs, h2, ih, h =>
      rw [wsL]
      have := ih x (by simp) (wfL_mem (wf_args h) (by simp))
      have := wsL_lo o xs
      have := wtI_lo o f
      omega
mutual
theorem Adm.ws_le (A : Adm o ar) : ∀ t : Tm, wfT ar t = true → wsT o t ≤ 1000 * (t.size : Int)
  | .node f xs, h => by
    have h1 := A.wsL_le xs (wf_args h)
    have h2 : wtI o f ≤ 1000 := by
      by_cases hf : f < 0
      · exact A.wt_le (by omega)
      · exact A.wt_le (wf_sym h hf).1
    rw [wsT, Tm.size]; omega
theorem Adm.wsL_le (A : Adm o ar) : ∀ xs : List Tm, wfL ar xs = true → wsL o xs ≤ 1000 * (sizes xs : Int)
  | [], _ => by rw [wsL, sizes]; omega
  | x :: xs, h => by
    rw [wfL, Bool.and_eq_true] at h
    have h1 := A.ws_le x h.1
    have h2 := A.wsL_le xs h.2
    rw [wsL, sizes]; omega
end
theorem Gd.cap (A : Adm o ar) {t : Tm} (h : Gd ar t) : capI (wsT o t) = wsT o t := by
  have h1 := A.ws_le t h.wf
  have h2 := wsT_lo o t
  have h3 := h.sz
  unfold capI; omega
def abvE (o : Odr) (s t : Tm) : Prop := ¬ s.fn < 0 ∧ (if t.fn < 0 then arnT s.fn t.fn s = true else if s.fn = t.fn then abvL o s.args t.args = true else o.prec.getD t.fn.toNat 0 < o.prec.getD s.fn.toNat 0)
structure AbvP (o : Odr) (s t : Tm) : Prop where
  cov : ∀ v, v < 0 → ofT v t ≤ ofT v s
  ge : wsT o t ≤ wsT o s
  eq : wsT o s = wsT o t → abvE o s t
theorem abv_iff (A : Adm o ar) {s t : Tm} (hs : Gd ar s) (ht : Gd ar t) : abvT o s t = true ↔ AbvP o s t := by
  rw [abvT_eq, Bool.and_eq_true, cov_iff (A.know t ht.wf), hs.cap A, ht.cap A]
  constructor
  · rintro ⟨h1, h2⟩
    by_cases he : wsT o s = wsT o t
    · rw [if_pos he] at h2
      refine ⟨h1, by omega, fun _ => ?_⟩
      by_cases hf : s.fn < 0
      · rw [if_pos hf] at h2; cases h2
      · rw [if_neg hf] at h2
        refine ⟨hf, ?_⟩
        by_cases hg : t.fn < 0
        · rw [if_pos hg] at h2 ⊢; exact h2
        · rw [if_neg hg] at h2 ⊢
          by_cases hfg : s.fn = t.fn
          · rw [if_pos hfg] at h2 ⊢; exact h2
          · rw [if_neg hfg, decide_eq_true_eq] at h2; rw [if_neg hfg]; exact h2
    · rw [if_neg he, decide_eq_true_eq] at h2
      exact ⟨h1, by omega, fun e => absurd e he⟩
  · rintro ⟨h1, h2, h3⟩
    refine ⟨h1, ?_⟩
    by_cases he : wsT o s = wsT o t
    · obtain ⟨hf, h4⟩ := h3 he
      rw [if_pos he, if_neg hf]
      by_cases hg : t.fn < 0
      · rw [if_pos hg] at h4 ⊢; exact h4
      · rw [if_neg hg] at h4 ⊢
        by_cases hfg : s.fn = t.fn
        · rw [if_pos hfg] at h4 ⊢; exact h4
        · rw [if_neg hfg] at h4 ⊢; simpa using h4
    · rw [if_neg he, decide_eq_true_eq]; omega
theorem abv_irr {s : Tm} : ¬ abvT o s s = true := fun h => by have := abv_asym s s h; rw [h] at this; cases this
theorem Adm.zero_top (A : Adm o ar) {f g : Int} (hf : ¬ f < 0) (hg : ¬ g < 0) (hfl : f < (ar.length : Int)) (hgl : g < (ar.length : Int)) (h1 : ar.getD f.toNat 0 = 1) (h0 : wtI o f = 0) (hne : ¬ f = g) : o.prec.getD g.toNat 0 < o.prec.getD f.toNat 0 := by
  rw [A.wt_sym hf hfl] at h0
  have := A.a1 f.toNat (by omega) h1 h0 g.toNat (by omega) (by omega)
  have := A.inj f.toNat g.toNat (by omega) (by omega)
  omega
theorem wsL_mem (A : Adm o ar) : ∀ {xs : List Tm} {x : Tm}, wfL ar xs = true → x ∈ xs → wsT o x + o.var * ((xs.length : Int) - 1) ≤ wsL o xs
  | [], _, _, h => by simp at h
  | y :: ys, x, hw, h => by
    rw [wfL, Bool.and_eq_true] at hw
    have hge : ∀ zs : List Tm, wfL ar zs = true → o.var * (zs.length : Int) ≤ wsL o zs := by
      intro zs
      induction zs with
      | nil => intro _; rw [wsL]; simp
      | cons z zs ih =>
        intro hz
        rw [wfL, Bool.and_eq_true] at hz
        have h1 := A.ws_ge z hz.1
        have h2 := ih hz.2
        rw [wsL, List.length_cons]
        have : o.var * ((zs.length + 1 : Nat) : Int) = o.var * (zs.length : Int) + o.var := by
          rw [Int.natCast_add]; simp [Int.mul_add]
        omega
    rw [wsL, List.length_cons]
    have e1 : o.var * (((ys.length + 1 : Nat) : Int) - 1) = o.var * (ys.length : Int) := by congr 1; omega
    rw [e1]
    rcases List.mem_cons.1 h with rfl | h
    · have := hge ys hw.2; omega
    · have h1 := wsL_mem A hw.2 h
      have h2 := A.ws_ge y hw.1
      have : o.var * ((ys.length : Int) - 1) = o.var * (ys.length : Int) - o.var := by rw [Int.mul_sub]; simp
      omega
theorem one_arg (A : Adm o ar) {f : Int} {xs : List Tm} {x : Tm} (h : Gd ar (.node f xs)) (hx : x ∈ xs) (he : wsT o (.node f xs) ≤ wsT o x) : ¬ f < 0 ∧ f < (ar.length : Int) ∧ ar.getD f.toNat 0 = 1 ∧ wtI o f = 0 ∧ xs = [x] ∧ wsT o (.node f xs) = wsT o x := by
  have h1 := wsL_mem A (wf_args h.wf) hx
  have h0 := wtI_lo o f
  have hf : ¬ f < 0 := fun hf => by rw [wf_var h.wf hf] at hx; simp at hx
  obtain ⟨h2, h3⟩ := wf_sym h.wf hf
  rw [wsT] at he ⊢
  match xs, hx, h1, he, h3 with
  | [y], hx, h1, he, h3 =>
    obtain rfl : x = y := by simpa using hx
    rw [wsL, wsL] at he ⊢
    refine ⟨hf, h2, h3.symm, by omega, rfl, by omega⟩
  | y :: z :: ys, hx, h1, he, h3 =>
    exfalso
    have hv := A.v1
    have : o.var * (((y :: z :: ys).length : Int) - 1) = o.var * (ys.length : Int) + o.var := by
      simp only [List.length_cons]
      have : (((ys.length + 1 + 1 : Nat)) : Int) - 1 = (ys.length : Int) + 1 := by omega
      rw [this, Int.mul_add]; simp
    have h9 : 0 ≤ o.var * (ys.length : Int) := Int.mul_nonneg (by omega) (by omega)
    omega
theorem abv_arg (A : Adm o ar) : ∀ (x : Tm) (f : Int) (xs : List Tm), Gd ar (.node f xs) → x ∈ xs → abvT o (.node f xs) x = true := by
  intro x
  refine Tm.ind (P := fun x => ∀ (f : Int) (xs : List Tm), Gd ar (.node f xs) → x ∈ xs → abvT o (.node f xs) x = true) (fun g ys ih f xs h hx => ?_) x
  have hg := h.arg hx
  rw [abv_iff A h hg]
  by_cases hle : wsT o (.node f xs) ≤ wsT o (.node g ys)
  · obtain ⟨hf, hfl, hf1, hf0, rfl, heq⟩ := one_arg A h hx hle
    refine ⟨fun v _ => of_arg hx, by omega, fun _ => ⟨hf, ?_⟩⟩
    change if g < 0 then arnT f g (.node f [.node g ys]) = true else if f = g then abvL o [.node g ys] ys = true else o.prec.getD g.toNat 0 < o.prec.getD f.toNat 0
    by_cases hgn : g < 0
    · rw [if_pos hgn, arnT_one]
      simp [Tm.fn]
    · rw [if_neg hgn]
      by_cases hfg : f = g
      · subst hfg
        rw [if_pos rfl]
        have h2 := (wf_sym hg.wf hgn).2
        rw [hf1] at h2
        match ys, h2, ih, hg with
        | [y], _, ih, hg =>
          have h3 := ih y (by simp) f [y] hg (by simp)
          have hne : ¬ cmpT (.node f [y]) y = 0 := fun e => by
            rw [cmp_zero_iff] at e
            rw [← e] at h3
            exact abv_irr (by simpa [e] using h3)
          rw [abvL, if_neg hne]
          exact h3
      · rw [if_neg hfg]
        exact A.zero_top hf hgn hfl (wf_sym hg.wf hgn).1 hf1 hf0 hfg
  · exact ⟨fun v _ => of_arg hx, by omega, fun e => by omega⟩
end
section
variable {o : Odr} {ar : List Nat}
theorem arn_of (A : Adm o ar) {v : Int} (hv : v < 0) : ∀ s : Tm, Gd ar s → ¬ s.fn < 0 → wsT o s = o.var → 0 < ofT v s → arnT s.fn v s = true ∧ s.fn < (ar.length : Int) ∧ ar.getD s.fn.toNat 0 = 1 ∧ wtI o s.fn = 0 := by
  refine Tm.ind fun f xs ih h hf hw hof => ?_
  change ¬ f < 0 at hf
  have hex : ∃ x ∈ xs, 0 < ofT v x := by
    rw [ofT, if_neg (by omega)] at hof
    have : ∀ ys : List Tm, 0 < ofL v ys → ∃ x ∈ ys, 0 < ofT v x := by
      intro ys
      induction ys with
      | nil => intro h; rw [ofL] at h; omega
      | cons y ys ih =>
        intro h
        rw [ofL] at h
        by_cases hy : 0 < ofT v y
        · exact ⟨y, by simp, hy⟩
        · obtain ⟨x, hx, h⟩ := ih (by omega); exact ⟨x, by simp [hx], h⟩
    exact this xs (by omega)
  obtain ⟨x, hx, hox⟩ := hex
  have hgx := h.arg hx
  have h1 := A.ws_ge x hgx.wf
  obtain ⟨_, hfl, hf1, hf0, rfl, heq⟩ := one_arg A h hx (by omega)
  refine ⟨?_, hfl, hf1, hf0⟩
  change arnT f v (.node f [x]) = true
  rw [arnT_one, beq_self_eq_true, Bool.true_and, Bool.or_eq_true]
  by_cases hxn : x.fn < 0
  · left
    rw [var_of hgx.wf hxn, ofT, ofL] at hox
    by_cases e : x.fn = v
    · rw [e, beq_self_eq_true]
    · rw [if_neg e] at hox; omega
  · right
    obtain ⟨h2, h3, h4, h5⟩ := ih x (by simp) hgx hxn (by omega) hox
    have : f = x.fn := by
      by_cases e : f = x.fn
      · exact e
      · have h6 := A.zero_top hf hxn hfl h3 hf1 hf0 e
        have h7 := A.zero_top hxn hf h3 hfl h4 h5 (fun e' => e e'.symm)
        omega
    rw [this]; exact h2
theorem ws_var (A : Adm o ar) {t : Tm} (hw : wfT ar t = true) (hv : t.fn < 0) : wsT o t = o.var := by
  rw [var_of hw hv]
  change wsT o (.node t.fn []) = o.var
  rw [wsT, wsL, A.wt_var hv]; omega
theorem abvL_trans (A : Adm o ar) : ∀ (xs ys zs : List Tm), (∀ x ∈ xs, ∀ y z, Gd ar x → Gd ar y → Gd ar z → abvT o x y = true → abvT o y z = true → abvT o x z = true) → (∀ x ∈ xs, Gd ar x) → (∀ x ∈ ys, Gd ar x) → (∀ x ∈ zs, Gd ar x) →
    abvL o xs ys = true → abvL o ys zs = true → abvL o xs zs = true
  | [], _, _, _, _, _, _, h, _ => by rw [abvL] at h; cases h
  | _ :: _, [], _, _, _, _, _, _, h => by rw [abvL] at h; cases h
  | _ :: _, _ :: _, [], _, _, _, _, _, _ => by rw [abvL]
  | x :: xs, y :: ys, z :: zs, ih, gx, gy, gz, h1, h2 => by
    rw [abvL] at h1 h2 ⊢
    by_cases e1 : cmpT x y = 0
    · rw [if_pos e1] at h1
      rw [cmp_zero_iff] at e1; subst e1
      by_cases e2 : cmpT x z = 0
      · rw [if_pos e2] at h2 ⊢
        exact abvL_trans A xs ys zs (fun a ha => ih a (by simp [ha])) (fun a ha => gx a (by simp [ha])) (fun a ha => gy a (by simp [ha])) (fun a ha => gz a (by simp [ha])) h1 h2
      · rw [if_neg e2] at h2 ⊢; exact h2
    · rw [if_neg e1] at h1
      by_cases e2 : cmpT y z = 0
      · rw [cmp_zero_iff] at e2; subst e2
        rw [if_neg e1]; exact h1
      · rw [if_neg e2] at h2
        have h3 := ih x (by simp) y z (gx x (by simp)) (gy y (by simp)) (gz z (by simp)) h1 h2
        have : ¬ cmpT x z = 0 := fun e => by
          rw [cmp_zero_iff] at e; subst e
          exact abv_irr h3
        rw [if_neg this]; exact h3
theorem abv_trans (A : Adm o ar) : ∀ (s t u : Tm), Gd ar s → Gd ar t → Gd ar u → abvT o s t = true → abvT o t u = true → abvT o s u = true := by
  intro s
  refine Tm.ind (P := fun s => ∀ (t u : Tm), Gd ar s → Gd ar t → Gd ar u → abvT o s t = true → abvT o t u = true → abvT o s u = true) (fun f xs ih t u hs ht hu h1 h2 => ?_) s
  obtain ⟨g, ys⟩ := t
  obtain ⟨k, zs⟩ := u
  rw [abv_iff A hs ht] at h1
  rw [abv_iff A ht hu] at h2
  rw [abv_iff A hs hu]
  refine ⟨fun v hv => Nat.le_trans (h2.cov v hv) (h1.cov v hv), Int.le_trans h2.ge h1.ge, fun he => ?_⟩
  have g1 := h1.ge
  have g2 := h2.ge
  obtain ⟨hf, h3⟩ := h1.eq (by omega)
  obtain ⟨hg, h4⟩ := h2.eq (by omega)
  refine ⟨hf, ?_⟩
  change ¬ f < 0 at hf
  change ¬ g < 0 at hg
  change if g < 0 then arnT f g (.node f xs) = true else if f = g then abvL o xs ys = true else o.prec.getD g.toNat 0 < o.prec.getD f.toNat 0 at h3
  change if k < 0 then arnT g k (.node g ys) = true else if g = k then abvL o ys zs = true else o.prec.getD k.toNat 0 < o.prec.getD g.toNat 0 at h4
  change if k < 0 then arnT f k (.node f xs) = true else if f = k then abvL o xs zs = true else o.prec.getD k.toNat 0 < o.prec.getD f.toNat 0
  rw [if_neg hg] at h3
  by_cases hk : k < 0
  · rw [if_pos hk]
    have h5 : 0 < ofT k (.node f xs) := by
      have h6 := h2.cov k hk
      have h7 := h1.cov k hk
      have h8 : ofT k (.node k zs) = 1 := of_var (t := .node k zs) hu.wf hk
      omega
    exact (arn_of A hk (.node f xs) hs hf (by rw [he]; exact ws_var A hu.wf hk) h5).1
  · rw [if_neg hk] at h4 ⊢
    by_cases e1 : f = g
    · subst e1
      rw [if_pos rfl] at h3
      by_cases e2 : f = k
      · subst e2
        rw [if_pos rfl] at h4 ⊢
        exact abvL_trans A xs ys zs (fun x hx y z gx gy gz => ih x hx y z gx gy gz) (gd_args hs) (gd_args ht) (gd_args hu) h3 h4
      · rw [if_neg e2] at h4 ⊢; exact h4
    · rw [if_neg e1] at h3
      by_cases e2 : g = k
      · subst e2
        rw [if_neg e1]; exact h3
      · rw [if_neg e2] at h4
        have : ¬ f = k := fun e => by subst e; omega
        rw [if_neg this]; omega
theorem abvL_tot : ∀ (xs ys : List Tm), xs.length = ys.length → (∀ x ∈ xs, ∀ y ∈ ys, cmpT x y = 0 ∨ abvT o x y = true ∨ abvT o y x = true) → xs = ys ∨ abvL o xs ys = true ∨ abvL o ys xs = true
  | [], [], _, _ => .inl rfl
  | [], _ :: _, h, _ => by simp at h
  | _ :: _, [], h, _ => by simp at h
  | x :: xs, y :: ys, h, ih => by
    rw [abvL, abvL]
    by_cases e : cmpT x y = 0
    · have e' := e
      rw [cmp_zero_iff] at e'; subst e'
      rw [if_pos e, if_pos e]
      rcases abvL_tot xs ys (by simpa using h) (fun a ha b hb => ih a (by simp [ha]) b (by simp [hb])) with rfl | h1 | h1
      · exact .inl rfl
      · exact .inr (.inl h1)
      · exact .inr (.inr h1)
    · have e' : ¬ cmpT y x = 0 := fun e' => by rw [cmp_zero_iff] at e'; subst e'; exact e (cmp_zero_iff.2 rfl)
      rw [if_neg e, if_neg e']
      rcases ih x (by simp) y (by simp) with h1 | h1 | h1
      · exact absurd h1 e
      · exact .inr (.inl h1)
      · exact .inr (.inr h1)
theorem abv_tot (A : Adm o ar) : ∀ (s t : Tm), Gd ar s → Gd ar t → grd s → grd t → cmpT s t = 0 ∨ abvT o s t = true ∨ abvT o t s = true := by
  intro s
  refine Tm.ind (P := fun s => ∀ t, Gd ar s → Gd ar t → grd s → grd t → cmpT s t = 0 ∨ abvT o s t = true ∨ abvT o t s = true) (fun f xs ih t hs ht gs gt => ?_) s
  obtain ⟨g, ys⟩ := t
  rw [abv_iff A hs ht, abv_iff A ht hs, cmp_zero_iff]
  have hf := grd_top gs
  have hg := grd_top gt
  have c1 : ∀ v, v < 0 → ofT v (.node g ys) ≤ ofT v (.node f xs) := fun v hv => by rw [gt v hv]; omega
  have c2 : ∀ v, v < 0 → ofT v (.node f xs) ≤ ofT v (.node g ys) := fun v hv => by rw [gs v hv]; omega
  by_cases h1 : wsT o (.node f xs) = wsT o (.node g ys)
  · obtain ⟨hf1, hf2⟩ := wf_sym hs.wf hf
    obtain ⟨hg1, hg2⟩ := wf_sym ht.wf hg
    by_cases e : f = g
    · subst e
      rcases abvL_tot (o := o) xs ys (by omega) (fun x hx y hy => ih x hx y (hs.arg hx) (ht.arg hy) (grd_arg gs hx) (grd_arg gt hy)) with rfl | h | h
      · exact .inl rfl
      · refine .inr (.inl ⟨c1, by omega, fun _ => ⟨hf, ?_⟩⟩)
        change if f < 0 then _ else if f = f then abvL o xs ys = true else _
        rw [if_neg hf, if_pos rfl]; exact h
      · refine .inr (.inr ⟨c2, by omega, fun _ => ⟨hf, ?_⟩⟩)
        change if f < 0 then _ else if f = f then abvL o ys xs = true else _
        rw [if_neg hf, if_pos rfl]; exact h
    · have := A.inj f.toNat g.toNat (by omega) (by omega)
      have hne : ¬ o.prec.getD f.toNat 0 = o.prec.getD g.toNat 0 := fun h => e (by have := this h; omega)
      by_cases hlt : o.prec.getD f.toNat 0 < o.prec.getD g.toNat 0
      · refine .inr (.inr ⟨c2, by omega, fun _ => ⟨hg, ?_⟩⟩)
        change if f < 0 then _ else if g = f then _ else o.prec.getD f.toNat 0 < o.prec.getD g.toNat 0
        rw [if_neg hf, if_neg (fun e' => e e'.symm)]; exact hlt
      · refine .inr (.inl ⟨c1, by omega, fun _ => ⟨hf, ?_⟩⟩)
        change if g < 0 then _ else if f = g then _ else o.prec.getD g.toNat 0 < o.prec.getD f.toNat 0
        rw [if_neg hg, if_neg e]; omega
  · by_cases h2 : wsT o (.node f xs) < wsT o (.node g ys)
    · exact .inr (.inr ⟨c2, by omega, fun e => absurd e.symm h1⟩)
    · exact .inr (.inl ⟨c1, by omega, fun e => absurd e h1⟩)
theorem wsL_app (o : Odr) : ∀ xs ys : List Tm, wsL o (xs ++ ys) = wsL o xs + wsL o ys
  | [], ys => by rw [List.nil_append, wsL]; omega
  | x :: xs, ys => by rw [List.cons_append, wsL, wsL, wsL_app o xs ys]; omega
theorem abvL_beside {s t : Tm} (hst : abvT o s t = true) : ∀ (l r r' : List Tm), abvL o (l ++ s :: r) (l ++ t :: r') = true
  | [], r, r' => by
    rw [List.nil_append, List.nil_append, abvL]
    have : ¬ cmpT s t = 0 := fun e => by rw [cmp_zero_iff] at e; subst e; exact abv_irr hst
    rw [if_neg this]; exact hst
  | x :: l, r, r' => by
    rw [List.cons_append, List.cons_append, abvL, if_pos (cmp_zero_iff.2 rfl)]
    exact abvL_beside hst l r r'
theorem abv_within (A : Adm o ar) {s t : Tm} {f : Int} {l r : List Tm} (h1 : Gd ar (.node f (l ++ s :: r))) (h2 : Gd ar (.node f (l ++ t :: r))) (hst : abvT o s t = true) : abvT o (.node f (l ++ s :: r)) (.node f (l ++ t :: r)) = true := by
  have hP := (abv_iff A (h1.arg (by simp)) (h2.arg (by simp))).1 hst
  rw [abv_iff A h1 h2]
  have hf : ¬ f < 0 := fun hf => by have := wf_var h1.wf hf; simp at this
  have hge := hP.ge
  refine ⟨fun v hv => ?_, ?_, fun _ => ⟨hf, ?_⟩⟩
  · have := hP.cov v hv
    rw [ofT, ofT, ofL_app, ofL_app, ofL, ofL]; omega
  · rw [wsT, wsT, wsL_app, wsL_app, wsL, wsL]; omega
  · change if f < 0 then _ else if f = f then abvL o (l ++ s :: r) (l ++ t :: r) = true else _
    rw [if_neg hf, if_pos rfl]
    exact abvL_beside hst l r r
end
end Go.Proofs.YthgglobfkkcdgaaGreatDoor
namespace Go.Proofs.YthgglobfkkcdgaaGreatDoor
open Go.RowKit Go.Shelf Go.Maps
set_option maxRecDepth 100000
theorem chkO_adm {l : List Sm} {o : Odr} (hl : o.lpo = false) (h : chkO l o = 0) : Adm o (arL l) := by
  unfold chkO at h
  by_cases hc : ¬ (checkI l = 0 ∧ rankB o.prec l.length = true ∧ (o.lpo = true ∨ (o.wts.length = l.length ∧ 1 ≤ o.var ∧ o.var ≤ 1000 ∧ o.wts.getD 0 0 = o.var ∧ chkW l o = true)))
  · rw [if_neg hc] at h; cases h
  replace hc := Decidable.not_not.1 hc
  obtain ⟨_, hr, h⟩ := hc
  rcases h with h | ⟨hw, v1, v2, _, hW⟩
  · rw [hl] at h; cases h
  unfold rankB at hr
  rw [Bool.and_eq_true, decide_eq_true_eq, List.all_eq_true] at hr
  have hbad : ∀ i, i < l.length → badR o.prec i = false := fun i hi => by simpa using hr.2 i (List.mem_range.2 hi)
  have hne : ∀ i k, i < l.length → k < i → ¬ o.prec.getD i 0 = o.prec.getD k 0 := fun i k hi hk e => by
    have := hbad i hi
    rw [badR_same hk e] at this; cases this
  have hbw : ∀ i, i < l.length → ∃ s, l[i]? = some s ∧ badX s (o.wts.getD i 0) o.var (highB o.prec i) = false := fun i hi => by
    unfold chkW at hW
    rw [List.all_eq_true] at hW
    have h1 := hW i (List.mem_range.2 hi)
    obtain ⟨s, hs⟩ : ∃ s, l[i]? = some s := ⟨_, List.getElem?_eq_getElem hi⟩
    refine ⟨s, hs, ?_⟩
    unfold badW at h1
    rw [hs] at h1
    simpa using h1
  have hX : ∀ i, i < l.length → ∃ s, l[i]? = some s ∧ 0 ≤ o.wts.getD i 0 ∧ o.wts.getD i 0 ≤ 1000 ∧ (s.arity = 0 → o.var ≤ o.wts.getD i 0) ∧ (s.arity = 1 → o.wts.getD i 0 = 0 → highB o.prec i = true) := fun i hi => by
    obtain ⟨s, hs, hb⟩ := hbw i hi
    unfold badX at hb
    simp only [Bool.or_eq_false_iff, Bool.and_eq_false_iff, decide_eq_false_iff_not, Bool.not_eq_false'] at hb
    obtain ⟨⟨⟨b1, b2⟩, b3⟩, b4⟩ := hb
    refine ⟨s, hs, by omega, by omega, fun h0 => ?_, fun h1 h0 => ?_⟩
    · rcases b3 with b3 | b3
      · exact absurd h0 b3
      · omega
    · rcases b4 with (b4 | b4) | b4
      · exact absurd h1 b4
      · exact absurd h0 b4
      · exact b4
  have hlen := arL_len l
  refine ⟨by rw [hr.1, hlen], by rw [hw, hlen], fun i k hi hk e => ?_, v1, v2, fun i hi => ?_, fun i hi => ?_, fun i hi h0 => ?_, fun i hi h1 h0 k hk hne => ?_⟩
  · rw [hlen] at hi hk
    rcases Nat.lt_trichotomy i k with h | h | h
    · exact absurd e.symm (hne k i hk h)
    · exact h
    · exact absurd e (hne i k hi h)
  · rw [hlen] at hi; obtain ⟨s, _, h1, _⟩ := hX i hi; exact h1
  · rw [hlen] at hi; obtain ⟨s, _, _, h1, _⟩ := hX i hi; exact h1
  · rw [hlen] at hi; obtain ⟨s, hs, _, _, h1, _⟩ := hX i hi
    rw [arL_at hs] at h0
    exact h1 (arN_zero h0)
  · rw [hlen] at hi hk; obtain ⟨s, hs, _, _, _, h2⟩ := hX i hi
    rw [arL_at hs] at h1
    have hh := h2 (arN_one h1) h0
    unfold highB at hh
    rw [List.all_eq_true] at hh
    have := hh k (List.mem_range.2 (by rw [hr.1]; exact hk))
    unfold overI at this
    intro hlt
    rw [decide_eq_true hne, decide_eq_true hlt] at this
    cases this
end Go.Proofs.YthgglobfkkcdgaaGreatDoor
