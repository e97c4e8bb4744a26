/- halve: the first bind of a variable. finder$1: what a variable is bound to. -/
import Derived.Test.YtfkefogmpmcfeaaU7
namespace Go.Proofs.Ytfkefogmpmcfeaa
open Go.RowKit Go.Shelf
set_option maxRecDepth 100000

theorem info_bind : (Try.prog.info? 81).map (fun i => (i.zero, i.size, i.bytes)) = some (some (.agg #[.int .i64 0, .int .i64 0, .slice none 0 0]), 3, 40) := by kernel_rfl

/-- What a variable is bound to, by the first bind of it. -/
def findB (l : List Bd) (v : Int) : Option Bd := l.find? fun x => decide (x.v = v)
theorem findB_at {l : List Bd} {v : Int} {k : Nat} {x : Bd} (hx : l[k]? = some x) (hv : x.v = v) (hlow : ∀ (i : Nat) (y : Bd), i < k → l[i]? = some y → y.v < v) : findB l v = some x := by
  unfold findB
  rw [List.find?_eq_some_iff_getElem]
  obtain ⟨hlt, he⟩ := List.getElem?_eq_some_iff.1 hx
  refine ⟨by simpa using hv, k, hlt, he, fun j hj => ?_⟩
  have := hlow j _ hj (List.getElem?_eq_getElem (by omega))
  simp
  omega
theorem findB_none {l : List Bd} {v : Int} (h : ∀ (i : Nat) (y : Bd), l[i]? = some y → y.v ≠ v) : findB l v = none := by
  unfold findB
  rw [List.find?_eq_none]
  intro x hx
  obtain ⟨i, hi⟩ := List.mem_iff_getElem?.1 hx
  simpa using h i x hi

def HalvePost (l : List Bd) (v : Int) (N : Nat → Prop) (w : World) (e : Ending) (w' : World) : Prop := Below w.heap.size w w' ∧
  match findB l v with
  | none => e = .returned (.tuple #[.agg #[.int .i64 0, .int .i64 0, .slice none 0 0], .bool false])
  | some x => ∃ A' c', e = .returned (.tuple #[.agg #[.int .i64 x.v, .int .i64 x.t.fn, .slice A' x.t.args.length c'], .bool true]) ∧ I64 x.v ∧ I64 x.t.fn ∧ ArgsN w N A' x.t.args

structure HvI (l : List Bd) (v : Int) (lo hi : Nat) : Prop where
  le : lo ≤ hi
  len : hi ≤ l.length
  low : ∀ (i : Nat) (y : Bd), i < lo → l[i]? = some y → y.v < v
  high : ∀ (i : Nat) (y : Bd), hi ≤ i → l[i]? = some y → v ≤ y.v

theorem set3_three {W : World} {b : Nat} {x y z u v t : Value} {ty : TypeId} (h : W.heap[b]? = some (.cells #[x, y, z] ty)) : (((W.setCell ⟨b, 0, none⟩ u).setCell ⟨b, 1, none⟩ v).setCell ⟨b, 2, none⟩ t).heap[b]? = some (.cells #[u, v, t] ty) :=
  have h1 : (W.setCell ⟨b, 0, none⟩ u).heap[b]? = some (.cells #[u, y, z] ty) := heap_setCell_same W _ 0 _ _ _ h
  have h2 : ((W.setCell ⟨b, 0, none⟩ u).setCell ⟨b, 1, none⟩ v).heap[b]? = some (.cells #[u, v, z] ty) := heap_setCell_same _ _ 1 _ _ _ h1
  heap_setCell_same _ _ 2 _ _ _ h2

set_option maxHeartbeats 2000000 in
theorem halve_any (l : List Bd) (v : Int) (A : Option Addr) (c bx : Nat) (N : Nat → Prop) (w : World) (hl : l.length ≤ 4611686018427387904) (hN : ∀ g, N g → g < w.heap.size) (hA : Binds w N A l) (hr : Rise l) (hbx : Boxed w bx 3 (.int .i64 v)) :
    Calls Try.prog 99 #[.slice A l.length c, .func (.func 100) #[] #[.pointer (some ⟨bx, 0, none⟩)]] w (HalvePost l v N w) := by
  have HA := Lib.hid hA
  have HN := Lib.hid hN
  have HR := Lib.hid hr
  have q0 := heap_alloc_new w (.cells #[.int .i64 0, .int .i64 0, .slice none 0 0] 81)
  obtain ⟨W, hW⟩ : ∃ W, w.alloc (.cells #[.int .i64 0, .int .i64 0, .slice none 0 0] 81) = W := ⟨_, rfl⟩
  have hB : Below w.heap.size w W := by rw [← hW]; exact (Below.refl _ _).alloc (Nat.le_refl _) _
  rw [hW] at q0
  have hWs : w.heap.size < W.heap.size := (Array.getElem?_eq_some_iff.1 q0).1
  have hbW : Boxed W bx 3 (.int .i64 v) := (hB.block _ hbx.lt).trans hbx
  have HW := Lib.hid hW
  have hI0 : Hid (HvI l v 0 l.length) := ⟨Nat.zero_le _, Nat.le_refl _, fun i y h => by omega, fun i y h1 h2 => by have := (List.getElem?_eq_some_iff.1 h2).1; omega⟩
  clear hA hr hW hN
  go_enter Try.func99, Try.ntmps99
  go_upto_region 1 with fail
  rw [HW.out]
  go_wp2
  go_loopw [6, 7] (fun p q wr => ∃ lo hi : Nat, p = .int .i64 (lo : Int) ∧ q = .int .i64 (hi : Int) ∧ Below W.heap.size W wr ∧ Hid (HvI l v lo hi)) (fun p q _ => (intOf q).toNat - (intOf p).toNat)
  case atStart => exact ⟨0, l.length, rfl, rfl, Below.refl _ _, hI0⟩
  case round =>
    obtain ⟨lo, hi, rfl, rfl, hBr, H⟩ := hrel
    have hle := H.out.le
    have hln := H.out.len
    have hBw : Below w.heap.size w wr := hB.trans (hBr.mono hB.size)
    have hbr : Boxed wr bx 3 (.int .i64 v) := (hBr.block _ hbW.lt).trans hbW
    by_cases hlt : lo < hi
    · obtain ⟨d, hd⟩ : ∃ d, d = (hi - lo) / 2 := ⟨_, rfl⟩
      have g1 : ((hi : Int) - (lo : Int)).tdiv 2 = (d : Int) := by rw [Int.tdiv_eq_ediv_of_nonneg (by omega)]; omega
      have g2 : IntKind.i64.wrap (d : Int) = (d : Int) := by rw [IntKind.wrap_i64]; omega
      have g3 : (lo : Int) + (d : Int) < (l.length : Int) := by omega
      have g4 : (0 : Int) ≤ (lo : Int) + (d : Int) := by omega
      have g5 : ((lo : Int) + (d : Int)).toNat = lo + d := by omega
      have g6 : (lo : Int) < (hi : Int) := by omega
      have g7 : lo + d < hi := by omega
      have g8 : IntKind.i64.wrap ((lo : Int) + (d : Int)) = (lo : Int) + (d : Int) := by rw [IntKind.wrap_i64]; omega
      clear hd
      obtain ⟨x, hx⟩ : ∃ x, l[lo + d]? = some x := ⟨_, List.getElem?_eq_getElem (by omega)⟩
      obtain ⟨b, off, A', c', rfl, h⟩ := HA.out.get hx
      have e0 := cell_on hBw (HN.out _ h.hb) h.c0
      have e1 := cell_on hBw (HN.out _ h.hb) h.c1
      have e2 := cell_on hBw (HN.out _ h.hb) h.c2
      have Hx := Lib.hid hx
      clear hx h
      by_cases hc : x.v < v
      · have hn : Hid (numI x.v v < 0) := by unfold Hid numI; rw [if_pos hc]; omega
        go_wp2_with (first
          | (go_at_call 100; refine (finder11_any x A' c' v bx wr hbr).mono ?_; go_must (rintro e w1 ⟨rfl, hb1⟩; have hn := hn.out; have hB1 := hBr.trans (hb1.mono hBr.size)))
          | fail)
        clear g1 g2 g3 g4 g5 g6 g8 e0 e1 e2
        have hI : Hid (HvI l v (lo + d + 1) hi) := ⟨by omega, hln, fun i y h1 h2 => by have := HR.out i (lo + d) y x (by omega) h2 Hx.out; omega, H.out.high⟩
        refine ⟨⟨lo + d + 1, hi, by go_num, rfl, hB1, hI⟩, ?_⟩
        simp [intOf]
        omega
      · have hn : Hid (¬ numI x.v v < 0) := by unfold Hid numI; rw [if_neg hc]; split <;> omega
        go_wp2_with (first
          | (go_at_call 100; refine (finder11_any x A' c' v bx wr hbr).mono ?_; go_must (rintro e w1 ⟨rfl, hb1⟩; have hn := hn.out; have hB1 := hBr.trans (hb1.mono hBr.size)))
          | fail)
        clear g1 g2 g3 g4 g5 g6 g8 e0 e1 e2
        have hI : Hid (HvI l v lo (lo + d)) := ⟨by omega, by omega, H.out.low, fun i y h1 h2 => by have := HR.out (lo + d) i x y h1 Hx.out h2; omega⟩
        refine ⟨⟨lo, lo + d, rfl, by go_num, hB1, hI⟩, ?_⟩
        simp [intOf]
        omega
    · obtain rfl : lo = hi := by omega
      have q1 := (hBr.block _ hWs).trans q0
      obtain ⟨r0, r1, r2, fr0, fr1, fr2⟩ := cells_three q1
      by_cases hin : lo < l.length
      · obtain ⟨x, hx⟩ : ∃ x, l[lo]? = some x := ⟨_, List.getElem?_eq_getElem hin⟩
        obtain ⟨b, off, A', c', rfl, h⟩ := HA.out.get hx
        have e0 := cell_on hBw (HN.out _ h.hb) h.c0
        have e1 := cell_on hBw (HN.out _ h.hb) h.c1
        have e2 := cell_on hBw (HN.out _ h.hb) h.c2
        have hhb := HN.out _ h.hb
        have hvx := H.out.high lo x (Nat.le_refl _) hx
        have hin' : (lo : Int) < (l.length : Int) := by omega
        by_cases he : x.v = v
        · have hfind := Lib.hid (findB_at hx he H.out.low)
          have hn : Hid (numI x.v v = 0) := by unfold Hid numI; rw [if_neg (by omega), if_neg (by omega)]
          clear he
          have hres := Lib.hid (show I64 x.v ∧ I64 x.t.fn ∧ ArgsN w N A' x.t.args from ⟨h.iv, h.it, h.sub⟩)
          clear hx h
          go_wp2_with (first
            | (go_at_call 100; refine (finder11_any x A' c' v bx wr hbr).mono ?_; go_must (rintro e w1 ⟨rfl, hb1⟩; have hn := hn.out; have hb1w := hBw.trans (hb1.mono hBw.size); have q2 := (hb1.block _ (by have := hBr.size; omega)).trans q1; obtain ⟨t0, t1, t2, ft0, ft1, ft2⟩ := cells_three q2; have i0 := cell_on hb1 (by have := hBw.size; have e : b < w.heap.size := hhb; omega) e0; have i1 := cell_on hb1 (by have := hBw.size; have e : b < w.heap.size := hhb; omega) e1; have i2 := cell_on hb1 (by have := hBw.size; have e : b < w.heap.size := hhb; omega) e2))
            | fail)
          obtain ⟨p0, p1, p2, _, _, _⟩ := cells_three (set3_three (u := .int .i64 x.v) (v := .int .i64 x.t.fn) (t := .slice A' x.t.args.length c') q2)
          refine bodyPost_ret (v := .tuple #[.agg #[.int .i64 x.v, .int .i64 x.t.fn, .slice A' x.t.args.length c'], .bool true]) (by simp [results, Try.results99, go_sem, p0, p1, p2]) rfl ⟨((hb1w.setCell (by show _ ≤ w.heap.size; omega) _).setCell (by show _ ≤ w.heap.size; omega) _).setCell (by show _ ≤ w.heap.size; omega) _, ?_⟩
          rw [hfind.out]
          exact ⟨A', c', rfl, hres.out⟩
        · have hfind := Lib.hid (findB_none (l := l) (v := v) fun i y hy => by
            rcases Nat.lt_or_ge i lo with h1 | h1
            · have := H.out.low i y h1 hy; omega
            · have := HR.out lo i x y h1 hx hy; omega)
          have hn : Hid (¬ numI x.v v = 0) := by unfold Hid numI; rw [if_neg (by omega), if_pos (by omega)]; omega
          clear hx h
          go_wp2_with (first
            | (go_at_call 100; refine (finder11_any x A' c' v bx wr hbr).mono ?_; go_must (rintro e w1 ⟨rfl, hb1⟩; have hn := hn.out; have hb1w := hBw.trans (hb1.mono hBw.size); have q2 := (hb1.block _ (by have := hBr.size; omega)).trans q1; have hz := (Below.refl w1.heap.size w1).alloc (Nat.le_refl _) (Obj.cells #[.int .i64 0, .int .i64 0, .slice none 0 0] 81); have zq := heap_alloc_new w1 (Obj.cells #[.int .i64 0, .int .i64 0, .slice none 0 0] 81); obtain ⟨z0, z1, z2, _, _, _⟩ := cells_three zq; have q4 := (hz.block _ (Array.getElem?_eq_some_iff.1 q2).1).trans q2; obtain ⟨t0, t1, t2, ft0, ft1, ft2⟩ := cells_three q4; have hb2w := hb1w.trans (hz.mono hb1w.size)))
            | fail)
          obtain ⟨p0, p1, p2, _, _, _⟩ := cells_three (set3_three (u := .int .i64 0) (v := .int .i64 0) (t := .slice none 0 0) q4)
          refine bodyPost_ret (v := .tuple #[.agg #[.int .i64 0, .int .i64 0, .slice none 0 0], .bool false]) (by simp [results, Try.results99, go_sem, p0, p1, p2]) rfl ⟨((hb2w.setCell (by show _ ≤ w.heap.size; omega) _).setCell (by show _ ≤ w.heap.size; omega) _).setCell (by show _ ≤ w.heap.size; omega) _, ?_⟩
          rw [hfind.out]
      · have hfind := Lib.hid (findB_none (l := l) (v := v) fun i y hy => by
          have hi := (List.getElem?_eq_some_iff.1 hy).1
          have := H.out.low i y (by omega) hy; omega)
        have hin' : ¬ (lo : Int) < (l.length : Int) := by omega
        have q2 := q1
        have hz := (Below.refl wr.heap.size wr).alloc (Nat.le_refl _) (Obj.cells #[.int .i64 0, .int .i64 0, .slice none 0 0] 81); have zq := heap_alloc_new wr (Obj.cells #[.int .i64 0, .int .i64 0, .slice none 0 0] 81); obtain ⟨z0, z1, z2, _, _, _⟩ := cells_three zq; have q4 := (hz.block _ (Array.getElem?_eq_some_iff.1 q2).1).trans q2; obtain ⟨t0, t1, t2, ft0, ft1, ft2⟩ := cells_three q4
        have hb2w := hBw.trans (hz.mono hBw.size)
        go_wp2
        obtain ⟨p0, p1, p2, _, _, _⟩ := cells_three (set3_three (u := .int .i64 0) (v := .int .i64 0) (t := .slice none 0 0) q4)
        refine bodyPost_ret (v := .tuple #[.agg #[.int .i64 0, .int .i64 0, .slice none 0 0], .bool false]) (by simp [results, Try.results99, go_sem, p0, p1, p2]) rfl ⟨((hb2w.setCell (by show _ ≤ w.heap.size; omega) _).setCell (by show _ ≤ w.heap.size; omega) _).setCell (by show _ ≤ w.heap.size; omega) _, ?_⟩
        rw [hfind.out]
end Go.Proofs.Ytfkefogmpmcfeaa

namespace Go.Proofs.Ytfkefogmpmcfeaa
open Go.RowKit Go.Shelf
set_option maxRecDepth 100000

def FinderPost (l : List Bd) (v : Int) (w : World) (e : Ending) (w' : World) : Prop := Below w.heap.size w w' ∧
  match findB l v with
  | none => e = .returned (.tuple #[.agg #[.int .i64 0, .slice none 0 0], .bool false])
  | some x => ∃ A' c', e = .returned (.tuple #[.agg #[.int .i64 x.t.fn, .slice A' x.t.args.length c'], .bool true]) ∧ I64 x.t.fn ∧ Args w w.heap.size A' x.t.args

theorem alloc_old {W : World} {b : Nat} {x o : Obj} (h : W.heap[b]? = some x) : (W.alloc o).heap[b]? = some x :=
  (((Below.refl W.heap.size W).alloc (Nat.le_refl _) o).block _ (Array.getElem?_eq_some_iff.1 h).1).trans h

set_option maxHeartbeats 2000000 in
theorem finder1_any (l : List Bd) (v : Int) (A : Option Addr) (c bs : Nat) (w : World) (hl : l.length ≤ 4611686018427387904) (hA : Binds w (· < w.heap.size) A l) (hr : Rise l) (hbs : Boxed w bs 23 (.slice A l.length c)) :
    Calls Try.prog 98 #[.int .i64 v, .pointer (some ⟨bs, 0, none⟩)] w (FinderPost l v w) := by
  obtain ⟨W, hW⟩ : ∃ W, (w.alloc (.cells #[.int .i64 v] 3)).alloc (.cells #[.int .i64 0, .slice none 0 0] 31) = W := ⟨_, rfl⟩
  have hB : Below w.heap.size w W := by rw [← hW]; exact ((Below.refl _ _).alloc (Nat.le_refl _) _).alloc (by simp) _
  have qv : Boxed W w.heap.size 3 (.int .i64 v) := by
    have h1 := heap_alloc_new w (.cells #[.int .i64 v] 3)
    have h2 := ((Below.refl (w.heap.size + 1) (w.alloc (.cells #[.int .i64 v] 3))).alloc (by simp) (.cells #[.int .i64 0, .slice none 0 0] 31)).block w.heap.size (by omega)
    rw [← hW]
    exact h2.trans h1
  have qr : W.heap[w.heap.size + 1]? = some (.cells #[.int .i64 0, .slice none 0 0] 31) := by
    have h1 := heap_alloc_new (w.alloc (.cells #[.int .i64 v] 3)) (.cells #[.int .i64 0, .slice none 0 0] 31)
    have h2 : (w.alloc (.cells #[.int .i64 v] 3)).heap.size = w.heap.size + 1 := by simp
    rw [← hW]
    rwa [h2] at h1
  have hWs : w.heap.size + 1 < W.heap.size := (Array.getElem?_eq_some_iff.1 qr).1
  have hcb := Boxed.cell (show Boxed W bs _ _ from (hB.block _ hbs.lt).trans hbs)
  have H := Lib.hid (halve_any l v A c w.heap.size (· < w.heap.size) W hl (fun g e => Nat.lt_of_lt_of_le e hB.size) (hA.keep fun g e => hB.block g e) hr qv)
  have HW := Lib.hid hW
  clear hW hA hr
  unfold FinderPost
  rcases hfo : findB l v with _ | x
  · have hfo := Lib.hid hfo
    go_enter Try.func98, Try.ntmps98
    go_upto_region 1 with fail
    rw [HW.out]
    go_wp2_with (first
      | (go_at_call 99; refine H.out.mono ?_; go_must (rintro e w1 ⟨hb1, he⟩; rw [hfo.out] at he; obtain rfl := he; have q2 := (hb1.block _ hWs).trans qr; have hq2 := (Array.getElem?_eq_some_iff.1 q2).1; have zq := heap_alloc_new w1 (Obj.cells #[.int .i64 0, .int .i64 0, .slice none 0 0] 81); obtain ⟨p0, p1, p2, _, _, _⟩ := cells_three zq; have r2 := alloc_old (o := (Obj.cells #[.int .i64 0, .int .i64 0, .slice none 0 0] 81)) q2; obtain ⟨d0, d1, fd0, fd1⟩ := cells_two r2; obtain ⟨m0, m1⟩ := set2_two (u := .int .i64 0) (v := .slice none 0 0) q2; obtain ⟨d2, d3, fd2, fd3⟩ := cells_two (alloc_old (o := (Obj.cells #[.int .i64 0, .int .i64 0, .slice none 0 0] 81)) m0); have r4 := alloc_old (o := (Obj.cells #[.int .i64 0, .int .i64 0, .slice none 0 0] 81)) m1; have hb1w := hB.trans (hb1.mono hB.size); have hs1 := hb1w.size))
      | fail)
    obtain ⟨k0, k1, _, _⟩ := cells_two r4
    refine bodyPost_ret (v := .tuple #[.agg #[.int .i64 0, .slice none 0 0], .bool false]) (by simp [results, Try.results98, go_sem, k0, k1]) rfl ⟨((hb1w.setCell (by show _ ≤ w.heap.size + 1; omega) _).setCell (by show _ ≤ w.heap.size + 1; omega) _).alloc (by simp; omega) _, ?_⟩
    rfl
  · have hfo := Lib.hid hfo
    go_enter Try.func98, Try.ntmps98
    go_upto_region 1 with fail
    rw [HW.out]
    go_wp2_with (first
      | (go_at_call 99; refine H.out.mono ?_; go_must (rintro e w1 ⟨hb1, he⟩; rw [hfo.out] at he; obtain ⟨A', c', rfl, _, hit, hsub⟩ := he; have hit := Lib.hid hit; have hsub := Lib.hid hsub; have q2 := (hb1.block _ hWs).trans qr; have hq2 := (Array.getElem?_eq_some_iff.1 q2).1; have zq := heap_alloc_new w1 (Obj.cells #[.int .i64 x.v, .int .i64 x.t.fn, .slice A' x.t.args.length c'] 81); obtain ⟨p0, p1, p2, _, _, _⟩ := cells_three zq; have r2 := alloc_old (o := (Obj.cells #[.int .i64 x.v, .int .i64 x.t.fn, .slice A' x.t.args.length c'] 81)) q2; obtain ⟨d0, d1, fd0, fd1⟩ := cells_two r2; obtain ⟨m0, m1⟩ := set2_two (u := .int .i64 x.t.fn) (v := .slice A' x.t.args.length c') q2; obtain ⟨d2, d3, fd2, fd3⟩ := cells_two (alloc_old (o := (Obj.cells #[.int .i64 x.v, .int .i64 x.t.fn, .slice A' x.t.args.length c'] 81)) m0); have r4 := alloc_old (o := (Obj.cells #[.int .i64 x.v, .int .i64 x.t.fn, .slice A' x.t.args.length c'] 81)) m1; have hb1w := hB.trans (hb1.mono hB.size); have hs1 := hb1w.size))
      | fail)
    obtain ⟨k0, k1, _, _⟩ := cells_two r4
    refine bodyPost_ret (v := .tuple #[.agg #[.int .i64 x.t.fn, .slice A' x.t.args.length c'], .bool true]) (by simp [results, Try.results98, go_sem, k0, k1]) rfl ⟨((hb1w.setCell (by show _ ≤ w.heap.size + 1; omega) _).setCell (by show _ ≤ w.heap.size + 1; omega) _).alloc (by simp; omega) _, ?_⟩
    exact ⟨A', c', rfl, hit.out, (hsub.out.keep fun g e => (hB.block g e).symm).args fun g e => e⟩
end Go.Proofs.Ytfkefogmpmcfeaa
