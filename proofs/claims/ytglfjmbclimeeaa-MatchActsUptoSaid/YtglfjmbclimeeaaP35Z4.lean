import Derived.Test.YtglfjmbclimeeaaP35Z3
import Derived.Test.YtglfjmbclimeeaaP35Z1
import Derived.Deep.RegionLaw
import Derived.Deep.DeepCutAuto
import Derived.Test.YtglfjmbclimeeaaP35Z2
import Derived.Shelf.SlIterI.Keys
import Derived.Shelf.SlIterI.Sorted
import Derived.Shelf.SortM.Plain
import Derived.Shelf.SortM.SortNone
import Derived.Test.YtglfjmbclimeeaaProg
import Derived.WideMake
import Derived.Sort.OwnSortedInts
import Derived.Maps.AppendAt
import Derived.Lib.RowBridge
import Derived.ProofKit
import Derived.SizedLaws
import Derived.Deep.Slices
import Derived.Carry
import Derived.Test.YtglfjmbclimeeaaRows
import Derived.Below
/- The document's own answer: Apply. -/

namespace Go.Proofs.Ytglfjmbclimeeaa

open Go.RowKit Go.Shelf
set_option maxRecDepth 100000

/-- What the loop has laid: the box n, its row behind it. -/
structure ApI (n : Nat) (wr : World) (f : Int) (ys : List Tm) (k : Nat) (v : Value) (l : List Ti) : Prop where
  box : wr.heap[n]? = some (.cells #[.int .i64 f, v] 31)
  key : l.map Ti.t = ys.take k
  row : RowT wr (n + 1) v l (Apart (n + 1) v wr)

theorem ApI.len {n : Nat} {wr : World} {f : Int} {xs : List Tm} {k : Nat} {v : Value} {l : List Ti} (h : ApI n wr f xs k v l) (hk : k ≤ xs.length) : l.length = k := by
  have := congrArg List.length h.key
  simpa [Nat.min_eq_left hk] using this

/-- One more: the copy of the next argument, its box, the row that has grown, the store. -/
theorem ApI.next {n : Nat} {wr w4 w5 : World} {f : Int} {xs : List Tm} {k : Nat} {v v4 v5 : Value} {l l4 : List Ti} {u : Tm} {A4 : Option Addr} {c4 : Nat} {o : Obj} (h : ApI n wr f xs k v l) (hu : xs[k]? = some u) (hi : I64 u.fn) (hl4 : l4.map Ti.t = u.args) (h64 : u.args.length ≤ 9223372036854775807) (hv4 : v4 = .slice A4 u.args.length c4)
    (hR4 : RowT w4 wr.heap.size v4 l4 (Apart wr.heap.size v4 w4)) (hb4 : Below wr.heap.size wr w4) (hown : w5.ownsRow (n + 1) 31 2 v5 (k + 1) (l.flatMap Ti.cells ++ (⟨u, A4, c4⟩ : Ti).cells))
    (hgr : (w4.alloc o).grownBy w5 v.ownBlock) (hat : v5.ownBlock = v.ownBlock ∨ v5.ownBlock = some (w4.alloc o).heap.size) :
    ApI n (w5.setCell ⟨n, 1, none⟩ v5) f xs (k + 1) v5 (l ++ [⟨u, A4, c4⟩]) := by
  have hkl := (List.getElem?_eq_some_iff.1 hu).1
  have hlen := h.len (by omega)
  have hlt := row_lt h.row.row
  have hs4 := hb4.size
  have hs5 := hgr.size
  have hbs : n < wr.heap.size := (Array.getElem?_eq_some_iff.1 h.box).1
  have hK : ∀ g, g < wr.heap.size → v.ownBlock ≠ some g → w5.heap[g]? = wr.heap[g]? := fun g h1 h2 => (hgr.block g (by simp; omega) (fun e => h2 e.symm)).trans ((Below.heap_alloc w4 o g (by omega)).trans (hb4.block g h1))
  have hK4 : ∀ g, g < w4.heap.size → v.ownBlock ≠ some g → w5.heap[g]? = w4.heap[g]? := fun g h1 h2 => (hgr.block g (by simp; omega) (fun e => h2 e.symm)).trans (Below.heap_alloc w4 o g h1)
  have hb2 : v.ownBlock ≠ some (n) := fun e => by have := (hlt _ e).1; omega
  have hbox5 := (hK _ hbs hb2).trans h.box
  obtain ⟨_, z1⟩ := set2_two (u := .int .i64 f) (v := v5) hbox5
  have hset : ∀ g, g ≠ n → (w5.setCell ⟨n, 1, none⟩ v5).heap[g]? = w5.heap[g]? := fun g e => heap_setCell_other _ _ _ _ e
  have hlt5 := row_lt hown
  have hv5 : ∀ g, g < wr.heap.size → v.ownBlock ≠ some g → v5.ownBlock ≠ some g := fun g h1 h2 e => by
    rcases hat with h3 | h3
    · rw [h3] at e; exact h2 e
    · rw [h3] at e; injection e with e; simp at e; omega
  have hv54 : ∀ g, wr.heap.size ≤ g → g < w4.heap.size → v5.ownBlock ≠ some g := fun g h1 h2 e => by
    rcases hat with h3 | h3
    · rw [h3] at e; have := (hlt _ e).2; omega
    · rw [h3] at e; injection e with e; simp at e; omega
  have hsz5 : w4.heap.size + 1 ≤ w5.heap.size := by simpa using hs5
  refine ⟨?_, ?_, ?_⟩
  · exact heap_setCell_same w5 _ 1 _ _ _ hbox5
  · rw [List.map_append, h.key, List.take_add_one, hu]; rfl
  · refine RowT.push (w := wr) (N := Apart (n + 1) v wr) h.row ?_ hi ?_ (fun g hg => ?_) (fun g hg => ⟨hg.1, by have := hg.2.1; simp; omega, hv5 g hg.2.1 hg.2.2⟩)
    · rw [hlen]
      exact row_keep hown fun g e => hset g (by have := (hlt5 g e).1; omega)
    · have hl4l : l4.length ≤ 9223372036854775807 := by have := congrArg List.length hl4; simp at this; omega
      obtain ⟨A', c', e, hA⟩ := hR4.argsN (M := fun g => wr.heap.size ≤ g ∧ g < w4.heap.size) hl4l (fun g e => row_lt hR4.row g e) (fun g hg => ⟨hg.1, hg.2.1⟩)
      rw [hv4] at e
      injection e with e1 _ _
      subst e1
      rw [hl4] at hA
      refine (hA.keep fun g hg => ?_).wide fun g hg => ⟨by omega, by simp; omega, hv54 g hg.1 hg.2⟩
      exact (hset g (by omega)).trans (hK4 g hg.2 fun e => by have := (hlt _ e).2; omega)
    · exact (hset g (by have := hg.1; omega)).trans (hK g hg.2.1 hg.2.2)

theorem found_i64 {l : List Bd} {v : Int} {x : Bd} {w : World} {N : Nat → Prop} {A : Option Addr} (hB : Binds w N A l) (h : findB l v = some x) : I64 x.t.fn := by
  obtain ⟨i, hi⟩ := List.mem_iff_getElem?.1 (List.mem_of_find?_eq_some h)
  obtain ⟨_, _, _, _, _, hat⟩ := hB.get hi
  exact hat.it

theorem appT_bound {l : List Bd} {f : Int} {xs : List Tm} {x : Bd} (hf : f < 0) (h : findB l (-1 - f) = some x) : appT (bdT l) (.node f xs) = x.t := by
  simp only [appT, if_pos hf, bdT, h, Option.map_some, Option.getD_some]

theorem appT_free {l : List Bd} {f : Int} {xs : List Tm} (h : ¬ f < 0 ∨ findB l (-1 - f) = none) : appT (bdT l) (.node f xs) = .node f (xs.map (appT (bdT l))) := by
  rw [← appL_eq]
  rcases h with h | h
  · simp only [appT, if_neg h, Option.getD_none]
  · simp only [appT, bdT, h, Option.map_none]
    split <;> rfl

theorem appT_fn64 {l : List Bd} {w : World} {N : Nat → Prop} {A : Option Addr} (hB : Binds w N A l) {t : Tm} (hf : I64 t.fn) : I64 (appT (bdT l) t).fn := by
  obtain ⟨f, xs⟩ := t
  by_cases h : f < 0
  · rcases hx : findB l (-1 - f) with _ | x
    · rw [appT_free (.inr hx)]; exact hf
    · rw [appT_bound h hx]; exact found_i64 hB hx
  · rw [appT_free (.inl h)]; exact hf

theorem appT_args {l : List Bd} (hsm : ∀ x ∈ l, x.t.size ≤ 4398046511104) {t : Tm} (ht : t.args.length ≤ 9223372036854775807) : (appT (bdT l) t).args.length ≤ 9223372036854775807 := by
  obtain ⟨f, xs⟩ := t
  by_cases h : f < 0
  · rcases hx : findB l (-1 - f) with _ | x
    · rw [appT_free (.inr hx)]; simpa [Tm.args] using ht
    · rw [appT_bound h hx]
      have h1 := hsm x (List.mem_of_find?_eq_some hx)
      rcases hxt : x.t with ⟨g, ys⟩
      rw [hxt] at h1
      have := sizes_len ys
      simp only [Tm.args, Tm.size] at h1 ⊢
      omega
  · rw [appT_free (.inl h)]; simpa [Tm.args] using ht

def RAppAt (l : List Bd) (t : Tm) : Prop := t.size ≤ 4398046511104 → ∀ (B : Option Addr) (cb : Nat) (A : Option Addr) (c : Nat) (w : World), Binds w (· < w.heap.size) B l → I64 t.fn → Args w w.heap.size A t.args →
  Calls Try.prog 29 #[.slice B l.length cb, .agg #[.int .i64 t.fn, .slice A t.args.length c]] w (RCopyPost (appT (bdT l) t) w)

/-- What is told of a bound variable. -/
theorem rapp_fin {y : Tm} {w w1 : World} {v4 : Value} {b : Nat} {o : Obj} (hb0 : w.heap.size ≤ b) {W : World} (hbW : b < W.heap.size) (hB : Below w.heap.size w W) (h1 : Below W.heap.size W w1) (hO : OwnRow y W v4 w1) :
    RCopyPost y w (.returned (.agg #[.int .i64 y.fn, v4])) (((w1.alloc o).setCell ⟨b, 0, none⟩ (.int .i64 y.fn)).setCell ⟨b, 1, none⟩ v4) := by
  obtain ⟨l4, hl, hR⟩ := hO
  have hoth : ∀ g, g ≠ b → g < w1.heap.size → (((w1.alloc o).setCell ⟨b, 0, none⟩ (.int .i64 y.fn)).setCell ⟨b, 1, none⟩ v4).heap[g]? = w1.heap[g]? := fun g e h => ((heap_setCell_other _ _ _ _ e).trans (heap_setCell_other _ _ _ _ e)).trans (Below.heap_alloc w1 o g h)
  have hs := hB.size
  have hs1 := h1.size
  refine ⟨v4, l4, rfl, hl, ?_, ((((hB.trans (h1.mono hs)).alloc (by omega) _)).setCell (by show _ ≤ b; omega) _).setCell (by show _ ≤ b; omega) _⟩
  have hk := (hR.keep (fun g e => hoth g (by have := (row_lt hR.row g e).1; omega) (row_lt hR.row g e).2) (fun g e => hoth g (by have := e.1; omega) e.2.1)).base (base' := w.heap.size) hs
  exact hk.wide fun g e => ⟨Nat.le_trans hs e.1, by have := e.2.1; simp; omega, e.2.2⟩

set_option maxHeartbeats 4000000 in
theorem refApply_any (l : List Bd) (hsm : ∀ x ∈ l, x.t.size ≤ 4398046511104) (t : Tm) : RAppAt l t := by
  refine Tm.ind (P := RAppAt l) (fun f xs ih => ?_) t
  intro hsz B cb A c w hBd hf hA
  simp only [Tm.fn, Tm.args] at hf hA ⊢
  have hlen : xs.length ≤ 4398046511104 := by have := sizes_len xs; simp only [Tm.size] at hsz; omega
  obtain ⟨i0, hi, hz0, hz1, hz2⟩ := info_parts info_term
  obtain ⟨q0, q1⟩ := heap2 w (.cells #[.int .i64 f, .slice A xs.length c] 31) (.cells #[.int .i64 0, .slice none 0 0] 31)
  obtain ⟨W, hW⟩ : ∃ W, ((w.alloc (.cells #[.int .i64 f, .slice A xs.length c] 31)).alloc (.cells #[.int .i64 0, .slice none 0 0] 31)) = W := ⟨_, rfl⟩
  have hB0 : Below w.heap.size w W := by rw [← hW]; exact ((Below.refl _ _).alloc (Nat.le_refl _) _).alloc (by simp) _
  rw [hW] at q0 q1
  have hWs : w.heap.size + 1 < W.heap.size := (Array.getElem?_eq_some_iff.1 q1).1
  have HW := Lib.hid hW
  have HA := Lib.hid hA
  have HBd := Lib.hid hBd
  have hlo := hf.1
  have hhi := hf.2
  obtain ⟨x0, x1, _, _⟩ := cells_two q0
  have lift : ∀ w1, Below w.heap.size w w1 → Binds w1 (· < w1.heap.size) B l := fun w1 hb => (hBd.keep fun g e => hb.block g e).wide fun g e => Nat.lt_of_lt_of_le e hb.size
  have HG := Lib.hid (refGet_any l (-1 - f) B cb W hsm (lift W hB0))
  have HL := Lib.hid lift
  clear hW hA hBd lift
  by_cases hbound : f < 0 ∧ (findB l (-1 - f)).isSome
  · obtain ⟨hneg, hso⟩ := hbound
    obtain ⟨x, hx⟩ := Option.isSome_iff_exists.1 hso
    rw [appT_bound hneg hx]
    have Hx := Lib.hid hx
    obtain ⟨r0, r1, rf0, rf1⟩ := cells_two q1
    clear hso hx
    go_enter Try.func29, Try.ntmps29
    go_upto_region 1 with fail
    rw [HW.out]
    go_wp2_with (first
      | (go_at_call 51; (with_reducible refine HG.out.mono ?_); go_must (rintro e w1 ⟨hb1, he⟩; rw [Hx.out] at he; obtain ⟨v4, rfl, hi4, hO4⟩ := he; obtain ⟨l4, hl4, hR4⟩ := hO4; obtain ⟨Av, cv, hv4⟩ := row_own hR4.row; subst hv4; have y1 := (hb1.block _ hWs).trans q1; have zq := heap_alloc_new w1 (Obj.cells #[.int .i64 x.t.fn, .slice Av l4.length cv] 31); obtain ⟨p0, p1, _, _⟩ := cells_two zq; obtain ⟨d0, d1, g0, g1⟩ := cells_two (alloc_old (o := (Obj.cells #[.int .i64 x.t.fn, .slice Av l4.length cv] 31)) y1); obtain ⟨m0, m1⟩ := set2_two (u := .int .i64 x.t.fn) (v := .slice Av l4.length cv) (alloc_old (o := (Obj.cells #[.int .i64 x.t.fn, .slice Av l4.length cv] 31)) y1); have HO4 : Hid (OwnRow x.t W (.slice Av l4.length cv) w1) := Lib.hid ⟨l4, hl4, hR4⟩; clear hR4 hl4))
      | fail)
    have k0 := (cells_two m0).1
    have k1 := (cells_two m1).2.1
    have k2 := (cells_two m1).1
    exact bodyPost_ret (v := .agg #[.int .i64 x.t.fn, .slice Av l4.length cv]) (by simp [results, Try.results29, go_sem, k0, k1]) rfl (rapp_fin (by omega) hWs hB0 hb1 HO4.out)
  · have hfree : ¬ f < 0 ∨ findB l (-1 - f) = none := by
      by_cases h : f < 0
      · exact .inr (by
          rcases hx : findB l (-1 - f) with _ | x
          · rfl
          · exact absurd ⟨h, by rw [hx]; rfl⟩ hbound)
      · exact .inl h
    have hmv := Lib.hid (appT_free (xs := xs) hfree)
    go_enter Try.func29, Try.ntmps29
    go_upto_region 1 with fail
    rw [HW.out]
    go_upto_if 11 with fail
    go_cut [] (fun wx => Below W.heap.size W wx)
    case first =>
      by_cases hneg : f < 0
      · have Hx := Lib.hid (show findB l (-1 - f) = none by rcases hfree with h | h; exact absurd hneg h; exact h)
        clear hfree hbound
        go_wp2_with (first
          | (go_at_call 51; (with_reducible refine HG.out.mono ?_); go_must (rintro e w1 ⟨hb1, he⟩; rw [Hx.out] at he; obtain rfl := he))
          | fail)
        go_meet
        exact hb1.alloc hb1.size _
      · clear hfree hbound
        go_wp2
        go_meet
        exact Below.refl _ _
    case rest =>
      have hBc : Below W.heap.size W wc := hcut
      obtain ⟨n, hn⟩ : ∃ n, wc.heap.size = n := ⟨_, rfl⟩
      have hnW : W.heap.size ≤ n := by rw [← hn]; exact hBc.size
      obtain ⟨x0, x1, _, _⟩ := cells_two ((hBc.block _ (by omega)).trans q0)
      have q2 := heap_alloc_new wc (.cells #[.int .i64 f, .slice none 0 0] 31)
      obtain ⟨X, hX⟩ : ∃ X, wc.alloc (.cells #[.int .i64 f, .slice none 0 0] 31) = X := ⟨_, rfl⟩
      have hWX : Below W.heap.size W X := by rw [← hX]; exact hBc.alloc hBc.size _
      have hwX : Below w.heap.size w X := hB0.trans (hWX.mono hB0.size)
      have q0X := (hWX.block _ (by omega)).trans q0
      have q1X := (hWX.block _ hWs).trans q1
      rw [hX, hn] at q2
      have HI0 : Hid (ApI n X f (xs.map (appT (bdT l))) 0 (.slice none 0 0) []) := ⟨q2, by simp, RowT.nil_ _ _ _⟩
      have HX := Lib.hid hX
      have Hn := Lib.hid hn
      have hnX : n < X.heap.size := (Array.getElem?_eq_some_iff.1 q2).1
      clear hX hn q2
      go_upto_region 6 with fail
      rw [HX.out, Hn.out]
      clear x0 x1
      go_wp2
      go_loopw [8] (fun i wr => ∃ (k : Nat) (v : Value) (r : List Ti), k ≤ xs.length ∧ i = .int .i64 (k : Int) ∧ Below n X wr ∧ Hid (ApI n wr f (xs.map (appT (bdT l))) k v r)) (fun i _ => xs.length - (intOf i).toNat)
      case atStart => exact ⟨0, _, [], Nat.zero_le _, rfl, Below.refl _ _, HI0⟩
      case round =>
        obtain ⟨k, v, r, hk, rfl, hBr, H⟩ := hrel
        have hbx := H.out.box
        have hbs : n < wr.heap.size := (Array.getElem?_eq_some_iff.1 hbx).1
        have hBW : Below W.heap.size W wr := hWX.trans (hBr.mono hnW)
        obtain ⟨a0, a1, _, _⟩ := cells_two ((hBW.block _ (by omega)).trans q0)
        obtain ⟨c0, c1, g0, g1⟩ := cells_two hbx
        have hBw : Below w.heap.size w wr := hB0.trans (hBW.mono hB0.size)
        by_cases hlt : k < xs.length
        · obtain ⟨u, hu⟩ : ∃ u, xs[k]? = some u := ⟨_, List.getElem?_eq_getElem hlt⟩
          obtain ⟨bb, off, A1, c1', rfl, ha⟩ := HA.out.get hu
          have hbw := ha.hb
          have e0 := cell_on hBw hbw ha.c0
          have e1 := cell_on hBw hbw ha.c1
          have hbb : bb < wr.heap.size := Nat.lt_of_lt_of_le hbw hBw.size
          have hs1 : Hid (Args wr.drew wr.drew.heap.size A1 u.args) := (ha.sub.on hBw).drewN 1
          have hi64 := ha.hi
          have hmem := List.mem_of_getElem? hu
          have hszt : u.size ≤ 4398046511104 := by have := size_mem hmem; simp only [Tm.size] at hsz; omega
          have hul : (appT (bdT l) u).args.length ≤ 9223372036854775807 := appT_args hsm ha.sub.len
          have hm64 : I64 (appT (bdT l) u).fn := appT_fn64 HBd.out ha.hi
          have Hu := Lib.hid (show (xs.map (appT (bdT l)))[k]? = some (appT (bdT l) u) by rw [List.getElem?_map, hu]; rfl)
          have hcall := Lib.hid (ih u hmem hszt B cb A1 c1' wr.drew (HL.out wr.drew (bl_drewN hBw 1)) hi64 hs1.out)
          obtain ⟨um, hum⟩ : ∃ um, appT (bdT l) u = um := ⟨_, rfl⟩
          have hrow := H.out.row.row
          have hll := H.out.len (by rw [List.length_map]; exact hk)
          rw [hll] at hrow
          obtain ⟨Av, cv, hv⟩ := row_own hrow
          subst hv
          have hrl := row_lt hrow
          have Hrow := Lib.hid hrow
          have hSS : ∀ w', Below wr.heap.size wr w' → w'.cell? ⟨n, 1, none⟩ = some (.slice Av k cv) ∧ w'.cell? ⟨w.heap.size, 1, none⟩ = some (.slice (some ⟨bb, off, none⟩) xs.length c) ∧ w'.cell? ⟨bb, off + k * 2, none⟩ = some (.int .i64 u.fn) ∧ w'.cell? ⟨bb, off + k * 2 + 1, none⟩ = some (.slice A1 u.args.length c1') := fun w' h => ⟨cell_on h hbs c1, cell_on h (by omega) a1, cell_on h hbb e0, cell_on h hbb e1⟩
          have hne : ∀ g, g < n + 1 → (Value.slice Av k cv).ownBlock ≠ some g := fun g h e => by have := (hrl g e).1; omega
          have hBX : ∀ w' : World, (∀ g, g < wr.heap.size → (Value.slice Av k cv).ownBlock ≠ some g → w'.heap[g]? = wr.heap[g]?) → w'.cell? ⟨n, 1, none⟩ = some (.slice Av k cv) ∧ w'.frozen? ⟨n, 1, none⟩ = false := fun w' h => ⟨(cell_of_heap (h _ hbs (hne _ (by omega)))).trans c1, (frozen_of_heap (h _ hbs (hne _ (by omega)))).trans g1⟩
          rw [hum] at hul hm64 Hu hcall
          clear hu ha hrow hum
          go_wp2
          go_region_law
            (first
              | (go_simp
                 go_at_call 29
                 refine hcall.out.mono ?_
                 rintro e w4 ⟨v4, l4, rfl, hl4, hR4, hb4⟩
                 have hB4 : Below wr.heap.size wr w4 := ⟨hb4.os, hb4.tape, hb4.output, hb4.size, hb4.block⟩
                 obtain ⟨A4, c4, hv4⟩ := row_own hR4.row
                 have hl4l : l4.length = um.args.length := by rw [← hl4, List.length_map]
                 rw [hl4l] at hv4
                 have HR4 := Lib.hid hR4
                 obtain ⟨k4, _, _, _⟩ := hSS _ hB4
                 obtain ⟨k4', _, _, _⟩ := hSS _ (hB4.alloc hB4.size (.cells #[.int .i64 um.fn, .slice A4 um.args.length c4] 31))
                 subst hv4
                 clear hR4
                 dsimp only)
              | (refine step_append_at rfl (.tmp 33) (.tmp 41) 29 rfl (n + 1) 31 i0 (.agg #[.int .i64 0, .slice none 0 0]) 2 32 Try.underlying29 hi hz0 hz1 hz2 rfl (by decide) (.slice Av k cv) k _ (by simp [Act.eval]) (row_keep Hrow.out fun g e => (Below.heap_alloc w4 _ g (Nat.lt_of_lt_of_le (hrl g e).2 hB4.size)).trans (hB4.block g (hrl g e).2)) ⟨w4.heap.size, 0, none⟩ 1 1 [.int .i64 um.fn, .slice A4 um.args.length c4] (by simp [Act.eval]) rfl (cells_new_two _ _ _ _) (by simp [Value.oneCell']) (by unfold maxLen; omega) (by omega) (by have := hB4.size; simp; omega) ?_
                 intro v5 w5 hown5 hgr5 hat5
                 have hK5 : ∀ g, g < wr.heap.size → (Value.slice Av k cv).ownBlock ≠ some g → w5.heap[g]? = wr.heap[g]? := fun g h1 h2 => (hgr5.block g (by have := hB4.size; simp; omega) (fun e => h2 e.symm)).trans ((Below.heap_alloc w4 _ g (by have := hB4.size; omega)).trans (hB4.block g h1))
                 obtain ⟨k1, kf⟩ := hBX w5 hK5
                 obtain ⟨g5, cap5, hv5⟩ := ownsRow_succ hown5
                 have Hown5 := Lib.hid hown5
                 have Hgr5 := Lib.hid hgr5
                 have Hat5 := Lib.hid hat5
                 subst hv5
                 clear hown5 hgr5 hat5 hK5)
              | fail)
          all_goals
            have hst := H.out.next Hu.out hm64 hl4 hul rfl HR4.out hB4 Hown5.out Hgr5.out Hat5.out
            have hBe : Below n X w5 := ((hBr.trans (hB4.mono (by omega))).alloc (by have := hB4.size; omega) _).grown Hgr5.out (by have := hB4.size; simp; omega) (fun g e => by have := (hrl g e).1; omega)
            go_wp2
            go_roundw
            case rel => exact ⟨k + 1, _, _, by omega, by go_num, hBe.setCell (Nat.le_refl _) _, hst⟩
            case measure => simp [intOf]; omega
        · obtain rfl : k = xs.length := by omega
          have hrow := H.out.row.row
          have hll := H.out.len (by rw [List.length_map]; exact hk)
          rw [hll] at hrow
          obtain ⟨Av, cv, hv⟩ := row_own hrow
          subst hv
          have hkey := Lib.hid H.out.key
          have HR := Lib.hid H.out.row
          have y1 := (hBW.block _ hWs).trans q1
          obtain ⟨b0, b1, bg0, bg1⟩ := cells_two y1
          clear hrow
          go_wp2
          obtain ⟨z1, z2⟩ := set2_two (u := .int .i64 f) (v := .slice Av xs.length cv) y1
          have p0 := (cells_two z1).1
          have p1 := (cells_two z2).2.1
          have hoth : ∀ g, g ≠ w.heap.size + 1 → ((wr.setCell ⟨w.heap.size + 1, 0, none⟩ (.int .i64 f)).setCell ⟨w.heap.size + 1, 1, none⟩ (.slice Av xs.length cv)).heap[g]? = wr.heap[g]? := fun g e => (heap_setCell_other _ _ _ _ e).trans (heap_setCell_other _ _ _ _ e)
          refine bodyPost_ret (v := .agg #[.int .i64 f, .slice Av xs.length cv]) (by simp [results, Try.results29, go_sem, p0, p1]) rfl ⟨_, r, by rw [hmv.out]; rfl, by rw [hkey.out, hmv.out, ← List.length_map (f := appT (bdT l)), List.take_length]; rfl, ?_, ?_⟩
          · have hk3 := (HR.out.keep (fun g e => hoth g (by have := (row_lt HR.out.row g e).1; omega)) (fun g e => hoth g (by have := e.1; omega))).base (base' := w.heap.size) (by omega)
            exact hk3.wide fun g e => show Apart _ _ _ g from ⟨by have := e.1; omega, by have := e.2.1; simpa using this, e.2.2⟩
          · exact (hBw.setCell (by show _ ≤ w.heap.size + 1; omega) _).setCell (by show _ ≤ w.heap.size + 1; omega) _

end Go.Proofs.Ytglfjmbclimeeaa

/- The laws' same, of clauses. The document's own answer: name (a term with its variables renamed; arguments of variables stay). Numbers in the order in which variables are met, in plain words. Normal's substitution, in plain words. A row of literals that grows; a map's number told without 'ok'. The document's own answer: renamed (a clause with its variables renamed). The document's own answer: renamed, walked. -/

namespace Go.Proofs.Ytglfjmbclimeeaa

open Go.RowKit Go.Shelf
set_option maxRecDepth 100000

/-- Two clauses, literal by literal. -/
def sameC : List Lt → List Lt → Bool
  | [], [] => true
  | x :: xs, y :: ys => (x.neg == y.neg) && (decide (cmpT x.l y.l = 0) && (decide (cmpT x.r y.r = 0) && sameC xs ys))
  | _, _ => false

theorem sameC_len : ∀ {a b : List Lt}, sameC a b = true → a.length = b.length
  | [], [], _ => rfl
  | [], _ :: _, h => by simp [sameC] at h
  | _ :: _, [], h => by simp [sameC] at h
  | x :: xs, y :: ys, h => by
    simp only [sameC, Bool.and_eq_true] at h
    have := sameC_len h.2.2.2
    simp only [List.length_cons]; omega

theorem sameC_refl : ∀ a : List Lt, sameC a a = true
  | [] => rfl
  | x :: xs => by simp only [sameC, Bool.and_eq_true, decide_eq_true_eq]; exact ⟨by simp, cmp_refl _, cmp_refl _, sameC_refl xs⟩

structure SameCI (a b : List Lt) (k : Nat) : Prop where
  len : a.length = b.length
  rest : sameC (a.drop k) (b.drop k) = sameC a b

section

variable {a b : List Lt} {k : Nat} {x y : Lt}

theorem SameCI.cons (h : SameCI a b k) (hx : a[k]? = some x) (hy : b[k]? = some y) : sameC a b = ((x.neg == y.neg) && (decide (cmpT x.l y.l = 0) && (decide (cmpT x.r y.r = 0) && sameC (a.drop (k + 1)) (b.drop (k + 1))))) := by
  obtain ⟨h1, hx'⟩ := List.getElem?_eq_some_iff.1 hx
  obtain ⟨h2, hy'⟩ := List.getElem?_eq_some_iff.1 hy
  rw [← h.rest, List.drop_eq_getElem_cons h1, List.drop_eq_getElem_cons h2, hx', hy']
  rfl

theorem SameCI.start (h : a.length = b.length) : SameCI a b 0 := ⟨h, rfl⟩

theorem SameCI.done (h : SameCI a b k) (hk : a.length ≤ k) : sameC a b = true := by
  rw [← h.rest, List.drop_eq_nil_of_le hk, List.drop_eq_nil_of_le (by rw [← h.len]; exact hk)]; rfl

theorem SameCI.no (h : SameCI a b k) (hx : a[k]? = some x) (hy : b[k]? = some y) (hn : ¬ (x.neg = y.neg ∧ cmpT x.l y.l = 0 ∧ cmpT x.r y.r = 0)) : sameC a b = false := by
  rw [h.cons hx hy]
  by_cases h1 : x.neg = y.neg
  · by_cases h2 : cmpT x.l y.l = 0
    · by_cases h3 : cmpT x.r y.r = 0
      · exact absurd ⟨h1, h2, h3⟩ hn
      · simp [h3]
    · simp [h2]
  · simp [h1]

theorem SameCI.next (h : SameCI a b k) (hx : a[k]? = some x) (hy : b[k]? = some y) (h1 : x.neg = y.neg) (h2 : cmpT x.l y.l = 0) (h3 : cmpT x.r y.r = 0) : SameCI a b (k + 1) := ⟨h.len, by rw [h.cons hx hy, decide_eq_true h2, decide_eq_true h3, h1]; simp⟩

end

end Go.Proofs.Ytglfjmbclimeeaa

namespace Go.Proofs.Ytglfjmbclimeeaa

open Go.RowKit Go.Shelf
set_option maxRecDepth 100000

/-- A symbol's number, or that of what stands for a variable. -/
def nf (l : List Bd) (f : Int) : Int := if f < 0 then (match findB l (-1 - f) with | some x => x.t.fn | none => f) else f

mutual
def nameT (l : List Bd) : Tm → Tm
  | .node f xs => .node (nf l f) (nameL l xs)
def nameL (l : List Bd) : List Tm → List Tm
  | [] => []
  | t :: ts => nameT l t :: nameL l ts
end

theorem nameL_eq (l : List Bd) : ∀ xs, nameL l xs = xs.map (nameT l)
  | [] => by simp [nameL]
  | t :: ts => by simp [nameL, nameL_eq l ts]

theorem nameT_node (l : List Bd) (f : Int) (xs : List Tm) : nameT l (.node f xs) = .node (nf l f) (xs.map (nameT l)) := by rw [nameT, nameL_eq]

theorem nf_some {l : List Bd} {f : Int} {x : Bd} (h : f < 0) (hx : findB l (-1 - f) = some x) : nf l f = x.t.fn := by unfold nf; rw [if_pos h, hx]

theorem nf_none {l : List Bd} {f : Int} (hx : findB l (-1 - f) = none) : nf l f = f := by unfold nf; rw [hx]; simp

theorem nf_sym {l : List Bd} {f : Int} (h : ¬ f < 0) : nf l f = f := by unfold nf; rw [if_neg h]

theorem nameT_fn64 {l : List Bd} {w : World} {N : Nat → Prop} {A : Option Addr} (hB : Binds w N A l) {t : Tm} (hf : I64 t.fn) : I64 (nameT l t).fn := by
  obtain ⟨f, xs⟩ := t
  rw [nameT_node]
  show I64 (nf l f)
  by_cases h : f < 0
  · rcases hx : findB l (-1 - f) with _ | x
    · rw [nf_none hx]; exact hf
    · rw [nf_some h hx]; exact found_i64 hB hx
  · rw [nf_sym h]; exact hf

theorem nameT_args {l : List Bd} {t : Tm} (ht : t.args.length ≤ 9223372036854775807) : (nameT l t).args.length ≤ 9223372036854775807 := by
  obtain ⟨f, xs⟩ := t
  rw [nameT_node]
  simpa [Tm.args] using ht

end Go.Proofs.Ytglfjmbclimeeaa

namespace Go.Proofs.Ytglfjmbclimeeaa

open Go.RowKit Go.Shelf
set_option maxRecDepth 100000

theorem ordI_pre (l : List Int) (v : Int) : l <+: ordI l v := by
  unfold ordI
  split
  · exact List.prefix_refl _
  · exact List.prefix_append _ _

theorem ordI_mem (l : List Int) (v : Int) : v ∈ ordI l v := by
  unfold ordI
  split
  · assumption
  · simp

theorem ord_pre : ∀ (r l : List Int), l <+: r.foldl ordI l
  | [], _ => List.prefix_refl _
  | v :: r, l => (ordI_pre l v).trans (ord_pre r (ordI l v))

theorem idx_pre {l m : List Int} {v : Int} (h : l <+: m) (hv : v ∈ l) : m.idxOf v = l.idxOf v := by
  obtain ⟨r, rfl⟩ := h
  rw [List.idxOf_append, if_pos hv]

mutual
theorem renT_ord (s : List Int) : ∀ t : Tm, (renT nxI s t).1 = (vn t).foldl ordI s
  | .node f xs => by
    simp only [renT, vn]
    rw [renL_ord _ xs]
    unfold renF
    split
    · simp [nxI]
    · simp
theorem renL_ord (s : List Int) : ∀ xs : List Tm, (renL nxI s xs).1 = (vnL xs).foldl ordI s
  | [] => by simp [renL, vnL]
  | t :: ts => by
    simp only [renL, vnL]
    rw [renL_ord _ ts, renT_ord s t, List.foldl_append]
end

/-- Each variable by its place in L. -/
def nuF (L : List Int) (f : Int) : Int := if f < 0 then -1 - (L.idxOf (-1 - f) : Nat) else f

mutual
def nuT (L : List Int) : Tm → Tm
  | .node f xs => .node (nuF L f) (nuL L xs)
def nuL (L : List Int) : List Tm → List Tm
  | [] => []
  | t :: ts => nuT L t :: nuL L ts
end

theorem renF_pre (s : List Int) (f : Int) : s <+: (renF nxI s f).1 := by
  unfold renF
  split
  · exact ordI_pre _ _
  · exact List.prefix_refl _

theorem renF_nu {s L : List Int} {f : Int} (h : (renF nxI s f).1 <+: L) : (renF nxI s f).2 = nuF L f := by
  unfold renF at h ⊢
  unfold nuF
  split <;> rename_i hf
  · rw [if_pos hf] at h
    simp only [nxI] at h ⊢
    rw [idx_pre h (ordI_mem _ _)]
  · rfl

mutual
theorem renT_nu {s L : List Int} : ∀ t : Tm, (renT nxI s t).1 <+: L → (renT nxI s t).2 = nuT L t
  | .node f xs => fun h => by
    simp only [renT, nuT] at h ⊢
    have h1 : (renF nxI s f).1 <+: L := List.IsPrefix.trans (by rw [renL_ord]; exact ord_pre _ _) h
    rw [renF_nu h1, renL_nu xs h]
theorem renL_nu {s L : List Int} : ∀ xs : List Tm, (renL nxI s xs).1 <+: L → (renL nxI s xs).2 = nuL L xs
  | [] => fun _ => by simp [renL, nuL]
  | t :: ts => fun h => by
    simp only [renL, nuL] at h ⊢
    have h1 : (renT nxI s t).1 <+: L := List.IsPrefix.trans (by rw [renL_ord]; exact ord_pre _ _) h
    rw [renT_nu t h1, renL_nu ts h]
end

/-- Of a clause. -/
def vnC : List Lt → List Int
  | [] => []
  | x :: xs => vn x.l ++ (vn x.r ++ vnC xs)

def nuC (L : List Int) (c : List Lt) : List Lt := c.map fun x => ⟨x.neg, nuT L x.l, nuT L x.r⟩

theorem litsL_ord : ∀ (c : List Lt) (s : List Int), (litsL (renT nxI) s c).1 = (vnC c).foldl ordI s
  | [], s => by simp [litsL, vnC]
  | x :: xs, s => by
    simp only [litsL, sidesL, vnC]
    rw [litsL_ord xs, renT_ord, renT_ord, List.foldl_append, List.foldl_append]

theorem litsL_nu {L : List Int} : ∀ (c : List Lt) (s : List Int), (litsL (renT nxI) s c).1 <+: L → (litsL (renT nxI) s c).2 = nuC L c
  | [], s, _ => by simp [litsL, nuC]
  | x :: xs, s, h => by
    have ih := litsL_nu (L := L) xs _ h
    have h2 : (renT nxI (renT nxI s x.l).1 x.r).1 <+: L := List.IsPrefix.trans (by simp only [litsL, sidesL]; rw [litsL_ord]; exact ord_pre _ _) h
    have h1 : (renT nxI s x.l).1 <+: L := List.IsPrefix.trans (by rw [renT_ord (renT nxI s x.l).1]; exact ord_pre _ _) h2
    simp only [litsL, nuC, List.map_cons]
    rw [ih]
    simp only [sidesL, nuC]
    rw [renT_nu x.l h1, renT_nu x.r h2]

/-- Normal's clause, in plain words: each variable by its place among those of the clause. -/
theorem normal_plain (c : List Lt) : (litsL (renT nxI) [] c).1 = (vnC c).foldl ordI [] ∧ (litsL (renT nxI) [] c).2 = nuC ((vnC c).foldl ordI []) c :=
  ⟨litsL_ord c [], litsL_nu c [] (by rw [litsL_ord]; exact List.prefix_refl _)⟩

theorem ord_sub : ∀ (r l : List Int) (v : Int), v ∈ r → v ∈ r.foldl ordI l
  | [], _, v, h => by simp at h
  | u :: r, l, v, h => by
    rcases List.mem_cons.1 h with rfl | h
    · exact (ord_pre r (ordI l v)).subset (ordI_mem l v)
    · exact ord_sub r (ordI l u) v h

mutual
theorem nameT_nu {l : List Bd} {L : List Int} (hf : ∀ f, f < 0 → -1 - f ∈ L → nf l f = nuF L f) : ∀ t : Tm, (∀ v ∈ vn t, v ∈ L) → nameT l t = nuT L t
  | .node f xs => fun h => by
    simp only [nameT, nuT]
    simp only [vn] at h
    rw [nameL_nu hf xs fun v hv => h v (List.mem_append.2 (.inr hv))]
    by_cases hn : f < 0
    · rw [hf f hn (h _ (by simp [hn]))]
    · rw [nf_sym hn]
      unfold nuF
      rw [if_neg hn]
theorem nameL_nu {l : List Bd} {L : List Int} (hf : ∀ f, f < 0 → -1 - f ∈ L → nf l f = nuF L f) : ∀ xs : List Tm, (∀ v ∈ vnL xs, v ∈ L) → nameL l xs = nuL L xs
  | [] => fun _ => by simp [nameL, nuL]
  | t :: ts => fun h => by
    simp only [nameL, nuL]
    simp only [vnL] at h
    rw [nameT_nu hf t fun v hv => h v (List.mem_append.2 (.inl hv)), nameL_nu hf ts fun v hv => h v (List.mem_append.2 (.inr hv))]
end

/-- The document's own clause is the same. -/
def nmC (l : List Bd) (c : List Lt) : List Lt := c.map fun x => ⟨x.neg, nameT l x.l, nameT l x.r⟩

theorem vnC_mem {c : List Lt} {x : Lt} (h : x ∈ c) : (∀ v ∈ vn x.l, v ∈ vnC c) ∧ ∀ v ∈ vn x.r, v ∈ vnC c := by
  induction c with
  | nil => simp at h
  | cons y ys ih =>
    simp only [vnC, List.mem_append]
    rcases List.mem_cons.1 h with rfl | h
    · exact ⟨fun v hv => .inl hv, fun v hv => .inr (.inl hv)⟩
    · exact ⟨fun v hv => .inr (.inr ((ih h).1 v hv)), fun v hv => .inr (.inr ((ih h).2 v hv))⟩

theorem nmC_nu {l : List Bd} {c : List Lt} (hf : ∀ f, f < 0 → -1 - f ∈ (vnC c).foldl ordI [] → nf l f = nuF ((vnC c).foldl ordI []) f) : nmC l c = nuC ((vnC c).foldl ordI []) c := by
  unfold nmC nuC
  refine List.map_congr_left fun x hx => ?_
  obtain ⟨h1, h2⟩ := vnC_mem hx
  rw [nameT_nu hf x.l fun v hv => ord_sub _ _ _ (h1 v hv), nameT_nu hf x.r fun v hv => ord_sub _ _ _ (h2 v hv)]

end Go.Proofs.Ytglfjmbclimeeaa

namespace Go.Proofs.Ytglfjmbclimeeaa

open Go.RowKit Go.Shelf
set_option maxRecDepth 100000

/-- Is a variable's number another one than its place among those that were met? -/
def mvI (L : List Int) (v : Int) : Bool := !decide (((L.idxOf v : Nat) : Int) = v)

/-- What stands for a variable. -/
def biN (L : List Int) (v : Int) : Bi := ⟨v, .node (-1 - ((L.idxOf v : Nat) : Int)) [], none, 0⟩

def bdN (L : List Int) (v : Int) : Bd := ⟨v, .node (-1 - ((L.idxOf v : Nat) : Int)) []⟩

theorem biN_bd (L : List Int) (v : Int) : (biN L v).bd = bdN L v := rfl

theorem biN_bds (L S : List Int) : (S.map (biN L)).map Bi.bd = S.map (bdN L) := by rw [List.map_map]; rfl

/-- The variables that are renamed, in order. -/
def rnN (L : List Int) : List Int := (L.mergeSort fun x y => decide (x ≤ y)).filter (mvI L)

theorem srt_perm (L : List Int) : (L.mergeSort fun x y => decide (x ≤ y)).Perm L := List.mergeSort_perm L _

theorem srt_rise (L : List Int) : (L.mergeSort fun x y => decide (x ≤ y)).Pairwise (· ≤ ·) := by
  have tr : ∀ a b c : Int, decide (a ≤ b) = true → decide (b ≤ c) = true → decide (a ≤ c) = true := fun a b c h1 h2 => by simp only [decide_eq_true_eq] at *; omega
  have tot : ∀ a b : Int, (decide (a ≤ b) || decide (b ≤ a)) = true := fun a b => by simp only [Bool.or_eq_true, decide_eq_true_eq]; omega
  exact (List.pairwise_mergeSort tr tot L).imp fun h => by simpa using h

theorem rnN_perm (L : List Int) : (rnN L).Perm (L.filter (mvI L)) := (srt_perm L).filter _

theorem rnN_rise (L : List Int) : (rnN L).Pairwise (· ≤ ·) := (srt_rise L).filter _

theorem rnN_eq {L S : List Int} (hp : S.Perm (L.filter (mvI L))) (hs : S.Pairwise (· ≤ ·)) : S = rnN L :=
  List.Perm.eq_of_pairwise (le := fun x y : Int => x ≤ y) (fun _ _ _ _ h1 h2 => Int.le_antisymm h1 h2) hs (rnN_rise L) (hp.trans (rnN_perm L).symm)

theorem rnN_mem {L : List Int} {v : Int} : v ∈ rnN L ↔ v ∈ L ∧ mvI L v = true := by rw [(rnN_perm L).mem_iff, List.mem_filter]

theorem rnN_len (L : List Int) : (rnN L).length ≤ L.length := by
  rw [(rnN_perm L).length_eq]
  exact List.length_filter_le _ _

theorem find_bdN (L : List Int) (v : Int) : ∀ S : List Int, findB (S.map (bdN L)) v = if v ∈ S then some (bdN L v) else none
  | [] => rfl
  | u :: S => by
    have ih := find_bdN L v S
    unfold findB at ih ⊢
    rw [List.map_cons, List.find?_cons]
    by_cases h : u = v
    · subst h
      rw [show decide ((bdN L u).v = u) = true from decide_eq_true rfl]
      simp
    · rw [show decide ((bdN L u).v = v) = false from decide_eq_false h, ih]
      have : v ≠ u := fun e => h e.symm
      simp [this]

theorem nf_nuN {L : List Int} {f : Int} (h : f < 0) (hm : -1 - f ∈ L) : nf ((rnN L).map (bdN L)) f = nuF L f := by
  have hf := find_bdN L (-1 - f) (rnN L)
  unfold nuF
  rw [if_pos h]
  by_cases hv : mvI L (-1 - f) = true
  · rw [if_pos (rnN_mem.2 ⟨hm, hv⟩)] at hf
    rw [nf_some h hf]
    rfl
  · rw [if_neg fun e => hv (rnN_mem.1 e).2] at hf
    rw [nf_none hf]
    have : ((L.idxOf (-1 - f) : Nat) : Int) = -1 - f := by
      unfold mvI at hv
      simpa using hv
    omega

/-- The document's own clause is Normal's. -/
theorem nmC_rn (c : List Lt) : nmC ((rnN ((vnC c).foldl ordI [])).map (bdN ((vnC c).foldl ordI []))) c = nuC ((vnC c).foldl ordI []) c :=
  nmC_nu fun _ h hm => nf_nuN h hm

theorem ord_nodup : ∀ (r l : List Int), l.Nodup → (r.foldl ordI l).Nodup
  | [], l, h => h
  | v :: r, l, h => by
    refine ord_nodup r (ordI l v) ?_
    unfold ordI
    split
    · exact h
    · rename_i hv
      rw [List.nodup_append]
      exact ⟨h, by simp, fun a ha c hc e => hv (by simp at hc; rw [← hc, ← e]; exact ha)⟩

/-- A bind without arguments wants no memory. -/
theorem biN_fx (w : World) (L : List Int) (hL : L.length ≤ 4611686018427387904) {v : Int} (hv : I64 v) : BiFx w (fun _ => False) (biN L v) := by
  have h := List.idxOf_le_length (a := v) (l := L)
  refine ⟨hv, ⟨?_, ?_⟩, .nil _⟩
  · show -9223372036854775808 ≤ -1 - ((L.idxOf v : Nat) : Int); omega
  · show -1 - ((L.idxOf v : Nat) : Int) ≤ 9223372036854775807; omega

/-- How a bind sinks: where it is, what has been passed. -/
structure SinkI (S0 : List Int) (x : Int) (j : Nat) (l : List Int) : Prop where
  le : j ≤ S0.length
  eq : l = S0.take j ++ x :: S0.drop j
  lt : ∀ y ∈ S0.drop j, x < y

theorem SinkI.start (S0 : List Int) (x : Int) : SinkI S0 x S0.length (S0 ++ [x]) := ⟨Nat.le_refl _, by simp, by simp⟩

section

variable {S0 l : List Int} {x : Int} {j : Nat}

theorem SinkI.len (h : SinkI S0 x j l) : l.length = S0.length + 1 := by
  have := h.le
  rw [h.eq, List.length_append, List.length_cons, List.length_take, List.length_drop]; omega

theorem SinkI.at_ (h : SinkI S0 x j l) : l[j]? = some x := by
  have := h.le
  rw [h.eq, List.getElem?_append_right (by rw [List.length_take]; omega), List.length_take]
  simp [Nat.min_eq_left this]

theorem SinkI.prev (h : SinkI S0 x (j + 1) l) : l[j]? = S0[j]? := by
  have := h.le
  rw [h.eq, List.getElem?_append_left (by rw [List.length_take]; omega), List.getElem?_take, if_pos (by omega)]

theorem SinkI.next {y : Int} (h : SinkI S0 x (j + 1) l) (hy : S0[j]? = some y) (hlt : x < y) : SinkI S0 x j ((l.set (j + 1) y).set j x) := by
  have hle := h.le
  obtain ⟨h1, h2⟩ := List.getElem?_eq_some_iff.1 hy
  have hd : S0.drop j = y :: S0.drop (j + 1) := by rw [List.drop_eq_getElem_cons h1, h2]
  refine ⟨by omega, ?_, fun z hz => ?_⟩
  · rw [hd]
    have ht : S0.take (j + 1) = S0.take j ++ [y] := by rw [List.take_add_one, hy]; rfl
    have hl : (S0.take j).length = j := by rw [List.length_take]; omega
    rw [h.eq, ht, List.append_assoc]
    rw [List.set_append_right _ _ (by omega), hl, List.set_append_right _ _ (by omega), hl]
    simp
  · rw [hd] at hz
    rcases List.mem_cons.1 hz with rfl | hz
    · exact hlt
    · exact h.lt z hz

/-- It rests. -/
theorem SinkI.done (h : SinkI S0 x j l) (hs : S0.Pairwise (· ≤ ·)) (hend : ∀ y, j ≠ 0 → S0[j - 1]? = some y → y ≤ x) : l.Pairwise (· ≤ ·) ∧ l.Perm (S0 ++ [x]) := by
  constructor
  · rw [h.eq, List.pairwise_append]
    refine ⟨hs.sublist (List.take_sublist _ _), ?_, ?_⟩
    · rw [List.pairwise_cons]
      exact ⟨fun y hy => Int.le_of_lt (h.lt y hy), hs.sublist (List.drop_sublist _ _)⟩
    · intro a ha b hb
      rcases List.mem_cons.1 hb with rfl | hb
      · obtain ⟨i, hi⟩ := List.mem_iff_getElem?.1 ha
        obtain ⟨hi1, hi2⟩ := List.getElem?_eq_some_iff.1 hi
        rw [List.length_take] at hi1
        have hle := h.le
        have hj : j ≠ 0 := by omega
        have hj1 : j - 1 < S0.length := by omega
        have he := hend _ hj (List.getElem?_eq_getElem hj1)
        rw [List.getElem_take] at hi2
        rcases Nat.lt_or_ge i (j - 1) with hlt | hge
        · have := List.pairwise_iff_getElem.1 hs i (j - 1) (by omega) hj1 hlt
          rw [hi2] at this; omega
        · obtain rfl : i = j - 1 := by omega
          rw [hi2] at he; exact he
      · have hle := h.le
        rw [← List.take_append_drop j S0, List.pairwise_append] at hs
        exact hs.2.2 a ha b hb
  · rw [h.eq]
    refine List.perm_middle.trans ?_
    rw [List.take_append_drop]
    exact (List.perm_append_comm (l₁ := [x]) (l₂ := S0))

end

/-- What the loop over the variables has laid. -/
structure SrtI (L : List Int) (k : Nat) (S : List Int) : Prop where
  rise : S.Pairwise (· ≤ ·)
  perm : S.Perm ((L.take k).filter (mvI L))

theorem SrtI.start (L : List Int) : SrtI L 0 [] := ⟨.nil, by simp⟩

theorem SrtI.len {L S : List Int} {k : Nat} (h : SrtI L k S) : S.length ≤ k := by
  rw [h.perm.length_eq]
  exact Nat.le_trans (List.length_filter_le _ _) (by rw [List.length_take]; omega)

theorem SrtI.mem {L S : List Int} {k : Nat} (h : SrtI L k S) {v : Int} (hv : v ∈ S) : v ∈ L := List.take_subset _ _ (List.mem_filter.1 (h.perm.mem_iff.1 hv)).1

theorem mvI_at {L : List Int} (hn : L.Nodup) {k : Nat} {v : Int} (hv : L[k]? = some v) : mvI L v = !decide ((k : Int) = v) ∧ L.idxOf v = k := by
  obtain ⟨h1, h2⟩ := List.getElem?_eq_some_iff.1 hv
  have : L.idxOf v = k := by rw [← h2]; exact hn.idxOf_getElem k h1
  exact ⟨by unfold mvI; rw [this], this⟩

theorem SrtI.stay {L S : List Int} {k : Nat} {v : Int} (h : SrtI L k S) (hv : L[k]? = some v) (hm : mvI L v = false) : SrtI L (k + 1) S :=
  ⟨h.rise, by rw [List.take_add_one, hv, List.filter_append]; simpa [hm] using h.perm⟩

theorem SrtI.grow {L S l : List Int} {k j : Nat} {v : Int} (h : SrtI L k S) (hv : L[k]? = some v) (hm : mvI L v = true) (hs : SinkI S v j l) (hend : ∀ y, j ≠ 0 → S[j - 1]? = some y → y ≤ v) : SrtI L (k + 1) l := by
  obtain ⟨h1, h2⟩ := hs.done h.rise hend
  refine ⟨h1, h2.trans ?_⟩
  rw [List.take_add_one, hv, List.filter_append]
  simpa [hm] using h.perm.append_right [v]

theorem SrtI.fin {L S : List Int} (h : SrtI L L.length S) : S = rnN L := rnN_eq (by have := h.perm; rwa [List.take_length] at this) h.rise

end Go.Proofs.Ytglfjmbclimeeaa

namespace Go.Proofs.Ytglfjmbclimeeaa

open Go.RowKit Go.Shelf Go.Maps
set_option maxRecDepth 100000

theorem IMap.look1 {w : World} {b : Nat} {l : List Int} (h : IMap w b l) {x : Int} (hx : I64 x) :
    (Instr.lookup 82 (.map (some b)) (.int .i64 x) false).run Try.prog w = .ok (.int .i64 (if x ∈ l then (l.idxOf x : Int) else 0)) w := by
  obtain ⟨D, hown, _, hat⟩ := h
  obtain ⟨c, hrun, hc, _⟩ := hown.lookup_int intLaw Try.underlying82 Try.underlying3 (zeroIntV w) (keyOf_v hx)
  have e0 := hat x hx (.lit (.int .i64 0))
  rw [hc] at e0
  by_cases hm : x ∈ l
  · simp only [hm, if_true] at e0 ⊢
    injection e0 with e0; injection e0 with _ e0; subst e0
    exact hrun
  · simp only [hm, if_false] at e0 ⊢
    injection e0 with e0; injection e0 with _ e0; subst e0
    exact hrun

/-- A literal as a member of a row: where its terms' arguments lie. -/
structure Li where
  x : Lt
  A1 : Option Addr
  c1 : Nat
  A2 : Option Addr
  c2 : Nat

def Li.cells (y : Li) : List Value := [.bool y.x.neg, .int .i64 y.x.l.fn, .slice y.A1 y.x.l.args.length y.c1, .int .i64 y.x.r.fn, .slice y.A2 y.x.r.args.length y.c2]

theorem li_get (l : List Li) (i r : Nat) (hr : r < 5) : (l.flatMap Li.cells)[i * 5 + r]? = (l[i]?).bind fun x => x.cells[r]? := by
  induction l generalizing i with
  | nil => simp
  | cons x l ih =>
    have hlen : x.cells.length = 5 := rfl
    rw [List.flatMap_cons]
    cases i with
    | zero => rw [List.getElem?_append_left (by omega)]; simp
    | succ i =>
      rw [List.getElem?_append_right (by omega), hlen, show (i + 1) * 5 + r - 5 = i * 5 + r from by omega, ih]
      simp

theorem li_len (l : List Li) : (l.flatMap Li.cells).length = l.length * 5 := by
  induction l with
  | nil => rfl
  | cons x l ih =>
    have hlen : x.cells.length = 5 := rfl
    rw [List.flatMap_cons, List.length_append, ih, hlen, List.length_cons]
    omega

structure LiFx (w : World) (N : Nat → Prop) (y : Li) : Prop where
  il : I64 y.x.l.fn
  ir : I64 y.x.r.fn
  sl : ArgsN w N y.A1 y.x.l.args
  sr : ArgsN w N y.A2 y.x.r.args

theorem LiFx.keep {w w' : World} {N : Nat → Prop} {x : Li} (h : LiFx w N x) (hk : ∀ g, N g → w'.heap[g]? = w.heap[g]?) : LiFx w' N x := ⟨h.il, h.ir, h.sl.keep hk, h.sr.keep hk⟩

theorem LiFx.wide {w : World} {N M : Nat → Prop} {x : Li} (h : LiFx w N x) (hk : ∀ g, N g → M g) : LiFx w M x := ⟨h.il, h.ir, h.sl.wide hk, h.sr.wide hk⟩

/-- The slice v is the call's own; it holds the literals l, whose terms lie in N's blocks. -/
structure RowG (w : World) (base : Nat) (v : Value) (l : List Li) (N : Nat → Prop) : Prop where
  row : w.ownsRow base 35 5 v l.length (l.flatMap Li.cells)
  fx : ∀ x ∈ l, LiFx w N x

section

variable {w w' : World} {base : Nat} {v : Value} {l : List Li} {N M : Nat → Prop}

theorem RowG.nil_ (w : World) (base : Nat) (N : Nat → Prop) : RowG w base (.slice none 0 0) [] N := ⟨World.ownsRow_nil w _ _ _, fun x hx => by simp at hx⟩

theorem RowG.keep (h : RowG w base v l N) (hv : ∀ g, v.ownBlock = some g → w'.heap[g]? = w.heap[g]?) (hN : ∀ g, N g → w'.heap[g]? = w.heap[g]?) : RowG w' base v l N :=
  ⟨row_keep h.row hv, fun x hx => (h.fx x hx).keep hN⟩

theorem RowG.wide (h : RowG w base v l N) (hk : ∀ g, N g → M g) : RowG w base v l M := ⟨h.row, fun x hx => (h.fx x hx).wide hk⟩

/-- The row, read. -/
theorem RowG.lits (h : RowG w base v l N) (hl : l.length ≤ 9223372036854775807) (hv : ∀ g, v.ownBlock = some g → M g) (hN : ∀ g, N g → M g) : ∃ A c, v = .slice A l.length c ∧ Lits w M A (l.map Li.x) := by
  rcases h.row.2 with ⟨rfl, h0⟩ | ⟨g, cap, cur, rfl, hb, hg, _⟩
  · obtain rfl : l = [] := List.eq_nil_of_length_eq_zero h0
    exact ⟨none, 0, rfl, Lits.nil_ _ _ _⟩
  · refine ⟨_, _, rfl, by simpa using hl, fun _ => ⟨g, 0, rfl, hv g rfl, fun i y hy => ?_⟩⟩
    rw [List.getElem?_map] at hy
    cases hx : l[i]? with
    | none => rw [hx] at hy; cases hy
    | some x =>
      rw [hx] at hy
      injection hy with hy
      subst hy
      have hlt := (List.getElem?_eq_some_iff.1 hx).1
      have hm := h.fx x (List.mem_of_getElem? hx)
      have q0 := li_get l i 0 (by omega)
      have q1 := li_get l i 1 (by omega)
      have q2 := li_get l i 2 (by omega)
      have q3 := li_get l i 3 (by omega)
      have q4 := li_get l i 4 (by omega)
      have c0 := h.row.cellAt (i * 5) (by omega)
      have c1 := h.row.cellAt (i * 5 + 1) (by omega)
      have c2 := h.row.cellAt (i * 5 + 2) (by omega)
      have c3 := h.row.cellAt (i * 5 + 3) (by omega)
      have c4 := h.row.cellAt (i * 5 + 4) (by omega)
      rw [Nat.add_zero, hx] at q0
      rw [hx] at q1 q2 q3 q4
      rw [q0] at c0
      rw [q1] at c1
      rw [q2] at c2
      rw [q3] at c3
      rw [q4] at c4
      rw [Nat.zero_add]
      exact ⟨x.A1, x.c1, x.A2, x.c2, c0, c1, c2, c3, c4, hm.il, hm.ir, hm.sl.wide hN, hm.sr.wide hN⟩

/-- One more. -/
theorem RowG.push {x : Li} {v' : Value} (h : RowG w base v l N) (hrow : w'.ownsRow base 35 5 v' (l.length + 1) (l.flatMap Li.cells ++ x.cells)) (hx : LiFx w' M x) (hk : ∀ g, N g → w'.heap[g]? = w.heap[g]?) (hNM : ∀ g, N g → M g) : RowG w' base v' (l ++ [x]) M := by
  refine ⟨?_, ?_⟩
  · rw [List.length_append, List.flatMap_append]
    simpa using hrow
  · intro y hy
    rcases List.mem_append.1 hy with hy | hy
    · exact ((h.fx y hy).keep hk).wide hNM
    · simp only [List.mem_cons, List.not_mem_nil, or_false] at hy
      subst hy; exact hx

end

/-- The five cells of a block that was laid for one literal. -/
theorem cells_new_lit (w : World) (x y z u v : Value) (t : TypeId) : ∀ j c, [x, y, z, u, v][j]? = some c → (w.alloc (.cells #[x, y, z, u, v] t)).cell? ((⟨w.heap.size, 0, none⟩ : Addr).add j) = some c := by
  intro j c hj
  match j, hj with
  | 0, hj => simp at hj; subst hj; simp [Addr.add]
  | 1, hj => simp at hj; subst hj; simp [Addr.add]
  | 2, hj => simp at hj; subst hj; simp [Addr.add]
  | 3, hj => simp at hj; subst hj; simp [Addr.add]
  | 4, hj => simp at hj; subst hj; simp [Addr.add]
  | j + 5, hj => simp at hj

end Go.Proofs.Ytglfjmbclimeeaa

namespace Go.Proofs.Ytglfjmbclimeeaa

open Go.RowKit Go.Shelf
set_option maxRecDepth 100000

/-- What the loop has laid. -/
structure RnI (base : Nat) (wr : World) (ls : List Lt) (k : Nat) (v : Value) (r : List Li) : Prop where
  key : r.map Li.x = ls.take k
  row : RowG wr base v r (Apart base v wr)

theorem RnI.len {base : Nat} {wr : World} {ls : List Lt} {k : Nat} {v : Value} {r : List Li} (h : RnI base wr ls k v r) (hk : k ≤ ls.length) : r.length = k := by
  have := congrArg List.length h.key
  simpa [Nat.min_eq_left hk] using this

theorem RnI.next {base : Nat} {wr w4 w5 w6 : World} {ls : List Lt} {k : Nat} {v v6 : Value} {r : List Li} {y : Lt} {A1 A2 : Option Addr} {c1 c2 : Nat} {o : Obj} (h : RnI base wr ls k v r) (hbase : base ≤ wr.heap.size) (hu : ls[k]? = some y) (hil : I64 y.l.fn) (hir : I64 y.r.fn)
    (hA1 : ArgsN w4 (fun g => wr.heap.size ≤ g ∧ g < w4.heap.size) A1 y.l.args) (hb4 : Below wr.heap.size wr w4) (hA2 : ArgsN w5 (fun g => w4.heap.size ≤ g ∧ g < w5.heap.size) A2 y.r.args) (hb5 : Below w4.heap.size w4 w5)
    (hown : w6.ownsRow base 35 5 v6 (k + 1) (r.flatMap Li.cells ++ (⟨y, A1, c1, A2, c2⟩ : Li).cells)) (hgr : (w5.alloc o).grownBy w6 v.ownBlock) (hat : v6.ownBlock = v.ownBlock ∨ v6.ownBlock = some (w5.alloc o).heap.size) :
    RnI base w6 ls (k + 1) v6 (r ++ [⟨y, A1, c1, A2, c2⟩]) := by
  have hkl := (List.getElem?_eq_some_iff.1 hu).1
  have hlen := h.len (by omega)
  have hlt := row_lt h.row.row
  have hs4 := hb4.size
  have hs5 := hb5.size
  have hs6 := hgr.size
  have hsz6 : w5.heap.size + 1 ≤ w6.heap.size := by simpa using hs6
  have hK : ∀ g, g < w5.heap.size → v.ownBlock ≠ some g → w6.heap[g]? = w5.heap[g]? := fun g h1 h2 => (hgr.block g (by simp; omega) (fun e => h2 e.symm)).trans (Below.heap_alloc w5 o g h1)
  have hfar : ∀ g, wr.heap.size ≤ g → v.ownBlock ≠ some g := fun g h1 e => by have := (hlt _ e).2; omega
  have hv6 : ∀ g, g < w5.heap.size → v.ownBlock ≠ some g → v6.ownBlock ≠ some g := fun g h1 h2 e => by
    rcases hat with h3 | h3
    · rw [h3] at e; exact h2 e
    · rw [h3] at e; injection e with e; simp at e; omega
  refine ⟨by rw [List.map_append, h.key, List.take_add_one, hu]; rfl, ?_⟩
  refine RowG.push (w := wr) (N := Apart base v wr) h.row (by rw [hlen]; exact hown) ⟨hil, hir, ?_, ?_⟩ (fun g hg => ?_) (fun g hg => ⟨hg.1, by have := hg.2.1; omega, hv6 g (by have := hg.2.1; omega) hg.2.2⟩)
  · exact (hA1.keep fun g hg => (hK g (by omega) (hfar g hg.1)).trans (hb5.block g hg.2)).wide fun g hg => ⟨by omega, by omega, hv6 g (by omega) (hfar g hg.1)⟩
  · exact (hA2.keep fun g hg => hK g hg.2 (hfar g (by omega))).wide fun g hg => ⟨by omega, by omega, hv6 g hg.2 (hfar g (by omega))⟩
  · exact (hK g (by have := hg.2.1; omega) hg.2.2).trans ((hb5.block g (by have := hg.2.1; omega)).trans (hb4.block g hg.2.1))

end Go.Proofs.Ytglfjmbclimeeaa

namespace Go.Proofs.Ytglfjmbclimeeaa

open Go.RowKit Go.Shelf
set_option maxRecDepth 100000

end Go.Proofs.Ytglfjmbclimeeaa

/- maps.Keys, slices.Sorted, slices.Sort at ints: what they reach, at this program, as the kit's tools print it. -/
namespace Go.Proofs
open Go.Shelf
def Try.keysA_ren : Go.Shelf.Ren := ⟨fun | 7 => 84 | 10 => 92 | n => n, fun | 23 => 82 | 26 => 3 | 3 => 3 | 28 => 70 | 0 => 0 | 27 => 69 | 33 => 97 | 4 => 4 | n => n, fun | n => n⟩
theorem Try.keysA : Go.Proofs.SlLaysZI.n7 Try.prog Try.keysA_ren := {
  mixed := by kernel_rfl
  f7 := ⟨Try.f84.name, by decide, Try.func84.trans (congrArg some (by kernel_rfl))⟩
  f10 := ⟨Try.f92.name, by decide, Try.func92.trans (congrArg some (by kernel_rfl))⟩
  t0 := Try.underlying0
  a0 := Try.isAgg0
  z0 := Try.sizeOf0
  v0 := Try.zeroValue0
  t4 := Try.underlying4
  a4 := Try.isAgg4
  z4 := Try.sizeOf4
  v4 := Try.zeroValue4
  t23 := Try.underlying82
  a23 := Try.isAgg82
  z23 := Try.sizeOf82
  v23 := Try.zeroValue82
  t26 := Try.underlying3
  a26 := Try.isAgg3
  z26 := Try.sizeOf3
  v26 := Try.zeroValue3
  t27 := Try.underlying69
  a27 := Try.isAgg69
  z27 := Try.sizeOf69
  v27 := Try.zeroValue69
  t28 := Try.underlying70
  a28 := Try.isAgg70
  z28 := Try.sizeOf70
  v28 := Try.zeroValue70
  t33 := Try.underlying97
  a33 := Try.isAgg97
  z33 := Try.sizeOf97
  v33 := Try.zeroValue97 }
def Try.sortedA_ren : Go.Shelf.Ren := ⟨fun | 6 => 40 | 8 => 65 | 9 => 66 | 11 => 86 | 13 => 88 | 12 => 87 | 23 => 103 | 24 => 104 | 14 => 94 | 15 => 95 | 16 => 96 | 17 => 97 | 18 => 98 | 19 => 99 | 20 => 100 | 21 => 101 | 22 => 102 | 25 => 110 | 26 => 111 | 27 => 112 | 28 => 113 | 29 => 114 | 30 => 91 | 31 => 117 | n => n, fun | 26 => 3 | 28 => 70 | 24 => 53 | 0 => 0 | 3 => 3 | 37 => 115 | 48 => 125 | 50 => 127 | 4 => 4 | 40 => 119 | 39 => 118 | 45 => 83 | 5 => 5 | 9 => 9 | 51 => 133 | 55 => 137 | 57 => 139 | 58 => 140 | 33 => 97 | n => n, fun | n => n⟩
theorem Try.sortedA : Go.Proofs.SlLaysZI.n6 Try.prog Try.sortedA_ren := {
  mixed := by kernel_rfl
  f6 := ⟨Try.f40.name, by decide, Try.func40.trans (congrArg some (by kernel_rfl))⟩
  f8 := ⟨Try.f65.name, by decide, Try.func65.trans (congrArg some (by kernel_rfl))⟩
  f11 := ⟨Try.f86.name, by decide, Try.func86.trans (congrArg some (by kernel_rfl))⟩
  t0 := Try.underlying0
  a0 := Try.isAgg0
  z0 := Try.sizeOf0
  v0 := Try.zeroValue0
  t24 := Try.underlying53
  a24 := Try.isAgg53
  z24 := Try.sizeOf53
  v24 := Try.zeroValue53
  t26 := Try.underlying3
  a26 := Try.isAgg3
  z26 := Try.sizeOf3
  v26 := Try.zeroValue3
  t28 := Try.underlying70
  a28 := Try.isAgg70
  z28 := Try.sizeOf70
  v28 := Try.zeroValue70
  i26 := by kernel_rfl }
def Try.sortA_ren : Go.Shelf.Ren := ⟨fun | 5 => 66 | 8 => 88 | 7 => 87 | 19 => 103 | 20 => 104 | 10 => 94 | 11 => 95 | 12 => 96 | 13 => 97 | 14 => 98 | 15 => 99 | 16 => 100 | 17 => 101 | 18 => 102 | 30 => 110 | 31 => 111 | 32 => 112 | 33 => 113 | 34 => 114 | 35 => 91 | 40 => 117 | n => n, fun | 23 => 53 | 25 => 3 | 3 => 3 | 32 => 115 | 22 => 53 | 0 => 0 | 44 => 125 | 46 => 127 | 4 => 4 | 36 => 119 | 35 => 118 | 41 => 83 | 5 => 5 | 9 => 9 | 53 => 133 | 57 => 137 | 63 => 139 | 64 => 140 | n => n, fun | n => n⟩
theorem Try.sortA : Go.Proofs.SlLaysM.n5 Try.prog Try.sortA_ren := {
  mixed := by kernel_rfl
  f5 := ⟨Try.f66.name, by decide, Try.func66.trans (congrArg some (by kernel_rfl))⟩
  f7 := ⟨Try.f87.name, by decide, Try.func87.trans (congrArg some (by kernel_rfl))⟩
  f8 := Try.func88.trans (congrArg some (by kernel_rfl))
  f10 := ⟨Try.f94.name, by decide, Try.func94.trans (congrArg some (by kernel_rfl))⟩
  f11 := ⟨Try.f95.name, by decide, Try.func95.trans (congrArg some (by kernel_rfl))⟩
  f12 := ⟨Try.f96.name, by decide, Try.func96.trans (congrArg some (by kernel_rfl))⟩
  f13 := ⟨Try.f97.name, by decide, Try.func97.trans (congrArg some (by kernel_rfl))⟩
  f14 := ⟨Try.f98.name, by decide, Try.func98.trans (congrArg some (by kernel_rfl))⟩
  f15 := ⟨Try.f99.name, by decide, Try.func99.trans (congrArg some (by kernel_rfl))⟩
  f16 := ⟨Try.f100.name, by decide, Try.func100.trans (congrArg some (by kernel_rfl))⟩
  f17 := ⟨Try.f101.name, by decide, Try.func101.trans (congrArg some (by kernel_rfl))⟩
  f18 := ⟨Try.f102.name, by decide, Try.func102.trans (congrArg some (by kernel_rfl))⟩
  f19 := Try.func103.trans (congrArg some (by kernel_rfl))
  f20 := Try.func104.trans (congrArg some (by kernel_rfl))
  f30 := ⟨Try.f110.name, by decide, Try.func110.trans (congrArg some (by kernel_rfl))⟩
  f31 := Try.func111.trans (congrArg some (by kernel_rfl))
  f32 := Try.func112.trans (congrArg some (by kernel_rfl))
  f33 := ⟨Try.f113.name, by decide, Try.func113.trans (congrArg some (by kernel_rfl))⟩
  f34 := ⟨Try.f114.name, by decide, Try.func114.trans (congrArg some (by kernel_rfl))⟩
  f35 := ⟨Try.f91.name, by decide, Try.func91.trans (congrArg some (by kernel_rfl))⟩
  f40 := ⟨Try.f117.name, by decide, Try.func117.trans (congrArg some (by kernel_rfl))⟩
  t0 := Try.underlying0
  a0 := Try.isAgg0
  z0 := Try.sizeOf0
  v0 := Try.zeroValue0
  t3 := Try.underlying3
  a3 := Try.isAgg3
  z3 := Try.sizeOf3
  v3 := Try.zeroValue3
  t4 := Try.underlying4
  a4 := Try.isAgg4
  z4 := Try.sizeOf4
  v4 := Try.zeroValue4
  t5 := Try.underlying5
  a5 := Try.isAgg5
  z5 := Try.sizeOf5
  v5 := Try.zeroValue5
  t9 := Try.underlying9
  a9 := Try.isAgg9
  z9 := Try.sizeOf9
  v9 := Try.zeroValue9
  t22 := Try.underlying53
  a22 := Try.isAgg53
  z22 := Try.sizeOf53
  v22 := Try.zeroValue53
  t23 := Try.underlying53
  a23 := Try.isAgg53
  z23 := Try.sizeOf53
  v23 := Try.zeroValue53
  t25 := Try.underlying3
  a25 := Try.isAgg3
  z25 := Try.sizeOf3
  v25 := Try.zeroValue3
  t32 := Try.underlying115
  a32 := Try.isAgg115
  z32 := Try.sizeOf115
  v32 := Try.zeroValue115
  t35 := Try.underlying118
  a35 := Try.isAgg118
  z35 := Try.sizeOf118
  v35 := Try.zeroValue118
  t36 := Try.underlying119
  a36 := Try.isAgg119
  z36 := Try.sizeOf119
  v36 := Try.zeroValue119
  t41 := Try.underlying83
  a41 := Try.isAgg83
  z41 := Try.sizeOf83
  v41 := Try.zeroValue83
  t44 := Try.underlying125
  a44 := Try.isAgg125
  z44 := Try.sizeOf125
  v44 := Try.zeroValue125
  t46 := Try.underlying127
  a46 := Try.isAgg127
  z46 := Try.sizeOf127
  v46 := Try.zeroValue127
  t53 := Try.underlying133
  a53 := Try.isAgg133
  z53 := Try.sizeOf133
  v53 := Try.zeroValue133
  t57 := Try.underlying137
  a57 := Try.isAgg137
  z57 := Try.sizeOf137
  v57 := Try.zeroValue137
  t63 := Try.underlying139
  a63 := Try.isAgg139
  z63 := Try.sizeOf139
  v63 := Try.zeroValue139
  t64 := Try.underlying140
  a64 := Try.isAgg140
  z64 := Try.sizeOf140
  v64 := Try.zeroValue140 }
end Go.Proofs

/- The keys of a map of the call's own, sorted. renaming: the substitution that Normal tells. Normal, walked. -/

namespace Go.Proofs.Ytglfjmbclimeeaa

open Go.RowKit Go.Shelf Go.Maps Go.Sort
set_option maxRecDepth 100000

theorem sortsA (m : Nat) : AnyZI.SortsIn Try.prog Try.sortedA_ren Fence.wide m :=
  ⟨fun blk off cap ss W hH hblk hsz => callsIn_wide.2 (AnyM.slices_Sort_int Try.sortA blk off cap ss W hH hblk hsz),
   fun p cap W => callsIn_wide.2 (AnyM.slices_Sort_int_none Try.sortA p cap W)⟩

theorem IMap.keys_perm {w : World} {b : Nat} {l : List Int} (h : IMap w b l) (nd : l.Nodup) (h64 : ∀ x ∈ l, I64 x) :
    ∃ D : DataW Unit, w.ownsMap Try.prog 3 (plainElem Try.prog 3) b l.length D ∧ Maps.size D = l.length ∧ l.Perm (intKeys D) := by
  obtain ⟨D, hown, hsz, hat⟩ := h
  refine ⟨D, hown, hsz, ?_⟩
  obtain ⟨es, hD, hpw, _⟩ := hown.entries intLaw
  obtain ⟨es', hD', hko⟩ := hown.keysOf
  obtain rfl : es = es' := by rw [hD] at hD'; simpa using hD'
  subst hD
  have hk : ∀ p ∈ es, ∃ x, p.1 = .int .i64 x ∧ (Lit.int .i64 x).wf = true := fun p hp => by
    obtain ⟨v, hv⟩ := hko p hp
    obtain ⟨x, _, hx, hw⟩ := Maps.keyOf_i64 Try.underlying3 hv
    exact ⟨x, hx, hw⟩
  refine perm_intKeys hpw (fun p hp => by obtain ⟨x, hx, _⟩ := hk p hp; exact ⟨x, hx⟩) nd fun x => ?_
  constructor
  · intro hx
    exact has_true_of_atKey fun z => by rw [hat x (h64 x hx) z, if_pos hx]
  · intro hh
    rw [has_eq, List.any_eq_true] at hh
    obtain ⟨p, hp, hs⟩ := hh
    obtain ⟨y, hy, hw⟩ := hk p hp
    rw [hy] at hs
    obtain rfl : y = x := by simpa [Lit.sameKey] using hs
    have hy64 : I64 y := by
      simp [Lit.wf, IntKind.min, IntKind.max, IntKind.signed, IntKind.bits] at hw
      exact hw
    rcases Classical.em (y ∈ l) with hm | hm
    · exact hm
    · have hno : has (.map es) (.int .i64 y) = false := has_false_of_atKey fun z => by rw [hat y hy64 z, if_neg hm]
      rw [has_eq, List.any_eq_false] at hno
      exact absurd (by rw [hy]; simp [Lit.sameKey]) (hno p hp)

theorem keys_any (b : Nat) (W : World) : Calls Try.prog 84 #[.map (some b)] W fun e w' => e = .returned (.func (.func 92) #[] #[.pointer (some ⟨W.heap.size, 0, none⟩)]) ∧ w' = W.alloc (.cells #[.map (some b)] 82) :=
  (callsIn_wide (n := 5)).1 (AnyZI.keys_in Try.keysA Fence.wide 5 trivial rfl (some b) W)

theorem sorted_any (b bx : Nat) (l : List Int) (w : World) (h : IMap w b l) (nd : l.Nodup) (h64 : ∀ x ∈ l, I64 x) (hl : l.length ≤ 1099511627776) (hbx : w.heap[bx]? = some (.cells #[.map (some b)] 82)) :
    Calls Try.prog 40 #[.func (.func 92) #[] #[.pointer (some ⟨bx, 0, none⟩)]] w fun e w' => ∃ v, e = .returned v ∧ IntsR w' w.heap.size v (l.mergeSort fun x y => decide (x ≤ y)) ∧ Below w.heap.size w w' := by
  refine (callsIn_wide (n := 5)).1 ?_
  obtain ⟨D, hown, hsz, hp⟩ := h.keys_perm nd h64
  have hseq : SeqGives Fence.wide 2 Try.prog 92 #[.pointer (some ⟨bx, 0, none⟩)] encZ (fun ss => ss.Perm (intKeys D)) (Maps.size D) w :=
    AnyZI.keys_gives (ρ := Try.keysA_ren) { Try.keysA with } Fence.wide _ trivial rfl (by omega) bx b _ D _ (Array.getElem?_eq_some_iff.1 hbx).1 (by simp [World.cell?, hbx]) hown
  have cS := AnyZI.sorted_in Try.sortedA Fence.wide 5 trivial trivial trivial trivial rfl (by omega) (sortsA _) (enters_of Try.func66 (by kernel_rfl) rfl) 92 #[.pointer (some ⟨bx, 0, none⟩)] trivial (enters_of Try.func92 (by kernel_rfl) rfl) _ _ (by rw [hsz]; unfold maxLen; omega) (by rw [hsz]; omega) _ hseq
  refine cS.mono ?_
  rintro e w' ⟨v, ss, rfl, hS, hrow, _, hb⟩
  have hpl : ss.Perm l := hS.trans hp.symm
  have hm := mergeSort_of_perm_i hpl
  have hlen : (l.mergeSort fun x y => decide (x ≤ y)).length = ss.length := by rw [(List.mergeSort_perm l _).length_eq, hpl.length_eq]
  refine ⟨v, rfl, ⟨?_, fun x hx => h64 x ((List.mergeSort_perm l _).mem_iff.1 hx)⟩, hb⟩
  rw [hlen]
  have hm' : (ss.mergeSort fun x y => decide (x ≤ y)) = l.mergeSort fun x y => decide (x ≤ y) := hm
  rw [hm'] at hrow
  exact hrow

end Go.Proofs.Ytglfjmbclimeeaa

namespace Go.Proofs.Ytglfjmbclimeeaa

open Go.RowKit Go.Shelf
set_option maxRecDepth 100000

/-- A row of such binds. -/
def RowN (w : World) (base : Nat) (v : Value) (L S : List Int) : Prop := RowB w base v (S.map (biN L)) (fun _ => False)

theorem RowN.nil_ (w : World) (base : Nat) (L : List Int) : RowN w base (.slice none 0 0) L [] := RowB.nil_ _ _ _

theorem RowN.row {w : World} {base : Nat} {v : Value} {L S : List Int} (h : RowN w base v L S) : w.ownsRow base 51 3 v S.length ((S.map (biN L)).flatMap Bi.cells) := by
  have := RowB.row h
  rwa [List.length_map] at this

theorem RowN.keep {w w' : World} {base : Nat} {v : Value} {L S : List Int} (h : RowN w base v L S) (hv : ∀ g, v.ownBlock = some g → w'.heap[g]? = w.heap[g]?) : RowN w' base v L S := RowB.keep h hv fun _ e => e.elim

theorem RowN.on {w w' : World} {base : Nat} {v : Value} {L S : List Int} (h : RowN w base v L S) (hb : Below w.heap.size w w') : RowN w' base v L S := h.keep fun g e => hb.block g (row_lt h.row g e).2

theorem RowN.push {wr w5 : World} {base : Nat} {v v5 : Value} {L S : List Int} {x : Int} (h : RowN wr base v L S) (hL : L.length ≤ 4611686018427387904) (hx : I64 x) (hown : w5.ownsRow base 51 3 v5 (S.length + 1) ((S.map (biN L)).flatMap Bi.cells ++ [.int .i64 x, .int .i64 (-1 - ((L.idxOf x : Nat) : Int)), .slice none 0 0])) : RowN w5 base v5 L (S ++ [x]) := by
  unfold RowN
  rw [List.map_append]
  exact RowB.push (w := wr) (N := fun _ => False) h (by rw [List.length_map]; exact hown) (biN_fx w5 L hL hx) (fun g e => e.elim) (fun g e => e)

theorem RowN.binds {w : World} {base : Nat} {v : Value} {L S : List Int} (h : RowN w base v L S) (hl : S.length ≤ 9223372036854775807) : ∃ A c, v = .slice A S.length c ∧ Binds w (· < w.heap.size) A (S.map (bdN L)) := by
  obtain ⟨A, c, hv, hB⟩ := RowB.binds (M := (· < w.heap.size)) h (by rw [List.length_map]; exact hl) (fun g e => (row_lt h.row g e).2) (fun g e => e.elim)
  rw [List.length_map] at hv
  rw [biN_bds] at hB
  exact ⟨A, c, hv, hB⟩

theorem RowN.base_ {w : World} {base base' : Nat} {v : Value} {L S : List Int} (h : RowN w base v L S) (hb : base' ≤ base) : RowN w base' v L S := by
  refine ⟨⟨(RowB.row h).1, ?_⟩, RowB.fx h⟩
  rcases (RowB.row h).2 with h0 | ⟨g, cap, cur, hv, h1, hrest⟩
  · exact .inl h0
  · exact .inr ⟨g, cap, cur, hv, Nat.le_trans hb h1, hrest⟩

set_option maxHeartbeats 2000000 in
theorem renaming_any (b : Nat) (l : List Int) (w : World) (h : IMap w b l) (nd : l.Nodup) (h64 : ∀ x ∈ l, I64 x) (hl : l.length ≤ 1099511627776) :
    Calls Try.prog 57 #[.map (some b)] w fun e w' => ∃ v, e = .returned v ∧ RowN w' w.heap.size v l (rnN l) ∧ Below w.heap.size w w' := by
  obtain ⟨i0, hi, hz0, hz1, hz2⟩ := info_parts info_bind
  have hbl := h.lt
  have q0 := heap_alloc_new w (.cells #[.map (some b)] 82)
  obtain ⟨W, hW⟩ : ∃ W, w.alloc (.cells #[.map (some b)] 82) = W := ⟨_, rfl⟩
  have hB : Below w.heap.size w W := by rw [← hW]; exact (Below.refl _ _).alloc (Nat.le_refl _) _
  rw [hW] at q0
  have hS := sorted_any b w.heap.size l W (h.kept (hB.block b hbl)) nd h64 hl q0
  have hkl : (l.mergeSort fun x y => decide (x ≤ y)).length = l.length := (List.mergeSort_perm l _).length_eq
  have hkm : ∀ x ∈ (l.mergeSort fun x y => decide (x ≤ y)), x ∈ l := fun x hx => (List.mergeSort_perm l _).mem_iff.1 hx
  have hrn : rnN l = (l.mergeSort fun x y => decide (x ≤ y)).filter (mvI l) := rfl
  obtain ⟨ks, hks⟩ : ∃ ks, (l.mergeSort fun x y => decide (x ≤ y)) = ks := ⟨_, rfl⟩
  rw [hks] at hS hkl hkm hrn
  have HS := Lib.hid hS
  have HW := Lib.hid hW
  have H := Lib.hid h
  have H64 := Lib.hid h64
  have Hkm := Lib.hid hkm
  have Hrn := Lib.hid hrn
  have Hkl := Lib.hid hkl
  have hkn : ks.length ≤ 1099511627776 := by omega
  clear hW hS h h64 hkm hrn hks nd q0 hkl
  go_enter Try.func57, Try.ntmps57
  go_wp2_with (first
    | (go_at_call 84; refine (keys_any b w).mono ?_; go_must (rintro e w1 ⟨rfl, hw1⟩; rw [HW.out] at hw1; subst hw1))
    | (go_at_call 40; (with_reducible refine HS.out.mono ?_); go_must (rintro e w2 ⟨v, rfl, hI2, hb2⟩; obtain ⟨Av, cv, hv⟩ := row_slice hI2.row; subst hv; have HI2 := Lib.hid hI2; clear hI2))
    | fail)
  have hBw2 : Below w.heap.size w w2 := hB.trans (hb2.mono hB.size)
  have HR0 : Hid (RowN w2 w2.heap.size (.slice none 0 0) l ((ks.take 0).filter (mvI l))) := Lib.hid (by simpa using RowN.nil_ w2 w2.heap.size l)
  clear hb2
  go_loopw [3, 11] (fun s i wr => ∃ k : Nat, k ≤ ks.length ∧ i = .int .i64 (k : Int) ∧ Below w2.heap.size w2 wr ∧ Hid (RowN wr w2.heap.size s l ((ks.take k).filter (mvI l)))) (fun _ i _ => ks.length - (intOf i).toNat)
  case atStart => exact ⟨0, Nat.zero_le _, rfl, Below.refl _ _, HR0⟩
  case round =>
    obtain ⟨k, hk, rfl, hBr, HR⟩ := hrel
    have hBw : Below w.heap.size w wr := hBw2.trans (hBr.mono hBw2.size)
    by_cases hlt : k < ks.length
    · obtain ⟨x, hx⟩ : ∃ x, ks[k]? = some x := ⟨_, List.getElem?_eq_getElem hlt⟩
      obtain ⟨g, c', hv, hg, hc⟩ := HI2.out.get hx
      injection hv with hv1 _ hv3
      subst hv1
      have e0 := cell_on hBr hg hc
      have hxl := Hkm.out x (List.mem_of_getElem? hx)
      have hx64 := H64.out x hxl
      have hlk := (H.out.kept (hBw.block b hbl)).look1 hx64
      rw [if_pos hxl] at hlk
      have hid := List.idxOf_lt_length_of_mem hxl
      have hpush : ∀ (w5 : World) (v5 : Value), w5.ownsRow w2.heap.size 51 3 v5 (((ks.take k).filter (mvI l)).length + 1) ((((ks.take k).filter (mvI l)).map (biN l)).flatMap Bi.cells ++ [.int .i64 x, .int .i64 (-1 - ((l.idxOf x : Nat) : Int)), .slice none 0 0]) → RowN w5 w2.heap.size v5 l (((ks.take k).filter (mvI l)) ++ [x]) := fun _ _ ho => HR.out.push (by have := Hkl.out; omega) hx64 ho
      have hmv : mvI l x = !decide (((l.idxOf x : Nat) : Int) = x) := rfl
      have hfl : (ks.take (k + 1)).filter (mvI l) = (ks.take k).filter (mvI l) ++ (if mvI l x = true then [x] else []) := by
        rw [List.take_add_one, hx, List.filter_append]
        simp only [Option.toList, List.filter_cons, List.filter_nil]
      have hrow := HR.out.row
      have hfn : ((ks.take k).filter (mvI l)).length ≤ 1099511627776 := Nat.le_trans (List.length_filter_le _ _) (by rw [List.length_take]; omega)
      obtain ⟨d, hd⟩ : ∃ d, l.idxOf x = d := ⟨_, rfl⟩
      rw [hd] at hlk hid hmv hpush
      obtain ⟨R, hR⟩ : ∃ R, (ks.take k).filter (mvI l) = R := ⟨_, rfl⟩
      rw [hR] at hfl hrow hpush HR hfn
      have hdl : d ≤ 1099511627776 := by have := Hkl.out; omega
      have Hfl := Lib.hid hfl
      have Hpush := Lib.hid hpush
      have Hmv := Lib.hid hmv
      obtain ⟨Rc, hRc⟩ : ∃ Rc, (R.map (biN l)).flatMap Bi.cells = Rc := ⟨_, rfl⟩
      rw [hRc] at hrow Hpush
      have hrl := row_lt hrow
      have hx1 := hx64.1
      have hx2 := hx64.2
      clear hx hc hxl hmv hfl hd hR hpush hRc
      by_cases hne : ((d : Nat) : Int) = x
      · have hnf : (((d : Nat) : Int) != x) = false := by simp [hne]
        have hst : Hid ((ks.take (k + 1)).filter (mvI l) = R) := Lib.hid (by rw [Hfl.out, Hmv.out, if_neg (by simp [hne])]; simp)
        clear hne
        go_wp2
        go_roundw
        case rel => exact ⟨k + 1, by omega, by go_num, hBr, by rw [hst.out]; exact HR⟩
        case measure => simp [intOf]; omega
      · have hnt : (((d : Nat) : Int) != x) = true := by simp [hne]
        have hst : Hid ((ks.take (k + 1)).filter (mvI l) = R ++ [x]) := Lib.hid (by rw [Hfl.out, Hmv.out, if_pos (by simp [hne])])
        clear hne
        obtain ⟨Ar, cr, hs⟩ := row_own hrow
        subst hs
        have Hrow := Lib.hid hrow
        have hzr := hBr.size
        clear hrow
        go_wp2_with (first
          | (at_builtin
             go_must (
             refine wpList_append_own_at _ rfl _ _ 41 rfl w2.heap.size 51 i0 (.agg #[.int .i64 0, .int .i64 0, .slice none 0 0]) 3 40 Try.underlying41 hi hz0 hz1 hz2 rfl (by decide) (.slice Ar R.length cr) R.length _ rfl (row_keep Hrow.out fun g e => Below.heap_alloc wr _ g (hrl g e).2) ⟨wr.heap.size, 0, none⟩ 1 1 [.int .i64 x, .int .i64 (-1 - ((d : Nat) : Int)), .slice none 0 0] rfl rfl (cells_new_bind _ _ _ _ _) (by simp [Value.oneCell']) (by unfold maxLen; omega) (by omega) (by simp; omega) ?_
             intro v5 w5 hown5 hgr5 _ hat5
             have Hown5 := Lib.hid hown5
             have hB5 : Below w2.heap.size w2 w5 := (hBr.alloc hzr _).grown hgr5 (by simp; omega) (fun g e => (hrl g e).1)
             clear hown5 hgr5 hat5))
          | fail)
        exact ⟨⟨v5, _, _, .int .i64 ((k + 1 : Nat) : Int), ⟨k + 1, by omega, rfl, by rw [hst.out]; exact Lib.hid (Hpush.out _ _ Hown5.out)⟩, rfl, rfl, rfl, by simp⟩, by simp [intOf]; omega⟩
    · obtain rfl : k = ks.length := by omega
      rw [List.take_length] at HR
      rw [← Hrn.out] at HR
      go_wp2
      go_ret
      refine ⟨_, rfl, ?_, hBw⟩
      exact RowN.base_ HR.out hBw2.size

end Go.Proofs.Ytglfjmbclimeeaa

namespace Go.Proofs.Ytglfjmbclimeeaa

open Go.RowKit Go.Shelf
set_option maxRecDepth 100000

mutual
theorem VT_of {V : Int → Prop} : ∀ t : Tm, (∀ v ∈ vn t, V v) → VT V t
  | .node f xs => fun h => by
    simp only [vn] at h
    simp only [VT]
    exact ⟨fun hf => h _ (by simp [hf]), VL_of xs fun v hv => h v (List.mem_append.2 (.inr hv))⟩
theorem VL_of {V : Int → Prop} : ∀ xs : List Tm, (∀ v ∈ vnL xs, V v) → VL V xs
  | [] => fun _ => by simp only [VL]
  | t :: ts => fun h => by
    simp only [vnL] at h
    simp only [VL]
    exact ⟨VT_of t fun v hv => h v (List.mem_append.2 (.inl hv)), VL_of ts fun v hv => h v (List.mem_append.2 (.inr hv))⟩
end

theorem mem_vnL {x : Int} : ∀ ys : List Tm, x ∈ vnL ys → ∃ u ∈ ys, x ∈ vn u
  | [], h => by simp [vnL] at h
  | y :: ys, h => by
    simp only [vnL, List.mem_append] at h
    rcases h with h | h
    · exact ⟨y, by simp, h⟩
    · obtain ⟨u, hu, h⟩ := mem_vnL ys h
      exact ⟨u, by simp [hu], h⟩

theorem varI64 {w : World} {N : Nat → Prop} (t : Tm) : ∀ {A : Option Addr}, I64 t.fn → ArgsN w N A t.args → ∀ x ∈ vn t, I64 x := by
  refine Tm.ind (P := fun t => ∀ {A : Option Addr}, I64 t.fn → ArgsN w N A t.args → ∀ x ∈ vn t, I64 x) (fun f xs ih => ?_) t
  intro A hf hA x hx
  simp only [Tm.fn, Tm.args] at hf hA
  simp only [vn, List.mem_append] at hx
  rcases hx with hx | hx
  · split at hx
    · simp only [List.mem_cons, List.not_mem_nil, or_false] at hx
      subst hx
      exact ⟨by have := hf.1; omega, by have := hf.1; omega⟩
    · simp at hx
  · obtain ⟨u, hu, h⟩ := mem_vnL xs hx
    obtain ⟨i, hi⟩ := List.mem_iff_getElem?.1 hu
    obtain ⟨b, off, A', c', rfl, ha⟩ := hA.get hi
    exact ih u hu ha.hi ha.sub x h

theorem mem_vnC {x : Int} : ∀ cl : List Lt, x ∈ vnC cl → ∃ u ∈ cl, x ∈ vn u.l ∨ x ∈ vn u.r
  | [], h => by simp [vnC] at h
  | y :: ys, h => by
    simp only [vnC, List.mem_append] at h
    rcases h with h | h | h
    · exact ⟨y, by simp, .inl h⟩
    · exact ⟨y, by simp, .inr h⟩
    · obtain ⟨u, hu, h⟩ := mem_vnC ys h
      exact ⟨u, by simp [hu], h⟩

theorem lits_i64 {w : World} {N : Nat → Prop} {A : Option Addr} {cl : List Lt} (hA : Lits w N A cl) : ∀ x ∈ vnC cl, I64 x := by
  intro x hx
  obtain ⟨u, hu, h⟩ := mem_vnC cl hx
  obtain ⟨i, hi⟩ := List.mem_iff_getElem?.1 hu
  obtain ⟨b, off, A1, c1, A2, c2, rfl, _, ha⟩ := hA.get hi
  rcases h with h | h
  · exact varI64 u.l ha.il ha.sl x h
  · exact varI64 u.r ha.ir ha.sr x h

theorem ord_mem : ∀ (r l : List Int) (v : Int), v ∈ r.foldl ordI l → v ∈ l ∨ v ∈ r
  | [], l, v, h => .inl h
  | u :: r, l, v, h => by
    rcases ord_mem r (ordI l u) v h with h | h
    · unfold ordI at h
      split at h
      · exact .inl h
      · rcases List.mem_append.1 h with h | h
        · exact .inl h
        · simp at h; subst h; exact .inr (by simp)
    · exact .inr (by simp [h])

theorem ordC_i64 {w : World} {N : Nat → Prop} {A : Option Addr} {cl : List Lt} (hA : Lits w N A cl) : ∀ x ∈ (vnC cl).foldl ordI [], I64 x := fun x hx => by
  rcases ord_mem _ _ _ hx with h | h
  · simp at h
  · exact lits_i64 hA x h

/-- What Normal makes of a clause. -/
def NormPost (cl : List Lt) (w : World) (e : Ending) (w' : World) : Prop :=
  ∃ A' c' v, e = .returned (.tuple #[.slice A' cl.length c', v]) ∧ Lits w' (fun g => w.heap.size ≤ g ∧ g < w'.heap.size) A' (nuC ((vnC cl).foldl ordI []) cl) ∧ RowN w' w.heap.size v ((vnC cl).foldl ordI []) (rnN ((vnC cl).foldl ordI [])) ∧ Below w.heap.size w w'

set_option maxHeartbeats 2000000 in
theorem Normal_any (cl : List Lt) (hlen : cl.length ≤ 1048576) (hsz : ∀ x ∈ cl, x.l.size ≤ 4398046511104 ∧ x.r.size ≤ 4398046511104) (hU : (vnC cl).length ≤ 1099511627776) (A : Option Addr) (c : Nat) (w : World) (hA : Lits w (· < w.heap.size) A cl) :
    Calls Try.prog 31 #[.slice A cl.length c] w (NormPost cl w) := by
  have hmm : ∀ w : World, (Instr.makeMap 82 none).run Try.prog w = .ok (.map (some w.heap.size)) (w.alloc (.map #[] 0)) := fun _ => run_makeMap_plain (w := _) _
  obtain ⟨q0, q1, q2⟩ := heap3 w (.map #[] 0) (.cells #[.map (some w.heap.size)] 82) (.cells #[.func (.func 53) #[] #[.pointer (some ⟨w.heap.size + 1, 0, none⟩)]] 84)
  have hIM := IMap.made w
  obtain ⟨W, hW⟩ : ∃ W, (((w.alloc (.map #[] 0)).alloc (.cells #[.map (some w.heap.size)] 82)).alloc (.cells #[.func (.func 53) #[] #[.pointer (some ⟨w.heap.size + 1, 0, none⟩)]] 84)) = W := ⟨_, rfl⟩
  have hB : Below w.heap.size w W := by rw [← hW]; exact (((Below.refl _ _).alloc (Nat.le_refl _) _).alloc (by simp) _).alloc (by simp; omega) _
  rw [hW] at q0 q1 q2
  have hWz : W.heap.size = w.heap.size + 3 := by rw [← hW]; simp
  have hI64 := ordC_i64 hA
  have hnd : ((vnC cl).foldl ordI []).Nodup := ord_nodup _ _ .nil
  have hLl : ((vnC cl).foldl ordI []).length ≤ 1099511627776 := by have := ord_len (vnC cl) []; simp at this; omega
  have hIW : IMap W w.heap.size [] := hIM.kept (q0.trans (heap_alloc_new w _).symm)
  have hnum := number_num (vnC cl) (by omega) (w.heap.size + 1) w.heap.size W.heap.size (by omega) (· < w.heap.size) (fun g e => by omega) (fun g e => by omega) (by omega) (by omega)
  have hchg := normal2_chg hnum (w.heap.size + 2) (by omega) (by omega)
  obtain ⟨hp1, hp2⟩ := normal_plain cl
  have hl2 : (litsL (renT nxI) [] cl).2.length = cl.length := litsL_len _ _ _
  have hlit := literals_any hchg cl (by omega) (fun x hx => ⟨⟨(hsz x hx).1, VT_of _ (vnC_mem hx).1⟩, ⟨(hsz x hx).2, VT_of _ (vnC_mem hx).2⟩⟩) [] A c W (Nat.le_refl _) ⟨⟨q1, hIW, .nil, by simp⟩, q2⟩ (hA.keep fun g e => hB.block g e)
  rw [hl2, hp1, hp2] at hlit
  obtain ⟨L, hL⟩ : ∃ L, (vnC cl).foldl ordI [] = L := ⟨_, rfl⟩
  unfold NormPost
  rw [hL] at hlit hI64 hnd hLl ⊢
  have Hlit := Lib.hid hlit
  have HW := Lib.hid hW
  have H64 := Lib.hid hI64
  clear hlit hW hI64 hchg hnum hA hsz hp1 hp2 hl2 hIM hIW hL
  go_enter Try.func31, Try.ntmps31
  go_upto_region 3 with fail
  rw [HW.out]
  go_wp2_with (first
    | (go_at_call 54; (with_reducible refine Hlit.out.mono ?_); go_must (rintro e w1 ⟨A1, c1, rfl, hL1, hI1, hk1⟩; have hc4 := hI1.1.box.cell; have hren := Lib.hid (renaming_any w.heap.size L w1 hI1.1.map hnd H64.out hLl); have HL1 := Lib.hid hL1; clear hL1 hI1))
    | (go_at_call 57; (with_reducible refine hren.out.mono ?_); go_must (rintro e w2 ⟨v, rfl, hR2, hb2⟩; have HR2 := Lib.hid hR2; clear hR2))
    | fail)
  have hB1 : Below w.heap.size w w1 := hB.trans (Keeps.below hk1 fun g hg => ⟨by omega, by omega⟩)
  go_ret2
  refine ⟨A1, c1, v, rfl, (HL1.out.keep fun g e => hb2.block g e.2).wide fun g e => ⟨by omega, by have := hb2.size; omega⟩, ?_, hB1.trans (hb2.mono hB1.size)⟩
  exact RowN.base_ HR2.out hB1.size

end Go.Proofs.Ytglfjmbclimeeaa

/- match: slices.Values of a row of numbers, slices.AppendSeq, slices.Collect, slices.Sorted: walked. -/

namespace Go.Proofs.Ytglfjmbclimeeaa

open Go.RowKit Go.Shelf
attribute [local go_sem] Oper.semAt_some
set_option maxRecDepth 100000

theorem values_any (A : Option Addr) (n c : Nat) (w : World) : Calls Try.prog 41 #[.slice A n c] w fun e w' => e = .returned (.func (.func 67) #[] #[.pointer (some ⟨w.heap.size, 0, none⟩)]) ∧ w' = w.alloc (.cells #[.slice A n c] 53) := by
  go_enter Try.func41, Try.ntmps41
  go_wp2
  go_ret
  exact ⟨rfl, rfl⟩

set_option maxHeartbeats 2000000 in
/-- The iterator over a row of numbers. -/
theorem values1_seq (m B : Nat) (l : List Int) (v : Value) (w0 : World) (hb : w0.heap[B]? = some (.cells #[v] 53)) (hR : IntsR w0 0 v l) (hl : l.length ≤ 4398046511104) :
    SeqC Fence.wide m Try.prog 67 #[.pointer (some ⟨B, 0, none⟩)] (fun x : Int => #[.int .i64 x]) (fun _ _ => True) (fun g => v.ownBlock = some g) (fun xs => xs = l) (fun pre => pre <+: l) w0 := by
  intro lp C J Jx W hW hJ hB hY h0
  have hBl : B < w0.heap.size := (Array.getElem?_eq_some_iff.1 hb).1
  have hbW : W.cell? ⟨B, 0, none⟩ = some v := cells_n' ((hW.block B hBl).trans hb)
  obtain ⟨A, c, rfl⟩ := row_slice hR.row
  have hg : ∀ (i : Nat) (x : Int), l[i]? = some x → ∃ g, A = some ⟨g, 0, none⟩ ∧ g < W.heap.size ∧ W.cell? ⟨g, i, none⟩ = some (.int .i64 x) := fun i x hx => by
    obtain ⟨g, c', h2, h3, h4⟩ := hR.get hx
    injection h2 with h2 _ _
    exact ⟨g, h2, Nat.lt_of_lt_of_le h3 hW.size, (cell_of_heap (hW.block g h3)).trans h4⟩
  have Hg := Lib.hid hg
  clear hR hb hg
  refine callsIn_of_wp Try.func67 rfl trivial ?_ rfl
  simp only [Try.ntmps67, List.size_toArray, List.length_cons, List.length_nil, Nat.reduceAdd, Nat.reduceSub, Array.replicate_succ, Array.replicate_zero, List.push_toArray, List.append_toArray, List.nil_append, List.cons_append]
  gi_wp2
  gi_loopw [7] (fun i wr => ∃ k : Nat, k ≤ l.length ∧ i = .int .i64 (k : Int) ∧ J (l.take k) wr ∧ Hid (Keeps (fun g => (Value.slice A l.length c).ownBlock = some g) W wr)) (fun i _ => l.length - (intOf i).toNat)
  case atStart => exact ⟨0, Nat.zero_le _, rfl, h0, Lib.hid (Keeps.refl _ _)⟩
  case round =>
    obtain ⟨k, hk, rfl, hJr, HK⟩ := hrel
    by_cases hlt : k < l.length
    · obtain ⟨x, hx⟩ : ∃ x, l[k]? = some x := ⟨_, List.getElem?_eq_getElem hlt⟩
      obtain ⟨g, rfl, hgl, hc⟩ := Hg.out k x hx
      have e0 := (cell_of_heap (HK.out.block g rfl)).trans hc
      have hpre : l.take k ++ [x] <+: l := by
        have h1 : l.take (k + 1) = l.take k ++ [x] := by rw [List.take_add_one, hx]; rfl
        rw [← h1]; exact List.take_prefix _ _
      have Htk := Lib.hid (show l.take k ++ [x] = l.take (k + 1) by rw [List.take_add_one, hx]; rfl)
      obtain ⟨fn, tmps, assign, body, hy', hR⟩ := hY (m - 1) (l.take k) x wr hJr hpre trivial
      have Hpre := Lib.hid hpre
      clear hx hc hpre
      gi_wp2
      refine ⟨(fun h => by cases h), hR.mono ?_⟩
      rintro e W3 (⟨rfl, hJ3, hst⟩ | ⟨rfl, hJx3⟩)
      · gi_wp2
        go_roundw
        case rel => exact ⟨k + 1, by omega, by go_num, by rw [← Htk.out]; exact hJ3, Lib.hid (HK.out.trans (hst.keeps.mono fun g e => .inl e))⟩
        case measure => simp [intOf]; omega
      · gi_wp2
        refine bodyPost_ret (results_none rfl _ _ _) rfl ?_
        exact ⟨⟨_, rfl⟩, .inr ⟨_, Hpre.out, hJx3⟩⟩
    · obtain rfl : k = l.length := by omega
      rw [List.take_length] at hJr
      gi_wp2
      go_end0
      exact ⟨⟨_, rfl⟩, .inl ⟨_, rfl, hJr⟩⟩
where
  cells_n' {W : World} {b : Nat} {v : Value} {t : TypeId} (h : W.heap[b]? = some (.cells #[v] t)) : W.cell? ⟨b, 0, none⟩ = some v := by simp [World.cell?, h]

/-- What AppendSeq has laid: the row's slice in its box. -/
structure AppI (w W : World) (k : List Int) : Prop where
  cell : ∃ v, Boxed W w.heap.size 53 v ∧ W.ownsRow (w.heap.size + 1) 3 1 v k.length (k.map (Value.int .i64))
  below : Below w.heap.size w W

def AppC (h : Nat) (W : World) (g : Nat) : Prop := g < h + 1 ∨ ∃ v, Boxed W h 53 v ∧ v.ownBlock = some g

theorem boxed_eq' {W : World} {B : Nat} {t : TypeId} {v u : Value} (h : Boxed W B t v) (k : Boxed W B t u) : v = u := by
  have h' : W.heap[B]? = some (.cells #[v] t (0, 0)) := h
  have k' : W.heap[B]? = some (.cells #[u] t (0, 0)) := k
  rw [h'] at k'
  injection k' with k'
  injection k' with k'
  simpa using k'

theorem app_frame (w : World) : FrameC (AppC w.heap.size) (fun (pre : List Int) W => AppI w W pre) := by
  rintro s A B ⟨⟨v, h1, h2⟩, h3⟩ hk
  have e1 : Boxed B w.heap.size 53 v := (hk.block _ (.inl (by omega))).trans h1
  refine ⟨⟨⟨v, e1, row_keep h2 fun g e => hk.block g (.inr ⟨v, h1, e⟩)⟩, h3.trans (hk.below fun g e => .inl (by omega))⟩, fun g e => ?_⟩
  rcases e with e | ⟨u, hu, e⟩
  · exact .inl e
  · obtain rfl := boxed_eq' e1 hu
    exact .inr ⟨v, h1, e⟩

theorem app_bound (w : World) : BoundC (AppC w.heap.size) (fun (pre : List Int) W => AppI w W pre) := by
  rintro s A ⟨⟨v, h1, h2⟩, h3⟩ g e
  have hlt := h1.lt
  rcases e with e | ⟨u, hu, e⟩
  · omega
  · obtain rfl := boxed_eq' h1 hu
    exact (row_lt h2 g e).2

theorem app_step {w W w2 X : World} {k : List Int} {z : Int} {v v' : Value} {N : Nat → Prop} (h : AppI w W k) (hv : Boxed W w.heap.size 53 v) (hrow : W.ownsRow (w.heap.size + 1) 3 1 v k.length (k.map (Value.int .i64))) (hX : Below W.heap.size W X) (hN : ∀ g, N g → g < w.heap.size)
    (hown : w2.ownsRow (w.heap.size + 1) 3 1 v' (k.length + 1) (k.map (Value.int .i64) ++ [.int .i64 z])) (hgr : X.grownBy w2 v.ownBlock) (hat : v'.ownBlock = v.ownBlock ∨ v'.ownBlock = some X.heap.size) :
    AppI w (w2.setCell ⟨w.heap.size, 0, none⟩ v') (k ++ [z]) ∧ Stp N (AppC w.heap.size) W (w2.setCell ⟨w.heap.size, 0, none⟩ v') := by
  have hlt := row_lt hrow
  have hvl := hv.lt
  have hs1 := hX.size
  have K1 : Keeps (fun g => g < W.heap.size ∧ some g ≠ v.ownBlock) W w2 := ((Keeps.of_below hX).mono fun g e => e.1).trans ((Keeps.of_grown hgr).mono fun g e => ⟨by omega, e.2⟩)
  have hs2 := K1.size
  have e1 : Boxed w2 w.heap.size 53 v := (K1.block _ ⟨by omega, fun e => by have := (hlt _ e.symm).1; omega⟩).trans hv
  have e2 := Boxed.set v' e1
  have hW0 := h.below.size
  refine ⟨⟨⟨v', e2, ?_⟩, (h.below.trans (K1.below fun g e => ⟨by omega, fun e' => by have := (hlt _ e'.symm).1; omega⟩)).setCell (Nat.le_refl _) _⟩, ⟨?_, ?_⟩⟩
  · rw [List.length_append, List.map_append]
    refine row_keep hown fun g e => heap_setCell_other _ _ _ _ ?_
    have := (row_lt hown g e).1
    show g ≠ w.heap.size
    omega
  · refine (K1.mono fun g hg => ?_).trans ((Keeps.set w2 ⟨w.heap.size, 0, none⟩ v').mono fun g hg => ?_)
    · rcases hg with hg | hg
      · have hg' := hN g hg
        exact ⟨by omega, fun e => by have := (hlt _ e.symm).1; omega⟩
      · exact ⟨hg.1, fun e => hg.2 (.inr ⟨v, hv, e.symm⟩)⟩
    · show g ≠ w.heap.size
      rcases hg with hg | hg
      · have hg' := hN g hg
        omega
      · exact fun e => hg.2 (.inl (by omega))
  · rintro g (e | ⟨u, hu, e⟩)
    · exact .inl (.inl e)
    · obtain rfl := boxed_eq' e2 hu
      rcases hat with e3 | e3
      · exact .inl (.inr ⟨v, hv, e3 ▸ e⟩)
      · rw [e3] at e
        injection e with e
        exact .inr (by omega)

set_option maxHeartbeats 4000000 in
theorem appSeq_any (gf : Nat) (lb : Array Value) (l : List Int) (N : Nat → Prop) (w : World) (hen : ∀ args w, (callFunc gf args).run Try.prog w = .ok (.enter gf args) w) (hseq : ∀ m, SeqC Fence.wide m Try.prog gf lb (fun x : Int => #[.int .i64 x]) (fun _ _ => True) N (fun xs => xs = l) (fun pre => pre <+: l) w)
    (hN : ∀ g, N g → g < w.heap.size) (h64 : ∀ x ∈ l, I64 x) (hl : l.length ≤ 4398046511104) :
    Calls Try.prog 86 #[.slice none 0 0, .func (.func gf) #[] lb] w fun e w' => ∃ v, e = .returned v ∧ IntsR w' w.heap.size v l ∧ Below w.heap.size w w' := by
  obtain ⟨i0, hi, hz0, hz1, hz2⟩ := info_parts info_int
  refine (callsIn_wide (n := 3)).1 (callsIn_of_wp_marks Try.func86 rfl trivial ?_ rfl)
  simp only [Try.ntmps86, List.size_toArray, List.length_cons, List.length_nil, Nat.reduceAdd, Nat.reduceSub, Array.replicate_succ, Array.replicate_zero, List.push_toArray, List.append_toArray, List.nil_append, List.cons_append]
  refine wpIn_wide.2 ?_
  go_wp2
  have p0 := heap_alloc_new w (.cells #[.slice none 0 0] 53)
  obtain ⟨W, hW⟩ : ∃ W, w.alloc (.cells #[.slice none 0 0] 53) = W := ⟨_, rfl⟩
  have hB : Below w.heap.size w W := by rw [← hW]; exact (Below.refl _ _).alloc (Nat.le_refl _) _
  rw [hW] at p0 ⊢
  refine (wpIn_wide (n := 3)).1 ?_
  refine range_law (F := Fence.wide) (n := 3) (w0 := w) rfl rfl (gf := gf) (lb := lb) rfl trivial hen hseq hB (fun _ => rfl) (fun g e => Nat.lt_of_lt_of_le (hN g e) hB.size)
    (AppC w.heap.size) (fun pre W => AppI w W pre) (fun _ _ _ => False)
    (app_frame w) (app_bound w) (fun _ _ _ _ h _ => h.elim) ⟨⟨.slice none 0 0, p0, World.ownsRow_nil W _ _ _⟩, hB⟩
    (fun pre x a' W => AppI w W pre ∧ a' = { tmps := #[.slice none 0 0, .func (.func gf) #[] lb, .pointer (some ⟨w.heap.size, 0, none⟩), undef, .slice none 0 0, .int .i64 x, .func (.func gf) #[] lb, .int .i64 x, undef, undef, undef, undef, undef], defers := [] }) ?hAx ?assign ?body ?done ?stop
  case hAx =>
    rintro pre x a' W l r o ⟨h1, rfl⟩ hl hr hn
    have hK := Keeps.put W l o
    obtain ⟨h5, h6⟩ := app_frame w pre W (W.putObj l o) h1 (hK.mono fun g e e' => hn (e' ▸ e))
    exact ⟨h6, h5, rfl⟩
  case assign =>
    intro l m pre x W K hI _ hfx hK
    gi_wp2
    exact hK _ _ (Stp.refl _ _ _) ⟨hI, by simp⟩
  case body =>
    rintro lp m pre x a' W hsp ⟨h1, rfl⟩
    obtain ⟨v, hv, hrow⟩ := h1.cell
    have hc := Boxed.cell hv
    have hfz := Boxed.frozen hv
    obtain ⟨A, c, rfl⟩ := row_slice hrow
    have hpl : pre.length + 1 ≤ l.length := by have := hsp.length_le; simpa using this
    have hrl := row_lt hrow
    have hvl := hv.lt
    have Hrow := Lib.hid hrow
    have H1 := Lib.hid h1
    have Hv := Lib.hid hv
    clear hrow h1 hv
    gi_wp2_with (first
      | (gi_at_builtin
         go_must (
         refine wpListIn_append_at _ rfl _ _ 53 rfl (w.heap.size + 1) 3 i0 (.int .i64 0) 1 8 Try.underlying53 hi hz0 hz1 hz2 rfl (by decide) (.slice A pre.length c) pre.length _ rfl (row_keep Hrow.out fun g e => Below.heap_alloc W _ g (hrl g e).2) ⟨W.heap.size, 0, none⟩ 1 1 [.int .i64 x] rfl rfl (cell_one_new _ _ _) (by simp [Value.oneCell']) (by unfold maxLen; omega) (by omega) (by simp; omega) ?_
         intro v5 w5 hown5 hgr5 hat5
         have hbx5 : Boxed w5 w.heap.size 53 (.slice A pre.length c) := (hgr5.block _ (by simp; omega) (fun e => by have := (hrl _ e.symm).1; omega)).trans ((Below.heap_alloc W _ _ hvl).trans Hv.out)
         have hfz5 := hbx5.frozen
         have hc5 := hbx5.cell
         obtain ⟨A5, c5, hv5⟩ := row_slice hown5
         subst hv5
         have Hown5 := Lib.hid hown5
         have Hgr5 := Lib.hid hgr5
         have Hat5 := Lib.hid hat5
         clear hown5 hgr5 hat5 hbx5))
      | gi_in)
    exact app_step H1.out Hv.out Hrow.out ((Below.refl _ _).alloc (Nat.le_refl _) _) hN Hown5.out Hgr5.out Hat5.out
  case done =>
    rintro D ys W hD hS h1 hK
    obtain ⟨v, hv, hrow⟩ := h1.cell
    have hc := Boxed.cell hv
    have hb1 := h1.below
    have hs0 := hB.size
    subst hS
    clear h1
    obtain ⟨A, c, rfl⟩ := row_slice hrow
    go_wp2
    refine ⟨by simp, .inl ⟨_, _, rfl, run_takeDeferred hK, ?_⟩⟩
    have hrl := row_lt hrow
    refine ⟨.slice A ys.length c, by simp [results, Try.results86, go_sem], .slice A ys.length c, rfl, ⟨?_, h64⟩, hb1.trans (belowK_b (w := w) (Nat.le_refl _) W D _ _ (by omega) hK rfl rfl)⟩
    have h9 : W.ownsRow w.heap.size 3 1 (.slice A ys.length c) ys.length (ys.map (Value.int .i64)) := by
      refine ⟨hrow.1, ?_⟩
      rcases hrow.2 with h | ⟨g, cap, cur, h1, h2, h3⟩
      · exact .inl h
      · exact .inr ⟨g, cap, cur, h1, by omega, h3⟩
    refine row_keep h9 fun g e => World.putObj_heap_other fun e2 => ?_
    subst e2
    rcases hrow.2 with ⟨h, _⟩ | ⟨g, cap, cur, h1, h2, h3, _⟩
    · rw [h] at e; simp [Value.ownBlock] at e
    · rw [h1] at e
      simp [Value.ownBlock] at e
      subst e
      rw [h3] at hK; cases hK
  case stop => exact fun _ _ _ _ _ _ h _ => h.elim

theorem collectV_any (B : Nat) (l : List Int) (v : Value) (w : World) (hb : w.heap[B]? = some (.cells #[v] 53)) (hR : IntsR w 0 v l) (hl : l.length ≤ 4398046511104) :
    Calls Try.prog 65 #[.func (.func 67) #[] #[.pointer (some ⟨B, 0, none⟩)]] w fun e w' => ∃ v', e = .returned v' ∧ IntsR w' w.heap.size v' l ∧ Below w.heap.size w w' := by
  have HA := Lib.hid (appSeq_any 67 #[.pointer (some ⟨B, 0, none⟩)] l (fun g => v.ownBlock = some g) w (enters_of Try.func67 (by kernel_rfl) rfl) (fun m => values1_seq m B l v w hb hR hl) (fun g e => (row_lt hR.row g e).2) hR.i64 hl)
  clear hb hR
  go_enter Try.func65, Try.ntmps65
  go_wp2_with (first
    | (go_at_call 86; with_reducible refine HA.out.mono ?_; go_must (rintro e w1 ⟨v1, rfl, hI1, hb1⟩))
    | fail)
  go_ret
  exact ⟨_, rfl, hI1, hb1⟩

set_option maxHeartbeats 1000000 in
theorem sortedV_any (B : Nat) (l : List Int) (v : Value) (w : World) (hb : w.heap[B]? = some (.cells #[v] 53)) (hR : IntsR w 0 v l) (hl : l.length ≤ 4398046511104) :
    Calls Try.prog 40 #[.func (.func 67) #[] #[.pointer (some ⟨B, 0, none⟩)]] w fun e w' => ∃ v', e = .returned v' ∧ IntsR w' w.heap.size v' (l.mergeSort fun x y => decide (x ≤ y)) ∧ Below w.heap.size w w' := by
  have HC := Lib.hid (collectV_any B l v w hb hR hl)
  have h64 := hR.i64
  clear hb hR
  have hZ : ∀ x ∈ (l.mergeSort fun x y => decide (x ≤ y)), I64 x := fun x hx => h64 x ((List.mergeSort_perm l _).mem_iff.1 hx)
  obtain ⟨Z, hZe⟩ : ∃ Z, Z = l.mergeSort fun x y => decide (x ≤ y) := ⟨_, rfl⟩
  have hZl : Z.length = l.length := by rw [hZe]; exact List.length_mergeSort _
  rw [← hZe] at hZ ⊢
  have hsort : ∀ (w1 : World) (v1 : Value), IntsR w1 w.heap.size v1 l → Calls Try.prog 66 #[v1] w1 fun e w2 => e = .returned (.tuple #[]) ∧ IntsR w2 w.heap.size v1 Z ∧ (∀ g, g < w.heap.size → w2.heap[g]? = w1.heap[g]?) ∧ w2.os = w1.os ∧ w2.tape = w1.tape ∧ w2.output = w1.output ∧ w1.heap.size ≤ w2.heap.size := by
    intro w1 v1 h1
    rcases h1.row.2 with ⟨rfl, h0⟩ | ⟨g, cap, cur, rfl, hbg, hg, hcap, hcm, hcur, htk⟩
    · have hl0 : l = [] := List.eq_nil_of_length_eq_zero h0
      have hZ0 : Z = [] := List.eq_nil_of_length_eq_zero (by rw [hZl, hl0]; rfl)
      refine (AnyM.slices_Sort_int_none Try.sortA none 0 w1).mono ?_
      rintro e w2 ⟨rfl, rfl⟩
      refine ⟨rfl, ⟨?_, hZ⟩, fun _ _ => rfl, rfl, rfl, rfl, Nat.le_refl _⟩
      rw [hZ0]; exact World.ownsRow_nil _ _ _ _
    · have hgl : g < w1.heap.size := (Array.getElem?_eq_some_iff.1 hg).1
      rw [Nat.mul_one] at htk
      have h2 := AnyM.slices_Sort_int Try.sortA g 0 cap l w1 (holds_of_blockI hg htk) hgl (by omega)
      rw [← hZe] at h2
      refine h2.mono ?_
      rintro e w2 ⟨rfl, n, os, rfl⟩
      have hgr := grownBy_sortedI (w := w1) (g := g) (n := n) (os := os) Z.toArray
      have hhp := heap_sortedI (n := n) (os := os) Z.toArray hg
      have htk2 := take_putCellsI cur Z (by omega)
      refine ⟨rfl, ⟨⟨by simp, .inr ⟨g, cap, _, by rw [hZl], hbg, hhp, by omega, hcm, by simp [Sort.putCells]; omega, by rw [Nat.mul_one]; exact htk2⟩⟩, hZ⟩, fun k e => hgr.block k (by omega) (fun e2 => by injection e2; omega), hgr.os, hgr.tape, hgr.output, hgr.size⟩
  have HS := Lib.hid hsort
  clear hsort hZe
  go_enter Try.func40, Try.ntmps40
  go_wp2_with (first
    | (go_at_call 65; with_reducible refine HC.out.mono ?_; go_must (rintro e w1 ⟨v1, rfl, hI1, hb1⟩; have HS1 := Lib.hid (HS.out w1 v1 hI1); obtain ⟨A1, c1, hv1⟩ := row_slice hI1.row; subst hv1; clear hI1))
    | (go_at_call 66; with_reducible refine HS1.out.mono ?_; go_must (rintro e w2 ⟨rfl, hI2, hk2, ho2, ht2, hp2, hs2⟩))
    | fail)
  go_ret
  exact ⟨_, rfl, hI2, ⟨ho2.trans hb1.os, ht2.trans hb1.tape, hp2.trans hb1.output, Nat.le_trans hb1.size hs2, fun g e => (hk2 g e).trans (hb1.block g e)⟩⟩

end Go.Proofs.Ytglfjmbclimeeaa

/- what stands for a variable, in plain words -/

namespace Go.Proofs.Ytglfjmbclimeeaa

open Go.RowKit Go.Shelf
set_option maxRecDepth 100000
set_option maxRecDepth 100000

theorem chkFrom_of : ∀ (l : List Bd) (lo : Int), (∀ x ∈ l, lo < x.v ∧ ¬ selfB x) → l.Pairwise (fun x y => x.v < y.v) → chkFrom lo l = true
  | [], _, _, _ => rfl
  | y :: ys, lo, h, hp => by
    obtain ⟨h1, h2⟩ := List.pairwise_cons.1 hp
    obtain ⟨h3, h4⟩ := h y (by simp)
    simp only [chkFrom, Bool.and_eq_true, decide_eq_true_eq, Bool.not_eq_true', decide_eq_false_iff_not]
    exact ⟨h3, h4, chkFrom_of ys y.v (fun x hx => ⟨h1 x hx, (h x (by simp [hx])).2⟩) h2⟩

/-- What a variable (that has no arguments) becomes. -/
def val (l : List Bd) (v : Int) : Tm := (bdT l v).getD (.node (-1 - v) [])

theorem find_mem {l : List Bd} (h : l.Pairwise fun x y => x.v < y.v) {z : Bd} (hz : z ∈ l) : findB l z.v = some z := by
  rcases hf : findB l z.v with _ | y
  · unfold findB at hf
    rw [List.find?_eq_none] at hf
    exact absurd (hf z hz) (by simp)
  · have hy := List.mem_of_find?_eq_some hf
    have hv : y.v = z.v := by have := List.find?_some hf; simpa using this
    obtain ⟨i, hi⟩ := List.mem_iff_getElem?.1 hy
    obtain ⟨j, hj⟩ := List.mem_iff_getElem?.1 hz
    obtain ⟨hi1, hi2⟩ := List.getElem?_eq_some_iff.1 hi
    obtain ⟨hj1, hj2⟩ := List.getElem?_eq_some_iff.1 hj
    rcases Nat.lt_trichotomy i j with h' | h' | h'
    · have := List.pairwise_iff_getElem.1 h i j hi1 hj1 h'
      rw [hi2, hj2] at this; omega
    · subst h'; rw [← hi2, ← hj2]
    · have := List.pairwise_iff_getElem.1 h j i hj1 hi1 h'
      rw [hi2, hj2] at this; omega

theorem find_none_iff {l : List Bd} {v : Int} : findB l v = none ↔ ∀ z ∈ l, z.v ≠ v := by
  unfold findB
  rw [List.find?_eq_none]
  simp

theorem find_some_mem {l : List Bd} {v : Int} {x : Bd} (h : findB l v = some x) : x ∈ l ∧ x.v = v := ⟨List.mem_of_find?_eq_some h, by have := List.find?_some h; simpa using this⟩

theorem self_eq {z : Bd} : selfB z ↔ z.t = .node (-1 - z.v) [] := by
  obtain ⟨v, f, xs⟩ := z
  unfold selfB
  simp only [Tm.fn, Tm.args, Tm.node.injEq, List.length_eq_zero_iff]

theorem app_var (g : Int → Option Tm) {v : Int} (hv : 0 ≤ v) : appT g (.node (-1 - v) []) = (g v).getD (.node (-1 - v) []) := by
  simp only [appT, appL]
  rw [if_pos (by omega), show -1 - (-1 - v) = v by omega]

theorem app_leaf (l : List Bd) {f : Int} (hf : f < 0) : appT (bdT l) (.node f []) = val l (-1 - f) := by
  have := app_var (bdT l) (v := -1 - f) (by omega)
  rw [show -1 - (-1 - f) = f by omega] at this
  rw [this]
  unfold val
  rw [show -1 - (-1 - f) = f by omega]

theorem app_node (g : Int → Option Tm) {f : Int} (hf : ¬ f < 0) (xs : List Tm) : appT g (.node f xs) = .node f (xs.map (appT g)) := by
  simp only [appT, if_neg hf, Option.getD_none, appL_eq]

theorem chk_ext {l m : List Bd} (hl : chkB l = true) (hm : chkB m = true) (h : ∀ v : Int, 0 ≤ v → val l v = val m v) : l = m := by
  have hrl := chkFrom_rise l (-1) hl
  have hrm := chkFrom_rise m (-1) hm
  have one : ∀ {a b : List Bd}, chkB a = true → chkB b = true → (∀ v : Int, 0 ≤ v → val a v = val b v) → ∀ z ∈ a, z ∈ b := by
    intro a b ha hb h z hz
    obtain ⟨h1, h2⟩ := chkFrom_all a (-1) ha z hz
    have e1 : val a z.v = z.t := by unfold val bdT; rw [find_mem (chkFrom_rise a (-1) ha) hz]; rfl
    rw [h z.v (by omega)] at e1
    rcases hf : findB b z.v with _ | y
    · unfold val bdT at e1
      rw [hf] at e1
      exact absurd (self_eq.2 e1.symm) h2
    · obtain ⟨h3, h4⟩ := find_some_mem hf
      unfold val bdT at e1
      rw [hf] at e1
      have e2 : y.t = z.t := e1
      obtain ⟨yv, yt⟩ := y
      obtain ⟨zv, zt⟩ := z
      simp only at h4 e2
      subst h4; subst e2
      exact h3
  have hnd : ∀ {a : List Bd}, a.Pairwise (fun x y => x.v < y.v) → a.Nodup := fun h => h.imp fun h e => by subst e; omega
  have hp : l.Perm m := (List.perm_ext_iff_of_nodup (hnd hrl) (hnd hrm)).2 fun z => ⟨one hl hm h z, one hm hl (fun v hv => (h v hv).symm) z⟩
  refine List.Perm.eq_of_pairwise (le := fun x y : Bd => x.v < y.v) (fun x y _ _ h1 h2 => by omega) hrl hrm hp

theorem val_plain {l : List Bd} (h : ∀ x ∈ l, plainT x.t = true) (v : Int) : plainT (val l v) = true := by
  unfold val bdT
  rcases hf : findB l v with _ | x
  · simp [plainT, plainL]
  · exact h x (find_some_mem hf).1

theorem app_nil (t : Tm) : appT (bdT []) t = t := by
  refine Tm.ind (P := fun t => appT (bdT []) t = t) (fun f xs ih => ?_) t
  rw [appT_free (.inr rfl)]
  congr 1
  conv => rhs; rw [← List.map_id xs]
  exact List.map_congr_left fun u hu => ih u hu

theorem app_size {g : Int → Option Tm} {m : Nat} (hm : 1 ≤ m) (hg : ∀ v t, g v = some t → t.size ≤ m) (t : Tm) : (appT g t).size ≤ t.size * m := by
  refine Tm.ind (P := fun t => (appT g t).size ≤ t.size * m) (fun f xs ih => ?_) t
  have hnode : (Tm.node f (appL g xs)).size ≤ (Tm.node f xs).size * m := by
    have key : ∀ ys : List Tm, (∀ u ∈ ys, (appT g u).size ≤ u.size * m) → sizes (appL g ys) ≤ sizes ys * m := by
      intro ys
      induction ys with
      | nil => intro _; simp [appL, sizes]
      | cons y ys ihy =>
        intro h
        have h1 := h y (by simp)
        have h2 := ihy fun u hu => h u (by simp [hu])
        simp only [appL, sizes, Nat.add_mul]
        omega
    have := key xs ih
    simp only [Tm.size, Nat.add_mul]
    omega
  simp only [appT]
  split
  · rcases hx : g (-1 - f) with _ | y
    · exact hnode
    · have h1 := hg _ _ hx
      have h2 : 1 ≤ (Tm.node f xs).size := by simp only [Tm.size]; omega
      have h3 := Nat.mul_le_mul_right m h2
      show y.size ≤ _
      omega
  · exact hnode

theorem bdT_size {l : List Bd} {m : Nat} (h : ∀ x ∈ l, x.t.size ≤ m) : ∀ v t, bdT l v = some t → t.size ≤ m := by
  intro v t e
  unfold bdT at e
  rcases hf : findB l v with _ | x
  · rw [hf] at e; cases e
  · rw [hf] at e; injection e with e; rw [← e]; exact h x (find_some_mem hf).1

end Go.Proofs.Ytglfjmbclimeeaa

/- match: in plain words: what is bound, sorted by variables, without what is bound to itself. -/

namespace Go.Proofs.Ytglfjmbclimeeaa

open Go.RowKit
set_option maxRecDepth 100000

def srtM (M : List Bd) : List Bd := M.mergeSort fun x y => decide (x.v ≤ y.v)

def notSelf (x : Bd) : Bool := !decide (selfB x)

/-- Subst. -/
def substM (M : List Bd) : List Bd := (srtM M).filter notSelf

theorem srtM_perm (M : List Bd) : (srtM M).Perm M := List.mergeSort_perm M _

theorem srtM_le (M : List Bd) : (srtM M).Pairwise fun x y => x.v ≤ y.v := by
  have := List.pairwise_mergeSort (le := fun x y : Bd => decide (x.v ≤ y.v)) (by intro a b c h1 h2; simp at *; omega) (by intro a b; simp; omega) M
  exact this.imp fun h => by simpa using h

theorem srtM_lt {M : List Bd} (h : MOk M) : (srtM M).Pairwise fun x y => x.v < y.v := by
  have hn : (srtM M).Pairwise fun x y => x.v ≠ y.v := ((srtM_perm M).pairwise_iff (fun {_ _} e => Ne.symm e)).2 h.nd
  exact (srtM_le M).imp₂ (fun h1 h2 => by omega) hn

theorem srtM_keys (M : List Bd) : ((M.map Bd.v).mergeSort fun x y => decide (x ≤ y)) = (srtM M).map Bd.v := by
  refine List.Perm.eq_of_pairwise (le := (· ≤ ·)) (fun x y _ _ h1 h2 => Int.le_antisymm h1 h2) ?_ ?_ ?_
  · have := List.pairwise_mergeSort (le := fun x y : Int => decide (x ≤ y)) (by intro a b c h1 h2; simp at *; omega) (by intro a b; simp; omega) (M.map Bd.v)
    exact this.imp fun h => by simpa using h
  · rw [List.pairwise_map]; exact srtM_le M
  · exact (List.mergeSort_perm _ _).trans ((srtM_perm M).symm.map _)

theorem substM_mem {M : List Bd} {x : Bd} (h : x ∈ substM M) : x ∈ M ∧ ¬ selfB x := by
  obtain ⟨h1, h2⟩ := List.mem_filter.1 h
  exact ⟨(srtM_perm M).mem_iff.1 h1, by simpa [notSelf] using h2⟩

theorem substM_of {M : List Bd} {x : Bd} (h : x ∈ M) (hs : ¬ selfB x) : x ∈ substM M := List.mem_filter.2 ⟨(srtM_perm M).mem_iff.2 h, by simpa [notSelf] using hs⟩

theorem substM_lt {M : List Bd} (h : MOk M) : (substM M).Pairwise fun x y => x.v < y.v := (srtM_lt h).filter _

theorem substM_rise {M : List Bd} (h : MOk M) : Rise (substM M) := pairwise_rise (substM_lt h)

theorem substM_len (M : List Bd) : (substM M).length ≤ M.length := by
  have := List.length_filter_le notSelf (srtM M)
  rw [(srtM_perm M).length_eq] at this
  exact this

theorem findB_uniq {M : List Bd} (h : M.Pairwise fun x y => x.v ≠ y.v) {x : Bd} (hx : x ∈ M) : findB M x.v = some x := by
  rcases hf : findB M x.v with _ | y
  · exact absurd rfl (find_none_iff.1 hf x hx)
  · obtain ⟨h1, h2⟩ := find_some_mem hf
    obtain ⟨i, hi⟩ := List.mem_iff_getElem?.1 h1
    obtain ⟨j, hj⟩ := List.mem_iff_getElem?.1 hx
    obtain ⟨hi1, hi2⟩ := List.getElem?_eq_some_iff.1 hi
    obtain ⟨hj1, hj2⟩ := List.getElem?_eq_some_iff.1 hj
    rcases Nat.lt_trichotomy i j with h' | h' | h'
    · have := List.pairwise_iff_getElem.1 h i j hi1 hj1 h'
      rw [hi2, hj2] at this; exact absurd h2 this
    · subst h'; rw [← hi2, ← hj2]
    · have := List.pairwise_iff_getElem.1 h j i hj1 hi1 h'
      rw [hi2, hj2] at this; exact absurd h2.symm this

theorem substM_val {M : List Bd} (h : MOk M) (v : Int) : val (substM M) v = val M v := by
  unfold val bdT
  rcases hf : findB M v with _ | x
  · have hn : findB (substM M) v = none := find_none_iff.2 fun z hz => find_none_iff.1 hf z (substM_mem hz).1
    rw [hn]
  · obtain ⟨h1, h2⟩ := find_some_mem hf
    by_cases hs : selfB x
    · have hn : findB (substM M) v = none := find_none_iff.2 fun z hz e => by
        obtain ⟨h3, h4⟩ := substM_mem hz
        have := findB_uniq h.nd h3
        rw [e, hf] at this
        injection this with this
        subst this
        exact h4 hs
      rw [hn, Option.map_none, Option.getD_none, Option.map_some, Option.getD_some, self_eq.1 hs, h2]
    · have := find_mem (substM_lt h) (substM_of h1 hs)
      rw [h2] at this
      rw [this]

/-- x put into a row at a place. -/
def insAt {α : Type} (j : Nat) (S : List α) (x : α) : List α := S.take j ++ x :: S.drop j

theorem insAt_len {α : Type} (j : Nat) (S : List α) (x : α) : (insAt j S x).length = S.length + 1 := by
  unfold insAt
  rw [List.length_append, List.length_cons, List.length_take, List.length_drop]
  omega

theorem insAt_end {α : Type} (S : List α) (x : α) : insAt S.length S x = S ++ [x] := by unfold insAt; simp

theorem insAt_at {α : Type} {j : Nat} {S : List α} {x : α} (h : j ≤ S.length) : (insAt j S x)[j]? = some x := by
  unfold insAt
  rw [List.getElem?_append_right (by simp; omega)]
  simp [Nat.min_eq_left h]

theorem insAt_prev {α : Type} {j : Nat} {S : List α} {x : α} (h : j < S.length) : (insAt (j + 1) S x)[j]? = S[j]? := by
  unfold insAt
  rw [List.getElem?_append_left (by simp; omega), List.getElem?_take, if_pos (by omega)]

theorem insAt_swap {α : Type} {j : Nat} {S : List α} {x y : α} (hy : S[j]? = some y) : ((insAt (j + 1) S x).set (j + 1) y).set j x = insAt j S x := by
  obtain ⟨hj, hy'⟩ := List.getElem?_eq_some_iff.1 hy
  apply List.ext_getElem?
  intro t
  have e1 : (S.take (j + 1)).length = j + 1 := by simp; omega
  have e0 : (S.take j).length = j := by simp; omega
  rw [List.getElem?_set, List.getElem?_set]
  simp only [List.length_set, insAt_len]
  unfold insAt
  by_cases h1 : j = t
  · subst h1
    rw [if_pos rfl, if_pos (by omega), List.getElem?_append_right (by omega), e0]
    simp
  · rw [if_neg h1]
    by_cases h2 : j + 1 = t
    · subst h2
      rw [if_pos rfl, if_pos (by omega), List.getElem?_append_right (by omega), e0, show j + 1 - j = 0 + 1 by omega, List.getElem?_cons_succ, List.getElem?_drop, Nat.add_zero, hy]
    · rw [if_neg h2]
      by_cases h3 : t < j
      · rw [List.getElem?_append_left (by omega), List.getElem?_append_left (by omega), List.getElem?_take, List.getElem?_take, if_pos (by omega), if_pos (by omega)]
      · rw [List.getElem?_append_right (by omega), List.getElem?_append_right (by omega), e1, e0, show t - (j + 1) = (t - (j + 2)) + 1 by omega, show t - j = (t - (j + 1)) + 1 by omega, List.getElem?_cons_succ, List.getElem?_cons_succ, List.getElem?_drop, List.getElem?_drop]
        congr 1; omega

/-- It is sorted again, once all that is behind it is greater, and what is ahead not. -/
theorem insAt_sorted {S : List Bd} {x : Bd} {j : Nat} (hjl : j ≤ S.length) (hs : S.Pairwise fun a b => a.v ≤ b.v) (hgt : ∀ y ∈ S.drop j, x.v < y.v) (hle : ∀ y, j ≠ 0 → S[j - 1]? = some y → y.v ≤ x.v) : (insAt j S x).Pairwise (fun a b => a.v ≤ b.v) ∧ (insAt j S x).Perm (S ++ [x]) := by
  have h0 : (S.take j ++ S.drop j).Pairwise fun a b => a.v ≤ b.v := by rwa [List.take_append_drop]
  obtain ⟨h1, h2, h3⟩ := List.pairwise_append.1 h0
  refine ⟨?_, ?_⟩
  · unfold insAt
    rw [List.pairwise_append]
    refine ⟨h1, List.pairwise_cons.2 ⟨fun y hy => Int.le_of_lt (hgt y hy), h2⟩, fun a ha b hb => ?_⟩
    rcases List.mem_cons.1 hb with rfl | hb
    · obtain ⟨i, hi⟩ := List.mem_iff_getElem?.1 ha
      obtain ⟨hi1, hi2⟩ := List.getElem?_eq_some_iff.1 hi
      have hi3 := hi1
      rw [List.length_take] at hi3
      rw [List.getElem_take] at hi2
      have hj : j ≠ 0 := by omega
      have hl := hle _ hj (List.getElem?_eq_getElem (show j - 1 < S.length by omega))
      rcases Nat.lt_or_ge i (j - 1) with e | e
      · have := List.pairwise_iff_getElem.1 hs i (j - 1) (by omega) (by omega) e
        rw [hi2] at this; omega
      · obtain rfl : i = j - 1 := by omega
        rw [hi2] at hl; exact hl
    · exact h3 a ha b hb
  · unfold insAt
    refine List.perm_middle.trans ?_
    rw [List.take_append_drop]
    exact (List.perm_append_singleton x S).symm

/-- What is sorted so is Subst. -/
theorem substM_eq {M S : List Bd} (h : MOk M) (hs : S.Pairwise fun a b => a.v ≤ b.v) (hp : S.Perm (M.filter notSelf)) : S = substM M := by
  have h1 : S.Perm (substM M) := hp.trans ((srtM_perm M).symm.filter _)
  have hn : S.Pairwise fun a b => a.v ≠ b.v := ((hp.trans ((srtM_perm M).symm.filter _)).pairwise_iff (fun {_ _} e => Ne.symm e)).2 ((substM_lt h).imp fun h => by omega)
  have hl : S.Pairwise fun a b => a.v < b.v := hs.imp₂ (fun h1 h2 => by omega) hn
  exact List.Perm.eq_of_pairwise (le := fun x y : Bd => x.v < y.v) (fun x y _ _ h1 h2 => by omega) hl (substM_lt h) h1

end Go.Proofs.Ytglfjmbclimeeaa

/- match: Subst, walked. -/

namespace Go.Proofs.Ytglfjmbclimeeaa

open Go.RowKit Go.Shelf Go.Maps
set_option maxRecDepth 100000

theorem CmpI.on {n0 : Nat} {wr w' : World} {L : List Bd} {v : Value} {l : List Bi} (h : CmpI n0 wr L v l) (hb : Below wr.heap.size wr w') : CmpI n0 w' L v l :=
  ⟨h.key, (h.row.keep (fun g e => hb.block g (row_lt h.row.row g e).2) (fun g e => hb.block g e.2.1)).wide fun _ e => ⟨e.1, Nat.lt_of_lt_of_le e.2.1 hb.size, e.2.2⟩⟩

theorem self_iff {x : Bd} (hp : plainT x.t = true) (hv : 0 ≤ x.v) : selfB x ↔ x.t.fn = -1 - x.v := by
  unfold selfB
  refine ⟨fun h => h.1, fun h => ⟨h, ?_⟩⟩
  obtain ⟨v, t⟩ := x
  obtain ⟨f, xs⟩ := t
  simp only [Tm.fn, Tm.args] at h hp hv ⊢
  rw [plainT, decide_eq_false (show ¬ 0 ≤ f by omega)] at hp
  simp at hp
  rw [hp.2]; rfl

theorem subst_nil (w : World) : Calls Try.prog 18 #[.pointer none] w fun e w' => e = .returned (.slice none 0 0) ∧ w' = w := by
  go_enter Try.func18, Try.ntmps18
  go_wp2_with (first
    | (go_at_call 33; refine (none_nil w).mono ?_; go_must (rintro e w1 ⟨rfl, rfl⟩))
    | fail)
  go_ret
  exact ⟨rfl, rfl⟩

set_option maxHeartbeats 4000000 in
theorem msubst_any (bx bm : Nat) (S : Nat → Prop) (v : Value) (l : List Bi) (w : World) (hM : MatW w S bx bm v l) (hl : l.length ≤ 1099511627776) (hsm : ∀ x ∈ l, x.t.size ≤ 4398046511104) :
    Calls Try.prog 18 #[.pointer (some ⟨bx, 0, none⟩)] w fun e w' => ∃ A c, e = .returned (.slice A (substM (bdsM l)).length c) ∧ Binds w' (· < w'.heap.size) A (substM (bdsM l)) ∧ Below w.heap.size w w' := by
  obtain ⟨i0, hi, hz0, hz1, hz2⟩ := info_parts info_bind
  obtain ⟨Av, cv, rfl⟩ := hM.slice
  have hbox := hM.box
  obtain ⟨b0, b1, _, _⟩ := cells_two hbox
  have hbxl := hM.lt bx (hM.own bx (.inl rfl))
  have hbml := hM.lt bm (hM.own bm (.inr (.inl rfl)))
  have q0 := heap_alloc_new w (.cells #[.slice Av l.length cv] 53)
  obtain ⟨W, hW⟩ : ∃ W, w.alloc (.cells #[.slice Av l.length cv] 53) = W := ⟨_, rfl⟩
  have hBW : Below w.heap.size w W := by rw [← hW]; exact (Below.refl _ _).alloc (Nat.le_refl _) _
  rw [hW] at q0
  have hRW : IntsR W 0 (.slice Av l.length cv) (l.map Bi.v) := hM.row.on hBW
  have hSV := sortedV_any w.heap.size (l.map Bi.v) (.slice Av l.length cv) W q0 hRW (by rw [List.length_map]; omega)
  have hkeys : ((l.map Bi.v).mergeSort fun x y => decide (x ≤ y)) = (srtM (bdsM l)).map Bd.v := by
    rw [← srtM_keys]
    unfold bdsM
    rw [List.map_map]; rfl
  rw [hkeys] at hSV
  obtain ⟨Ms, hMs⟩ : ∃ Ms, srtM (bdsM l) = Ms := ⟨_, rfl⟩
  have hMl : Ms.length = l.length := by rw [← hMs, (srtM_perm _).length_eq]; unfold bdsM; rw [List.length_map]
  have hsub : substM (bdsM l) = Ms.filter notSelf := by unfold substM; rw [hMs]
  rw [hMs] at hSV
  rw [hsub]
  have hat : ∀ (k : Nat) (x : Bd), Ms[k]? = some x → ∃ y ∈ l, y.bd = x ∧ biV l x.v = some y.tv := fun k x hx => by
    have hm : x ∈ bdsM l := (srtM_perm _).mem_iff.1 (by rw [hMs]; exact List.mem_of_getElem? hx)
    exact biV_some (findB_uniq hM.ok.nd hm)
  have HM := Lib.hid hM
  have HSV := Lib.hid hSV
  have HW := Lib.hid hW
  have Hat := Lib.hid hat
  have Hbox := Lib.hid hbox
  have Hml := Lib.hid hMl
  have hMn : Ms.length ≤ 1099511627776 := by omega
  clear hM hSV hW hat hbox q0 hRW hkeys hMs hsub hMl
  go_enter Try.func18, Try.ntmps18
  go_wp2_with (first
    | (go_at_call 33; refine (none_no bx bm _ w Hbox.out).mono ?_; go_must (rintro e w1 ⟨rfl, rfl⟩))
    | (go_at_call 41; refine (values_any Av l.length cv _).mono ?_; go_must (rintro e w2 ⟨rfl, hw2⟩; rw [HW.out] at hw2; subst hw2))
    | (go_at_call 40; with_reducible refine HSV.out.mono ?_; go_must (rintro e w3 ⟨vk, rfl, hIk, hb3⟩; obtain ⟨Ak, ck, hvk⟩ := row_slice hIk.row; subst hvk; rw [List.length_map] at *))
    | fail)
  have hBw3 : Below w1.heap.size w1 w3 := hBW.trans (hb3.mono hBW.size)
  have HI0 : Hid (∃ q, CmpI w3.heap.size w3 ((Ms.take 0).filter notSelf) (.slice none 0 0) q) := Lib.hid ⟨[], by simp, RowB.nil_ _ _ _⟩
  have HIk := Lib.hid hIk
  clear hIk hb3
  go_loopw [3, 18] (fun s i wr => ∃ k : Nat, k ≤ Ms.length ∧ i = .int .i64 (k : Int) ∧ Below w3.heap.size w3 wr ∧ Hid (∃ q, CmpI w3.heap.size wr ((Ms.take k).filter notSelf) s q)) (fun _ i _ => Ms.length - (intOf i).toNat)
  case atStart => exact ⟨0, Nat.zero_le _, rfl, Below.refl _ _, HI0⟩
  case round =>
    obtain ⟨k, hk, rfl, hBr, HR⟩ := hrel
    have hBw : Below w1.heap.size w1 wr := hBw3.trans (hBr.mono hBw3.size)
    by_cases hlt : k < Ms.length
    · obtain ⟨x, hx⟩ : ∃ x, Ms[k]? = some x := ⟨_, List.getElem?_eq_getElem hlt⟩
      obtain ⟨y, hy, rfl, hyV⟩ := Hat.out k x hx
      obtain ⟨g, c', hvs, hg, hc⟩ := HIk.out.get (i := k) (x := y.v) (by rw [List.getElem?_map, hx]; rfl)
      rw [List.length_map] at hvs
      injection hvs with hv1 _ hv3
      subst hv1; subst hv3
      have e0 := cell_on hBr hg hc
      have hfx := HM.out.fx y hy
      have hy64 : I64 y.v := hfx.iv
      have hyb : y.bd ∈ bdsM l := List.mem_map.2 ⟨y, hy, rfl⟩
      have hge : 0 ≤ y.v := HM.out.ok.ge _ hyb
      have hpl : plainT y.t = true := HM.out.ok.plain _ hyb
      have hbr := (hBw.block bx hbxl).trans Hbox.out
      obtain ⟨d0, d1, _, _⟩ := cells_two hbr
      have hlk := (HM.out.map.kept (hBw.block bm hbml)).look1 hy64
      have hyV' : biV l y.v = some y.tv := hyV
      rw [hyV', Option.getD_some] at hlk
      simp only [Bi.tv] at hlk
      have hwrp : IntKind.i64.wrap (-1 - y.v) = -1 - y.v := by rw [IntKind.wrap_i64]; have := hy64.1; have := hy64.2; omega
      have hself := self_iff (x := y.bd) hpl hge
      have hfl : (Ms.take (k + 1)).filter notSelf = (Ms.take k).filter notSelf ++ (if notSelf y.bd = true then [y.bd] else []) := by
        rw [List.take_add_one, hx, List.filter_append]
        simp only [Option.toList, List.filter_cons, List.filter_nil]
      have Hfl := Lib.hid hfl
      obtain ⟨W6, hW6⟩ : ∃ W6, wr.alloc (.cells #[.int .i64 y.t.fn, .slice y.A y.t.args.length y.c] 31) = W6 := ⟨_, rfl⟩
      have hB6 : Below wr.heap.size wr W6 := by rw [← hW6]; exact (Below.refl _ _).alloc (Nat.le_refl _) _
      have q6 := heap_alloc_new wr (.cells #[.int .i64 y.t.fn, .slice y.A y.t.args.length y.c] 31)
      rw [hW6] at q6
      obtain ⟨z0, z1, _, _⟩ := cells_two q6
      have hw6 : wr.heap.size < W6.heap.size := (Array.getElem?_eq_some_iff.1 q6).1
      have HW6 := Lib.hid hW6
      have hBw6 : Below w1.heap.size w1 W6 := hBw.trans (hB6.mono hBw.size)
      have hB36 : Below w3.heap.size w3 W6 := hBr.trans (hB6.mono hBr.size)
      have hw3s := hBr.size
      by_cases hs : y.t.fn = -1 - y.v
      · have hne : ((y.t.fn : Int) != -1 - y.v) = false := by simp [hs]
        have hsb : notSelf y.bd = false := by unfold notSelf; rw [decide_eq_true (hself.2 hs)]; rfl
        have HR2 : Hid (∃ q, CmpI w3.heap.size W6 ((Ms.take (k + 1)).filter notSelf) u3 q) := Lib.hid (by
          rw [Hfl.out, if_neg (by rw [hsb]; simp), List.append_nil]
          obtain ⟨q, hq⟩ := HR.out
          exact ⟨q, hq.on hB6⟩)
        clear hs hx hfl hyV hyV' hself hsb hW6 q6 hfx hpl HR
        go_wp2
        rw [HW6.out]
        go_roundw
        case rel => exact ⟨k + 1, by omega, by go_num, hB36, HR2⟩
        case measure => simp [intOf]; omega
      · have hne : ((y.t.fn : Int) != -1 - y.v) = true := by simp [hs]
        have hsb : notSelf y.bd = true := by unfold notSelf; rw [decide_eq_false (fun h => hs (hself.1 h))]; rfl
        have hCop := cop_at_yes hpl (copied_any y.t (hsm y hy) y.A y.c W6 hfx.it ((hfx.args.keep fun g e => hBw6.block g (HM.out.lt g e.1)).args fun g e => Nat.lt_of_lt_of_le (HM.out.lt g e.1) hBw6.size))
        have HCop := Lib.hid hCop
        obtain ⟨q, hq⟩ := HR.out
        have hq6 := hq.on hB6
        have hql := hq6.len
        have hrow6 := hq6.row.row
        have hfn : ((Ms.take k).filter notSelf).length ≤ 1099511627776 := Nat.le_trans (List.length_filter_le _ _) (by rw [List.length_take]; omega)
        obtain ⟨As, cs, hsv⟩ := row_slice hrow6
        obtain ⟨n, hn⟩ : ∃ n, q.length = n := ⟨_, rfl⟩
        rw [hn] at hsv hrow6
        have hnl : n ≤ 1099511627776 := by omega
        have hrl := row_lt hrow6
        have Hq6 := Lib.hid hq6
        have Hrow6 := Lib.hid hrow6
        have Hn := Lib.hid hn
        have Hql := Lib.hid hql
        have hit := hfx.it
        have Hst : Hid ((Ms.take (k + 1)).filter notSelf = (Ms.take k).filter notSelf ++ [y.bd]) := Lib.hid (by rw [Hfl.out, if_pos hsb])
        subst hsv
        clear hs hx hfl hyV hyV' hself hsb hW6 q6 hfx hpl HR hq hq6 hql hrow6 hn hCop
        go_wp2_with (first
          | (go_at_call 42; rw [HW6.out]; with_reducible refine HCop.out.mono ?_; go_must (rintro e w4 ⟨A4, c4, rfl, hO4, hb4⟩; have HO4 := Lib.hid hO4; have hs4 := hb4.size; clear hO4))
          | (at_builtin
             go_must (
             refine wpList_append_own_at _ rfl _ _ 41 rfl w3.heap.size 51 i0 (.agg #[.int .i64 0, .int .i64 0, .slice none 0 0]) 3 40 Try.underlying41 hi hz0 hz1 hz2 rfl (by decide) (.slice As n cs) n _ rfl (row_keep Hrow6.out fun g e => (Below.heap_alloc _ _ g (by have := (hrl g e).2; simp; omega)).trans ((Below.heap_alloc w4 _ g (by have := (hrl g e).2; omega)).trans (hb4.block g (hrl g e).2))) ⟨w4.heap.size + 1, 0, none⟩ 1 1 [.int .i64 y.v, .int .i64 y.t.fn, .slice A4 y.t.args.length c4] rfl rfl (by have := cells_new_bind (w4.alloc (.cells #[.int .i64 y.t.fn, .slice A4 y.t.args.length c4] 31)) (.int .i64 y.v) (.int .i64 y.t.fn) (.slice A4 y.t.args.length c4) 51; rw [show (w4.alloc (.cells #[.int .i64 y.t.fn, .slice A4 y.t.args.length c4] 31)).heap.size = w4.heap.size + 1 by simp] at this; exact this) (by simp [Value.oneCell']) (by unfold maxLen; omega) (by omega) (by simp; omega) ?_
             intro v5 w5 hown5 hgr5 _ hat5
             have Hown5 := Lib.hid hown5
             have Hgr5 := Lib.hid hgr5
             have Hat5 := Lib.hid hat5
             obtain ⟨A5, c5, hv5⟩ := row_slice hown5
             subst hv5
             clear hown5 hgr5 hat5))
          | fail)
        obtain ⟨W7, hW7⟩ : ∃ W7, w4.alloc (.cells #[.int .i64 y.t.fn, .slice A4 y.t.args.length c4] 31) = W7 := ⟨_, rfl⟩
        have hB47 : Below w4.heap.size w4 W7 := by rw [← hW7]; exact (Below.refl _ _).alloc (Nat.le_refl _) _
        have hb67 : Below W6.heap.size W6 W7 := hb4.trans (hB47.mono hs4)
        rw [hW7] at Hgr5 Hat5
        have hnx := Hq6.out.next (x := y.bd) (by rw [← Hql.out]; exact Hn.out) hB36.size hy64 hit ((HO4.out.on hB47 (Nat.le_refl _)).wide (Nat.le_refl _) hB47.size) hb67 Hown5.out Hgr5.out Hat5.out
        rw [← Hst.out] at hnx
        have hB5 : Below w3.heap.size w3 w5 := ((hB36.trans (hb67.mono hB36.size)).alloc (by have := hb67.size; have := hB36.size; omega) _).grown Hgr5.out (by have := hb67.size; have := hB36.size; simp; omega) (fun g e => (hrl g e).1)
        have Hnx := Lib.hid (show ∃ q, CmpI w3.heap.size w5 ((Ms.take (k + 1)).filter notSelf) (.slice A5 (n + 1) c5) q from ⟨_, hnx⟩)
        clear hnx
        go_roundw
        case rel => exact ⟨k + 1, by omega, by go_num, hB5, Hnx⟩
        case measure => simp [intOf]; omega
    · obtain rfl : k = Ms.length := by omega
      rw [List.take_length] at HR
      obtain ⟨q, hq⟩ := HR.out
      have hql := hq.len
      have hqn : q.length ≤ 9223372036854775807 := by rw [hql]; exact Nat.le_trans (List.length_filter_le _ _) (by omega)
      obtain ⟨A, c, hv, hBd⟩ := hq.row.binds (M := (· < wr.heap.size)) hqn (fun g e => (row_lt hq.row.row g e).2) (fun g e => e.2.1)
      rw [hq.key] at hBd
      rw [hql] at hv
      subst hv
      have HBd := Lib.hid hBd
      clear HR hq hql hqn hBd
      go_wp2
      go_ret
      exact ⟨A, c, rfl, HBd.out, hBw⟩

end Go.Proofs.Ytglfjmbclimeeaa

/- match: Match, Variant, walked. -/

namespace Go.Proofs.Ytglfjmbclimeeaa

open Go.RowKit Go.Shelf Go.Maps
set_option maxRecDepth 100000

theorem wk_sz (p : Tm) : ∀ (M : List Bd) (u : Tm) (M' : List Bd), wkT p M u = some M' → ∀ x ∈ M', x ∈ M ∨ x.t.size ≤ u.size := by
  refine Tm.ind (P := fun p => ∀ (M : List Bd) (u : Tm) (M' : List Bd), wkT p M u = some M' → ∀ x ∈ M', x ∈ M ∨ x.t.size ≤ u.size) (fun f xs ih => ?_) p
  intro M u M' h x hx
  by_cases hf : f < 0
  · rw [wkT_var hf] at h
    split at h
    · unfold bndM at h
      split at h
      · split at h
        · injection h with h; subst h; exact .inl hx
        · cases h
      · split at h
        · injection h with h; subst h
          rcases List.mem_append.1 hx with hx | hx
          · exact .inl hx
          · simp at hx; subst hx; exact .inr (Nat.le_refl _)
        · cases h
    · cases h
  · rw [wkT_sym hf] at h
    split at h
    · have key : ∀ (ys us : List Tm) (M M' : List Bd), (∀ t ∈ ys, t ∈ xs) → wkL ys M us = some M' → ∀ x ∈ M', x ∈ M ∨ x.t.size ≤ sizes us := by
        intro ys
        induction ys with
        | nil =>
          intro us M M' _ h x hx
          simp only [wkL] at h
          injection h with h; subst h; exact .inl hx
        | cons y ys ihy =>
          intro us M M' hsub h x hx
          rcases us with _ | ⟨u, us⟩
          · simp only [wkL] at h
            injection h with h; subst h; exact .inl hx
          · simp only [wkL] at h
            rcases hm : wkT y M u with _ | M1
            · rw [hm] at h; cases h
            · rw [hm] at h
              rcases ihy us M1 M' (fun t ht => hsub t (by simp [ht])) h x hx with h1 | h1
              · rcases ih y (hsub y (by simp)) M u M1 hm x h1 with h2 | h2
                · exact .inl h2
                · exact .inr (by simp only [sizes]; omega)
              · exact .inr (by simp only [sizes]; omega)
      rcases key xs u.args M M' (fun t h => h) h x hx with h1 | h1
      · exact .inl h1
      · refine .inr ?_
        have : u.size = sizes u.args + 1 := by cases u; simp [Tm.size, Tm.args]
        omega
    · cases h

theorem bds_size {l : List Bi} {n : Nat} (h : ∀ y ∈ bdsM l, y.t.size ≤ n) : ∀ x ∈ l, x.t.size ≤ n := fun x hx => h x.bd (List.mem_map.2 ⟨x, hx, rfl⟩)

/-- New's contract. -/
theorem new_at (w : World) : Calls Try.prog 8 #[] w fun e w' => ∃ bx bm S, e = .returned (.pointer (some ⟨bx, 0, none⟩)) ∧ MatW w' S bx bm (.slice none 0 0) [] ∧ (∀ g, S g → w.heap.size ≤ g) ∧ Below w.heap.size w w' :=
  (new_any w).mono fun e w' ⟨he, hw⟩ => by
    subst hw
    exact ⟨w.heap.size + 1, w.heap.size, _, he, MatW.new_ w, fun g e => e.1, ((Below.refl _ _).alloc (Nat.le_refl _) _).alloc (by simp) _⟩

/-- Term of a new matcher. -/
theorem term_new (p u : Tm) (A B : Option Addr) (c d : Nat) (n : Nat) (w : World) (hnum : p.size ≤ 1099511627776) (husz : u.size ≤ 4398046511104) (hp64 : I64 p.fn) (hu64 : I64 u.fn) (hA : Args w n A p.args) (hB : Args w n B u.args) (w1 : World) (bx bm : Nat) (S : Nat → Prop)
    (hn : n ≤ w.heap.size) (hM : MatW w1 S bx bm (.slice none 0 0) []) (hS : ∀ g, S g → n ≤ g) (hb : Below n w w1) :
    Calls Try.prog 9 #[.pointer (some ⟨bx, 0, none⟩), .agg #[.int .i64 p.fn, .slice A p.args.length c], .agg #[.int .i64 u.fn, .slice B u.args.length d]] w1 fun e w' => e = .returned (.bool (matB p u)) ∧ Below n w w' ∧ ∃ v' l' S', MatW w' S' bx bm v' l' ∧ (∀ g, S' g → n ≤ g) ∧ bdsM l' = trmM [] p u := by
  have hN : ∀ g, g < n → g < w1.heap.size ∧ ¬ OwnM bx bm (.slice none 0 0) g := fun g e => ⟨by have := hb.size; omega, fun e2 => by have := hS g (hM.own g e2); omega⟩
  refine (mterm_any p u A B c d bx bm S (· < n) (.slice none 0 0) [] w1 hM hN (by simpa using hnum) husz hp64 hu64 ((hA.toN).keep fun g e => hb.block g e) ((hB.toN).keep fun g e => hb.block g e)).mono ?_
  rintro e w' ⟨v', l', h1, h2, h3⟩
  refine ⟨h1, hb.trans (h3.k.below (Nat.le_trans hn hb.size) fun g e e2 => (hN g e).2 e2), v', l', _, h3.m, fun g e => ?_, h2⟩
  rcases e with e | e
  · exact hS g e
  · have := hb.size; omega

/-- What Match answers. -/
def MchPost (p u : Tm) (w : World) (e : Ending) (w' : World) : Prop := Below w.heap.size w w' ∧
  (∀ M, wkT p [] u = some M → ∃ A c, e = .returned (.tuple #[.slice A (substM M).length c, .bool true]) ∧ Binds w' (· < w'.heap.size) A (substM M)) ∧
  (wkT p [] u = none → e = .returned (.tuple #[.slice none 0 0, .bool false]))

set_option maxHeartbeats 2000000 in
theorem mmatch_any (p u : Tm) (A B : Option Addr) (c d : Nat) (w : World) (hnum : p.size ≤ 1099511627776) (husz : u.size ≤ 4398046511104) (hp64 : I64 p.fn) (hu64 : I64 u.fn) (hA : Args w w.heap.size A p.args) (hB : Args w w.heap.size B u.args) :
    Calls Try.prog 21 #[.agg #[.int .i64 p.fn, .slice A p.args.length c], .agg #[.int .i64 u.fn, .slice B u.args.length d]] w (MchPost p u w) := by
  obtain ⟨W, hW⟩ : ∃ W, (w.alloc (.cells #[.int .i64 p.fn, .slice A p.args.length c] 31)).alloc (.cells #[.int .i64 u.fn, .slice B u.args.length d] 31) = W := ⟨_, rfl⟩
  have hBW : Below w.heap.size w W := by rw [← hW]; exact ((Below.refl _ _).alloc (Nat.le_refl _) _).alloc (by simp) _
  have hWz : W.heap.size = w.heap.size + 2 := by rw [← hW]; simp
  have q1 := heap_alloc_new (w.alloc (.cells #[.int .i64 p.fn, .slice A p.args.length c] 31)) (.cells #[.int .i64 u.fn, .slice B u.args.length d] 31)
  have q0 := (Below.heap_alloc (w.alloc (.cells #[.int .i64 p.fn, .slice A p.args.length c] 31)) (.cells #[.int .i64 u.fn, .slice B u.args.length d] 31) w.heap.size (by simp)).trans (heap_alloc_new w _)
  rw [hW] at q0 q1
  rw [show (w.alloc (.cells #[.int .i64 p.fn, .slice A p.args.length c] 31)).heap.size = w.heap.size + 1 by simp] at q1
  have HX := Lib.hid (fun (w' : World) (hb : Below W.heap.size W w') => (show (w'.cell? ⟨w.heap.size, 0, none⟩ = some (.int .i64 p.fn) ∧ w'.cell? ⟨w.heap.size, 1, none⟩ = some (.slice A p.args.length c)) ∧ w'.cell? ⟨w.heap.size + 1, 0, none⟩ = some (.int .i64 u.fn) ∧ w'.cell? ⟨w.heap.size + 1, 1, none⟩ = some (.slice B u.args.length d) from by
    obtain ⟨a, b, _, _⟩ := cells_two ((hb.block _ (by omega)).trans q0)
    obtain ⟨a', b', _, _⟩ := cells_two ((hb.block _ (by omega)).trans q1)
    exact ⟨⟨a, b⟩, a', b'⟩))
  have hAW : Args W W.heap.size A p.args := hA.on hBW
  have hBW' : Args W W.heap.size B u.args := hB.on hBW
  have hTrm := fun (w1 : World) (bx bm : Nat) (S : Nat → Prop) => term_new p u A B c d W.heap.size W hnum husz hp64 hu64 hAW hBW' w1 bx bm S (Nat.le_refl _)
  have HW := Lib.hid hW
  have HTrm := Lib.hid hTrm
  have HNw := Lib.hid (new_at W)
  clear hW q0 q1 hA hB hAW hBW' hTrm
  rcases hr : wkT p [] u with _ | M
  · have hB0 := Lib.hid (show matB p u = false by unfold matB; rw [hr]; rfl)
    have Hr := Lib.hid hr
    clear hr
    go_enter Try.func21, Try.ntmps21
    go_upto_region 1 with fail
    rw [HW.out]
    go_wp2_with (first
      | (go_at_call 8; with_reducible refine HNw.out.mono ?_; go_must (rintro e w1 ⟨bx, bm, S, rfl, hM1, hS1, hb1⟩; have HT1 := Lib.hid (HTrm.out w1 bx bm S hM1 hS1 hb1); obtain ⟨⟨x0, x1⟩, y0, y1⟩ := HX.out w1 hb1; clear hM1 hS1))
      | (go_at_call 9; with_reducible refine HT1.out.mono ?_; go_must (rintro e w2 ⟨rfl, hb2, _⟩; rw [hB0.out]))
      | fail)
    exact bodyPost_ret (v := .tuple #[.slice none 0 0, .bool false]) (by simp [results, Try.results21, go_sem]) rfl ⟨hBW.trans (hb2.mono hBW.size), (fun M h => (by rw [Hr.out] at h; cases h)), fun _ => rfl⟩
  · have hB0 := Lib.hid (show matB p u = true by unfold matB; rw [hr]; rfl)
    have Hr := Lib.hid hr
    have hM0 := Lib.hid (show trmM [] p u = M by unfold trmM; rw [hr]; rfl)
    have hMl : M.length ≤ 1099511627776 := by
      have := ((wk_mt p [] u .nil_).ext M hr).2.2
      simp at this; omega
    have HMs := Lib.hid (fun x (hx : x ∈ M) => (show x.t.size ≤ 4398046511104 from by
      rcases wk_sz p [] u M hr x hx with h | h
      · simp at h
      · omega))
    clear hr
    go_enter Try.func21, Try.ntmps21
    go_upto_region 1 with fail
    rw [HW.out]
    go_wp2_with (first
      | (go_at_call 8; with_reducible refine HNw.out.mono ?_; go_must (rintro e w1 ⟨bx, bm, S, rfl, hM1, hS1, hb1⟩; have HT1 := Lib.hid (HTrm.out w1 bx bm S hM1 hS1 hb1); obtain ⟨⟨x0, x1⟩, y0, y1⟩ := HX.out w1 hb1; clear hM1 hS1))
      | (go_at_call 9; with_reducible refine HT1.out.mono ?_; go_must (rintro e w2 ⟨rfl, hb2, v2, l2, S2, hM2, hS2, hl2⟩; rw [hB0.out]; rw [hM0.out] at hl2; have hl2l := congrArg List.length hl2; unfold bdsM at hl2l; rw [List.length_map] at hl2l; have HSb := Lib.hid (msubst_any bx bm S2 v2 l2 w2 hM2 (by omega) (bds_size (fun y hy => HMs.out y (by rw [← hl2]; exact hy)))); rw [hl2] at HSb; clear hM2 hS2 hl2l))
      | (go_at_call 18; with_reducible refine HSb.out.mono ?_; go_must (rintro e w3 ⟨A3, c3, rfl, hBd3, hb3⟩))
      | fail)
    refine bodyPost_ret (v := .tuple #[.slice A3 (substM M).length c3, .bool true]) (by simp [results, Try.results21, go_sem]) rfl ⟨hBW.trans ((hb2.trans (hb3.mono hb2.size)).mono hBW.size), fun M' h => ?_, fun h => by rw [Hr.out] at h; cases h⟩
    rw [Hr.out] at h
    injection h with h
    subst h
    exact ⟨A3, c3, rfl, hBd3⟩

theorem match_no {p u : Tm} {v1 v2 : Value} {w : World} (h : Calls Try.prog 21 #[v1, v2] w (MchPost p u w)) (hr : wkT p [] u = none) : Calls Try.prog 21 #[v1, v2] w fun e w' => e = .returned (.tuple #[.slice none 0 0, .bool false]) ∧ Below w.heap.size w w' :=
  h.mono fun _ _ h => ⟨h.2.2 hr, h.1⟩

theorem match_yes {p u : Tm} {M : List Bd} {v1 v2 : Value} {w : World} (h : Calls Try.prog 21 #[v1, v2] w (MchPost p u w)) (hr : wkT p [] u = some M) : Calls Try.prog 21 #[v1, v2] w fun e w' => ∃ A c, e = .returned (.tuple #[.slice A (substM M).length c, .bool true]) ∧ Binds w' (· < w'.heap.size) A (substM M) ∧ Below w.heap.size w w' :=
  h.mono fun _ _ h => by
    obtain ⟨A, c, h1, h2⟩ := h.2.1 M hr
    exact ⟨A, c, h1, h2, h.1⟩

set_option maxHeartbeats 4000000 in
theorem mvariant_any (p u : Tm) (A B : Option Addr) (c d : Nat) (w : World) (hp : p.size ≤ 1099511627776) (hu : u.size ≤ 1099511627776) (hp64 : I64 p.fn) (hu64 : I64 u.fn) (hA : Args w w.heap.size A p.args) (hB : Args w w.heap.size B u.args) :
    Calls Try.prog 23 #[.agg #[.int .i64 p.fn, .slice A p.args.length c], .agg #[.int .i64 u.fn, .slice B u.args.length d]] w fun e w' => e = .returned (.bool (varB p u)) ∧ Below w.heap.size w w' := by
  obtain ⟨W, hW⟩ : ∃ W, (w.alloc (.cells #[.int .i64 p.fn, .slice A p.args.length c] 31)).alloc (.cells #[.int .i64 u.fn, .slice B u.args.length d] 31) = W := ⟨_, rfl⟩
  have hBW : Below w.heap.size w W := by rw [← hW]; exact ((Below.refl _ _).alloc (Nat.le_refl _) _).alloc (by simp) _
  have hWz : W.heap.size = w.heap.size + 2 := by rw [← hW]; simp
  have q1 := heap_alloc_new (w.alloc (.cells #[.int .i64 p.fn, .slice A p.args.length c] 31)) (.cells #[.int .i64 u.fn, .slice B u.args.length d] 31)
  have q0 := (Below.heap_alloc (w.alloc (.cells #[.int .i64 p.fn, .slice A p.args.length c] 31)) (.cells #[.int .i64 u.fn, .slice B u.args.length d] 31) w.heap.size (by simp)).trans (heap_alloc_new w _)
  rw [hW] at q0 q1
  rw [show (w.alloc (.cells #[.int .i64 p.fn, .slice A p.args.length c] 31)).heap.size = w.heap.size + 1 by simp] at q1
  have hX := (fun (w' : World) (hb : Below W.heap.size W w') => (show (w'.cell? ⟨w.heap.size, 0, none⟩ = some (.int .i64 p.fn) ∧ w'.cell? ⟨w.heap.size, 1, none⟩ = some (.slice A p.args.length c)) ∧ w'.cell? ⟨w.heap.size + 1, 0, none⟩ = some (.int .i64 u.fn) ∧ w'.cell? ⟨w.heap.size + 1, 1, none⟩ = some (.slice B u.args.length d) from by
    obtain ⟨a, b, _, _⟩ := cells_two ((hb.block _ (by omega)).trans q0)
    obtain ⟨a', b', _, _⟩ := cells_two ((hb.block _ (by omega)).trans q1)
    exact ⟨⟨a, b⟩, a', b'⟩))
  obtain ⟨⟨i0, i1⟩, j0, j1⟩ := hX W.drew (Below.drew (Below.refl _ _))
  have hAW : Args W W.heap.size A p.args := hA.on hBW
  have hBW' : Args W W.heap.size B u.args := hB.on hBW
  have hT1 := fun (w1 : World) (bx bm : Nat) (S : Nat → Prop) => term_new p u A B c d W.heap.size W hp (by omega) hp64 hu64 hAW hBW' w1 bx bm S (Nat.le_refl _)
  have hT2 := fun (w1 : World) (bx bm : Nat) (S : Nat → Prop) => term_new u p B A d c W.heap.size W hu (by omega) hu64 hp64 hBW' hAW w1 bx bm S (Nat.le_refl _)
  have hNw : ∀ w1, Below W.heap.size W w1 → Calls Try.prog 8 #[] w1 fun e w' => ∃ bx bm S, e = .returned (.pointer (some ⟨bx, 0, none⟩)) ∧ MatW w' S bx bm (.slice none 0 0) [] ∧ (∀ g, S g → W.heap.size ≤ g) ∧ Below W.heap.size W w' := fun w1 h1 => (new_at w1).mono fun e w' ⟨bx, bm, S, a, b, c, d⟩ => ⟨bx, bm, S, a, b, fun g e => Nat.le_trans h1.size (c g e), h1.trans (d.mono h1.size)⟩
  have HX := Lib.hid hX
  have HW := Lib.hid hW
  have HT1 := Lib.hid hT1
  have HT2 := Lib.hid hT2
  have HNw := Lib.hid hNw
  have hBd : Below W.heap.size W W.drew := Below.drew (Below.refl _ _)
  clear hW q0 q1 hA hB hAW hBW' hT1 hT2 hNw hX
  rcases h1 : matB p u with _ | _
  · have hres := Lib.hid (show varB p u = false by unfold varB; rw [h1]; rfl)
    have Hm := Lib.hid h1
    clear h1
    go_enter Try.func23, Try.ntmps23
    go_upto_region 1 with fail
    rw [HW.out]
    rename_i hK1
    refine wp_mono (Q := Exit.then (fun a' w' => a'.tmps.getD 4 undef = .bool false ∧ a'.defers = [] ∧ Below W.heap.size W w') (fun _ _ _ => False)) ?_ ?_
    · go_region_law
        (first
          | (go_simp
             go_at_call 8
             with_reducible refine (HNw.out _ hBd).mono ?_
             rintro e w1 ⟨bx, bm, S, rfl, hM1, hS1, hb1⟩
             have HT := Lib.hid (HT1.out w1 bx bm S hM1 hS1 hb1)
             obtain ⟨⟨x0, x1⟩, y0, y1⟩ := HX.out w1 hb1
             clear hM1 hS1
             dsimp only)
          | (go_simp
             go_at_call 9
             with_reducible refine HT.out.mono ?_
             rintro e w2 ⟨rfl, hb2, _⟩
             rw [Hm.out]
             have HN2 := Lib.hid (HNw.out w2 hb2)
             obtain ⟨⟨x2, x3⟩, y2, y3⟩ := HX.out w2 hb2
             dsimp only)
          | fail)
      all_goals first
        | exact ⟨rfl, rfl, hb2⟩
        | exact ⟨rfl, rfl, hb2⟩
    · rintro e a' w' hex
      cases e with
      | normal => ?_
      | _ => exact hex.elim
      obtain ⟨h4, hd, hb⟩ := hex
      exact hK1 _ _ (wp_ret (bodyPost_ret ((results_tmp rfl _ _ _).trans (by rw [h4])) hd ⟨ret_bool hres.out.symm, hBW.trans (hb.mono hBW.size)⟩))
  · rcases h2 : matB u p with _ | _
    · have hres := Lib.hid (show varB p u = false by unfold varB; rw [h1, h2]; rfl)
      have Hm := Lib.hid h1
      have Hm2 := Lib.hid h2
      clear h1 h2
      go_enter Try.func23, Try.ntmps23
      go_upto_region 1 with fail
      rw [HW.out]
      rename_i hK1
      refine wp_mono (Q := Exit.then (fun a' w' => a'.tmps.getD 4 undef = .bool false ∧ a'.defers = [] ∧ Below W.heap.size W w') (fun _ _ _ => False)) ?_ ?_
      · go_region_law
          (first
            | (go_simp
               go_at_call 8
               with_reducible refine (HNw.out _ hBd).mono ?_
               rintro e w1 ⟨bx, bm, S, rfl, hM1, hS1, hb1⟩
               have HT := Lib.hid (HT1.out w1 bx bm S hM1 hS1 hb1)
               obtain ⟨⟨x0, x1⟩, y0, y1⟩ := HX.out w1 hb1
               clear hM1 hS1
               dsimp only)
            | (go_simp
               go_at_call 9
               with_reducible refine HT.out.mono ?_
               rintro e w2 ⟨rfl, hb2, _⟩
               rw [Hm.out]
               have HN2 := Lib.hid (HNw.out w2 hb2)
               obtain ⟨⟨x2, x3⟩, y2, y3⟩ := HX.out w2 hb2
               dsimp only)
            | (go_simp
               go_at_call 8
               with_reducible refine HN2.out.mono ?_
               rintro e w3 ⟨bx3, bm3, S3, rfl, hM3, hS3, hb3⟩
               have HT3 := Lib.hid (HT2.out w3 bx3 bm3 S3 hM3 hS3 hb3)
               obtain ⟨⟨x4, x5⟩, y4, y5⟩ := HX.out w3 hb3
               clear hM3 hS3
               dsimp only)
            | (go_simp
               go_at_call 9
               with_reducible refine HT3.out.mono ?_
               rintro e w4 ⟨rfl, hb4, _⟩
               rw [Hm2.out]
               dsimp only)
            | fail)
        all_goals first
          | exact ⟨rfl, rfl, hb2⟩
          | exact ⟨rfl, rfl, hb4⟩
      · rintro e a' w' hex
        cases e with
        | normal => ?_
        | _ => exact hex.elim
        obtain ⟨h4, hd, hb⟩ := hex
        exact hK1 _ _ (wp_ret (bodyPost_ret ((results_tmp rfl _ _ _).trans (by rw [h4])) hd ⟨ret_bool hres.out.symm, hBW.trans (hb.mono hBW.size)⟩))
    · have hres := Lib.hid (show varB p u = true by unfold varB; rw [h1, h2]; rfl)
      have Hm := Lib.hid h1
      have Hm2 := Lib.hid h2
      clear h1 h2
      go_enter Try.func23, Try.ntmps23
      go_upto_region 1 with fail
      rw [HW.out]
      rename_i hK1
      refine wp_mono (Q := Exit.then (fun a' w' => a'.tmps.getD 4 undef = .bool true ∧ a'.defers = [] ∧ Below W.heap.size W w') (fun _ _ _ => False)) ?_ ?_
      · go_region_law
          (first
            | (go_simp
               go_at_call 8
               with_reducible refine (HNw.out _ hBd).mono ?_
               rintro e w1 ⟨bx, bm, S, rfl, hM1, hS1, hb1⟩
               have HT := Lib.hid (HT1.out w1 bx bm S hM1 hS1 hb1)
               obtain ⟨⟨x0, x1⟩, y0, y1⟩ := HX.out w1 hb1
               clear hM1 hS1
               dsimp only)
            | (go_simp
               go_at_call 9
               with_reducible refine HT.out.mono ?_
               rintro e w2 ⟨rfl, hb2, _⟩
               rw [Hm.out]
               have HN2 := Lib.hid (HNw.out w2 hb2)
               obtain ⟨⟨x2, x3⟩, y2, y3⟩ := HX.out w2 hb2
               dsimp only)
            | (go_simp
               go_at_call 8
               with_reducible refine HN2.out.mono ?_
               rintro e w3 ⟨bx3, bm3, S3, rfl, hM3, hS3, hb3⟩
               have HT3 := Lib.hid (HT2.out w3 bx3 bm3 S3 hM3 hS3 hb3)
               obtain ⟨⟨x4, x5⟩, y4, y5⟩ := HX.out w3 hb3
               clear hM3 hS3
               dsimp only)
            | (go_simp
               go_at_call 9
               with_reducible refine HT3.out.mono ?_
               rintro e w4 ⟨rfl, hb4, _⟩
               rw [Hm2.out]
               dsimp only)
            | fail)
        all_goals first
          | exact ⟨rfl, rfl, hb2⟩
          | exact ⟨rfl, rfl, hb4⟩
      · rintro e a' w' hex
        cases e with
        | normal => ?_
        | _ => exact hex.elim
        obtain ⟨h4, hd, hb⟩ := hex
        exact hK1 _ _ (wp_ret (bodyPost_ret ((results_tmp rfl _ _ _).trans (by rw [h4])) hd ⟨ret_bool hres.out.symm, hBW.trans (hb.mono hBW.size)⟩))

end Go.Proofs.Ytglfjmbclimeeaa

/- match: what the laws ask of a few terms, walked. -/

namespace Go.Proofs.Ytglfjmbclimeeaa

open Go.RowKit Go.Shelf
set_option maxRecDepth 100000

def leafT (f : Int) : Tm := .node f []

theorem args2 {w : World} {B g : Nat} {f h : Int} (hg : w.heap[g]? = some (.cells #[.int .i64 f, .slice none 0 0, .int .i64 h, .slice none 0 0] 31)) (hB : g < B) (hf : I64 f) (hh : I64 h) : Args w B (some ⟨g, 0, none⟩) [leafT f, leafT h] := by
  refine .row g 0 _ (fun _ => none) (fun _ => 0) hB (by simp) (fun i t e => ?_) (fun i t e => ?_) (fun i t e => ?_) (fun i t e => ?_)
  all_goals
    rcases i with _ | _ | i
    · simp at e; subst e
      first | exact hf | exact cells_n hg 0 _ rfl | exact cells_n hg 1 _ rfl | exact .nil _
    · simp at e; subst e
      first | exact hh | exact cells_n hg 2 _ rfl | exact cells_n hg 3 _ rfl | exact .nil _
    · simp at e

def wkP : Tm := .node 2 [leafT (-1), leafT (-2)]

def wkU : Tm := .node 2 [leafT 1, leafT (-1)]

def wkP2 : Tm := .node 2 [leafT (-1), leafT (-1)]

def wkU2 : Tm := .node 2 [leafT 1, leafT (-2)]

def wkM : List Bd := [⟨0, leafT 1⟩, ⟨1, leafT (-1)⟩]

theorem wkM_eq : wkT wkP [] wkU = some wkM := by rfl

theorem wkM_no : wkT wkP2 [] wkU2 = none := by rfl

theorem wkM_sub : substM wkM = wkM := by
  refine (substM_eq ((wk_mt wkP [] wkU .nil_).ext _ wkM_eq).1 ?_ ?_).symm
  · refine .cons (fun x hx => ?_) (.cons (fun x hx => by simp at hx) .nil)
    simp at hx; subst hx; decide
  · have : wkM.filter notSelf = wkM := by rfl
    rw [this]

theorem wkV_no : varB wkP wkU = false := by rfl

theorem wkB_get {w : World} {A : Option Addr} (h : Binds w (· < w.heap.size) A wkM) : ∃ b off, A = some ⟨b, off, none⟩ ∧ b < w.heap.size ∧ w.cell? ⟨b, off + 1, none⟩ = some (.int .i64 1) ∧ w.cell? ⟨b, off + 3 + 1, none⟩ = some (.int .i64 (-1)) := by
  obtain ⟨bb, off, A', c', hA1, h0⟩ := h.get (i := 0) (x := ⟨0, leafT 1⟩) rfl
  obtain ⟨bb2, off2, A'', c'', hA2, h1⟩ := h.get (i := 1) (x := ⟨1, leafT (-1)⟩) rfl
  rw [hA1] at hA2
  injection hA2 with hA2
  injection hA2 with hA2 hA3 _
  subst hA2; subst hA3
  exact ⟨bb, off, hA1, h0.hb, h0.c1, h1.c1⟩

set_option maxHeartbeats 4000000 in
theorem mwakes_any (w : World) : Calls Try.prog 20 #[] w fun e w' => e = .returned (.bool true) ∧ Below w.heap.size w w' := by
  obtain ⟨W, hW⟩ : ∃ W, (((w.alloc (.cells #[.int .i64 (-1), .slice none 0 0, .int .i64 (-2), .slice none 0 0] 31)).alloc (.cells #[.int .i64 2, .slice (some ⟨w.heap.size, 0, none⟩) 2 2] 31)).alloc (.cells #[.int .i64 1, .slice none 0 0, .int .i64 (-1), .slice none 0 0] 31)).alloc (.cells #[.int .i64 2, .slice (some ⟨w.heap.size + 1 + 1, 0, none⟩) 2 2] 31) = W := ⟨_, rfl⟩
  have hBW : Below w.heap.size w W := by rw [← hW]; exact ((((Below.refl _ _).alloc (Nat.le_refl _) _).alloc (by simp) _).alloc (by simp; omega) _).alloc (by simp; omega) _
  have hWz : W.heap.size = w.heap.size + 4 := by rw [← hW]; simp
  have r0 : W.heap[w.heap.size]? = some (.cells #[.int .i64 (-1), .slice none 0 0, .int .i64 (-2), .slice none 0 0] 31) := by rw [← hW]; exact (Below.heap_alloc _ _ _ (by simp <;> omega)).trans ((Below.heap_alloc _ _ _ (by simp <;> omega)).trans ((Below.heap_alloc _ _ _ (by simp <;> omega)).trans (heap_alloc_new w _)))
  have r1 : W.heap[w.heap.size + 1]? = some (.cells #[.int .i64 2, .slice (some ⟨w.heap.size, 0, none⟩) 2 2] 31) := by
    rw [← hW]
    refine (Below.heap_alloc _ _ _ (by simp <;> omega)).trans ((Below.heap_alloc _ _ _ (by simp)).trans ?_)
    have := heap_alloc_new (w.alloc (.cells #[.int .i64 (-1), .slice none 0 0, .int .i64 (-2), .slice none 0 0] 31)) (.cells #[.int .i64 2, .slice (some ⟨w.heap.size, 0, none⟩) 2 2] 31)
    simpa using this
  have r2 : W.heap[w.heap.size + 1 + 1]? = some (.cells #[.int .i64 1, .slice none 0 0, .int .i64 (-1), .slice none 0 0] 31) := by
    rw [← hW]
    refine (Below.heap_alloc _ _ _ (by simp)).trans ?_
    have := heap_alloc_new ((w.alloc (.cells #[.int .i64 (-1), .slice none 0 0, .int .i64 (-2), .slice none 0 0] 31)).alloc (.cells #[.int .i64 2, .slice (some ⟨w.heap.size, 0, none⟩) 2 2] 31)) (.cells #[.int .i64 1, .slice none 0 0, .int .i64 (-1), .slice none 0 0] 31)
    simpa using this
  have r3 : W.heap[w.heap.size + 1 + 1 + 1]? = some (.cells #[.int .i64 2, .slice (some ⟨w.heap.size + 1 + 1, 0, none⟩) 2 2] 31) := by
    rw [← hW]
    have := heap_alloc_new (((w.alloc (.cells #[.int .i64 (-1), .slice none 0 0, .int .i64 (-2), .slice none 0 0] 31)).alloc (.cells #[.int .i64 2, .slice (some ⟨w.heap.size, 0, none⟩) 2 2] 31)).alloc (.cells #[.int .i64 1, .slice none 0 0, .int .i64 (-1), .slice none 0 0] 31)) (.cells #[.int .i64 2, .slice (some ⟨w.heap.size + 1 + 1, 0, none⟩) 2 2] 31)
    simpa using this
  have n1 : I64 (-1) := ⟨by decide, by decide⟩
  have n2 : I64 (-2) := ⟨by decide, by decide⟩
  have p1 : I64 1 := ⟨by decide, by decide⟩
  have p2 : I64 2 := ⟨by decide, by decide⟩
  have hAP : ∀ w1, Below W.heap.size W w1 → Args w1 w1.heap.size (some ⟨w.heap.size, 0, none⟩) wkP.args := fun w1 h => args2 ((h.block _ (by omega)).trans r0) (by have := h.size; omega) n1 n2
  have hAU : ∀ w1, Below W.heap.size W w1 → Args w1 w1.heap.size (some ⟨w.heap.size + 1 + 1, 0, none⟩) wkU.args := fun w1 h => args2 ((h.block _ (by omega)).trans r2) (by have := h.size; omega) p1 n1
  have hs1 : wkP.size ≤ 1099511627776 := by decide
  have hs2 : wkU.size ≤ 1099511627776 := by decide
  have hMat : Calls Try.prog 21 #[.agg #[.int .i64 2, .slice (some ⟨w.heap.size, 0, none⟩) 2 2], .agg #[.int .i64 2, .slice (some ⟨w.heap.size + 1 + 1, 0, none⟩) 2 2]] W fun e w' => ∃ A c, e = .returned (.tuple #[.slice A (substM wkM).length c, .bool true]) ∧ Binds w' (· < w'.heap.size) A (substM wkM) ∧ Below W.heap.size W w' := match_yes (mmatch_any wkP wkU (some ⟨w.heap.size, 0, none⟩) (some ⟨w.heap.size + 1 + 1, 0, none⟩) 2 2 W hs1 (Nat.le_trans hs2 (by decide)) p2 p2 (hAP W (Below.refl _ _)) (hAU W (Below.refl _ _))) wkM_eq
  rw [wkM_sub] at hMat
  have hMat : Calls Try.prog 21 #[.agg #[.int .i64 2, .slice (some ⟨w.heap.size, 0, none⟩) 2 2], .agg #[.int .i64 2, .slice (some ⟨w.heap.size + 1 + 1, 0, none⟩) 2 2]] W fun e w' => ∃ A c, e = .returned (.tuple #[.slice A 2 c, .bool true]) ∧ Binds w' (· < w'.heap.size) A wkM ∧ Below W.heap.size W w' := hMat
  have hMat2 : ∀ w1, Below W.heap.size W w1 → Calls Try.prog 21 #[.agg #[.int .i64 2, .slice (some ⟨w1.heap.size, 0, none⟩) 2 2], .agg #[.int .i64 2, .slice (some ⟨w1.heap.size + 1, 0, none⟩) 2 2]] ((w1.alloc (.cells #[.int .i64 (-1), .slice none 0 0, .int .i64 (-1), .slice none 0 0] 31)).alloc (.cells #[.int .i64 1, .slice none 0 0, .int .i64 (-2), .slice none 0 0] 31)) fun e w' => e = .returned (.tuple #[.slice none 0 0, .bool false]) ∧ Below w1.heap.size w1 w' := fun w1 h1 => by
    have t0 : ((w1.alloc (.cells #[.int .i64 (-1), .slice none 0 0, .int .i64 (-1), .slice none 0 0] 31)).alloc (.cells #[.int .i64 1, .slice none 0 0, .int .i64 (-2), .slice none 0 0] 31)).heap[w1.heap.size]? = some (.cells #[.int .i64 (-1), .slice none 0 0, .int .i64 (-1), .slice none 0 0] 31) := (Below.heap_alloc _ _ _ (by simp)).trans (heap_alloc_new w1 _)
    have t1 : ((w1.alloc (.cells #[.int .i64 (-1), .slice none 0 0, .int .i64 (-1), .slice none 0 0] 31)).alloc (.cells #[.int .i64 1, .slice none 0 0, .int .i64 (-2), .slice none 0 0] 31)).heap[w1.heap.size + 1]? = some (.cells #[.int .i64 1, .slice none 0 0, .int .i64 (-2), .slice none 0 0] 31) := by
      have := heap_alloc_new (w1.alloc (.cells #[.int .i64 (-1), .slice none 0 0, .int .i64 (-1), .slice none 0 0] 31)) (.cells #[.int .i64 1, .slice none 0 0, .int .i64 (-2), .slice none 0 0] 31)
      simpa using this
    have hb := ((Below.refl w1.heap.size w1).alloc (Nat.le_refl _) (.cells #[.int .i64 (-1), .slice none 0 0, .int .i64 (-1), .slice none 0 0] 31)).alloc (by simp) (.cells #[.int .i64 1, .slice none 0 0, .int .i64 (-2), .slice none 0 0] 31)
    have := match_no (mmatch_any wkP2 wkU2 (some ⟨w1.heap.size, 0, none⟩) (some ⟨w1.heap.size + 1, 0, none⟩) 2 2 _ (by decide) (by decide) p2 p2 (args2 t0 (by simp <;> omega) n1 n1) (args2 t1 (by simp <;> omega) p1 n2)) wkM_no
    exact this.mono fun e w' ⟨h2, h3⟩ => ⟨h2, hb.trans (h3.mono hb.size)⟩
  have hVar : ∀ w1, Below W.heap.size W w1 → Calls Try.prog 23 #[.agg #[.int .i64 2, .slice (some ⟨w.heap.size, 0, none⟩) 2 2], .agg #[.int .i64 2, .slice (some ⟨w.heap.size + 1 + 1, 0, none⟩) 2 2]] w1 fun e w' => e = .returned (.bool false) ∧ Below w1.heap.size w1 w' := fun w1 h1 => by
    have := mvariant_any wkP wkU (some ⟨w.heap.size, 0, none⟩) (some ⟨w.heap.size + 1 + 1, 0, none⟩) 2 2 w1 hs1 hs2 p2 p2 (hAP w1 h1) (hAU w1 h1)
    rw [wkV_no] at this
    exact this
  have HX := Lib.hid (fun (w' : World) (hb : Below W.heap.size W w') => (show (w'.cell? ⟨w.heap.size + 1, 0, none⟩ = some (.int .i64 2) ∧ w'.cell? ⟨w.heap.size + 1, 1, none⟩ = some (.slice (some ⟨w.heap.size, 0, none⟩) 2 2)) ∧ w'.cell? ⟨w.heap.size + 1 + 1 + 1, 0, none⟩ = some (.int .i64 2) ∧ w'.cell? ⟨w.heap.size + 1 + 1 + 1, 1, none⟩ = some (.slice (some ⟨w.heap.size + 1 + 1, 0, none⟩) 2 2) from by
    obtain ⟨a, b, _, _⟩ := cells_two ((hb.block _ (by omega)).trans r1)
    obtain ⟨a', b', _, _⟩ := cells_two ((hb.block _ (by omega)).trans r3)
    exact ⟨⟨a, b⟩, a', b'⟩))
  obtain ⟨⟨x0, x1⟩, y0, y1⟩ := HX.out W (Below.refl _ _)
  have HW := Lib.hid hW
  have HM1 := Lib.hid hMat
  have HM2 := Lib.hid hMat2
  have HV := Lib.hid hVar
  clear hW hMat hMat2 hVar hAP hAU r0 r1 r2 r3
  go_enter Try.func20, Try.ntmps20
  go_upto_region 3 with fail
  rw [HW.out]
  go_upto_region 4 with (first
    | (go_at_call 21; with_reducible refine HM1.out.mono ?_; go_must (rintro e w1 ⟨A1, c1, rfl, hBd, hb1⟩; obtain ⟨bb, off, rfl, hbl, g0, g1⟩ := wkB_get hBd; clear hBd; obtain ⟨⟨x2, x3⟩, y2, y3⟩ := HX.out w1 hb1; have HM2' := Lib.hid (HM2.out w1 hb1)))
    | fail)
  have HG := Lib.hid (fun (w' : World) (hb : Below w1.heap.size w1 w') => (show w'.cell? ⟨bb, off + 1, none⟩ = some (.int .i64 1) ∧ w'.cell? ⟨bb, off + 3 + 1, none⟩ = some (.int .i64 (-1)) from ⟨cell_on hb hbl g0, cell_on hb hbl g1⟩))
  go_upto_region 5 with (first
    | (go_at_call 21; with_reducible refine HM2'.out.mono ?_; go_must (rintro e w2 ⟨rfl, hb2⟩; have hb12 := hb1.trans (hb2.mono hb1.size); obtain ⟨⟨x4, x5⟩, y4, y5⟩ := HX.out w2 hb12; obtain ⟨g2, g3⟩ := HG.out w2 hb2; have HV2 := Lib.hid (HV.out w2 hb12)))
    | fail)
  go_wp2_with (first
    | (go_at_call 23; with_reducible refine HV2.out.mono ?_; go_must (rintro e w3 ⟨rfl, hb3⟩))
    | fail)
  go_ret
  exact ⟨rfl, hBW.trans ((hb12.trans (hb3.mono hb12.size)).mono hBW.size)⟩

end Go.Proofs.Ytglfjmbclimeeaa

/- The document's own answers: low, Small. -/

namespace Go.Proofs.Ytglfjmbclimeeaa

open Go.RowKit
set_option maxRecDepth 100000

mutual
def lowT : Tm → Bool
  | .node f xs => if f < 0 then decide (-48 ≤ f ∧ xs.length = 0) else lowL xs
def lowL : List Tm → Bool
  | [] => true
  | t :: ts => lowT t && lowL ts
end

theorem low_drop {xs : List Tm} {k : Nat} {u : Tm} (h : xs[k]? = some u) : lowL (xs.drop k) = (lowT u && lowL (xs.drop (k + 1))) := by
  have hlt := (List.getElem?_eq_some_iff.1 h).1
  rw [List.drop_eq_getElem_cons hlt]
  rw [List.getElem?_eq_getElem hlt] at h
  injection h with h
  rw [h]
  simp only [lowL]

def RLow (t : Tm) : Prop := ∀ (A : Option Addr) (c : Nat) (w : World), I64 t.fn → Args w w.heap.size A t.args →
  Calls Try.prog 46 #[.agg #[.int .i64 t.fn, .slice A t.args.length c], .int .i64 48] w fun e w' => e = .returned (.bool (lowT t)) ∧ Below w.heap.size w w'

set_option maxHeartbeats 1000000 in
theorem refLow_any (t : Tm) : RLow t := by
  refine Tm.ind (P := RLow) (fun f xs ih => ?_) t
  intro A c w hf hA
  simp only [Tm.fn, Tm.args] at hf hA ⊢
  have hlen := hA.len
  obtain ⟨W, hW⟩ : ∃ W, w.alloc (.cells #[.int .i64 f, .slice A xs.length c] 31) = W := ⟨_, rfl⟩
  obtain ⟨hB, hlt, hS⟩ := box_term hW
  have HW := Lib.hid hW
  obtain ⟨x0, x1⟩ := hS W (Below.refl _ _)
  clear hW
  by_cases hf0 : f < 0
  · have hl := Lib.hid (show lowT (.node f xs) = decide (-48 ≤ f ∧ xs.length = 0) by simp only [lowT, if_pos hf0])
    by_cases h48 : -48 ≤ f
    · go_enter Try.func46, Try.ntmps46
      go_upto_region 1 with fail
      rw [HW.out]
      go_wp2
      go_ret
      exact ⟨ret_bool (by rw [hl.out]; simp only [h48, true_and]; cases xs <;> simp; omega), hB⟩
    · go_enter Try.func46, Try.ntmps46
      go_upto_region 1 with fail
      rw [HW.out]
      go_wp2
      go_ret
      exact ⟨ret_bool (by rw [hl.out]; exact (decide_eq_false fun h => by have := h.1; omega).symm), hB⟩
  · have hl := Lib.hid (show lowT (.node f xs) = lowL xs by simp only [lowT, if_neg hf0])
    go_enter Try.func46, Try.ntmps46
    go_upto_region 1 with fail
    rw [HW.out]
    go_wp2
    clear x0 x1
    go_loopw [5] (fun i wr => ∃ k : Nat, k ≤ xs.length ∧ i = .int .i64 (k : Int) ∧ Below W.heap.size W wr ∧ Hid (lowL xs = lowL (xs.drop k))) (fun i _ => xs.length - (intOf i).toNat)
    case atStart => exact ⟨0, Nat.zero_le _, rfl, Below.refl _ _, rfl⟩
    case round =>
      obtain ⟨k, hk, rfl, hBr, H⟩ := hrel
      obtain ⟨_, x1⟩ := hS _ hBr
      by_cases hkl : k < xs.length
      · obtain ⟨u, hu⟩ : ∃ u, xs[k]? = some u := ⟨_, List.getElem?_eq_getElem hkl⟩
        obtain ⟨bb, off, A1, c1, rfl, ha⟩ := (hA.on (hB.trans (hBr.mono hB.size))).get hu
        have e0 := ha.c0
        have e1 := ha.c1
        have hmem := List.mem_of_getElem? hu
        have hd := low_drop hu
        have hsub := Lib.hid ha.sub
        have hu64 := ha.hi
        clear hu ha
        cases hb : lowT u with
        | true =>
          have H2 : Hid (lowL xs = lowL (xs.drop (k + 1))) := by rw [show lowL xs = _ from H.out, hd, hb, Bool.true_and]; rfl
          clear H hd
          go_wp2_with (first
            | (go_at_call 46
               go_must (
               refine (ih u hmem A1 c1 wr hu64 hsub.out).mono ?_
               rintro e w2 ⟨rfl, hb2⟩
               rw [hb]))
            | fail)
          exact ⟨⟨k + 1, by omega, by go_num, hBr.trans (hb2.mono hBr.size), H2⟩, by simp [intOf]; omega⟩
        | false =>
          have H2 : Hid (lowT (.node f xs) = false) := by rw [hl.out, show lowL xs = _ from H.out, hd, hb, Bool.false_and]; rfl
          clear H hd
          go_wp2_with (first
            | (go_at_call 46
               go_must (
               refine (ih u hmem A1 c1 wr hu64 hsub.out).mono ?_
               rintro e w2 ⟨rfl, hb2⟩
               rw [hb]))
            | fail)
          go_ret
          exact ⟨ret_bool H2.out.symm, (hB.trans (hBr.mono hB.size)).trans (hb2.mono (by have := hBr.size; omega))⟩
      · obtain rfl : k = xs.length := by omega
        have H2 : lowT (.node f xs) = true := by rw [hl.out, show lowL xs = _ from H.out]; simp [lowL]
        have H2 := Lib.hid H2
        go_wp2
        go_ret
        exact ⟨ret_bool H2.out.symm, hB.trans (hBr.mono hB.size)⟩

def smallT (t : Tm) : Bool := decide (t.size ≤ 300) && decide (t.depth ≤ 30) && lowT t

set_option maxHeartbeats 1000000 in
theorem refSmall_any (t : Tm) (A : Option Addr) (c : Nat) (w : World) (hsz : t.size ≤ 4611686018427387904) (hf : I64 t.fn) (hA : Args w w.heap.size A t.args) :
    Calls Try.prog 25 #[.agg #[.int .i64 t.fn, .slice A t.args.length c], .int .i64 48] w fun e w' => e = .returned (.bool (smallT t)) ∧ Below w.heap.size w w' := by
  have hdz := depth_le_size t
  obtain ⟨W, hW⟩ : ∃ W, w.alloc (.cells #[.int .i64 t.fn, .slice A t.args.length c] 31) = W := ⟨_, rfl⟩
  obtain ⟨hB, hlt, hS⟩ := box_term hW
  have HW := Lib.hid hW
  have HA := Lib.hid (hA.on hB)
  clear hW hA
  by_cases h1 : t.size ≤ 300
  · by_cases h2 : t.depth ≤ 30
    · have hs := Lib.hid (show smallT t = lowT t by simp [smallT, h1, h2])
      go_enter Try.func25, Try.ntmps25
      go_wp2_with (first
        | (go_at_call 44; go_must (rw [HW.out]; refine (refSize_any t hsz A c W hf HA.out).mono ?_; rintro e w1 ⟨rfl, hb1⟩; obtain ⟨x0, x1⟩ := hS _ hb1))
        | (go_at_call 45; go_must (refine (refDepth_any t (by omega) A c w1 hf (HA.out.on hb1)).mono ?_; rintro e w2 ⟨rfl, hb2⟩; have hB2 := bl_step hb1 hb2; obtain ⟨x2, x3⟩ := hS _ hB2))
        | (go_at_call 46; go_must (refine (refLow_any t A c w2 hf (HA.out.on hB2)).mono ?_; rintro e w3 ⟨rfl, hb3⟩; have hB3 := bl_step hB2 hb3))
        | fail)
      go_ret
      exact ⟨ret_bool hs.out.symm, hB.trans (hB3.mono hB.size)⟩
    · have hs := Lib.hid (show smallT t = false by simp [smallT, h2])
      go_enter Try.func25, Try.ntmps25
      go_wp2_with (first
        | (go_at_call 44; go_must (rw [HW.out]; refine (refSize_any t hsz A c W hf HA.out).mono ?_; rintro e w1 ⟨rfl, hb1⟩; obtain ⟨x0, x1⟩ := hS _ hb1))
        | (go_at_call 45; go_must (refine (refDepth_any t (by omega) A c w1 hf (HA.out.on hb1)).mono ?_; rintro e w2 ⟨rfl, hb2⟩; have hB2 := bl_step hb1 hb2))
        | fail)
      go_ret
      exact ⟨ret_bool hs.out.symm, hB.trans (hB2.mono hB.size)⟩
  · have hs := Lib.hid (show smallT t = false by simp [smallT, h1])
    go_enter Try.func25, Try.ntmps25
    go_wp2_with (first
      | (go_at_call 44; go_must (rw [HW.out]; refine (refSize_any t hsz A c W hf HA.out).mono ?_; rintro e w1 ⟨rfl, hb1⟩))
      | fail)
    go_ret
    exact ⟨ret_bool hs.out.symm, hB.trans (hb1.mono hB.size)⟩

end Go.Proofs.Ytglfjmbclimeeaa

/- The document's own answer: Move. -/

namespace Go.Proofs.Ytglfjmbclimeeaa

open Go.RowKit Go.Shelf
set_option maxRecDepth 100000

theorem renL_unit (g : Int → Int) : ∀ xs : List Tm, renL (fun (s : Unit) v => (s, g v)) () xs = ((), xs.map fun t => (renT (fun (s : Unit) v => (s, g v)) () t).2)
  | [] => by simp only [renL, List.map_nil]
  | t :: ts => by simp only [renL, renL_unit g ts, List.map_cons]

def movF (b f : Int) : Int := if f < 0 then -1 - movI b (-1 - f) else f

theorem movT_eq (b f : Int) (xs : List Tm) : movT b (.node f xs) = .node (movF b f) (xs.map (movT b)) := by
  unfold movT
  simp only [renT]
  rw [renL_unit]
  unfold renF movF
  split <;> rfl

theorem movT_len (b : Int) (t : Tm) : (movT b t).args.length = t.args.length := by
  obtain ⟨f, xs⟩ := t
  rw [movT_eq]
  simp [Tm.args]

theorem movF_i64 {b f : Int} (hb : I64 b) (hf : I64 f) : I64 (movF b f) := by
  have h1 := hf.1
  unfold movF
  split
  · have := movI_i64 (v := -1 - f) hb (by omega) (by omega)
    exact ⟨by have := this.2; omega, by have := this.1; omega⟩
  · exact hf

theorem movT_i64 {b : Int} {t : Tm} (hb : I64 b) (hf : I64 t.fn) : I64 (movT b t).fn := by
  obtain ⟨f, xs⟩ := t
  rw [movT_eq]
  exact movF_i64 hb hf

/-- Can the number be moved, as the document says? -/
def toB (v b : Int) : Prop := (0 ≤ b ∧ b ≤ 2147483647 ∧ v ≤ 2147483647 - b) ∨ (b < 0 ∧ 0 ≤ v + b ∧ v + b ≤ 2147483647)

theorem movI_yes {v b : Int} (h0 : 0 ≤ v) (h : toB v b) : movI b v = v + b := by
  unfold movI
  rcases h with h | h
  · by_cases e : b = 0
    · subst e; simp
    · rw [if_pos (by omega)]
  · rw [if_pos (by omega)]

theorem movI_no {v b : Int} (h0 : 0 ≤ v) (h : ¬ toB v b) : movI b v = v := by
  unfold toB at h
  unfold movI
  rw [if_neg (by omega)]

end Go.Proofs.Ytglfjmbclimeeaa

/- numbers of variables told anew, in plain words -/

namespace Go.Proofs.Ytglfjmbclimeeaa

open Go.RowKit Go.Shelf
set_option maxRecDepth 100000
set_option maxRecDepth 100000

theorem idx_map {g : Int → Int} : ∀ (L : List Int) (v : Int), (∀ x ∈ L, g x = g v → x = v) → (L.map g).idxOf (g v) = L.idxOf v
  | [], _, _ => rfl
  | x :: L, v, h => by
    have ih := idx_map L v fun y hy => h y (by simp [hy])
    rw [List.map_cons, List.idxOf_cons, List.idxOf_cons]
    by_cases e : x = v
    · subst e; simp
    · have hg : g x ≠ g v := fun h' => e (h x (by simp) h')
      rw [beq_false_of_ne e, beq_false_of_ne hg]
      simp [ih]

theorem ord_map {g : Int → Int} : ∀ (r l : List Int), (∀ x ∈ l ++ r, ∀ y ∈ l ++ r, g x = g y → x = y) → (r.map g).foldl ordI (l.map g) = (r.foldl ordI l).map g
  | [], _, _ => rfl
  | v :: r, l, h => by
    simp only [List.map_cons, List.foldl_cons]
    have e : ordI (l.map g) (g v) = (ordI l v).map g := by
      unfold ordI
      by_cases hm : v ∈ l
      · rw [if_pos hm, if_pos (List.mem_map.2 ⟨v, hm, rfl⟩)]
      · rw [if_neg hm, if_neg, List.map_append]
        · rfl
        · intro hc
          obtain ⟨x, hx, e⟩ := List.mem_map.1 hc
          have := h x (by simp [hx]) v (by simp) e
          subst this
          exact hm hx
    rw [e]
    have hsub : ∀ x ∈ ordI l v ++ r, x ∈ l ++ v :: r := fun x hx => by
      rcases List.mem_append.1 hx with hx | hx
      · unfold ordI at hx
        split at hx
        · simp [hx]
        · rcases List.mem_append.1 hx with hx | hx
          · simp [hx]
          · simp at hx; subst hx; simp
      · simp [hx]
    exact ord_map r (ordI l v) fun x hx y hy => h x (hsub x hx) y (hsub y hy)

theorem idx_inj {L : List Int} {x y : Int} (hx : x ∈ L) (hy : y ∈ L) (h : L.idxOf x = L.idxOf y) : x = y := by
  have h1 := List.getElem_idxOf (List.idxOf_lt_length_of_mem hx)
  have h2 := List.getElem_idxOf (List.idxOf_lt_length_of_mem hy)
  rw [← h1, ← h2]
  congr 1

theorem lowL_all : ∀ xs : List Tm, lowL xs = xs.all lowT
  | [] => by simp only [lowL, List.all_nil]
  | t :: ts => by simp only [lowL, lowL_all ts, List.all_cons]

theorem nuL_map (L : List Int) : ∀ xs : List Tm, nuL L xs = xs.map (nuT L)
  | [] => by simp only [nuL, List.map_nil]
  | t :: ts => by simp only [nuL, nuL_map L ts, List.map_cons]

theorem vnL_flat : ∀ xs : List Tm, vnL xs = xs.flatMap vn
  | [] => by simp only [vnL, List.flatMap_nil]
  | t :: ts => by simp only [vnL, vnL_flat ts, List.flatMap_cons]

theorem sizes_same {g : Tm → Tm} : ∀ xs : List Tm, (∀ t ∈ xs, (g t).size = t.size) → sizes (xs.map g) = sizes xs
  | [], _ => by simp only [List.map_nil]
  | t :: ts, h => by simp only [List.map_cons, sizes, h t (by simp), sizes_same ts fun u hu => h u (by simp [hu])]

/-- Of a term whose variables are low: moved. -/
structure MovOK (b : Int) (t : Tm) : Prop where
  vars : vn (movT b t) = (vn t).map (· + b)
  plain : plainT (movT b t) = true
  size : (movT b t).size = t.size
  nu : ∀ L : List Int, nuT (L.map (· + b)) (movT b t) = nuT L t

theorem mov_low {b : Int} (h0 : 0 ≤ b) (h1 : b ≤ 1000000) (t : Tm) : lowT t = true → MovOK b t := by
  refine Tm.ind (P := fun t => lowT t = true → MovOK b t) (fun f xs ih => ?_) t
  intro hl
  rw [lowT] at hl
  by_cases hf : f < 0
  · rw [if_pos hf] at hl
    obtain ⟨h48, hx⟩ := of_decide_eq_true hl
    obtain rfl := List.eq_nil_of_length_eq_zero hx
    have hm : movI b (-1 - f) = -1 - f + b := by
      unfold movI
      split
      · rfl
      · omega
    have hF : movF b f = f - b := by unfold movF; rw [if_pos hf, hm]; omega
    have e : movT b (.node f []) = .node (f - b) [] := by rw [movT_eq, hF]; rfl
    have hn : f - b < 0 := by omega
    refine ⟨?_, ?_, ?_, fun L => ?_⟩
    · rw [e]; simp only [vn, if_pos hf, if_pos hn, vnL, List.append_nil, List.map_cons, List.map_nil]; congr 1; omega
    · rw [e]; simp [plainT, plainL]
    · rw [e]; simp [Tm.size]
    · rw [e]
      simp only [nuT, nuL, nuF, if_pos hf, if_pos hn]
      have := idx_map (g := (· + b)) L (-1 - f) fun x _ h => by omega
      rw [show -1 - (f - b) = -1 - f + b by omega, this]
  · rw [if_neg hf, lowL_all, List.all_eq_true] at hl
    have hF : movF b f = f := by unfold movF; rw [if_neg hf]
    have ih' : ∀ t ∈ xs, MovOK b t := fun t ht => ih t ht (hl t ht)
    refine ⟨?_, ?_, ?_, fun L => ?_⟩
    · rw [movT_eq, hF]
      simp only [vn, if_neg hf, List.nil_append, vnL_flat, List.flatMap_map, List.map_flatMap]
      exact flatMap_same fun t ht => (ih' t ht).vars
    · rw [movT_eq, hF, plainT, plainL_eq, decide_eq_true (show (0 : Int) ≤ f by omega), Bool.true_or, Bool.and_true, List.all_map, List.all_eq_true]
      exact fun t ht => (ih' t ht).plain
    · rw [movT_eq]; simp only [Tm.size]; rw [sizes_same xs fun t ht => (ih' t ht).size]
    · rw [movT_eq, hF]
      simp only [nuT, nuF, if_neg hf, nuL_map, List.map_map]
      congr 1
      exact List.map_congr_left fun t ht => (ih' t ht).nu L
where
  flatMap_same {α β : Type} {f g : α → List β} : ∀ {l : List α}, (∀ t ∈ l, f t = g t) → l.flatMap f = l.flatMap g
    | [], _ => rfl
    | x :: l, h => by
      rw [List.flatMap_cons, List.flatMap_cons, h x (by simp), flatMap_same fun t ht => h t (by simp [ht])]

theorem low_plain (t : Tm) : lowT t = true → plainT t = true := by
  refine Tm.ind (P := fun t => lowT t = true → plainT t = true) (fun f xs ih => ?_) t
  intro hl
  rw [lowT] at hl
  rw [plainT, plainL_eq]
  by_cases hf : f < 0
  · rw [if_pos hf] at hl
    obtain ⟨_, hx⟩ := of_decide_eq_true hl
    obtain rfl := List.eq_nil_of_length_eq_zero hx
    simp
  · rw [if_neg hf, lowL_all, List.all_eq_true] at hl
    rw [decide_eq_true (show (0 : Int) ≤ f by omega), Bool.true_or, Bool.and_true, List.all_eq_true]
    exact fun t ht => ih t ht (hl t ht)

/-- A term's numbers told anew, twice. -/
structure NuOK (L : List Int) (t : Tm) : Prop where
  vars : vn (nuT L t) = (vn t).map fun v => ((L.idxOf v : Nat) : Int)
  size : (nuT L t).size = t.size
  again : (∀ v ∈ vn t, v ∈ L) → nuT (L.map fun v => ((L.idxOf v : Nat) : Int)) (nuT L t) = nuT L t

theorem nu_ok (L : List Int) (t : Tm) : NuOK L t := by
  refine Tm.ind (P := NuOK L) (fun f xs ih => ?_) t
  have hsz : sizes (xs.map (nuT L)) = sizes xs := sizes_same xs fun t ht => (ih t ht).size
  refine ⟨?_, ?_, fun hv => ?_⟩
  · simp only [nuT, nuL_map, vn, vnL_flat, List.map_append, List.flatMap_map, List.map_flatMap]
    congr 1
    · by_cases hf : f < 0
      · have hn : nuF L f < 0 := by unfold nuF; rw [if_pos hf]; omega
        rw [if_pos hn, if_pos hf]
        unfold nuF
        rw [if_pos hf]
        simp only [List.map_cons, List.map_nil]
        congr 1; omega
      · have hn : ¬ nuF L f < 0 := by unfold nuF; rw [if_neg hf]; exact hf
        rw [if_neg hn, if_neg hf]; rfl
    · exact mov_low.flatMap_same fun t ht => (ih t ht).vars
  · simp only [nuT, nuL_map, Tm.size, hsz]
  · simp only [vn] at hv
    have hvx : ∀ t ∈ xs, ∀ v ∈ vn t, v ∈ L := fun t ht v h => hv v (List.mem_append.2 (.inr (by rw [vnL_flat]; exact List.mem_flatMap.2 ⟨t, ht, h⟩)))
    simp only [nuT, nuL_map, List.map_map]
    congr 1
    · by_cases hf : f < 0
      · have hm : -1 - f ∈ L := hv _ (by simp [hf])
        have hF : nuF L f = -1 - ((L.idxOf (-1 - f) : Nat) : Int) := by unfold nuF; rw [if_pos hf]
        rw [hF]
        unfold nuF
        rw [if_pos (show -1 - ((L.idxOf (-1 - f) : Nat) : Int) < 0 by omega)]
        have := idx_map (g := fun v => ((L.idxOf v : Nat) : Int)) L (-1 - f) fun x hx h => idx_inj hx hm (by omega)
        rw [show -1 - (-1 - ((L.idxOf (-1 - f) : Nat) : Int)) = ((L.idxOf (-1 - f) : Nat) : Int) by omega, this]
      · have hF : nuF L f = f := by unfold nuF; rw [if_neg hf]
        rw [hF]
        unfold nuF
        rw [if_neg hf]
    · exact List.map_congr_left fun t ht => (ih t ht).again (hvx t ht)

end Go.Proofs.Ytglfjmbclimeeaa

/- match: in plain words: what is bound makes the pattern the term; variants are those with one normal form. -/

namespace Go.Proofs.Ytglfjmbclimeeaa

open Go.RowKit
set_option maxRecDepth 100000

theorem bdT_app {M E : List Bd} {v : Int} (h : (bdT M v).isSome) : bdT (M ++ E) v = bdT M v := by
  unfold bdT at h ⊢
  unfold findB at h ⊢
  rw [List.find?_append]
  rcases hf : M.find? fun x => decide (x.v = v) with _ | x
  · rw [hf] at h; simp at h
  · rw [hf]; rfl

theorem plain_var {f : Int} {xs : List Tm} (hf : f < 0) (hp : plainT (.node f xs) = true) : xs = [] := by
  rw [plainT, decide_eq_false (by omega)] at hp
  simp at hp
  exact hp.2

theorem plain_args {f : Int} {xs : List Tm} (hp : plainT (.node f xs) = true) : ∀ t ∈ xs, plainT t = true := by
  rw [plainT, plainL_eq, Bool.and_eq_true, List.all_eq_true] at hp
  exact hp.1

theorem app_var' (g : Int → Option Tm) {f : Int} (hf : f < 0) (xs : List Tm) : appT g (.node f xs) = (g (-1 - f)).getD (.node f (xs.map (appT g))) := by
  simp only [appT, if_pos hf, appL_eq]

/-- What the document's matcher binds, put into the pattern, makes the term. -/
structure MtA (p : Tm) (u : Tm) (M M' : List Bd) : Prop where
  ext : ∃ E, M' = M ++ E
  app : ∀ E, appT (bdT (M' ++ E)) p = u
  all : ∀ v ∈ vn p, (bdT M' v).isSome

theorem mt_app (p : Tm) : plainT p = true → ∀ (M : List Bd) (u : Tm) (M' : List Bd), mtT p M u = some M' → MtA p u M M' := by
  refine Tm.ind (P := fun p => plainT p = true → ∀ (M : List Bd) (u : Tm) (M' : List Bd), mtT p M u = some M' → MtA p u M M') (fun f xs ih => ?_) p
  intro hp M u M' h
  by_cases hf : f < 0
  · obtain rfl := plain_var hf hp
    rw [mtT_var hf] at h
    have hb : bdT M' (-1 - f) = some u ∧ ∃ E, M' = M ++ E := by
      rcases hb : findB M (-1 - f) with _ | x
      · rw [hb] at h
        injection h with h; subst h
        refine ⟨?_, _, rfl⟩
        unfold bdT findB at *
        rw [List.find?_append, hb]; simp
      · rw [hb] at h
        simp only at h
        split at h
        · rename_i hc
          injection h with h; subst h
          refine ⟨?_, [], by simp⟩
          unfold bdT
          rw [hb, ← cmp_zero_iff.1 hc]; rfl
        · cases h
    refine ⟨hb.2, fun E => ?_, fun v hv => ?_⟩
    · rw [app_var' _ hf, bdT_app (by rw [hb.1]; rfl), hb.1]; rfl
    · simp only [vn, if_pos hf, vnL, List.append_nil, List.mem_cons, List.not_mem_nil, or_false] at hv
      subst hv; rw [hb.1]; rfl
  · rw [mtT_sym hf] at h
    split at h
    · rename_i hc
      obtain ⟨g, us⟩ := u
      obtain ⟨h1, h2⟩ := hc
      simp only [Tm.fn, Tm.args] at h1 h2 h
      subst h1
      have key : ∀ (ys us : List Tm) (M M' : List Bd), (∀ t ∈ ys, t ∈ xs) → ys.length = us.length → mtL ys M us = some M' → (∃ E, M' = M ++ E) ∧ (∀ E, ys.map (appT (bdT (M' ++ E))) = us) ∧ ∀ v ∈ vnL ys, (bdT M' v).isSome := by
        intro ys
        induction ys with
        | nil =>
          intro us M M' _ hl h
          obtain rfl := List.eq_nil_of_length_eq_zero hl.symm
          simp only [mtL] at h
          injection h with h; subst h
          exact ⟨⟨[], by simp⟩, fun E => rfl, fun v hv => by simp [vnL] at hv⟩
        | cons y ys ihy =>
          intro us M M' hsub hl h
          rcases us with _ | ⟨u, us⟩
          · simp at hl
          · simp only [mtL] at h
            rcases hm : mtT y M u with _ | M1
            · rw [hm] at h; cases h
            · rw [hm] at h
              obtain ⟨⟨E1, rfl⟩, ha, hall⟩ := ih y (hsub y (by simp)) (plain_args hp y (hsub y (by simp))) M u M1 hm
              obtain ⟨⟨E2, rfl⟩, hb, hall2⟩ := ihy us _ M' (fun t ht => hsub t (by simp [ht])) (by simpa using hl) h
              refine ⟨⟨E1 ++ E2, by simp⟩, fun E => ?_, fun v hv => ?_⟩
              · rw [List.map_cons, hb E, List.append_assoc (M ++ E1), ha]
              · simp only [vnL, List.mem_append] at hv
                rcases hv with hv | hv
                · rw [bdT_app (hall v hv)]; exact hall v hv
                · exact hall2 v hv
      obtain ⟨he, ha, hall⟩ := key xs us M M' (fun t ht => ht) h2 h
      refine ⟨he, fun E => ?_, fun v hv => ?_⟩
      · rw [app_node _ hf, ha]
      · simp only [vn, if_neg hf, List.nil_append] at hv
        exact hall v hv
    · cases h

/-- A term that comes of the pattern is matched. -/
theorem mt_of (g : Int → Tm) (p : Tm) : plainT p = true → ∀ M : List Bd, (∀ x ∈ M, x.t = g x.v) → ∃ M', mtT p M (appT (fun v => some (g v)) p) = some M' ∧ ∀ x ∈ M', x.t = g x.v := by
  refine Tm.ind (P := fun p => plainT p = true → ∀ M : List Bd, (∀ x ∈ M, x.t = g x.v) → ∃ M', mtT p M (appT (fun v => some (g v)) p) = some M' ∧ ∀ x ∈ M', x.t = g x.v) (fun f xs ih => ?_) p
  intro hp M hM
  by_cases hf : f < 0
  · rw [app_var' _ hf, mtT_var hf]
    simp only [Option.getD_some]
    rcases hb : findB M (-1 - f) with _ | x
    · refine ⟨_, rfl, fun x hx => ?_⟩
      rcases List.mem_append.1 hx with hx | hx
      · exact hM x hx
      · simp at hx; subst hx; rfl
    · obtain ⟨h1, h2⟩ := findB_mem hb
      have e := hM x h1
      rw [h2] at e
      refine ⟨M, ?_, hM⟩
      simp only [e]
      rw [if_pos (cmp_zero_iff.2 rfl)]
  · rw [app_node _ hf, mtT_sym hf, if_pos ⟨rfl, by simp [Tm.args]⟩]
    have key : ∀ (ys : List Tm) (M : List Bd), (∀ t ∈ ys, t ∈ xs) → (∀ x ∈ M, x.t = g x.v) → ∃ M', mtL ys M (ys.map (appT fun v => some (g v))) = some M' ∧ ∀ x ∈ M', x.t = g x.v := by
      intro ys
      induction ys with
      | nil => intro M _ hM; exact ⟨M, by simp only [mtL], hM⟩
      | cons y ys ihy =>
        intro M hsub hM
        obtain ⟨M1, h1, h2⟩ := ih y (hsub y (by simp)) (plain_args hp y (hsub y (by simp))) M hM
        obtain ⟨M2, h3, h4⟩ := ihy M1 (fun t ht => hsub t (by simp [ht])) h2
        refine ⟨M2, ?_, h4⟩
        simp only [List.map_cons, mtL]
        rw [h1]
        exact h3
    exact key xs M (fun t ht => ht) hM

theorem app_val_fn (l : List Bd) (t : Tm) : plainT t = true → appT (bdT l) t = appT (fun v => some (val l v)) t := by
  refine Tm.ind (P := fun t => plainT t = true → appT (bdT l) t = appT (fun v => some (val l v)) t) (fun f xs ih => ?_) t
  intro hp
  by_cases hf : f < 0
  · obtain rfl := plain_var hf hp
    rw [app_leaf _ hf, app_var' _ hf]; rfl
  · rw [app_node _ hf, app_node _ hf]
    congr 1
    exact List.map_congr_left fun u hu => ih u hu (plain_args hp u hu)

theorem app_same {g h : Int → Option Tm} (t : Tm) : (∀ v ∈ vn t, g v = h v) → appT g t = appT h t := by
  refine Tm.ind (P := fun t => (∀ v ∈ vn t, g v = h v) → appT g t = appT h t) (fun f xs ih => ?_) t
  intro hv
  simp only [vn] at hv
  have hx : xs.map (appT g) = xs.map (appT h) := List.map_congr_left fun u hu => ih u hu fun v h' => hv v (List.mem_append.2 (.inr (by rw [vnL_flat]; exact List.mem_flatMap.2 ⟨u, hu, h'⟩)))
  by_cases hf : f < 0
  · rw [app_var' _ hf, app_var' _ hf, hx, hv _ (by simp [hf])]
  · rw [app_node _ hf, app_node _ hf, hx]

theorem mat_mt {p u : Tm} (hp : plainT p = true) (hu : plainT u = true) : wkT p [] u = mtT p [] u := by
  rw [(wk_mt p [] u .nil_).eq, if_pos ⟨hp, hu⟩]

theorem mat_plain {p u : Tm} {M : List Bd} (h : wkT p [] u = some M) : plainT p = true ∧ plainT u = true ∧ mtT p [] u = some M := by
  rw [(wk_mt p [] u .nil_).eq] at h
  split at h
  · rename_i hc
    exact ⟨hc.1, hc.2, h⟩
  · cases h

/-- A term's variables, in the order in which they come. -/
def ordT (t : Tm) : List Int := (vn t).foldl ordI []

theorem ordT_mem {t : Tm} {v : Int} (h : v ∈ vn t) : v ∈ ordT t := ord_sub _ _ _ h

theorem ordT_sub {t : Tm} {v : Int} (h : v ∈ ordT t) : v ∈ vn t := by
  rcases ord_memV (vn t) [] v h with h | h
  · simp at h
  · exact h
where
  ord_memV : ∀ (r l : List Int) (v : Int), v ∈ r.foldl ordI l → v ∈ l ∨ v ∈ r
    | [], l, v, h => .inl h
    | u :: r, l, v, h => by
      rcases ord_memV r (ordI l u) v h with h | h
      · unfold ordI at h
        split at h
        · exact .inl h
        · rcases List.mem_append.1 h with h | h
          · exact .inl h
          · simp at h; subst h; exact .inr (by simp)
      · exact .inr (by simp [h])

theorem ord_stay : ∀ (r l : List Int), (∀ v ∈ r, v ∈ l) → r.foldl ordI l = l
  | [], _, _ => rfl
  | v :: r, l, h => by
    have e : ordI l v = l := by unfold ordI; rw [if_pos (h v (by simp))]
    rw [List.foldl_cons, e]
    exact ord_stay r l fun u hu => h u (by simp [hu])

theorem ord_twice (t : Tm) : (vn t ++ vn t).foldl ordI [] = ordT t := by
  rw [List.foldl_append]
  exact ord_stay _ _ fun v hv => ord_sub _ _ _ hv

/-- Renamed. -/
def renV (r : Int → Int) (v : Int) : Option Tm := some (.node (-1 - r v) [])

theorem ren_vars {r : Int → Int} (t : Tm) : plainT t = true → (∀ v ∈ vn t, 0 ≤ r v) → vn (appT (renV r) t) = (vn t).map r := by
  refine Tm.ind (P := fun t => plainT t = true → (∀ v ∈ vn t, 0 ≤ r v) → vn (appT (renV r) t) = (vn t).map r) (fun f xs ih => ?_) t
  intro hp hv
  by_cases hf : f < 0
  · obtain rfl := plain_var hf hp
    have h0 := hv (-1 - f) (by simp [vn, hf])
    rw [app_var' _ hf]
    simp only [renV, Option.getD_some, vn, if_pos hf, vnL, List.append_nil, List.map_cons, List.map_nil]
    rw [if_pos (by omega)]
    congr 1; omega
  · rw [app_node _ hf]
    simp only [vn, if_neg hf, List.nil_append, vnL_flat, List.flatMap_map, List.map_flatMap]
    refine mov_low.flatMap_same fun u hu => ih u hu (plain_args hp u hu) fun v h' => hv v ?_
    simp only [vn, if_neg hf, List.nil_append, vnL_flat]
    exact List.mem_flatMap.2 ⟨u, hu, h'⟩

theorem ren_nu {r : Int → Int} {L : List Int} (t : Tm) : plainT t = true → (∀ v ∈ vn t, 0 ≤ r v) → (∀ v ∈ vn t, ∀ x ∈ L, r x = r v → x = v) → nuT (L.map r) (appT (renV r) t) = nuT L t := by
  refine Tm.ind (P := fun t => plainT t = true → (∀ v ∈ vn t, 0 ≤ r v) → (∀ v ∈ vn t, ∀ x ∈ L, r x = r v → x = v) → nuT (L.map r) (appT (renV r) t) = nuT L t) (fun f xs ih => ?_) t
  intro hp hv hi
  by_cases hf : f < 0
  · obtain rfl := plain_var hf hp
    have hm : -1 - f ∈ vn (.node f []) := by simp [vn, hf]
    have h0 := hv _ hm
    have hx := idx_map (g := r) L (-1 - f) fun x hx h => hi _ hm x hx h
    rw [app_var' _ hf]
    simp only [renV, Option.getD_some, nuT, nuL, nuF, if_pos hf]
    rw [if_pos (by omega), show -1 - (-1 - r (-1 - f)) = r (-1 - f) by omega, hx]
  · rw [app_node _ hf]
    simp only [nuT, nuF, if_neg hf, nuL_map, List.map_map]
    congr 1
    refine List.map_congr_left fun u hu => ?_
    have hsub : ∀ v ∈ vn u, v ∈ vn (.node f xs) := fun v h' => by
      simp only [vn, if_neg hf, List.nil_append, vnL_flat]
      exact List.mem_flatMap.2 ⟨u, hu, h'⟩
    exact ih u hu (plain_args hp u hu) (fun v h' => hv v (hsub v h')) fun v h' => hi v (hsub v h')

/-- Where terms have one normal form, the one comes of the other. -/
theorem nu_app {A B : List Int} (a : Tm) : plainT a = true → ∀ b : Tm, plainT b = true → nuT A a = nuT B b → (∀ v ∈ vn b, v ∈ B) → b = appT (renV fun v => B.getD (A.idxOf v) 0) a := by
  refine Tm.ind (P := fun a => plainT a = true → ∀ b : Tm, plainT b = true → nuT A a = nuT B b → (∀ v ∈ vn b, v ∈ B) → b = appT (renV fun v => B.getD (A.idxOf v) 0) a) (fun f xs ih => ?_) a
  rintro hp ⟨g, ys⟩ hq h hv
  simp only [nuT, Tm.node.injEq] at h
  obtain ⟨h1, h2⟩ := h
  rw [nuL_map, nuL_map] at h2
  by_cases hf : f < 0
  · obtain rfl := plain_var hf hp
    have hys : ys = [] := by simpa using h2.symm
    subst hys
    by_cases hg : g < 0
    · unfold nuF at h1
      rw [if_pos hf, if_pos hg] at h1
      have hm : -1 - g ∈ B := hv _ (by simp [vn, hg])
      have e : A.idxOf (-1 - f) = B.idxOf (-1 - g) := by omega
      have hl := List.idxOf_lt_length_of_mem hm
      rw [app_var' _ hf]
      simp only [renV, Option.getD_some, Tm.node.injEq, and_true]
      rw [e, List.getD_eq_getElem?_getD, List.getElem?_eq_getElem hl, List.getElem_idxOf hl]
      simp
      omega
    · unfold nuF at h1
      rw [if_pos hf, if_neg hg] at h1
      omega
  · by_cases hg : g < 0
    · unfold nuF at h1
      rw [if_neg hf, if_pos hg] at h1
      omega
    · unfold nuF at h1
      rw [if_neg hf, if_neg hg] at h1
      subst h1
      rw [app_node _ hf]
      congr 1
      have hlen : xs.length = ys.length := by have := congrArg List.length h2; simpa using this
      refine List.ext_getElem (by simpa using hlen.symm) fun i i1 i2 => ?_
      have hi : i < xs.length := by omega
      have e := congrArg (fun l => l[i]?) h2
      simp only [List.getElem?_map, List.getElem?_eq_getElem hi, List.getElem?_eq_getElem i1, Option.map_some, Option.some.injEq] at e
      rw [List.getElem_map]
      refine ih xs[i] (List.getElem_mem hi) (plain_args hp _ (List.getElem_mem hi)) ys[i] (plain_args hq _ (List.getElem_mem i1)) e fun v h' => hv v ?_
      simp only [vn, if_neg hf, List.nil_append, vnL_flat]
      exact List.mem_flatMap.2 ⟨_, List.getElem_mem i1, h'⟩

theorem app_id (h : Int → Tm) (a : Tm) : plainT a = true → appT (fun v => some (h v)) a = a → ∀ v ∈ vn a, h v = .node (-1 - v) [] := by
  refine Tm.ind (P := fun a => plainT a = true → appT (fun v => some (h v)) a = a → ∀ v ∈ vn a, h v = .node (-1 - v) []) (fun f xs ih => ?_) a
  intro hp he v hv
  by_cases hf : f < 0
  · obtain rfl := plain_var hf hp
    rw [app_var' _ hf] at he
    simp only [Option.getD_some] at he
    simp only [vn, if_pos hf, vnL, List.append_nil, List.mem_cons, List.not_mem_nil, or_false] at hv
    subst hv
    rw [he]
    congr 1; omega
  · rw [app_node _ hf] at he
    injection he with _ he
    simp only [vn, if_neg hf, List.nil_append, vnL_flat] at hv
    obtain ⟨u, hu, hv⟩ := List.mem_flatMap.1 hv
    refine ih u hu (plain_args hp u hu) ?_ v hv
    obtain ⟨i, hi, rfl⟩ := List.getElem_of_mem hu
    have e := congrArg (fun l => l[i]?) he
    simpa [List.getElem?_eq_getElem hi] using e

theorem app_app (g h : Int → Tm) (a : Tm) : plainT a = true → appT (fun v => some (h v)) (appT (fun v => some (g v)) a) = appT (fun v => some (appT (fun v => some (h v)) (g v))) a := by
  refine Tm.ind (P := fun a => plainT a = true → appT (fun v => some (h v)) (appT (fun v => some (g v)) a) = appT (fun v => some (appT (fun v => some (h v)) (g v))) a) (fun f xs ih => ?_) a
  intro hp
  by_cases hf : f < 0
  · rw [app_var' _ hf, app_var' _ hf]; rfl
  · rw [app_node _ hf, app_node _ hf, app_node _ hf, List.map_map]
    congr 1
    exact List.map_congr_left fun u hu => ih u hu (plain_args hp u hu)

theorem vn_ge (t : Tm) : ∀ v ∈ vn t, 0 ≤ v := by
  refine Tm.ind (P := fun t => ∀ v ∈ vn t, 0 ≤ v) (fun f xs ih => ?_) t
  intro v hv
  simp only [vn, List.mem_append] at hv
  rcases hv with hv | hv
  · split at hv
    · simp at hv; omega
    · simp at hv
  · rw [vnL_flat] at hv
    obtain ⟨u, hu, hv⟩ := List.mem_flatMap.1 hv
    exact ih u hu v hv

theorem mat_app {p u : Tm} (h : matB p u = true) : plainT p = true ∧ plainT u = true ∧ ∃ g : Int → Tm, appT (fun v => some (g v)) p = u := by
  unfold matB at h
  rcases hm : wkT p [] u with _ | M
  · rw [hm] at h; cases h
  · obtain ⟨h1, h2, h3⟩ := mat_plain hm
    have := (mt_app p h1 [] u M h3).app []
    rw [List.append_nil, app_val_fn _ _ h1] at this
    exact ⟨h1, h2, _, this⟩

theorem mat_of {p u : Tm} (hp : plainT p = true) (hu : plainT u = true) (g : Int → Tm) (h : appT (fun v => some (g v)) p = u) : matB p u = true := by
  unfold matB
  rw [mat_mt hp hu, ← h]
  obtain ⟨M', h1, _⟩ := mt_of g p hp [] fun x hx => by simp at hx
  rw [h1]; rfl

/-- Variants are those with one normal form. -/
theorem var_iff {a b : Tm} (hp : plainT a = true) (hq : plainT b = true) : varB a b = true ↔ nuT (ordT a) a = nuT (ordT b) b := by
  constructor
  · intro h
    unfold varB at h
    rw [Bool.and_eq_true] at h
    obtain ⟨_, _, g, hg⟩ := mat_app h.1
    obtain ⟨_, _, k, hk⟩ := mat_app h.2
    have hid : appT (fun v => some (appT (fun v => some (k v)) (g v))) a = a := by rw [← app_app g k a hp, hg, hk]
    have hv := app_id _ a hp hid
    -- each variable of a becomes a variable
    have hvar : ∀ v ∈ vn a, g v = .node (-1 - (-1 - (g v).fn)) [] ∧ 0 ≤ -1 - (g v).fn ∧ k (-1 - (g v).fn) = .node (-1 - v) [] := by
      intro v hva
      have e := hv v hva
      have hv0 := vn_ge a v hva
      have hpg : plainT (g v) = true := by
        have hq' := hq
        rw [← hg] at hq'
        exact plain_in a hp hq' v hva
      rcases hgv : g v with ⟨f, xs⟩
      rw [hgv] at e hpg
      by_cases hf : f < 0
      · obtain rfl := plain_var hf hpg
        rw [app_var' _ hf] at e
        simp only [Option.getD_some] at e
        simp only [Tm.fn]
        exact ⟨by congr 1; omega, by omega, e⟩
      · rw [app_node _ hf] at e
        injection e with e _
        omega
    obtain ⟨r, hr⟩ : ∃ r : Int → Int, r = fun v => -1 - (g v).fn := ⟨_, rfl⟩
    have hgr : ∀ v ∈ vn a, g v = .node (-1 - r v) [] := fun v h => by rw [hr]; exact (hvar v h).1
    have hr0 : ∀ v ∈ vn a, 0 ≤ r v := fun v h => by rw [hr]; exact (hvar v h).2.1
    have hri : ∀ x ∈ vn a, ∀ y ∈ vn a, r x = r y → x = y := fun x hx y hy e => by
      have e1 : k (r x) = .node (-1 - x) [] := by rw [hr]; exact (hvar x hx).2.2
      have e2 : k (r y) = .node (-1 - y) [] := by rw [hr]; exact (hvar y hy).2.2
      rw [e, e2] at e1
      injection e1 with e1 _
      omega
    have hb : b = appT (renV r) a := by
      rw [← hg]
      exact app_same a fun v h => by rw [hgr v h]; rfl
    have hvb : vn b = (vn a).map r := by rw [hb, ren_vars a hp hr0]
    have hob : ordT b = (ordT a).map r := by
      unfold ordT
      rw [hvb]
      exact ord_map (g := r) (vn a) [] fun x hx y hy e => hri x (by simpa using hx) y (by simpa using hy) e
    rw [hob, hb, ren_nu a hp hr0 fun v h x hx e => hri x (ordT_sub hx) v h e]
  · intro h
    unfold varB
    rw [Bool.and_eq_true]
    exact ⟨mat_of hp hq _ (nu_app a hp b hq h fun v hv => ordT_mem hv).symm, mat_of hq hp _ (nu_app b hq a hp h.symm fun v hv => ordT_mem hv).symm⟩
where
  plain_in {g : Int → Tm} (a : Tm) : plainT a = true → plainT (appT (fun v => some (g v)) a) = true → ∀ v ∈ vn a, plainT (g v) = true := by
    refine Tm.ind (P := fun a => plainT a = true → plainT (appT (fun v => some (g v)) a) = true → ∀ v ∈ vn a, plainT (g v) = true) (fun f xs ih => ?_) a
    intro hp he v hv
    by_cases hf : f < 0
    · obtain rfl := plain_var hf hp
      rw [app_var' _ hf] at he
      simp only [Option.getD_some] at he
      simp only [vn, if_pos hf, vnL, List.append_nil, List.mem_cons, List.not_mem_nil, or_false] at hv
      subst hv; exact he
    · rw [app_node _ hf] at he
      simp only [vn, if_neg hf, List.nil_append, vnL_flat] at hv
      obtain ⟨u, hu, hv⟩ := List.mem_flatMap.1 hv
      exact ih u hu (plain_args hp u hu) (plain_args he _ (List.mem_map.2 ⟨u, hu, rfl⟩)) v hv

end Go.Proofs.Ytglfjmbclimeeaa

/- match: names of variables make no difference, walked: the law MatchNames. -/

namespace Go.Proofs.Ytglfjmbclimeeaa

open Go.RowKit Go.Shelf
set_option maxRecDepth 100000

/-- The term at a place. -/
structure TmAt (w : World) (b off : Nat) (t : Tm) (A : Option Addr) (c : Nat) : Prop where
  c1 : w.cell? ⟨b, off, none⟩ = some (.int .i64 t.fn)
  c2 : w.cell? ⟨b, off + 1, none⟩ = some (.slice A t.args.length c)
  i : I64 t.fn
  hb : b < w.heap.size
  s : Args w w.heap.size A t.args

theorem TmAt.on {w w1 : World} {b off : Nat} {t : Tm} {A : Option Addr} {c : Nat} (h : TmAt w b off t A c) (hb : Below w.heap.size w w1) : TmAt w1 b off t A c :=
  ⟨cell_on hb h.hb h.c1, cell_on hb h.hb h.c2, h.i, Nat.lt_of_lt_of_le h.hb hb.size, h.s.on hb⟩

theorem ord_one (t : Tm) : (vnC [⟨false, t, t⟩]).foldl ordI [] = ordT t := by
  simp only [vnC, List.append_nil]
  exact ord_twice t

theorem norm_one (t : Tm) (hs : t.size ≤ 300) (A : Option Addr) (c : Nat) (w1 : World) (hf : I64 t.fn) (hA : Args w1 w1.heap.size A t.args) :
    Calls Try.prog 31 #[.slice (some ⟨w1.heap.size, 0, none⟩) 1 1] (w1.alloc (.cells #[.bool false, .int .i64 t.fn, .slice A t.args.length c, .int .i64 t.fn, .slice A t.args.length c] 35)) fun e w' => ∃ b off A' c' k v, e = .returned (.tuple #[.slice (some ⟨b, off, none⟩) 1 k, v]) ∧ TmAt w' b (off + 1) (nuT (ordT t) t) A' c' ∧ Below w1.heap.size w1 w' := by
  obtain ⟨W, hW⟩ : ∃ W, w1.alloc (.cells #[.bool false, .int .i64 t.fn, .slice A t.args.length c, .int .i64 t.fn, .slice A t.args.length c] 35) = W := ⟨_, rfl⟩
  have hB : Below w1.heap.size w1 W := by rw [← hW]; exact (Below.refl _ _).alloc (Nat.le_refl _) _
  have hWz : W.heap.size = w1.heap.size + 1 := by rw [← hW]; simp
  have hc := cells_new_lit w1 (.bool false) (.int .i64 t.fn) (.slice A t.args.length c) (.int .i64 t.fn) (.slice A t.args.length c) 35
  rw [hW] at hc ⊢
  have hAW : ArgsN W (· < W.heap.size) A t.args := (hA.on hB).toN
  have hL : Lits W (· < W.heap.size) (some ⟨w1.heap.size, 0, none⟩) [⟨false, t, t⟩] := ⟨by simp, fun _ => ⟨_, _, rfl, by omega, fun i x hx => by
    rcases i with _ | i
    · simp at hx; subst hx
      refine ⟨A, c, A, c, ⟨?_, ?_, ?_, ?_, ?_, hf, hf, hAW, hAW⟩⟩
      · simpa [Addr.add] using hc 0 _ rfl
      · simpa [Addr.add] using hc 1 _ rfl
      · simpa [Addr.add] using hc 2 _ rfl
      · simpa [Addr.add] using hc 3 _ rfl
      · simpa [Addr.add] using hc 4 _ rfl
    · simp at hx⟩⟩
  have hv := vn_len t
  have hN := Normal_any [⟨false, t, t⟩] (by simp) (fun x hx => by simp at hx; subst hx; exact ⟨by show t.size ≤ _; omega, by show t.size ≤ _; omega⟩) (by simp [vnC]; omega) (some ⟨w1.heap.size, 0, none⟩) 1 W hL
  refine hN.mono ?_
  rintro e w' ⟨A', c', v, rfl, hL', _, hb⟩
  rw [ord_one] at hL'
  obtain ⟨b, off, A1, c1, A2, c2, rfl, hbb, h⟩ := hL'.get (i := 0) (x := ⟨false, nuT (ordT t) t, nuT (ordT t) t⟩) rfl
  refine ⟨b, off, A1, c1, c', v, rfl, ⟨?_, ?_, h.il, hbb.2, (h.sl.wide fun g e => e.2).args fun g e => e⟩, hB.trans (hb.mono hB.size)⟩
  · simpa using h.v1
  · simpa using h.v2

theorem varB_comm {a b : Tm} : varB a b = varB b a := by unfold varB; rw [Bool.and_comm]

theorem varB_nu {a b : Tm} (hp : plainT a = true) (hq : plainT b = true) : varB a b = decide (cmpT (nuT (ordT a) a) (nuT (ordT b) b) = 0) := by
  have h := var_iff hp hq
  rcases hv : varB a b with _ | _
  · refine (decide_eq_false fun e => ?_).symm
    rw [hv] at h
    exact absurd (h.2 (cmp_zero_iff.1 e)) (by simp)
  · refine (decide_eq_true ?_).symm
    rw [h.1 hv]
    exact cmp_zero_iff.2 rfl

theorem varB_mov {a : Tm} {b : Int} (h0 : 0 ≤ b) (h1 : b ≤ 1000000) (hl : lowT a = true) : varB a (movT b a) = true := by
  have hm := mov_low h0 h1 a hl
  refine (var_iff (low_plain a hl) hm.plain).2 ?_
  have : ordT (movT b a) = (ordT a).map (· + b) := by
    unfold ordT
    rw [hm.vars]
    exact ord_map (g := (· + b)) (vn a) [] fun x _ y _ e => by omega
  rw [this, hm.nu]

theorem small_low {t : Tm} (h : smallT t = true) : t.size ≤ 300 ∧ lowT t = true := by
  simp only [smallT, Bool.and_eq_true, decide_eq_true_eq] at h
  exact ⟨h.1.1, h.2⟩

theorem clamp1 (b : Int) : (0 : Int) ≤ max (min b 1000) 0 ∧ max (min b 1000) 0 ≤ 1000 := by omega

set_option maxHeartbeats 4000000 in
theorem MatchNames_any (a b : Tm) (by0 : Int) (hsa : a.size ≤ 4398046511104) (hsb : b.size ≤ 4398046511104) (A B : Option Addr) (c d : Nat) (w : World) (hfa : I64 a.fn) (hfb : I64 b.fn) (hA : Args w w.heap.size A a.args) (hB : Args w w.heap.size B b.args) :
    Calls Try.prog 6 #[.agg #[.int .i64 a.fn, .slice A a.args.length c], .agg #[.int .i64 b.fn, .slice B b.args.length d], .int .i64 by0] w fun e w' => e = .returned (.bool true) ∧ Below w.heap.size w w' := by
  obtain ⟨W, hW⟩ : ∃ W, (w.alloc (.cells #[.int .i64 a.fn, .slice A a.args.length c] 31)).alloc (.cells #[.int .i64 b.fn, .slice B b.args.length d] 31) = W := ⟨_, rfl⟩
  have hBW : Below w.heap.size w W := by rw [← hW]; exact ((Below.refl _ _).alloc (Nat.le_refl _) _).alloc (by simp) _
  have hWz : W.heap.size = w.heap.size + 2 := by rw [← hW]; simp
  have q1 := heap_alloc_new (w.alloc (.cells #[.int .i64 a.fn, .slice A a.args.length c] 31)) (.cells #[.int .i64 b.fn, .slice B b.args.length d] 31)
  have q0 := (Below.heap_alloc (w.alloc (.cells #[.int .i64 a.fn, .slice A a.args.length c] 31)) (.cells #[.int .i64 b.fn, .slice B b.args.length d] 31) w.heap.size (by simp)).trans (heap_alloc_new w _)
  rw [hW] at q0 q1
  obtain ⟨a0, a1, _, _⟩ := cells_two q0
  obtain ⟨b0, b1, _, _⟩ := cells_two q1
  have ta : TmAt W w.heap.size 0 a A c := ⟨a0, a1, hfa, by omega, hA.on hBW⟩
  have tb : TmAt W (w.heap.size + 1) 0 b B d := ⟨by simpa using b0, by simpa using b1, hfb, by omega, hB.on hBW⟩
  have HW := Lib.hid hW
  have HBW := Lib.hid hBW
  have Ta := Lib.hid ta
  have Tb := Lib.hid tb
  have hsm := refSmall_any a A c W (by omega) hfa (hA.on hBW)
  have hsn : ∀ w1, Below W.heap.size W w1 → _ := fun w1 h => refSmall_any b B d w1 (by omega) hfb ((hB.on hBW).on h)
  have HA := Lib.hid (fun (w1 : World) (h : Below W.heap.size W w1) => (⟨(Ta.out.on h).c1, (Ta.out.on h).c2, (Tb.out.on h).c1, (Tb.out.on h).c2⟩ : w1.cell? ⟨w.heap.size, 0, none⟩ = some (.int .i64 a.fn) ∧ w1.cell? ⟨w.heap.size, 1, none⟩ = some (.slice A a.args.length c) ∧ w1.cell? ⟨w.heap.size + 1, 0, none⟩ = some (.int .i64 b.fn) ∧ w1.cell? ⟨w.heap.size + 1, 1, none⟩ = some (.slice B b.args.length d)))
  have hwk := Lib.hid mwakes_any
  clear hW ta tb q0 q1 a0 a1 b0 b1 hA hB hBW
  obtain ⟨x0, x1, x2, x3⟩ := HA.out W (Below.refl _ _)
  rcases s1 : smallT a with _ | _
  · rw [s1] at hsm
    have Hs := Lib.hid hsm
    clear s1 hsm hsn
    go_enter Try.func6, Try.ntmps6
    go_upto_region 1 with fail
    rw [HW.out]
    go_wp2_with (first
      | (go_at_call 25; (with_reducible refine Hs.out.mono ?_); go_must (rintro e w1 ⟨rfl, hb1⟩))
      | (go_at_call 20; (with_reducible refine (hwk.out _).mono ?_); go_must (rintro e w2 ⟨rfl, hb2⟩))
      | fail)
    go_ret
    exact ⟨rfl, HBW.out.trans ((hb1.trans (hb2.mono hb1.size)).mono HBW.out.size)⟩
  rw [s1] at hsm
  have Hs := Lib.hid hsm
  clear hsm
  rcases s2 : smallT b with _ | _
  · rw [s2] at hsn
    have Hn := Lib.hid hsn
    clear s1 s2 hsn
    go_enter Try.func6, Try.ntmps6
    go_upto_region 1 with fail
    rw [HW.out]
    go_wp2_with (first
      | (go_at_call 25; (with_reducible refine Hs.out.mono ?_); go_must (rintro e w1 ⟨rfl, hb1⟩; obtain ⟨y0, y1, y2, y3⟩ := HA.out w1 hb1))
      | (go_at_call 25; (with_reducible refine (Hn.out w1 hb1).mono ?_); go_must (rintro e w2 ⟨rfl, hb2⟩))
      | (go_at_call 20; (with_reducible refine (hwk.out _).mono ?_); go_must (rintro e w3 ⟨rfl, hb3⟩))
      | fail)
    go_ret
    exact ⟨rfl, HBW.out.trans (((hb1.trans (hb2.mono hb1.size)).trans (hb3.mono (Nat.le_trans hb1.size hb2.size))).mono HBW.out.size)⟩
  rw [s2] at hsn
  have Hn := Lib.hid hsn
  clear hsn
  obtain ⟨za, la⟩ := small_low s1
  obtain ⟨zb, lb⟩ := small_low s2
  have pa := low_plain a la
  have pb := low_plain b lb
  obtain ⟨k0, k1⟩ := clamp1 by0
  have hab := varB_nu pa pb
  have hba : varB b a = varB a b := varB_comm
  obtain ⟨n, hn⟩ : ∃ n, max (min by0 1000) 0 = n := ⟨_, rfl⟩
  rw [hn] at k0 k1
  have hmv := varB_mov k0 (Int.le_trans k1 (by decide)) la
  have hms := (mov_low k0 (Int.le_trans k1 (by decide)) a la).size
  have hn64 : I64 n := ⟨by omega, by omega⟩
  obtain ⟨m, hm⟩ : ∃ m, movT n a = m := ⟨_, rfl⟩
  rw [hm] at hmv hms
  obtain ⟨xa, hxa⟩ : ∃ x, nuT (ordT a) a = x := ⟨_, rfl⟩
  obtain ⟨xb, hxb⟩ : ∃ x, nuT (ordT b) b = x := ⟨_, rfl⟩
  obtain ⟨r, hr⟩ : ∃ r, varB a b = r := ⟨_, rfl⟩
  rw [hxa, hxb, hr] at hab
  rw [hr] at hba
  have N1 : ∀ w1, Below W.heap.size W w1 → _ := fun w1 h => norm_one a za A c w1 hfa (Ta.out.on h).s
  have N2 : ∀ w1, Below W.heap.size W w1 → _ := fun w1 h => norm_one b zb B d w1 hfb (Tb.out.on h).s
  rw [hxa] at N1
  rw [hxb] at N2
  have N1 := Lib.hid N1
  have N2 := Lib.hid N2
  have M1 : ∀ w1, Below W.heap.size W w1 → Calls Try.prog 32 #[.agg #[.int .i64 a.fn, .slice A a.args.length c], .int .i64 n] w1 fun e w' => ∃ M k, e = .returned (.agg #[.int .i64 m.fn, .slice M m.args.length k]) ∧ I64 m.fn ∧ Args w' w'.heap.size M m.args ∧ Below w1.heap.size w1 w' := fun w1 h => by
    have := subMove_any a n hsa A c w1 hfa hn64 (Ta.out.on h).s
    rw [hm] at this
    refine this.mono ?_
    rintro e w' ⟨M, k, rfl, h1, h2, h3⟩
    exact ⟨M, k, rfl, h1, (h2.argsN.wide fun g e => e.2).args fun g e => e, h3⟩
  have M1 := Lib.hid M1
  have V1 : ∀ w1, Below W.heap.size W w1 → Calls Try.prog 23 #[.agg #[.int .i64 a.fn, .slice A a.args.length c], .agg #[.int .i64 b.fn, .slice B b.args.length d]] w1 fun e w' => e = .returned (.bool r) ∧ Below w1.heap.size w1 w' := fun w1 h => by
    have := mvariant_any a b A B c d w1 (by omega) (by omega) hfa hfb (Ta.out.on h).s (Tb.out.on h).s
    rwa [hr] at this
  have V2 : ∀ w1, Below W.heap.size W w1 → Calls Try.prog 23 #[.agg #[.int .i64 b.fn, .slice B b.args.length d], .agg #[.int .i64 a.fn, .slice A a.args.length c]] w1 fun e w' => e = .returned (.bool r) ∧ Below w1.heap.size w1 w' := fun w1 h => by
    have := mvariant_any b a B A d c w1 (by omega) (by omega) hfb hfa (Tb.out.on h).s (Ta.out.on h).s
    rwa [hba] at this
  have V3 : ∀ w1 M k, Below W.heap.size W w1 → I64 m.fn → Args w1 w1.heap.size M m.args → Calls Try.prog 23 #[.agg #[.int .i64 a.fn, .slice A a.args.length c], .agg #[.int .i64 m.fn, .slice M m.args.length k]] w1 fun e w' => e = .returned (.bool true) ∧ Below w1.heap.size w1 w' := fun w1 M k h h1 h2 => by
    have := mvariant_any a m A M c k w1 (by omega) (by omega) hfa h1 (Ta.out.on h).s h2
    rwa [hmv] at this
  have V1 := Lib.hid V1
  have V2 := Lib.hid V2
  have V3 := Lib.hid V3
  have HBc := Lib.hid hab
  clear s1 s2 za zb la lb pa pb hab hba hmv hms hn64 hm hxa hxb hr k0 k1 hsa hsb
  go_enter Try.func6, Try.ntmps6
  go_upto_region 1 with fail
  rw [HW.out]
  go_upto_region 7 with (first
    | (go_at_call 25; (with_reducible refine Hs.out.mono ?_); go_must (rintro e w1 ⟨rfl, hb1⟩; obtain ⟨y0, y1, y2, y3⟩ := HA.out w1 hb1))
    | (go_at_call 25; (with_reducible refine (Hn.out w1 hb1).mono ?_); go_must (rintro e w2 ⟨rfl, hb2⟩; have hB2 := hb1.trans (hb2.mono hb1.size); obtain ⟨z0, z1, z2, z3⟩ := HA.out w2 hB2; have C1 := Lib.hid (N1.out w2 hB2)))
    | (go_at_call 31; (with_reducible refine C1.out.mono ?_); go_must (rintro e w3 ⟨g1, o1, E1, e1, l1, v1, rfl, ht1, hb3⟩; have hB3 := hB2.trans (hb3.mono hB2.size); have T1 := Lib.hid ht1; clear ht1; obtain ⟨u0, u1, u2, u3⟩ := HA.out w3 hB3; have C2 := Lib.hid (N2.out w3 hB3)))
    | (go_at_call 31; (with_reducible refine C2.out.mono ?_); go_must (rintro e w4 ⟨g2, o2, E2, e2, l2, v2, rfl, ht2, hb4⟩; have hB4 := hB3.trans (hb4.mono hB3.size); have T2 := Lib.hid ht2; clear ht2; obtain ⟨t0, t1, t2, t3⟩ := HA.out w4 hB4; have C3 := Lib.hid (M1.out w4 hB4)))
    | fail)
  go_upto_region 8 with (first
    | (go_at_call 32; (with_reducible refine C3.out.mono ?_); go_must (rintro e w5 ⟨M, k, rfl, hm64, hM, hb5⟩; have hB5 := hB4.trans (hb5.mono hB4.size); have HM := Lib.hid hM; clear hM; obtain ⟨p0, p1, p2, p3⟩ := HA.out w5 hB5))
    | fail)
  obtain ⟨w6, hw6⟩ : ∃ w6, w5.alloc (.cells #[.int .i64 m.fn, .slice M m.args.length k] 31) = w6 := ⟨_, rfl⟩
  have hB56 : Below w5.heap.size w5 w6 := by rw [← hw6]; exact (Below.refl _ _).alloc (Nat.le_refl _) _
  have hz6 : w6.heap.size = w5.heap.size + 1 := by rw [← hw6]; simp
  have hB6 := hB5.trans (hB56.mono hB5.size)
  have q6 := heap_alloc_new w5 (.cells #[.int .i64 m.fn, .slice M m.args.length k] 31)
  rw [hw6] at q6
  obtain ⟨m0, m1, _, _⟩ := cells_two q6
  have tm6 := Lib.hid (⟨m0, m1, hm64, by omega, HM.out.on hB56⟩ : TmAt w6 w5.heap.size 0 m M k)
  have hB46 := (hb5.trans (hB56.mono hb5.size))
  have T16 := Lib.hid ((T1.out.on hb4).on hB46)
  have T26 := Lib.hid (T2.out.on hB46)
  rw [hw6]
  clear hw6 q6 m0 m1 T1 T2 HM C1 C2 C3 N1 N2 M1 Hs Hn hn
  have hy : ∀ y : Later w6.heap.size w6, Below W.heap.size W y.w := fun y => hB6.trans (y.h.mono hB6.size)
  have j0 : ∀ y : Later w6.heap.size w6, y.w.cell? ⟨w.heap.size, 0, none⟩ = some (.int .i64 a.fn) := fun y => (HA.out y.w (hy y)).1
  have j1 : ∀ y : Later w6.heap.size w6, y.w.cell? ⟨w.heap.size, 1, none⟩ = some (.slice A a.args.length c) := fun y => (HA.out y.w (hy y)).2.1
  have j2 : ∀ y : Later w6.heap.size w6, y.w.cell? ⟨w.heap.size + 1, 0, none⟩ = some (.int .i64 b.fn) := fun y => (HA.out y.w (hy y)).2.2.1
  have j3 : ∀ y : Later w6.heap.size w6, y.w.cell? ⟨w.heap.size + 1, 1, none⟩ = some (.slice B b.args.length d) := fun y => (HA.out y.w (hy y)).2.2.2
  have j4 : ∀ y : Later w6.heap.size w6, y.w.cell? ⟨g1, o1 + 1, none⟩ = some (.int .i64 xa.fn) := fun y => (T16.out.on y.h).c1
  have j5 : ∀ y : Later w6.heap.size w6, y.w.cell? ⟨g1, o1 + 1 + 1, none⟩ = some (.slice E1 xa.args.length e1) := fun y => (T16.out.on y.h).c2
  have j6 : ∀ y : Later w6.heap.size w6, y.w.cell? ⟨g2, o2 + 1, none⟩ = some (.int .i64 xb.fn) := fun y => (T26.out.on y.h).c1
  have j7 : ∀ y : Later w6.heap.size w6, y.w.cell? ⟨g2, o2 + 1 + 1, none⟩ = some (.slice E2 xb.args.length e2) := fun y => (T26.out.on y.h).c2
  have j8 : ∀ y : Later w6.heap.size w6, y.w.cell? ⟨w5.heap.size, 0, none⟩ = some (.int .i64 m.fn) := fun y => (tm6.out.on y.h).c1
  have j9 : ∀ y : Later w6.heap.size w6, y.w.cell? ⟨w5.heap.size, 1, none⟩ = some (.slice M m.args.length k) := fun y => (tm6.out.on y.h).c2
  have K1 := Lib.hid fun y : Later w6.heap.size w6 => V1.out y.w (hy y)
  have K2 := Lib.hid fun y : Later w6.heap.size w6 => V2.out y.w (hy y)
  have K3 := Lib.hid fun y : Later w6.heap.size w6 => V3.out y.w M k (hy y) hm64 (tm6.out.on y.h).s
  have K4 : ∀ y : Later w6.heap.size w6, Calls Try.prog 27 #[.agg #[.int .i64 xa.fn, .slice E1 xa.args.length e1], .agg #[.int .i64 xb.fn, .slice E2 xb.args.length e2]] y.w fun e w' => e = .returned (.bool r) ∧ Below y.w.heap.size y.w w' := fun y => by
    have := ref2Same_any' xa xb E1 E2 e1 e2 y.w (T16.out.i) (T26.out.i) (T16.out.on y.h).s (T26.out.on y.h).s
    rwa [← HBc.out] at this
  have K4 := Lib.hid K4
  have K5 := Lib.hid fun y : Later w6.heap.size w6 => hwk.out y.w
  have hrr : (r == r) = true := by simp
  clear hy x0 x1 x2 x3 y0 y1 y2 y3 z0 z1 z2 z3 u0 u1 u2 u3 t0 t1 t2 t3 p0 p1 p2 p3 V1 V2 V3 T16 T26 tm6
  refine wp_region_later w6.heap.size w6 (by kernel_rfl) (by kernel_rfl) (bl_drewN (Below.refl _ _) 1) ?_
  repeat (go_big_quiet_step (first
    | (go_at_call 23; first
      | (with_reducible refine calls_later _ (Nat.le_refl _) (K1.out _))
      | (with_reducible refine calls_later _ (Nat.le_refl _) (K2.out _))
      | (with_reducible refine calls_later _ (Nat.le_refl _) (K3.out _)))
    | (go_at_call 27; with_reducible refine calls_later _ (Nat.le_refl _) (K4.out _))
    | (go_at_call 20; with_reducible refine calls_later _ (Nat.le_refl _) (K5.out _))
    | fail))
  refine wpQuiet_nil ?_
  rintro _ ⟨z, rfl⟩
  clear j0 j1 j2 j3 j4 j5 j6 j7 j8 j9 K1 K2 K3 K4 K5
  go_wp2
  go_ret
  exact ⟨rfl, HBW.out.trans ((hB6.trans (z.h.mono hB6.size)).mono HBW.out.size)⟩

end Go.Proofs.Ytglfjmbclimeeaa

/- What an argument reads as: signatures and lists of symbols, opened. -/

namespace Go.Proofs.Ytglfjmbclimeeaa

open Go.ChangeShapes Go.WideShapes Go.ChangeAt Go.RowKit

section

variable {H : Type} {enc : TypeId × Value → H} {W : World} {base : Nat} {sp : Nat → Bool} {held : Bool}

theorem cellsStr : Try.prog.cellsOf 9 = 1 := by kernel_rfl

theorem cellsInt : Try.prog.cellsOf 3 = 1 := by kernel_rfl

theorem cellsBool : Try.prog.cellsOf 4 = 1 := by kernel_rfl

theorem cell_spot {W : World} {a : Addr} {v : Value} (h : W.cell? a = some v) : a.spot = none := by
  unfold World.cell? at h
  split at h
  · split at h
    · cases h
    · rename_i hs; simpa using hs
  · cases h

end

end Go.Proofs.Ytglfjmbclimeeaa

/- Terms and numbers that are arguments, opened. -/

namespace Go.Proofs.Ytglfjmbclimeeaa

open Go.ChangeShapes Go.WideShapes Go.ChangeAt Go.RowKit
set_option maxRecDepth 20000

section

variable {H : Type} {enc : TypeId × Value → H} {W : World} {base : Nat} {held : Bool}

theorem cellsTerm : Try.prog.cellsOf 31 = 2 := by kernel_rfl

theorem cellsTerms : Try.prog.cellsOf 29 = 1 := by kernel_rfl

theorem bulk_all : ∀ (ts : List Tm) (ds : List (DataW H)), ts.length = ds.length → (∀ (i : Nat) (t : Tm) (d : DataW H), ts[i]? = some t → ds[i]? = some d → t.size ≤ Rows.uptoBulk d) → sizes ts ≤ Rows.uptoBulkAll ds
  | [], [], _, _ => by simp [sizes]
  | [], _ :: _, h, _ => by simp at h
  | _ :: _, [], h, _ => by simp at h
  | t :: ts, d :: ds, h, hh => by
    have h1 := hh 0 t d rfl rfl
    have h2 := bulk_all ts ds (by simpa using h) fun i t' d' e1 e2 => hh (i + 1) t' d' (by simpa using e1) (by simpa using e2)
    simp only [sizes, Rows.uptoBulkAll]
    omega

theorem trod_term : ∀ (n : Nat) (cs : List Value) (x : DataW H × List MemPlace), DataW.trod enc Try.prog W base (fun _ => true) held n 31 cs = some x →
    ∃ (t : Tm) (A : Option Addr) (c : Nat), cs = [.int .i64 t.fn, .slice A t.args.length c] ∧ I64 t.fn ∧ Args W W.heap.size A t.args ∧ t.size ≤ Rows.uptoBulk x.1 := by
  intro n
  induction n using Nat.strongRecOn with
  | ind n ih =>
    intro cs x h
    obtain ⟨xs, n', rfl, hx, hlen, hxs, hf⟩ := DataW.trod_struct Try.underlying31 h
    rw [cellsTerm] at hlen
    match cs, hlen with
    | [c0, c1], _ =>
      have hx2 : xs.length = 2 := by rw [hxs]; rfl
      match xs, hx2 with
      | [x0, x1], _ =>
        have g0 := hf 0 _ rfl
        have g1 := hf 1 _ rfl
        simp [cellsInt] at g0
        simp [cellsTerms] at g1
        obtain ⟨f, hfv, ef, hw⟩ := DataW.trod_int Try.underlying3 g0
        injection hfv with hfv
        subst hfv
        have hf64 : I64 f := by
          have := hw
          simp [Lit.wf, IntKind.min, IntKind.max, IntKind.signed, IntKind.bits] at this
          exact this
        rcases DataW.trod_slice Try.underlying29 g1 with ⟨hv, e1⟩ | ⟨a, len, cap, elems, rest, m, hm, hv, e1, _, hl, hmax, hlenE, hel, _, _⟩
        · injection hv with hv
          subst hv
          refine ⟨.node f [], none, 0, rfl, hf64, .nil none, ?_⟩
          subst hx
          simp [ef, e1, Tm.size, sizes, Rows.uptoBulk, Rows.uptoBulkAll]
        · injection hv with hv
          subst hv
          have each : ∀ i, i < len → ∃ q : Tm × Option Addr × Nat × DataW H, I64 q.1.fn ∧ W.cell? (a.add (i * 2)) = some (.int .i64 q.1.fn) ∧ W.cell? ((a.add (i * 2)).add 1) = some (.slice q.2.1 q.1.args.length q.2.2.1) ∧ Args W W.heap.size q.2.1 q.1.args ∧ q.1.size ≤ Rows.uptoBulk q.2.2.2 ∧ (elems.map (·.1))[i]? = some q.2.2.2 := by
            intro i hi
            have h1 := hel i hi
            rw [cellsTerm] at h1
            rw [List.getElem?_eq_getElem (by omega)] at h1
            cases hc : W.cells? base (a.add (i * 2)) 2 with
            | none => rw [hc] at h1; cases h1
            | some cs' =>
              rw [hc] at h1
              simp only [Option.bind_some] at h1
              obtain ⟨t, A, c, rfl, ht64, hA, hb⟩ := ih m (by omega) cs' _ h1
              obtain ⟨_, _, hat⟩ := World.cells?_some hc
              refine ⟨(t, A, c, (elems[i]'(by omega)).1), ht64, ?_, hat 1 (by omega), hA, hb, by rw [List.getElem?_map, List.getElem?_eq_getElem (show i < elems.length by omega)]; rfl⟩
              have := hat 0 (by omega)
              simpa [Addr.add] using this
          haveI : Inhabited (Tm × Option Addr × Nat × DataW H) := ⟨(.node 0 [], none, 0, .nil)⟩
          obtain ⟨q, hq⟩ := Go.Deep.choose_lt each
          have hget : ∀ (i : Nat) (t : Tm), ((List.range len).map fun i => (q i).1)[i]? = some t → i < len ∧ t = (q i).1 := by
            intro i t e
            have hi : i < len := by have := (List.getElem?_eq_some_iff.1 e).1; simpa using this
            rw [List.getElem?_map, List.getElem?_range hi] at e
            simp at e
            exact ⟨hi, e.symm⟩
          refine ⟨.node f ((List.range len).map fun i => (q i).1), some a, cap, by simp [Tm.fn, Tm.args], hf64, ?_, ?_⟩
          · rcases Nat.eq_zero_or_pos len with h0 | h0
            · subst h0; exact .nil _
            · have c00 := (hq 0 h0).2.1
              simp only [Nat.zero_mul, Addr.add, if_true] at c00
              obtain ⟨blk, off, spot⟩ := a
              obtain rfl : spot = none := cell_spot c00
              have hblk : blk < W.heap.size := by
                unfold World.cell? at c00
                rcases Nat.lt_or_ge blk W.heap.size with h1 | h1
                · exact h1
                · simp [Array.getElem?_eq_none h1] at c00
              simp only [Tm.args]
              refine .row blk off _ (fun i => (q i).2.1) (fun i => (q i).2.2.1) hblk (by unfold maxLen at hmax; simp; omega) (fun i t e => ?_) (fun i t e => ?_) (fun i t e => ?_) (fun i t e => ?_)
              · obtain ⟨hi, rfl⟩ := hget i t e
                exact (hq i hi).1
              · obtain ⟨hi, rfl⟩ := hget i t e
                have := (hq i hi).2.1
                rwa [Addr.add_lit] at this
              · obtain ⟨hi, rfl⟩ := hget i t e
                have := (hq i hi).2.2.1
                rwa [Addr.add_lit, Addr.add_lit] at this
              · obtain ⟨hi, rfl⟩ := hget i t e
                exact (hq i hi).2.2.2.1
          · subst hx
            have hb : sizes ((List.range len).map fun i => (q i).1) ≤ Rows.uptoBulkAll (elems.map (·.1)) := by
              refine bulk_all _ _ (by simp [hlenE]) fun i t d e1 e2 => ?_
              obtain ⟨hi, rfl⟩ := hget i t e1
              have h5 := (hq i hi).2.2.2.2
              rw [h5.2] at e2
              cases e2
              exact h5.1
            simp only [ef, e1, Tm.size, List.map_cons, List.map_nil, Rows.uptoBulk, Rows.uptoBulkAll]
            omega

/-- A term that is an argument. -/
theorem open_term {r : Reach} {b0 : Nat} {v : Value} {d : DataW H} {ps : List MemPlace} (hv : Value.okWide Try.prog W r b0 31 v) (h : DataW.Trod enc Try.prog W base (fun _ => true) held 31 v d ps) :
    ∃ (t : Tm) (A : Option Addr) (c : Nat), v = .agg #[.int .i64 t.fn, .slice A t.args.length c] ∧ I64 t.fn ∧ Args W W.heap.size A t.args ∧ t.size ≤ Rows.uptoBulk d := by
  obtain ⟨cs, rfl, _⟩ := okWide_struct Try.underlying31 hv
  obtain ⟨fuel, hf⟩ := h
  obtain ⟨t, A, c, hcs, h1, h2, h3⟩ := trod_term _ _ _ hf
  refine ⟨t, A, c, ?_, h1, h2, h3⟩
  have hcs' : cs.toList = [.int .i64 t.fn, .slice A t.args.length c] := hcs
  rw [show cs = #[.int .i64 t.fn, .slice A t.args.length c] from Array.toList_inj.1 (by rw [hcs'])]

end

end Go.Proofs.Ytglfjmbclimeeaa

/- A law's last step, whatever its arguments: it answered true, and below the heap's old size nothing has turned. -/

namespace Go.Proofs.Ytglfjmbclimeeaa

open Go.ChangeShapes Go.WideShapes Go.ChangeAt Go.RowKit

section

variable {H : Type} {enc : TypeId × Value → H} {P : Program}

theorem trodAll_later (hl : laidOutB P = true) {W W' : World} (hb : Below W.heap.size W W') : ∀ {ts : List TypeId} {vs : List Value} {ds : List (DataW H)} {ps : List MemPlace},
    (ts.all fun t => P.readableRec t && decide (t < P.types.size)) = true → (∀ x ∈ ps, x.block < W.heap.size) → DataW.TrodAll enc P W 0 (fun _ => true) true ts vs ds ps → DataW.TrodAll enc P W' 0 (fun b => decide (b < W.heap.size)) true ts vs ds ps
  | [], [], [], _, _, _, h => h
  | [], [], _ :: _, _, _, _, h => h.elim
  | [], _ :: _, _, _, _, _, h => h.elim
  | _ :: _, [], _, _, _, _, h => h.elim
  | _ :: _, _ :: _, [], _, _, _, h => h.elim
  | t :: ts, v :: vs, d :: ds, ps, hr, hlt, h => by
    obtain ⟨p, q, h1, h2, rfl⟩ := h
    simp only [List.all_cons, Bool.and_eq_true, decide_eq_true_eq] at hr
    exact ⟨p, q, Below.trod hl hr.1.1 hr.1.2 h1 hb (fun x hx => hlt x (List.mem_append_left _ hx)), trodAll_later hl hb hr.2 (fun x hx => hlt x (List.mem_append_right _ hx)) h2, rfl⟩

theorem law_post (hl : laidOutB P = true) {f : Func} {s : ChangeSpec} {tb : TypeId} (hv : s.vars = []) (hrt : f.resultTypes = #[tb]) (htb : P.underlying tb = some .bool)
    (hread : (f.params.toList.all fun t => P.readableRec t && decide (t < P.types.size)) = true) {W W' : World} {args : Array Value} {ds gs : List (DataW H)} {before : List MemPlace}
    (hW : DataW.Whole enc P f.params.toList s.vars false W args.toList ds gs before) (hfn : s.fn H (ds ++ gs) = { results := [.lit (.bool true)], args := ds }) (hb : Below W.heap.size W W') :
    s.post enc P f false true false false W args (.bool true) W' := by
  have hlt := hW.lt
  have hW' := hW
  obtain ⟨p, q, hA, hV, rfl, hfz, _⟩ := hW'
  have hV' : gs = [] ∧ q = [] := by
    rw [hv] at hV
    cases gs with
    | nil => exact ⟨rfl, hV⟩
    | cons _ _ => exact hV.elim
  obtain ⟨rfl, rfl⟩ := hV'
  have hold : ∀ x ∈ p, x.block < W.heap.size := fun x hx => hlt x (by simp [hx])
  refine ⟨ds, [], p ++ [], [], p, [], hW, ?_, ?_, ?_, World.keptBut_mono (fun x hx => ⟨hx, ?_⟩) (hb.frame (· ∈ p ++ [])), fun h => by cases h⟩
  · rw [hfn, hrt]
    exact trodAll_mk1 (shut_bool htb _)
  · rw [hfn]
    exact trodAll_later hl hb hread hold hA
  · rw [hfn, hv]
    rfl
  · rw [List.append_nil] at hx
    exact .inr (.inl hx)

end

end Go.Proofs.Ytglfjmbclimeeaa

