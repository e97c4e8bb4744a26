/- The document's own answer: Apply. -/
import Derived.Test.YtdeegdndfblnkaaUA
import Derived.Test.YtdeegdndfblnkaaUFA
import Derived.Deep.RegionLaw
import Derived.Deep.DeepCutAuto
namespace Go.Proofs.Ytdeegdndfblnkaa
open Go.RowKit Go.Shelf
set_option maxRecDepth 100000

/-- What the loop has laid: the box n, its row behind it. -/
structure ApI (n : Nat) (wr : World) (f : Int) (ys : List Tm) (k : Nat) (v : Value) (l : List Ti) : Prop where
  box : wr.heap[n]? = some (.cells #[.int .i64 f, v] 31)
  key : l.map Ti.t = ys.take k
  row : RowT wr (n + 1) v l (Apart (n + 1) v wr)
theorem ApI.len {n : Nat} {wr : World} {f : Int} {xs : List Tm} {k : Nat} {v : Value} {l : List Ti} (h : ApI n wr f xs k v l) (hk : k ≤ xs.length) : l.length = k := by
  have := congrArg List.length h.key
  simpa [Nat.min_eq_left hk] using this
/-- One more: the copy of the next argument, its box, the row that has grown, the store. -/
theorem ApI.next {n : Nat} {wr w4 w5 : World} {f : Int} {xs : List Tm} {k : Nat} {v v4 v5 : Value} {l l4 : List Ti} {u : Tm} {A4 : Option Addr} {c4 : Nat} {o : Obj} (h : ApI n wr f xs k v l) (hu : xs[k]? = some u) (hi : I64 u.fn) (hl4 : l4.map Ti.t = u.args) (h64 : u.args.length ≤ 9223372036854775807) (hv4 : v4 = .slice A4 u.args.length c4)
    (hR4 : RowT w4 wr.heap.size v4 l4 (Apart wr.heap.size v4 w4)) (hb4 : Below wr.heap.size wr w4) (hown : w5.ownsRow (n + 1) 31 2 v5 (k + 1) (l.flatMap Ti.cells ++ (⟨u, A4, c4⟩ : Ti).cells))
    (hgr : (w4.alloc o).grownBy w5 v.ownBlock) (hat : v5.ownBlock = v.ownBlock ∨ v5.ownBlock = some (w4.alloc o).heap.size) :
    ApI n (w5.setCell ⟨n, 1, none⟩ v5) f xs (k + 1) v5 (l ++ [⟨u, A4, c4⟩]) := by
  have hkl := (List.getElem?_eq_some_iff.1 hu).1
  have hlen := h.len (by omega)
  have hlt := row_lt h.row.row
  have hs4 := hb4.size
  have hs5 := hgr.size
  have hbs : n < wr.heap.size := (Array.getElem?_eq_some_iff.1 h.box).1
  have hK : ∀ g, g < wr.heap.size → v.ownBlock ≠ some g → w5.heap[g]? = wr.heap[g]? := fun g h1 h2 => (hgr.block g (by simp; omega) (fun e => h2 e.symm)).trans ((Below.heap_alloc w4 o g (by omega)).trans (hb4.block g h1))
  have hK4 : ∀ g, g < w4.heap.size → v.ownBlock ≠ some g → w5.heap[g]? = w4.heap[g]? := fun g h1 h2 => (hgr.block g (by simp; omega) (fun e => h2 e.symm)).trans (Below.heap_alloc w4 o g h1)
  have hb2 : v.ownBlock ≠ some (n) := fun e => by have := (hlt _ e).1; omega
  have hbox5 := (hK _ hbs hb2).trans h.box
  obtain ⟨_, z1⟩ := set2_two (u := .int .i64 f) (v := v5) hbox5
  have hset : ∀ g, g ≠ n → (w5.setCell ⟨n, 1, none⟩ v5).heap[g]? = w5.heap[g]? := fun g e => heap_setCell_other _ _ _ _ e
  have hlt5 := row_lt hown
  have hv5 : ∀ g, g < wr.heap.size → v.ownBlock ≠ some g → v5.ownBlock ≠ some g := fun g h1 h2 e => by
    rcases hat with h3 | h3
    · rw [h3] at e; exact h2 e
    · rw [h3] at e; injection e with e; simp at e; omega
  have hv54 : ∀ g, wr.heap.size ≤ g → g < w4.heap.size → v5.ownBlock ≠ some g := fun g h1 h2 e => by
    rcases hat with h3 | h3
    · rw [h3] at e; have := (hlt _ e).2; omega
    · rw [h3] at e; injection e with e; simp at e; omega
  have hsz5 : w4.heap.size + 1 ≤ w5.heap.size := by simpa using hs5
  refine ⟨?_, ?_, ?_⟩
  · exact heap_setCell_same w5 _ 1 _ _ _ hbox5
  · rw [List.map_append, h.key, List.take_add_one, hu]; rfl
  · refine RowT.push (w := wr) (N := Apart (n + 1) v wr) h.row ?_ hi ?_ (fun g hg => ?_) (fun g hg => ⟨hg.1, by have := hg.2.1; simp; omega, hv5 g hg.2.1 hg.2.2⟩)
    · rw [hlen]
      exact row_keep hown fun g e => hset g (by have := (hlt5 g e).1; omega)
    · have hl4l : l4.length ≤ 9223372036854775807 := by have := congrArg List.length hl4; simp at this; omega
      obtain ⟨A', c', e, hA⟩ := hR4.argsN (M := fun g => wr.heap.size ≤ g ∧ g < w4.heap.size) hl4l (fun g e => row_lt hR4.row g e) (fun g hg => ⟨hg.1, hg.2.1⟩)
      rw [hv4] at e
      injection e with e1 _ _
      subst e1
      rw [hl4] at hA
      refine (hA.keep fun g hg => ?_).wide fun g hg => ⟨by omega, by simp; omega, hv54 g hg.1 hg.2⟩
      exact (hset g (by omega)).trans (hK4 g hg.2 fun e => by have := (hlt _ e).2; omega)
    · exact (hset g (by have := hg.1; omega)).trans (hK g hg.2.1 hg.2.2)

theorem found_i64 {l : List Bd} {v : Int} {x : Bd} {w : World} {N : Nat → Prop} {A : Option Addr} (hB : Binds w N A l) (h : findB l v = some x) : I64 x.t.fn := by
  obtain ⟨i, hi⟩ := List.mem_iff_getElem?.1 (List.mem_of_find?_eq_some h)
  obtain ⟨_, _, _, _, _, hat⟩ := hB.get hi
  exact hat.it
theorem appT_bound {l : List Bd} {f : Int} {xs : List Tm} {x : Bd} (hf : f < 0) (h : findB l (-1 - f) = some x) : appT (bdT l) (.node f xs) = x.t := by
  simp only [appT, if_pos hf, bdT, h, Option.map_some, Option.getD_some]
theorem appT_free {l : List Bd} {f : Int} {xs : List Tm} (h : ¬ f < 0 ∨ findB l (-1 - f) = none) : appT (bdT l) (.node f xs) = .node f (xs.map (appT (bdT l))) := by
  rw [← appL_eq]
  rcases h with h | h
  · simp only [appT, if_neg h, Option.getD_none]
  · simp only [appT, bdT, h, Option.map_none]
    split <;> rfl
theorem appT_fn64 {l : List Bd} {w : World} {N : Nat → Prop} {A : Option Addr} (hB : Binds w N A l) {t : Tm} (hf : I64 t.fn) : I64 (appT (bdT l) t).fn := by
  obtain ⟨f, xs⟩ := t
  by_cases h : f < 0
  · rcases hx : findB l (-1 - f) with _ | x
    · rw [appT_free (.inr hx)]; exact hf
    · rw [appT_bound h hx]; exact found_i64 hB hx
  · rw [appT_free (.inl h)]; exact hf
theorem appT_args {l : List Bd} (hsm : ∀ x ∈ l, x.t.size ≤ 4398046511104) {t : Tm} (ht : t.args.length ≤ 9223372036854775807) : (appT (bdT l) t).args.length ≤ 9223372036854775807 := by
  obtain ⟨f, xs⟩ := t
  by_cases h : f < 0
  · rcases hx : findB l (-1 - f) with _ | x
    · rw [appT_free (.inr hx)]; simpa [Tm.args] using ht
    · rw [appT_bound h hx]
      have h1 := hsm x (List.mem_of_find?_eq_some hx)
      rcases hxt : x.t with ⟨g, ys⟩
      rw [hxt] at h1
      have := sizes_len ys
      simp only [Tm.args, Tm.size] at h1 ⊢
      omega
  · rw [appT_free (.inl h)]; simpa [Tm.args] using ht

def RAppAt (l : List Bd) (t : Tm) : Prop := t.size ≤ 4398046511104 → ∀ (B : Option Addr) (cb : Nat) (A : Option Addr) (c : Nat) (w : World), Binds w (· < w.heap.size) B l → I64 t.fn → Args w w.heap.size A t.args →
  Calls Try.prog 58 #[.slice B l.length cb, .agg #[.int .i64 t.fn, .slice A t.args.length c]] w (RCopyPost (appT (bdT l) t) w)

/-- What is told of a bound variable. -/
theorem rapp_fin {y : Tm} {w w1 : World} {v4 : Value} {b : Nat} {o : Obj} (hb0 : w.heap.size ≤ b) {W : World} (hbW : b < W.heap.size) (hB : Below w.heap.size w W) (h1 : Below W.heap.size W w1) (hO : OwnRow y W v4 w1) :
    RCopyPost y w (.returned (.agg #[.int .i64 y.fn, v4])) (((w1.alloc o).setCell ⟨b, 0, none⟩ (.int .i64 y.fn)).setCell ⟨b, 1, none⟩ v4) := by
  obtain ⟨l4, hl, hR⟩ := hO
  have hoth : ∀ g, g ≠ b → g < w1.heap.size → (((w1.alloc o).setCell ⟨b, 0, none⟩ (.int .i64 y.fn)).setCell ⟨b, 1, none⟩ v4).heap[g]? = w1.heap[g]? := fun g e h => ((heap_setCell_other _ _ _ _ e).trans (heap_setCell_other _ _ _ _ e)).trans (Below.heap_alloc w1 o g h)
  have hs := hB.size
  have hs1 := h1.size
  refine ⟨v4, l4, rfl, hl, ?_, ((((hB.trans (h1.mono hs)).alloc (by omega) _)).setCell (by show _ ≤ b; omega) _).setCell (by show _ ≤ b; omega) _⟩
  have hk := (hR.keep (fun g e => hoth g (by have := (row_lt hR.row g e).1; omega) (row_lt hR.row g e).2) (fun g e => hoth g (by have := e.1; omega) e.2.1)).base (base' := w.heap.size) hs
  exact hk.wide fun g e => ⟨Nat.le_trans hs e.1, by have := e.2.1; simp; omega, e.2.2⟩

set_option maxHeartbeats 4000000 in
theorem refApply_any (l : List Bd) (hsm : ∀ x ∈ l, x.t.size ≤ 4398046511104) (t : Tm) : RAppAt l t := by
  refine Tm.ind (P := RAppAt l) (fun f xs ih => ?_) t
  intro hsz B cb A c w hBd hf hA
  simp only [Tm.fn, Tm.args] at hf hA ⊢
  have hlen : xs.length ≤ 4398046511104 := by have := sizes_len xs; simp only [Tm.size] at hsz; omega
  obtain ⟨i0, hi, hz0, hz1, hz2⟩ := info_parts info_term
  obtain ⟨q0, q1⟩ := heap2 w (.cells #[.int .i64 f, .slice A xs.length c] 31) (.cells #[.int .i64 0, .slice none 0 0] 31)
  obtain ⟨W, hW⟩ : ∃ W, ((w.alloc (.cells #[.int .i64 f, .slice A xs.length c] 31)).alloc (.cells #[.int .i64 0, .slice none 0 0] 31)) = W := ⟨_, rfl⟩
  have hB0 : Below w.heap.size w W := by rw [← hW]; exact ((Below.refl _ _).alloc (Nat.le_refl _) _).alloc (by simp) _
  rw [hW] at q0 q1
  have hWs : w.heap.size + 1 < W.heap.size := (Array.getElem?_eq_some_iff.1 q1).1
  have HW := Lib.hid hW
  have HA := Lib.hid hA
  have HBd := Lib.hid hBd
  have hlo := hf.1
  have hhi := hf.2
  obtain ⟨x0, x1, _, _⟩ := cells_two q0
  have lift : ∀ w1, Below w.heap.size w w1 → Binds w1 (· < w1.heap.size) B l := fun w1 hb => (hBd.keep fun g e => hb.block g e).wide fun g e => Nat.lt_of_lt_of_le e hb.size
  have HG := Lib.hid (refGet_any l (-1 - f) B cb W hsm (lift W hB0))
  have HL := Lib.hid lift
  clear hW hA hBd lift
  by_cases hbound : f < 0 ∧ (findB l (-1 - f)).isSome
  · obtain ⟨hneg, hso⟩ := hbound
    obtain ⟨x, hx⟩ := Option.isSome_iff_exists.1 hso
    rw [appT_bound hneg hx]
    have Hx := Lib.hid hx
    obtain ⟨r0, r1, rf0, rf1⟩ := cells_two q1
    clear hso hx
    go_enter Try.func58, Try.ntmps58
    go_upto_region 1 with fail
    rw [HW.out]
    go_wp2_with (first
      | (go_at_call 15; (with_reducible refine HG.out.mono ?_); go_must (rintro e w1 ⟨hb1, he⟩; rw [Hx.out] at he; obtain ⟨v4, rfl, hi4, hO4⟩ := he; obtain ⟨l4, hl4, hR4⟩ := hO4; obtain ⟨Av, cv, hv4⟩ := row_own hR4.row; subst hv4; have y1 := (hb1.block _ hWs).trans q1; have zq := heap_alloc_new w1 (Obj.cells #[.int .i64 x.t.fn, .slice Av l4.length cv] 31); obtain ⟨p0, p1, _, _⟩ := cells_two zq; obtain ⟨d0, d1, g0, g1⟩ := cells_two (alloc_old (o := (Obj.cells #[.int .i64 x.t.fn, .slice Av l4.length cv] 31)) y1); obtain ⟨m0, m1⟩ := set2_two (u := .int .i64 x.t.fn) (v := .slice Av l4.length cv) (alloc_old (o := (Obj.cells #[.int .i64 x.t.fn, .slice Av l4.length cv] 31)) y1); have HO4 : Hid (OwnRow x.t W (.slice Av l4.length cv) w1) := Lib.hid ⟨l4, hl4, hR4⟩; clear hR4 hl4))
      | fail)
    have k0 := (cells_two m0).1
    have k1 := (cells_two m1).2.1
    have k2 := (cells_two m1).1
    exact bodyPost_ret (v := .agg #[.int .i64 x.t.fn, .slice Av l4.length cv]) (by simp [results, Try.results58, go_sem, k0, k1]) rfl (rapp_fin (by omega) hWs hB0 hb1 HO4.out)
  · have hfree : ¬ f < 0 ∨ findB l (-1 - f) = none := by
      by_cases h : f < 0
      · exact .inr (by
          rcases hx : findB l (-1 - f) with _ | x
          · rfl
          · exact absurd ⟨h, by rw [hx]; rfl⟩ hbound)
      · exact .inl h
    have hmv := Lib.hid (appT_free (xs := xs) hfree)
    go_enter Try.func58, Try.ntmps58
    go_upto_region 1 with fail
    rw [HW.out]
    go_upto_if 11 with fail
    go_cut [] (fun wx => Below W.heap.size W wx)
    case first =>
      by_cases hneg : f < 0
      · have Hx := Lib.hid (show findB l (-1 - f) = none by rcases hfree with h | h; exact absurd hneg h; exact h)
        clear hfree hbound
        go_wp2_with (first
          | (go_at_call 15; (with_reducible refine HG.out.mono ?_); go_must (rintro e w1 ⟨hb1, he⟩; rw [Hx.out] at he; obtain rfl := he))
          | fail)
        go_meet
        exact hb1.alloc hb1.size _
      · clear hfree hbound
        go_wp2
        go_meet
        exact Below.refl _ _
    case rest =>
      have hBc : Below W.heap.size W wc := hcut
      obtain ⟨n, hn⟩ : ∃ n, wc.heap.size = n := ⟨_, rfl⟩
      have hnW : W.heap.size ≤ n := by rw [← hn]; exact hBc.size
      obtain ⟨x0, x1, _, _⟩ := cells_two ((hBc.block _ (by omega)).trans q0)
      have q2 := heap_alloc_new wc (.cells #[.int .i64 f, .slice none 0 0] 31)
      obtain ⟨X, hX⟩ : ∃ X, wc.alloc (.cells #[.int .i64 f, .slice none 0 0] 31) = X := ⟨_, rfl⟩
      have hWX : Below W.heap.size W X := by rw [← hX]; exact hBc.alloc hBc.size _
      have hwX : Below w.heap.size w X := hB0.trans (hWX.mono hB0.size)
      have q0X := (hWX.block _ (by omega)).trans q0
      have q1X := (hWX.block _ hWs).trans q1
      rw [hX, hn] at q2
      have HI0 : Hid (ApI n X f (xs.map (appT (bdT l))) 0 (.slice none 0 0) []) := ⟨q2, by simp, RowT.nil_ _ _ _⟩
      have HX := Lib.hid hX
      have Hn := Lib.hid hn
      have hnX : n < X.heap.size := (Array.getElem?_eq_some_iff.1 q2).1
      clear hX hn q2
      go_upto_region 6 with fail
      rw [HX.out, Hn.out]
      clear x0 x1
      go_wp2
      go_loopw [8] (fun i wr => ∃ (k : Nat) (v : Value) (r : List Ti), k ≤ xs.length ∧ i = .int .i64 (k : Int) ∧ Below n X wr ∧ Hid (ApI n wr f (xs.map (appT (bdT l))) k v r)) (fun i _ => xs.length - (intOf i).toNat)
      case atStart => exact ⟨0, _, [], Nat.zero_le _, rfl, Below.refl _ _, HI0⟩
      case round =>
        obtain ⟨k, v, r, hk, rfl, hBr, H⟩ := hrel
        have hbx := H.out.box
        have hbs : n < wr.heap.size := (Array.getElem?_eq_some_iff.1 hbx).1
        have hBW : Below W.heap.size W wr := hWX.trans (hBr.mono hnW)
        obtain ⟨a0, a1, _, _⟩ := cells_two ((hBW.block _ (by omega)).trans q0)
        obtain ⟨c0, c1, g0, g1⟩ := cells_two hbx
        have hBw : Below w.heap.size w wr := hB0.trans (hBW.mono hB0.size)
        by_cases hlt : k < xs.length
        · obtain ⟨u, hu⟩ : ∃ u, xs[k]? = some u := ⟨_, List.getElem?_eq_getElem hlt⟩
          obtain ⟨bb, off, A1, c1', rfl, ha⟩ := HA.out.get hu
          have hbw := ha.hb
          have e0 := cell_on hBw hbw ha.c0
          have e1 := cell_on hBw hbw ha.c1
          have hbb : bb < wr.heap.size := Nat.lt_of_lt_of_le hbw hBw.size
          have hs1 : Hid (Args wr.drew wr.drew.heap.size A1 u.args) := (ha.sub.on hBw).drewN 1
          have hi64 := ha.hi
          have hmem := List.mem_of_getElem? hu
          have hszt : u.size ≤ 4398046511104 := by have := size_mem hmem; simp only [Tm.size] at hsz; omega
          have hul : (appT (bdT l) u).args.length ≤ 9223372036854775807 := appT_args hsm ha.sub.len
          have hm64 : I64 (appT (bdT l) u).fn := appT_fn64 HBd.out ha.hi
          have Hu := Lib.hid (show (xs.map (appT (bdT l)))[k]? = some (appT (bdT l) u) by rw [List.getElem?_map, hu]; rfl)
          have hcall := Lib.hid (ih u hmem hszt B cb A1 c1' wr.drew (HL.out wr.drew (bl_drewN hBw 1)) hi64 hs1.out)
          obtain ⟨um, hum⟩ : ∃ um, appT (bdT l) u = um := ⟨_, rfl⟩
          have hrow := H.out.row.row
          have hll := H.out.len (by rw [List.length_map]; exact hk)
          rw [hll] at hrow
          obtain ⟨Av, cv, hv⟩ := row_own hrow
          subst hv
          have hrl := row_lt hrow
          have Hrow := Lib.hid hrow
          have hSS : ∀ w', Below wr.heap.size wr w' → w'.cell? ⟨n, 1, none⟩ = some (.slice Av k cv) ∧ w'.cell? ⟨w.heap.size, 1, none⟩ = some (.slice (some ⟨bb, off, none⟩) xs.length c) ∧ w'.cell? ⟨bb, off + k * 2, none⟩ = some (.int .i64 u.fn) ∧ w'.cell? ⟨bb, off + k * 2 + 1, none⟩ = some (.slice A1 u.args.length c1') := fun w' h => ⟨cell_on h hbs c1, cell_on h (by omega) a1, cell_on h hbb e0, cell_on h hbb e1⟩
          have hne : ∀ g, g < n + 1 → (Value.slice Av k cv).ownBlock ≠ some g := fun g h e => by have := (hrl g e).1; omega
          have hBX : ∀ w' : World, (∀ g, g < wr.heap.size → (Value.slice Av k cv).ownBlock ≠ some g → w'.heap[g]? = wr.heap[g]?) → w'.cell? ⟨n, 1, none⟩ = some (.slice Av k cv) ∧ w'.frozen? ⟨n, 1, none⟩ = false := fun w' h => ⟨(cell_of_heap (h _ hbs (hne _ (by omega)))).trans c1, (frozen_of_heap (h _ hbs (hne _ (by omega)))).trans g1⟩
          rw [hum] at hul hm64 Hu hcall
          clear hu ha hrow hum
          go_wp2
          go_region_law
            (first
              | (go_simp
                 go_at_call 58
                 refine hcall.out.mono ?_
                 rintro e w4 ⟨v4, l4, rfl, hl4, hR4, hb4⟩
                 have hB4 : Below wr.heap.size wr w4 := ⟨hb4.os, hb4.tape, hb4.output, hb4.size, hb4.block⟩
                 obtain ⟨A4, c4, hv4⟩ := row_own hR4.row
                 have hl4l : l4.length = um.args.length := by rw [← hl4, List.length_map]
                 rw [hl4l] at hv4
                 have HR4 := Lib.hid hR4
                 obtain ⟨k4, _, _, _⟩ := hSS _ hB4
                 obtain ⟨k4', _, _, _⟩ := hSS _ (hB4.alloc hB4.size (.cells #[.int .i64 um.fn, .slice A4 um.args.length c4] 31))
                 subst hv4
                 clear hR4
                 dsimp only)
              | (refine step_append_at rfl (.tmp 33) (.tmp 41) 29 rfl (n + 1) 31 i0 (.agg #[.int .i64 0, .slice none 0 0]) 2 32 Try.underlying29 hi hz0 hz1 hz2 rfl (by decide) (.slice Av k cv) k _ (by simp [Act.eval]) (row_keep Hrow.out fun g e => (Below.heap_alloc w4 _ g (Nat.lt_of_lt_of_le (hrl g e).2 hB4.size)).trans (hB4.block g (hrl g e).2)) ⟨w4.heap.size, 0, none⟩ 1 1 [.int .i64 um.fn, .slice A4 um.args.length c4] (by simp [Act.eval]) rfl (cells_new_two _ _ _ _) (by simp [Value.oneCell']) (by unfold maxLen; omega) (by omega) (by have := hB4.size; simp; omega) ?_
                 intro v5 w5 hown5 hgr5 hat5
                 have hK5 : ∀ g, g < wr.heap.size → (Value.slice Av k cv).ownBlock ≠ some g → w5.heap[g]? = wr.heap[g]? := fun g h1 h2 => (hgr5.block g (by have := hB4.size; simp; omega) (fun e => h2 e.symm)).trans ((Below.heap_alloc w4 _ g (by have := hB4.size; omega)).trans (hB4.block g h1))
                 obtain ⟨k1, kf⟩ := hBX w5 hK5
                 obtain ⟨g5, cap5, hv5⟩ := ownsRow_succ hown5
                 have Hown5 := Lib.hid hown5
                 have Hgr5 := Lib.hid hgr5
                 have Hat5 := Lib.hid hat5
                 subst hv5
                 clear hown5 hgr5 hat5 hK5)
              | fail)
          all_goals
            have hst := H.out.next Hu.out hm64 hl4 hul rfl HR4.out hB4 Hown5.out Hgr5.out Hat5.out
            have hBe : Below n X w5 := ((hBr.trans (hB4.mono (by omega))).alloc (by have := hB4.size; omega) _).grown Hgr5.out (by have := hB4.size; simp; omega) (fun g e => by have := (hrl g e).1; omega)
            go_wp2
            go_roundw
            case rel => exact ⟨k + 1, _, _, by omega, by go_num, hBe.setCell (Nat.le_refl _) _, hst⟩
            case measure => simp [intOf]; omega
        · obtain rfl : k = xs.length := by omega
          have hrow := H.out.row.row
          have hll := H.out.len (by rw [List.length_map]; exact hk)
          rw [hll] at hrow
          obtain ⟨Av, cv, hv⟩ := row_own hrow
          subst hv
          have hkey := Lib.hid H.out.key
          have HR := Lib.hid H.out.row
          have y1 := (hBW.block _ hWs).trans q1
          obtain ⟨b0, b1, bg0, bg1⟩ := cells_two y1
          clear hrow
          go_wp2
          obtain ⟨z1, z2⟩ := set2_two (u := .int .i64 f) (v := .slice Av xs.length cv) y1
          have p0 := (cells_two z1).1
          have p1 := (cells_two z2).2.1
          have hoth : ∀ g, g ≠ w.heap.size + 1 → ((wr.setCell ⟨w.heap.size + 1, 0, none⟩ (.int .i64 f)).setCell ⟨w.heap.size + 1, 1, none⟩ (.slice Av xs.length cv)).heap[g]? = wr.heap[g]? := fun g e => (heap_setCell_other _ _ _ _ e).trans (heap_setCell_other _ _ _ _ e)
          refine bodyPost_ret (v := .agg #[.int .i64 f, .slice Av xs.length cv]) (by simp [results, Try.results58, go_sem, p0, p1]) rfl ⟨_, r, by rw [hmv.out]; rfl, by rw [hkey.out, hmv.out, ← List.length_map (f := appT (bdT l)), List.take_length]; rfl, ?_, ?_⟩
          · have hk3 := (HR.out.keep (fun g e => hoth g (by have := (row_lt HR.out.row g e).1; omega)) (fun g e => hoth g (by have := e.1; omega))).base (base' := w.heap.size) (by omega)
            exact hk3.wide fun g e => show Apart _ _ _ g from ⟨by have := e.1; omega, by have := e.2.1; simpa using this, e.2.2⟩
          · exact (hBw.setCell (by show _ ≤ w.heap.size + 1; omega) _).setCell (by show _ ≤ w.heap.size + 1; omega) _
end Go.Proofs.Ytdeegdndfblnkaa
