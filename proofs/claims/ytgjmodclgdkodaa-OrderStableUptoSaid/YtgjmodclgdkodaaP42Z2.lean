import Derived.Test.YtgjmodclgdkodaaP42Z1
import Derived.Deep.RegionLaw
import Derived.Deep.DeepCutAuto
import Derived.Test.YtgjmodclgdkodaaP40Z19
import Derived.Test.YtgjmodclgdkodaaP40Z15
import Derived.Test.YtgjmodclgdkodaaP40Z1
import Derived.Test.YtgjmodclgdkodaaP40Z2
import Derived.ChangeSlices
import Derived.Test.YtgjmodclgdkodaaP40Z20
/- The document's own Apply, again: its rows have room for what they hold. (gen_eka.py) -/

namespace Go.Proofs.Ytgjmodclgdkodaa

open Go.RowKit Go.Shelf
set_option maxRecDepth 100000

/-- What the loop has laid: the box n, its row behind it. -/
structure ApIK (n : Nat) (wr : World) (f : Int) (ys : List Tm) (k : Nat) (v : Value) (l : List Ti) : Prop where
  box : wr.heap[n]? = some (.cells #[.int .i64 f, v] 39)
  key : l.map Ti.t = ys.take k
  row : RowTK wr (n + 1) v l (Apart (n + 1) v wr)

theorem ApIK.len {n : Nat} {wr : World} {f : Int} {xs : List Tm} {k : Nat} {v : Value} {l : List Ti} (h : ApIK n wr f xs k v l) (hk : k ≤ xs.length) : l.length = k := by
  have := congrArg List.length h.key
  simpa [Nat.min_eq_left hk] using this

/-- One more: the copy of the next argument, its box, the row that has grown, the store. -/
theorem ApIK.next {n : Nat} {wr w4 w5 : World} {f : Int} {xs : List Tm} {k : Nat} {v v4 v5 : Value} {l l4 : List Ti} {u : Tm} {A4 : Option Addr} {c4 : Nat} {o : Obj} (h : ApIK n wr f xs k v l) (hu : xs[k]? = some u) (hi : I64 u.fn) (hl4 : l4.map Ti.t = u.args) (h64 : u.args.length ≤ 9223372036854775807) (hv4 : v4 = .slice A4 u.args.length c4)
    (hR4 : RowTK w4 wr.heap.size v4 l4 (Apart wr.heap.size v4 w4)) (hb4 : Below wr.heap.size wr w4) (hown : w5.ownsRow (n + 1) 39 2 v5 (k + 1) (l.flatMap Ti.cells ++ (⟨u, A4, c4⟩ : Ti).cells))
    (hgr : (w4.alloc o).grownBy w5 v.ownBlock) (hat : v5.ownBlock = v.ownBlock ∨ v5.ownBlock = some (w4.alloc o).heap.size) :
    ApIK n (w5.setCell ⟨n, 1, none⟩ v5) f xs (k + 1) v5 (l ++ [⟨u, A4, c4⟩]) := by
  have hkl := (List.getElem?_eq_some_iff.1 hu).1
  have hlen := h.len (by omega)
  have hlt := row_lt h.row.row
  have hs4 := hb4.size
  have hs5 := hgr.size
  have hbs : n < wr.heap.size := (Array.getElem?_eq_some_iff.1 h.box).1
  have hK : ∀ g, g < wr.heap.size → v.ownBlock ≠ some g → w5.heap[g]? = wr.heap[g]? := fun g h1 h2 => (hgr.block g (by simp; omega) (fun e => h2 e.symm)).trans ((Below.heap_alloc w4 o g (by omega)).trans (hb4.block g h1))
  have hK4 : ∀ g, g < w4.heap.size → v.ownBlock ≠ some g → w5.heap[g]? = w4.heap[g]? := fun g h1 h2 => (hgr.block g (by simp; omega) (fun e => h2 e.symm)).trans (Below.heap_alloc w4 o g h1)
  have hb2 : v.ownBlock ≠ some (n) := fun e => by have := (hlt _ e).1; omega
  have hbox5 := (hK _ hbs hb2).trans h.box
  obtain ⟨_, z1⟩ := set2_two (u := .int .i64 f) (v := v5) hbox5
  have hset : ∀ g, g ≠ n → (w5.setCell ⟨n, 1, none⟩ v5).heap[g]? = w5.heap[g]? := fun g e => heap_setCell_other _ _ _ _ e
  have hlt5 := row_lt hown
  have hv5 : ∀ g, g < wr.heap.size → v.ownBlock ≠ some g → v5.ownBlock ≠ some g := fun g h1 h2 e => by
    rcases hat with h3 | h3
    · rw [h3] at e; exact h2 e
    · rw [h3] at e; injection e with e; simp at e; omega
  have hv54 : ∀ g, wr.heap.size ≤ g → g < w4.heap.size → v5.ownBlock ≠ some g := fun g h1 h2 e => by
    rcases hat with h3 | h3
    · rw [h3] at e; have := (hlt _ e).2; omega
    · rw [h3] at e; injection e with e; simp at e; omega
  have hsz5 : w4.heap.size + 1 ≤ w5.heap.size := by simpa using hs5
  refine ⟨?_, ?_, ?_⟩
  · exact heap_setCell_same w5 _ 1 _ _ _ hbox5
  · rw [List.map_append, h.key, List.take_add_one, hu]; rfl
  · refine RowTK.push (w := wr) (N := Apart (n + 1) v wr) h.row ?_ hi ?_ (fun g hg => ?_) (fun g hg => ⟨hg.1, by have := hg.2.1; simp; omega, hv5 g hg.2.1 hg.2.2⟩)
    · rw [hlen]
      exact row_keep hown fun g e => hset g (by have := (hlt5 g e).1; omega)
    · have hl4l : l4.length ≤ 9223372036854775807 := by have := congrArg List.length hl4; simp at this; omega
      obtain ⟨A', c', e, hA⟩ := hR4.argsK (M := fun g => wr.heap.size ≤ g ∧ g < w4.heap.size) hl4l (fun g e => row_lt hR4.row g e) (fun g hg => ⟨hg.1, hg.2.1⟩)
      rw [hv4] at e
      injection e with e1 _ e3
      subst e1
      subst e3
      rw [hl4] at hA
      refine (hA.keep fun g hg => ?_).wide fun g hg => ⟨by omega, by simp; omega, hv54 g hg.1 hg.2⟩
      exact (hset g (by omega)).trans (hK4 g hg.2 fun e => by have := (hlt _ e).2; omega)
    · exact (hset g (by have := hg.1; omega)).trans (hK g hg.2.1 hg.2.2)

def RAppAtK (l : List Bd) (t : Tm) : Prop := t.size ≤ 4398046511104 → ∀ (B : Option Addr) (cb : Nat) (A : Option Addr) (c : Nat) (w : World), Binds w (· < w.heap.size) B l → I64 t.fn → Args w w.heap.size A t.args →
  Calls Try.prog 29 #[.slice B l.length cb, .agg #[.int .i64 t.fn, .slice A t.args.length c]] w (RCopyPostK (appT (bdT l) t) w)

/-- What is told of a bound variable. -/
theorem rappK_fin {y : Tm} {w w1 : World} {v4 : Value} {b : Nat} {o : Obj} (hb0 : w.heap.size ≤ b) {W : World} (hbW : b < W.heap.size) (hB : Below w.heap.size w W) (h1 : Below W.heap.size W w1) (hO : OwnRowK y W v4 w1) :
    RCopyPostK y w (.returned (.agg #[.int .i64 y.fn, v4])) (((w1.alloc o).setCell ⟨b, 0, none⟩ (.int .i64 y.fn)).setCell ⟨b, 1, none⟩ v4) := by
  obtain ⟨l4, hl, hR⟩ := hO
  have hoth : ∀ g, g ≠ b → g < w1.heap.size → (((w1.alloc o).setCell ⟨b, 0, none⟩ (.int .i64 y.fn)).setCell ⟨b, 1, none⟩ v4).heap[g]? = w1.heap[g]? := fun g e h => ((heap_setCell_other _ _ _ _ e).trans (heap_setCell_other _ _ _ _ e)).trans (Below.heap_alloc w1 o g h)
  have hs := hB.size
  have hs1 := h1.size
  refine ⟨v4, l4, rfl, hl, ?_, ((((hB.trans (h1.mono hs)).alloc (by omega) _)).setCell (by show _ ≤ b; omega) _).setCell (by show _ ≤ b; omega) _⟩
  have hk := (hR.keep (fun g e => hoth g (by have := (row_lt hR.row g e).1; omega) (row_lt hR.row g e).2) (fun g e => hoth g (by have := e.1; omega) e.2.1)).base (base' := w.heap.size) hs
  exact hk.wide fun g e => ⟨Nat.le_trans hs e.1, by have := e.2.1; simp; omega, e.2.2⟩

set_option maxHeartbeats 4000000 in
theorem refApplyK_any (l : List Bd) (hsm : ∀ x ∈ l, x.t.size ≤ 4398046511104) (t : Tm) : RAppAtK l t := by
  refine Tm.ind (P := RAppAtK l) (fun f xs ih => ?_) t
  intro hsz B cb A c w hBd hf hA
  simp only [Tm.fn, Tm.args] at hf hA ⊢
  have hlen : xs.length ≤ 4398046511104 := by have := sizes_len xs; simp only [Tm.size] at hsz; omega
  obtain ⟨i0, hi, hz0, hz1, hz2⟩ := info_parts info_term
  obtain ⟨q0, q1⟩ := heap2 w (.cells #[.int .i64 f, .slice A xs.length c] 39) (.cells #[.int .i64 0, .slice none 0 0] 39)
  obtain ⟨W, hW⟩ : ∃ W, ((w.alloc (.cells #[.int .i64 f, .slice A xs.length c] 39)).alloc (.cells #[.int .i64 0, .slice none 0 0] 39)) = W := ⟨_, rfl⟩
  have hB0 : Below w.heap.size w W := by rw [← hW]; exact ((Below.refl _ _).alloc (Nat.le_refl _) _).alloc (by simp) _
  rw [hW] at q0 q1
  have hWs : w.heap.size + 1 < W.heap.size := (Array.getElem?_eq_some_iff.1 q1).1
  have HW := Lib.hid hW
  have HA := Lib.hid hA
  have HBd := Lib.hid hBd
  have hlo := hf.1
  have hhi := hf.2
  obtain ⟨x0, x1, _, _⟩ := cells_two q0
  have lift : ∀ w1, Below w.heap.size w w1 → Binds w1 (· < w1.heap.size) B l := fun w1 hb => (hBd.keep fun g e => hb.block g e).wide fun g e => Nat.lt_of_lt_of_le e hb.size
  have HG := Lib.hid (refGetK_any l (-1 - f) B cb W hsm (lift W hB0))
  have HL := Lib.hid lift
  clear hW hA hBd lift
  by_cases hbound : f < 0 ∧ (findB l (-1 - f)).isSome
  · obtain ⟨hneg, hso⟩ := hbound
    obtain ⟨x, hx⟩ := Option.isSome_iff_exists.1 hso
    rw [appT_bound hneg hx]
    have Hx := Lib.hid hx
    obtain ⟨r0, r1, rf0, rf1⟩ := cells_two q1
    clear hso hx
    go_enter Try.func29, Try.ntmps29
    go_upto_region 1 with fail
    rw [HW.out]
    go_wp2_with (first
      | (go_at_call 46; (with_reducible refine HG.out.mono ?_); go_must (rintro e w1 ⟨hb1, he⟩; rw [Hx.out] at he; obtain ⟨v4, rfl, hi4, hO4⟩ := he; obtain ⟨l4, hl4, hR4⟩ := hO4; obtain ⟨Av, cv, hv4⟩ := row_own hR4.row; subst hv4; have y1 := (hb1.block _ hWs).trans q1; have zq := heap_alloc_new w1 (Obj.cells #[.int .i64 x.t.fn, .slice Av l4.length cv] 39); obtain ⟨p0, p1, _, _⟩ := cells_two zq; obtain ⟨d0, d1, g0, g1⟩ := cells_two (alloc_old (o := (Obj.cells #[.int .i64 x.t.fn, .slice Av l4.length cv] 39)) y1); obtain ⟨m0, m1⟩ := set2_two (u := .int .i64 x.t.fn) (v := .slice Av l4.length cv) (alloc_old (o := (Obj.cells #[.int .i64 x.t.fn, .slice Av l4.length cv] 39)) y1); have HO4 : Hid (OwnRowK x.t W (.slice Av l4.length cv) w1) := Lib.hid ⟨l4, hl4, hR4⟩; clear hR4 hl4))
      | fail)
    have k0 := (cells_two m0).1
    have k1 := (cells_two m1).2.1
    have k2 := (cells_two m1).1
    exact bodyPost_ret (v := .agg #[.int .i64 x.t.fn, .slice Av l4.length cv]) (by simp [results, Try.results29, go_sem, k0, k1]) rfl (rappK_fin (by omega) hWs hB0 hb1 HO4.out)
  · have hfree : ¬ f < 0 ∨ findB l (-1 - f) = none := by
      by_cases h : f < 0
      · exact .inr (by
          rcases hx : findB l (-1 - f) with _ | x
          · rfl
          · exact absurd ⟨h, by rw [hx]; rfl⟩ hbound)
      · exact .inl h
    have hmv := Lib.hid (appT_free (xs := xs) hfree)
    go_enter Try.func29, Try.ntmps29
    go_upto_region 1 with fail
    rw [HW.out]
    go_upto_if 11 with fail
    go_cut [] (fun wx => Below W.heap.size W wx)
    case first =>
      by_cases hneg : f < 0
      · have Hx := Lib.hid (show findB l (-1 - f) = none by rcases hfree with h | h; exact absurd hneg h; exact h)
        clear hfree hbound
        go_wp2_with (first
          | (go_at_call 46; (with_reducible refine HG.out.mono ?_); go_must (rintro e w1 ⟨hb1, he⟩; rw [Hx.out] at he; obtain rfl := he))
          | fail)
        go_meet
        exact hb1.alloc hb1.size _
      · clear hfree hbound
        go_wp2
        go_meet
        exact Below.refl _ _
    case rest =>
      have hBc : Below W.heap.size W wc := hcut
      obtain ⟨n, hn⟩ : ∃ n, wc.heap.size = n := ⟨_, rfl⟩
      have hnW : W.heap.size ≤ n := by rw [← hn]; exact hBc.size
      obtain ⟨x0, x1, _, _⟩ := cells_two ((hBc.block _ (by omega)).trans q0)
      have q2 := heap_alloc_new wc (.cells #[.int .i64 f, .slice none 0 0] 39)
      obtain ⟨X, hX⟩ : ∃ X, wc.alloc (.cells #[.int .i64 f, .slice none 0 0] 39) = X := ⟨_, rfl⟩
      have hWX : Below W.heap.size W X := by rw [← hX]; exact hBc.alloc hBc.size _
      have hwX : Below w.heap.size w X := hB0.trans (hWX.mono hB0.size)
      have q0X := (hWX.block _ (by omega)).trans q0
      have q1X := (hWX.block _ hWs).trans q1
      rw [hX, hn] at q2
      have HI0 : Hid (ApIK n X f (xs.map (appT (bdT l))) 0 (.slice none 0 0) []) := ⟨q2, by simp, RowTK.nil_ _ _ _⟩
      have HX := Lib.hid hX
      have Hn := Lib.hid hn
      have hnX : n < X.heap.size := (Array.getElem?_eq_some_iff.1 q2).1
      clear hX hn q2
      go_upto_region 6 with fail
      rw [HX.out, Hn.out]
      clear x0 x1
      go_wp2
      go_loopw [8] (fun i wr => ∃ (k : Nat) (v : Value) (r : List Ti), k ≤ xs.length ∧ i = .int .i64 (k : Int) ∧ Below n X wr ∧ Hid (ApIK n wr f (xs.map (appT (bdT l))) k v r)) (fun i _ => xs.length - (intOf i).toNat)
      case atStart => exact ⟨0, _, [], Nat.zero_le _, rfl, Below.refl _ _, HI0⟩
      case round =>
        obtain ⟨k, v, r, hk, rfl, hBr, H⟩ := hrel
        have hbx := H.out.box
        have hbs : n < wr.heap.size := (Array.getElem?_eq_some_iff.1 hbx).1
        have hBW : Below W.heap.size W wr := hWX.trans (hBr.mono hnW)
        obtain ⟨a0, a1, _, _⟩ := cells_two ((hBW.block _ (by omega)).trans q0)
        obtain ⟨c0, c1, g0, g1⟩ := cells_two hbx
        have hBw : Below w.heap.size w wr := hB0.trans (hBW.mono hB0.size)
        by_cases hlt : k < xs.length
        · obtain ⟨u, hu⟩ : ∃ u, xs[k]? = some u := ⟨_, List.getElem?_eq_getElem hlt⟩
          obtain ⟨bb, off, A1, c1', rfl, ha⟩ := HA.out.get hu
          have hbw := ha.hb
          have e0 := cell_on hBw hbw ha.c0
          have e1 := cell_on hBw hbw ha.c1
          have hbb : bb < wr.heap.size := Nat.lt_of_lt_of_le hbw hBw.size
          have hs1 : Hid (Args wr.drew wr.drew.heap.size A1 u.args) := (ha.sub.on hBw).drewN 1
          have hi64 := ha.hi
          have hmem := List.mem_of_getElem? hu
          have hszt : u.size ≤ 4398046511104 := by have := size_mem hmem; simp only [Tm.size] at hsz; omega
          have hul : (appT (bdT l) u).args.length ≤ 9223372036854775807 := appT_args hsm ha.sub.len
          have hm64 : I64 (appT (bdT l) u).fn := appT_fn64 HBd.out ha.hi
          have Hu := Lib.hid (show (xs.map (appT (bdT l)))[k]? = some (appT (bdT l) u) by rw [List.getElem?_map, hu]; rfl)
          have hcall := Lib.hid (ih u hmem hszt B cb A1 c1' wr.drew (HL.out wr.drew (bl_drewN hBw 1)) hi64 hs1.out)
          obtain ⟨um, hum⟩ : ∃ um, appT (bdT l) u = um := ⟨_, rfl⟩
          have hrow := H.out.row.row
          have hll := H.out.len (by rw [List.length_map]; exact hk)
          rw [hll] at hrow
          obtain ⟨Av, cv, hv⟩ := row_own hrow
          subst hv
          have hrl := row_lt hrow
          have Hrow := Lib.hid hrow
          have hSS : ∀ w', Below wr.heap.size wr w' → w'.cell? ⟨n, 1, none⟩ = some (.slice Av k cv) ∧ w'.cell? ⟨w.heap.size, 1, none⟩ = some (.slice (some ⟨bb, off, none⟩) xs.length c) ∧ w'.cell? ⟨bb, off + k * 2, none⟩ = some (.int .i64 u.fn) ∧ w'.cell? ⟨bb, off + k * 2 + 1, none⟩ = some (.slice A1 u.args.length c1') := fun w' h => ⟨cell_on h hbs c1, cell_on h (by omega) a1, cell_on h hbb e0, cell_on h hbb e1⟩
          have hne : ∀ g, g < n + 1 → (Value.slice Av k cv).ownBlock ≠ some g := fun g h e => by have := (hrl g e).1; omega
          have hBX : ∀ w' : World, (∀ g, g < wr.heap.size → (Value.slice Av k cv).ownBlock ≠ some g → w'.heap[g]? = wr.heap[g]?) → w'.cell? ⟨n, 1, none⟩ = some (.slice Av k cv) ∧ w'.frozen? ⟨n, 1, none⟩ = false := fun w' h => ⟨(cell_of_heap (h _ hbs (hne _ (by omega)))).trans c1, (frozen_of_heap (h _ hbs (hne _ (by omega)))).trans g1⟩
          rw [hum] at hul hm64 Hu hcall
          clear hu ha hrow hum
          go_wp2
          go_region_law
            (first
              | (go_simp
                 go_at_call 29
                 refine hcall.out.mono ?_
                 rintro e w4 ⟨v4, l4, rfl, hl4, hR4, hb4⟩
                 have hB4 : Below wr.heap.size wr w4 := ⟨hb4.os, hb4.tape, hb4.output, hb4.size, hb4.block⟩
                 obtain ⟨A4, c4, hv4⟩ := row_own hR4.row
                 have hl4l : l4.length = um.args.length := by rw [← hl4, List.length_map]
                 rw [hl4l] at hv4
                 have HR4 := Lib.hid hR4
                 obtain ⟨k4, _, _, _⟩ := hSS _ hB4
                 obtain ⟨k4', _, _, _⟩ := hSS _ (hB4.alloc hB4.size (.cells #[.int .i64 um.fn, .slice A4 um.args.length c4] 39))
                 subst hv4
                 clear hR4
                 dsimp only)
              | (refine step_append_at rfl (.tmp 33) (.tmp 41) 37 rfl (n + 1) 39 i0 (.agg #[.int .i64 0, .slice none 0 0]) 2 32 Try.underlying37 hi hz0 hz1 hz2 rfl (by decide) (.slice Av k cv) k _ (by simp [Act.eval]) (row_keep Hrow.out fun g e => (Below.heap_alloc w4 _ g (Nat.lt_of_lt_of_le (hrl g e).2 hB4.size)).trans (hB4.block g (hrl g e).2)) ⟨w4.heap.size, 0, none⟩ 1 1 [.int .i64 um.fn, .slice A4 um.args.length c4] (by simp [Act.eval]) rfl (cells_new_two _ _ _ _) (by simp [Value.oneCell']) (by unfold maxLen; omega) (by omega) (by have := hB4.size; simp; omega) ?_
                 intro v5 w5 hown5 hgr5 hat5
                 have hK5 : ∀ g, g < wr.heap.size → (Value.slice Av k cv).ownBlock ≠ some g → w5.heap[g]? = wr.heap[g]? := fun g h1 h2 => (hgr5.block g (by have := hB4.size; simp; omega) (fun e => h2 e.symm)).trans ((Below.heap_alloc w4 _ g (by have := hB4.size; omega)).trans (hB4.block g h1))
                 obtain ⟨k1, kf⟩ := hBX w5 hK5
                 obtain ⟨g5, cap5, hv5⟩ := ownsRow_succ hown5
                 have Hown5 := Lib.hid hown5
                 have Hgr5 := Lib.hid hgr5
                 have Hat5 := Lib.hid hat5
                 subst hv5
                 clear hown5 hgr5 hat5 hK5)
              | fail)
          all_goals
            have hst := H.out.next Hu.out hm64 hl4 hul rfl HR4.out hB4 Hown5.out Hgr5.out Hat5.out
            have hBe : Below n X w5 := ((hBr.trans (hB4.mono (by omega))).alloc (by have := hB4.size; omega) _).grown Hgr5.out (by have := hB4.size; simp; omega) (fun g e => by have := (hrl g e).1; omega)
            go_wp2
            go_roundw
            case rel => exact ⟨k + 1, _, _, by omega, by go_num, hBe.setCell (Nat.le_refl _) _, hst⟩
            case measure => simp [intOf]; omega
        · obtain rfl : k = xs.length := by omega
          have hrow := H.out.row.row
          have hll := H.out.len (by rw [List.length_map]; exact hk)
          rw [hll] at hrow
          obtain ⟨Av, cv, hv⟩ := row_own hrow
          subst hv
          have hkey := Lib.hid H.out.key
          have HR := Lib.hid H.out.row
          have y1 := (hBW.block _ hWs).trans q1
          obtain ⟨b0, b1, bg0, bg1⟩ := cells_two y1
          clear hrow
          go_wp2
          obtain ⟨z1, z2⟩ := set2_two (u := .int .i64 f) (v := .slice Av xs.length cv) y1
          have p0 := (cells_two z1).1
          have p1 := (cells_two z2).2.1
          have hoth : ∀ g, g ≠ w.heap.size + 1 → ((wr.setCell ⟨w.heap.size + 1, 0, none⟩ (.int .i64 f)).setCell ⟨w.heap.size + 1, 1, none⟩ (.slice Av xs.length cv)).heap[g]? = wr.heap[g]? := fun g e => (heap_setCell_other _ _ _ _ e).trans (heap_setCell_other _ _ _ _ e)
          refine bodyPost_ret (v := .agg #[.int .i64 f, .slice Av xs.length cv]) (by simp [results, Try.results29, go_sem, p0, p1]) rfl ⟨_, r, by rw [hmv.out]; rfl, by rw [hkey.out, hmv.out, ← List.length_map (f := appT (bdT l)), List.take_length]; rfl, ?_, ?_⟩
          · have hk3 := (HR.out.keep (fun g e => hoth g (by have := (row_lt HR.out.row g e).1; omega)) (fun g e => hoth g (by have := e.1; omega))).base (base' := w.heap.size) (by omega)
            exact hk3.wide fun g e => show Apart _ _ _ g from ⟨by have := e.1; omega, by have := e.2.1; simpa using this, e.2.2⟩
          · exact (hBw.setCell (by show _ ≤ w.heap.size + 1; omega) _).setCell (by show _ ≤ w.heap.size + 1; omega) _

end Go.Proofs.Ytgjmodclgdkodaa

/- order: the document's own Lit: what a literal becomes, in memory. -/

namespace Go.Proofs.Ytgjmodclgdkodaa

open Go.RowKit Go.Shelf
set_option maxRecDepth 100000

def litF (n : Nat) (x : Li) : Fct := ⟨fun v w => ∃ A1 c1 A2 c2, v = .agg #[.bool x.neg, .int .i64 x.l.fn, .slice A1 x.l.args.length c1, .int .i64 x.r.fn, .slice A2 x.r.args.length c2] ∧ LiK w (fun g => n ≤ g ∧ g < w.heap.size) x A1 c1 A2 c2, fun ⟨A1, c1, A2, c2, hv, hK⟩ hb => ⟨A1, c1, A2, c2, hv, hK.to (fun g e => hb.block g e.2) fun _ e => ⟨e.1, Nat.lt_of_lt_of_le e.2 hb.size⟩⟩⟩

/-- A term that was made. -/
def apF (n : Nat) (t : Tm) : Fct := ⟨fun v w => ∃ A c, v = .agg #[.int .i64 t.fn, .slice A t.args.length c] ∧ I64 t.fn ∧ ArgsK w (fun g => n ≤ g ∧ g < w.heap.size) A c t.args, fun ⟨A, c, hv, h1, h2⟩ hb => ⟨A, c, hv, h1, (h2.keep fun g e => hb.block g e.2).wide fun _ e => ⟨e.1, Nat.lt_of_lt_of_le e.2 hb.size⟩⟩⟩

theorem refApplyK_at (l : List Bd) (hsm : ∀ x ∈ l, x.t.size ≤ 4398046511104) (t : Tm) (hsz : t.size ≤ 4398046511104) (B : Option Addr) (cb : Nat) (A : Option Addr) (c : Nat) (w : World) (hB : Binds w (· < w.heap.size) B l) (hf : I64 t.fn) (hA : Args w w.heap.size A t.args) :
    Calls Try.prog 29 #[.slice B l.length cb, .agg #[.int .i64 t.fn, .slice A t.args.length c]] w fun e w' => ∃ A' c', e = .returned (.agg #[.int .i64 (appT (bdT l) t).fn, .slice A' (appT (bdT l) t).args.length c']) ∧ I64 (appT (bdT l) t).fn ∧ ArgsK w' (fun g => w.heap.size ≤ g ∧ g < w'.heap.size) A' c' (appT (bdT l) t).args ∧ Below w.heap.size w w' := by
  have h64 := appT_fn64 hB hf
  have hal := appT_args hsm hA.len
  refine (refApplyK_any l hsm t hsz B cb A c w hB hf hA).mono ?_
  rintro e w' ⟨v, r, rfl, hl, hR, hb⟩
  have hlen : r.length = (appT (bdT l) t).args.length := by rw [← hl, List.length_map]
  obtain ⟨A', c', rfl, hN⟩ := hR.argsK (M := fun g => w.heap.size ≤ g ∧ g < w'.heap.size) (by rw [hlen]; exact hal) (fun g e => row_lt hR.row g e) (fun g hg => ⟨hg.1, hg.2.1⟩)
  rw [hl] at hN
  exact ⟨A', c', by rw [hlen], h64, hN, hb⟩

section

variable {Fs : List Fct} {a0 : Act} {W : World} {dst : Option Tmp} {ty : TypeId} {pos : String} {after : Array Edge} {m : Nat}

theorem sx_of {op : Op} {ds : List (Nat × Option Nat)} {p : Fct} (h : ∀ (a : Act) (w : World), Below W.heap.size W w → lookF Fs a0 a w ds → leaves Try.prog (fun v w' => Below w.heap.size w w' ∧ p.p v w' ∧ True) ((execOp a.eval ⟨dst, op, ty, pos, after, none⟩).run Try.prog w)) :
    stepG Try.prog (fun _ _ => True) m Fs a0 W ⟨dst, op, ty, pos, after, none⟩ ds p := ⟨rfl, fun a w hb _ hl _ => h a w hb hl⟩

theorem ev_o {a : Act} {s : Nat} {v : Value} (h : a.eval (.tmp s) = v) : a.tmps[s]?.getD undef = v := by rw [← h]; simp [Act.eval]

theorem sx_move {s : Nat} {v : Value} (hs : a0.eval (.tmp s) = v) : stepG Try.prog (fun _ _ => True) m Fs a0 W ⟨dst, .move (.tmp s), ty, pos, after, none⟩ [(s, none)] (Fct.eq v) := sx_of fun a w hb hl => by
  have h1 := ev_o (hl.1.trans hs)
  simp [go_sem, leaves, h1, Fct.eq]
  exact Below.refl _ _

theorem sx_fld0 {s b : Nat} (hs : a0.eval (.tmp s) = .pointer (some ⟨b, 0, none⟩)) : stepG Try.prog (fun _ _ => True) m Fs a0 W ⟨dst, .fieldAddr 41 (.tmp s) 0, ty, pos, after, none⟩ [(s, none)] (Fct.eq (.pointer (some ⟨b, 0, none⟩))) := sx_of fun a w hb hl => by
  have h1 := ev_o (hl.1.trans hs)
  simp [go_sem, leaves, h1, Fct.eq]
  exact Below.refl _ _

theorem sx_fld1 {s b : Nat} (hs : a0.eval (.tmp s) = .pointer (some ⟨b, 0, none⟩)) : stepG Try.prog (fun _ _ => True) m Fs a0 W ⟨dst, .fieldAddr 41 (.tmp s) 1, ty, pos, after, none⟩ [(s, none)] (Fct.eq (.pointer (some ⟨b, 1, none⟩))) := sx_of fun a w hb hl => by
  have h1 := ev_o (hl.1.trans hs)
  simp [go_sem, leaves, h1, Fct.eq]
  exact Below.refl _ _

theorem sx_fld2 {s b : Nat} (hs : a0.eval (.tmp s) = .pointer (some ⟨b, 0, none⟩)) : stepG Try.prog (fun _ _ => True) m Fs a0 W ⟨dst, .fieldAddr 41 (.tmp s) 2, ty, pos, after, none⟩ [(s, none)] (Fct.eq (.pointer (some ⟨b, 3, none⟩))) := sx_of fun a w hb hl => by
  have h1 := ev_o (hl.1.trans hs)
  simp [go_sem, leaves, h1, Fct.eq]
  exact Below.refl _ _

theorem sx_load1 {s j b o : Nat} {v : Bool} (hF : Fs.getD j Fct.any = Fct.eq (.pointer (some ⟨b, o, none⟩))) (hb0 : b < W.heap.size) (hc : W.cell? ⟨b, o, none⟩ = some (.bool v)) : stepG Try.prog (fun _ _ => True) m Fs a0 W ⟨dst, .load 4 (.tmp s), ty, pos, after, none⟩ [(s, some j)] (Fct.eq (.bool v)) := sx_of fun a w hb hl => by
  have h0 := hl.1
  rw [hF] at h0
  have h1 := ev_o h0
  have h2 := cell_on hb hb0 hc
  simp [go_sem, leaves, h1, h2, Fct.eq]
  exact Below.refl _ _

theorem sx_load2 {s j b o n c : Nat} {f : Int} {A : Option Addr} (hF : Fs.getD j Fct.any = Fct.eq (.pointer (some ⟨b, o, none⟩))) (hb0 : b < W.heap.size) (hc : W.cell? ⟨b, o, none⟩ = some (.int .i64 f)) (hd : W.cell? ⟨b, o + 1, none⟩ = some (.slice A n c)) : stepG Try.prog (fun _ _ => True) m Fs a0 W ⟨dst, .load 39 (.tmp s), ty, pos, after, none⟩ [(s, some j)] (Fct.eq (.agg #[.int .i64 f, .slice A n c])) := sx_of fun a w hb hl => by
  have h0 := hl.1
  rw [hF] at h0
  have h1 := ev_o h0
  have h2 := cell_on hb hb0 hc
  have h3 := cell_on hb hb0 hd
  simp [go_sem, leaves, h1, h2, h3, Fct.eq]
  exact Below.refl _ _

theorem sx_apply {l : List Bd} {t : Tm} {B A : Option Addr} {cb c s s' j j' : Nat} (hsm : ∀ x ∈ l, x.t.size ≤ 4398046511104) (hsz : t.size ≤ 4398046511104) (hB : Binds W (· < W.heap.size) B l) (hf : I64 t.fn) (hA : Args W W.heap.size A t.args) (hF : Fs.getD j Fct.any = Fct.eq (.slice B l.length cb)) (hF' : Fs.getD j' Fct.any = Fct.eq (.agg #[.int .i64 t.fn, .slice A t.args.length c])) :
    stepG Try.prog (fun _ _ => True) m Fs a0 W ⟨dst, .call ⟨.value (.func 29), #[.tmp s, .tmp s'], #[43, 39]⟩, ty, pos, after, none⟩ [(s, some j), (s', some j')] (apF W.heap.size (appT (bdT l) t)) := sx_of fun a w hb hl => by
  obtain ⟨h0, h0', _⟩ := hl
  rw [hF] at h0
  rw [hF'] at h0'
  have h1 := ev_o h0
  have h2 := ev_o h0'
  simp [go_sem, leaves, h1, h2]
  refine (refApplyK_at l hsm t hsz B cb A c w ((hB.keep fun g e => hb.block g e).wide fun _ e => Nat.lt_of_lt_of_le e hb.size) hf (hA.on hb)).mono fun e w' h => ?_
  obtain ⟨A', c', he, h64, hK, hbw⟩ := h
  exact ⟨_, he, hbw, A', c', rfl, h64, hK.wide fun _ e => ⟨Nat.le_trans hb.size e.1, e.2⟩⟩

theorem sx_build {x : Li} {s s' s'' j j' j'' : Nat} (hz : x.l.size ≤ 536870912 ∧ x.r.size ≤ 536870912) (hF : Fs.getD j Fct.any = Fct.eq (.bool x.neg)) {n : Nat} (hF' : Fs.getD j' Fct.any = apF n x.l) (hF'' : Fs.getD j'' Fct.any = apF n x.r) :
    stepG Try.prog (fun _ _ => True) m Fs a0 W ⟨dst, .build 41 #[(0, .tmp s), (1, .tmp s'), (2, .tmp s'')], ty, pos, after, none⟩ [(s, some j), (s', some j'), (s'', some j'')] (litF n x) := sx_of fun a w hb hl => by
  obtain ⟨h0, h0', h0'', _⟩ := hl
  rw [hF] at h0
  rw [hF'] at h0'
  rw [hF''] at h0''
  obtain ⟨A1, c1, hv1, i1, k1⟩ := h0'
  obtain ⟨A2, c2, hv2, i2, k2⟩ := h0''
  have h1 := ev_o h0
  have h2 := ev_o hv1
  have h3 := ev_o hv2
  simp [go_sem, leaves, h1, h2, h3]
  exact ⟨Below.refl _ _, A1, c1, A2, c2, rfl, i1, i2, k1, k2, hz.1, hz.2⟩

end

theorem set_five {W : World} {b : Nat} {x y z u v x' y' z' u' v' : Value} {t : TypeId} (h : W.heap[b]? = some (.cells #[x, y, z, u, v] t)) :
    (((((W.setCell ⟨b, 0, none⟩ x').setCell ⟨b, 1, none⟩ y').setCell ⟨b, 2, none⟩ z').setCell ⟨b, 3, none⟩ u').setCell ⟨b, 4, none⟩ v').heap[b]? = some (.cells #[x', y', z', u', v'] t) := by
  have e1 : (W.setCell ⟨b, 0, none⟩ x').heap[b]? = some (.cells #[x', y, z, u, v] t) := heap_setCell_same W _ 0 _ _ _ h
  have e2 : ((W.setCell ⟨b, 0, none⟩ x').setCell ⟨b, 1, none⟩ y').heap[b]? = some (.cells #[x', y', z, u, v] t) := heap_setCell_same _ _ 1 _ _ _ e1
  have e3 : (((W.setCell ⟨b, 0, none⟩ x').setCell ⟨b, 1, none⟩ y').setCell ⟨b, 2, none⟩ z').heap[b]? = some (.cells #[x', y', z', u, v] t) := heap_setCell_same _ _ 2 _ _ _ e2
  have e4 : ((((W.setCell ⟨b, 0, none⟩ x').setCell ⟨b, 1, none⟩ y').setCell ⟨b, 2, none⟩ z').setCell ⟨b, 3, none⟩ u').heap[b]? = some (.cells #[x', y', z', u', v] t) := heap_setCell_same _ _ 3 _ _ _ e3
  exact heap_setCell_same _ _ 4 _ _ _ e4

set_option maxHeartbeats 4000000 in
theorem refLit_any (l : List Bd) (x : Li) (hsm : ∀ b ∈ l, b.t.size ≤ 4398046511104) (B A1 A2 : Option Addr) (cb c1 c2 : Nat) (w : World) (hB : Binds w (· < w.heap.size) B l) (hx : LiK w (· < w.heap.size) x A1 c1 A2 c2) (hz : (appT (bdT l) x.l).size ≤ 536870912 ∧ (appT (bdT l) x.r).size ≤ 536870912) :
    Calls Try.prog 14 #[.slice B l.length cb, .agg #[.bool x.neg, .int .i64 x.l.fn, .slice A1 x.l.args.length c1, .int .i64 x.r.fn, .slice A2 x.r.args.length c2]] w fun e w' => ∃ A1 c1 A2 c2, e = .returned (.agg #[.bool (x.app l).neg, .int .i64 (x.app l).l.fn, .slice A1 (x.app l).l.args.length c1, .int .i64 (x.app l).r.fn, .slice A2 (x.app l).r.args.length c2]) ∧ LiK w' (· < w'.heap.size) (x.app l) A1 c1 A2 c2 ∧ Below w.heap.size w w' := by
  obtain ⟨q0, q1⟩ := heap2 w (.cells #[.bool x.neg, .int .i64 x.l.fn, .slice A1 x.l.args.length c1, .int .i64 x.r.fn, .slice A2 x.r.args.length c2] 41) (.cells #[.bool false, .int .i64 0, .slice none 0 0, .int .i64 0, .slice none 0 0] 41)
  obtain ⟨W, hW⟩ : ∃ W, (w.alloc (.cells #[.bool x.neg, .int .i64 x.l.fn, .slice A1 x.l.args.length c1, .int .i64 x.r.fn, .slice A2 x.r.args.length c2] 41)).alloc (.cells #[.bool false, .int .i64 0, .slice none 0 0, .int .i64 0, .slice none 0 0] 41) = W := ⟨_, rfl⟩
  have hBw : Below w.heap.size w W := by rw [← hW]; exact ((Below.refl _ _).alloc (Nat.le_refl _) _).alloc (by simp) _
  rw [hW] at q0 q1
  have hBW : Binds W (· < W.heap.size) B l := (hB.keep fun g e => hBw.block g e).wide fun _ e => Nat.lt_of_lt_of_le e hBw.size
  have hxW := hx.on hBw
  have HW := Lib.hid hW
  have HQ1 := Lib.hid q1
  have HBW := Lib.hid hBw
  have hl0 := (Array.getElem?_eq_some_iff.1 q0).1
  have hl1 := (Array.getElem?_eq_some_iff.1 q1).1
  obtain ⟨a0, a1, a2, a3, a4⟩ := cells_5o q0
  have HF := Lib.hid (And.intro hBW (And.intro hxW (And.intro hl0 (And.intro a0 (And.intro a1 (And.intro a2 (And.intro a3 (And.intro a4 hz))))))))
  have HL1 := Lib.hid hl1
  clear hW hB hx q0 q1 hBW hxW hl0 hl1 a0 a1 a2 a3 a4 hz hBw
  go_enter Try.func14, Try.ntmps14
  go_upto_region 1 with fail
  rw [HW.out]
  obtain ⟨hBW, hxW, hl0, a0, a1, a2, a3, a4, hz⟩ := HF.out
  have hBd : Binds W.drew (· < W.drew.heap.size) B l := hBW.keep fun _ _ => rfl
  have hxd : LiK W.drew (· < W.drew.heap.size) x A1 c1 A2 c2 := hxW.on (Below.refl _ _).drew
  refine wp_region_facts3 11 (fun _ _ => True) 16 [[(3, none)], [(5, some 0)], [(0, none)], [(3, none)], [(8, some 3)], [(7, some 2), (9, some 4)], [(0, none)], [(3, none)], [(12, some 7)], [(11, some 6), (13, some 8)], [(6, some 1), (10, some 5), (14, some 9)]]
    [Fct.eq (.pointer (some ⟨w.heap.size, 0, none⟩)), Fct.eq (.bool x.neg), Fct.eq (.slice B l.length cb), Fct.eq (.pointer (some ⟨w.heap.size, 1, none⟩)), Fct.eq (.agg #[.int .i64 x.l.fn, .slice A1 x.l.args.length c1]), apF W.heap.size (appT (bdT l) x.l), Fct.eq (.slice B l.length cb), Fct.eq (.pointer (some ⟨w.heap.size, 3, none⟩)), Fct.eq (.agg #[.int .i64 x.r.fn, .slice A2 x.r.args.length c2]), apF W.heap.size (appT (bdT l) x.r), litF W.heap.size (x.app l)] (by kernel_rfl) (by decide +kernel) (by decide +kernel) (by kernel_rfl) trivial ?_ ?_
  · exact ⟨sx_fld0 rfl, sx_load1 rfl hl0 a0, sx_move rfl, sx_fld1 rfl, sx_load2 rfl hl0 a1 a2, sx_apply (W := W.drew) hsm (by have := hxW.zl; omega) hBd hxd.il hxd.sl.toA rfl rfl, sx_move rfl, sx_fld2 rfl, sx_load2 rfl hl0 a3 a4, sx_apply (W := W.drew) hsm (by have := hxW.zr; omega) hBd hxd.ir hxd.sr.toA rfl rfl, sx_build (x := x.app l) hz rfl rfl rfl, trivial⟩
  intro w4 hb4
  generalize hA0 : ({ tmps := _, defers := _ } : Act) = aa
  simp only [List.take_succ_cons, List.take_zero, List.drop_succ_cons, List.drop_zero]
  refine FinS.some rfl (fun u0 (e0 : u0 = _) => ?_)
  subst e0
  refine FinS.some rfl (fun u1 (e1 : u1 = _) => ?_)
  subst e1
  refine FinS.some rfl (fun u2 (e2 : u2 = _) => ?_)
  subst e2
  refine FinS.some rfl (fun u3 (e3 : u3 = _) => ?_)
  subst e3
  refine FinS.some rfl (fun u4 (e4 : u4 = _) => ?_)
  subst e4
  refine FinS.some rfl (fun u5 e5 => ?_)
  refine FinS.some rfl (fun u6 (e6 : u6 = _) => ?_)
  subst e6
  refine FinS.some rfl (fun u7 (e7 : u7 = _) => ?_)
  subst e7
  refine FinS.some rfl (fun u8 (e8 : u8 = _) => ?_)
  subst e8
  refine FinS.some rfl (fun u9 e9 => ?_)
  refine FinS.some rfl (fun u10 e10 => FinS.nil fun _ => ?_)
  obtain ⟨D1, d1, D2, d2, rfl, hK⟩ := e10
  have hbw4 : Below W.heap.size W w4 := (Below.refl _ _).drew.trans (hb4.mono (Nat.le_refl _))
  have y1 := (hbw4.block _ HL1.out).trans HQ1.out
  obtain ⟨b0, b1, b2, b3, b4⟩ := cells_5o y1
  have f0 := frozen_9 y1 0
  have f1 := frozen_9 y1 1
  have f2 := frozen_9 y1 2
  have f3 := frozen_9 y1 3
  have f4 := frozen_9 y1 4
  have HY := Lib.hid (set_five (x' := .bool (x.app l).neg) (y' := .int .i64 (x.app l).l.fn) (z' := .slice D1 (x.app l).l.args.length d1) (u' := .int .i64 (x.app l).r.fn) (v' := .slice D2 (x.app l).r.args.length d2) y1)
  have HK := Lib.hid hK
  have hbwf := HBW.out.trans (hbw4.mono HBW.out.size)
  clear e5 e9 hK hb4 hBd hxd hBW hxW hl0 a0 a1 a2 a3 a4 hz HF y1
  refine ⟨?_⟩
  subst hA0
  simp only [Act.put, List.setIfInBounds_toArray, List.set_cons_succ, List.set_cons_zero]
  unfold tailWp Oper.wp
  go_simp
  unfold tailWp
  go_wp2
  have hset : ∀ g, g ≠ w.heap.size + 1 → (((((w4.setCell ⟨w.heap.size + 1, 0, none⟩ (.bool (x.app l).neg)).setCell ⟨w.heap.size + 1, 1, none⟩ (.int .i64 (x.app l).l.fn)).setCell ⟨w.heap.size + 1, 2, none⟩ (.slice D1 (x.app l).l.args.length d1)).setCell ⟨w.heap.size + 1, 3, none⟩ (.int .i64 (x.app l).r.fn)).setCell ⟨w.heap.size + 1, 4, none⟩ (.slice D2 (x.app l).r.args.length d2)).heap[g]? = w4.heap[g]? := fun g e => ((((heap_setCell_other _ _ _ _ e).trans (heap_setCell_other _ _ _ _ e)).trans (heap_setCell_other _ _ _ _ e)).trans (heap_setCell_other _ _ _ _ e)).trans (heap_setCell_other _ _ _ _ e)
  have hbf : Below w.heap.size w (((((w4.setCell ⟨w.heap.size + 1, 0, none⟩ (.bool (x.app l).neg)).setCell ⟨w.heap.size + 1, 1, none⟩ (.int .i64 (x.app l).l.fn)).setCell ⟨w.heap.size + 1, 2, none⟩ (.slice D1 (x.app l).l.args.length d1)).setCell ⟨w.heap.size + 1, 3, none⟩ (.int .i64 (x.app l).r.fn)).setCell ⟨w.heap.size + 1, 4, none⟩ (.slice D2 (x.app l).r.args.length d2)) := ((((hbwf.setCell (by show _ ≤ w.heap.size + 1; omega) _).setCell (by show _ ≤ w.heap.size + 1; omega) _).setCell (by show _ ≤ w.heap.size + 1; omega) _).setCell (by show _ ≤ w.heap.size + 1; omega) _).setCell (by show _ ≤ w.heap.size + 1; omega) _
  have hsz : (((((w4.setCell ⟨w.heap.size + 1, 0, none⟩ (.bool (x.app l).neg)).setCell ⟨w.heap.size + 1, 1, none⟩ (.int .i64 (x.app l).l.fn)).setCell ⟨w.heap.size + 1, 2, none⟩ (.slice D1 (x.app l).l.args.length d1)).setCell ⟨w.heap.size + 1, 3, none⟩ (.int .i64 (x.app l).r.fn)).setCell ⟨w.heap.size + 1, 4, none⟩ (.slice D2 (x.app l).r.args.length d2)).heap.size = w4.heap.size := by simp
  have hy := HY.out
  have HKf : Hid (LiK (((((w4.setCell ⟨w.heap.size + 1, 0, none⟩ (.bool (x.app l).neg)).setCell ⟨w.heap.size + 1, 1, none⟩ (.int .i64 (x.app l).l.fn)).setCell ⟨w.heap.size + 1, 2, none⟩ (.slice D1 (x.app l).l.args.length d1)).setCell ⟨w.heap.size + 1, 3, none⟩ (.int .i64 (x.app l).r.fn)).setCell ⟨w.heap.size + 1, 4, none⟩ (.slice D2 (x.app l).r.args.length d2)) (· < (((((w4.setCell ⟨w.heap.size + 1, 0, none⟩ (.bool (x.app l).neg)).setCell ⟨w.heap.size + 1, 1, none⟩ (.int .i64 (x.app l).l.fn)).setCell ⟨w.heap.size + 1, 2, none⟩ (.slice D1 (x.app l).l.args.length d1)).setCell ⟨w.heap.size + 1, 3, none⟩ (.int .i64 (x.app l).r.fn)).setCell ⟨w.heap.size + 1, 4, none⟩ (.slice D2 (x.app l).r.args.length d2)).heap.size) (x.app l) D1 d1 D2 d2) := Lib.hid (HK.out.to (fun g e => hset g (by have := HL1.out; omega)) fun g e => by rw [hsz]; exact e.2)
  clear hset hsz b0 b1 b2 b3 b4 f0 f1 f2 f3 f4
  obtain ⟨Y, hY⟩ : ∃ Y, (((((w4.setCell ⟨w.heap.size + 1, 0, none⟩ (.bool (x.app l).neg)).setCell ⟨w.heap.size + 1, 1, none⟩ (.int .i64 (x.app l).l.fn)).setCell ⟨w.heap.size + 1, 2, none⟩ (.slice D1 (x.app l).l.args.length d1)).setCell ⟨w.heap.size + 1, 3, none⟩ (.int .i64 (x.app l).r.fn)).setCell ⟨w.heap.size + 1, 4, none⟩ (.slice D2 (x.app l).r.args.length d2)) = Y := ⟨_, rfl⟩
  rw [hY] at hy hbf HKf ⊢
  obtain ⟨g0, g1, g2, g3, g4⟩ := cells_5o hy
  exact bodyPost_ret (v := .agg #[.bool (x.app l).neg, .int .i64 (x.app l).l.fn, .slice D1 (x.app l).l.args.length d1, .int .i64 (x.app l).r.fn, .slice D2 (x.app l).r.args.length d2]) (by simp [results, Try.results14, go_sem, g0, g1, g2, g3, g4]) rfl ⟨D1, d1, D2, d2, rfl, HKf.out, hbf⟩

end Go.Proofs.Ytgjmodclgdkodaa

/- The document's own answers: itself, Check of substitutions. -/

namespace Go.Proofs.Ytgjmodclgdkodaa

open Go.RowKit Go.Shelf
set_option maxRecDepth 100000

theorem refItself_any (t : Tm) (v : Int) (A : Option Addr) (c : Nat) (w : World) (hv : I64 v) :
    Calls Try.prog 24 #[.agg #[.int .i64 t.fn, .slice A t.args.length c], .int .i64 v] w fun e w' => e = .returned (.bool (decide (selfB ⟨v, t⟩))) ∧ Below w.heap.size w w' := by
  have hWB : Below w.heap.size w (w.alloc (.cells #[.int .i64 t.fn, .slice A t.args.length c] 39)) := (Below.refl _ _).alloc (Nat.le_refl _) _
  have hlo := hv.1
  have hhi := hv.2
  by_cases h1 : t.fn = -1 - v
  · go_enter Try.func24, Try.ntmps24
    go_wp2
    go_ret
    exact ⟨ret_bool (by rw [Bool.eq_iff_iff, beq_iff_eq, decide_eq_true_iff]; unfold selfB; exact ⟨fun h => ⟨h1, by show t.args.length = 0; omega⟩, fun h => by have h2 : t.args.length = 0 := h.2; omega⟩), by rwa [h1] at hWB⟩
  · go_enter Try.func24, Try.ntmps24
    go_wp2
    go_ret
    exact ⟨ret_bool (by unfold selfB; simp [h1]), hWB⟩

theorem refItself_bd (x : Bd) (A : Option Addr) (c : Nat) (w : World) (hv : I64 x.v) :
    Calls Try.prog 24 #[.agg #[.int .i64 x.t.fn, .slice A x.t.args.length c], .int .i64 x.v] w fun e w' => e = .returned (.bool (decide (selfB x))) ∧ Below w.heap.size w w' :=
  refItself_any x.t x.v A c w hv

set_option maxHeartbeats 2000000 in
theorem refSubCheck_any (l : List Bd) (A : Option Addr) (c : Nat) (w : World) (hl : l.length ≤ 9223372036854775806) (hA : Binds w (· < w.heap.size) A l) :
    Calls Try.prog 10 #[.slice A l.length c] w fun e w' => e = .returned (.int .i64 (chkN l)) ∧ Below w.heap.size w w' := by
  have HA := Lib.hid hA
  have HI0 := Lib.hid (ChkI.start l)
  clear hA
  go_enter Try.func10, Try.ntmps10
  go_wp2
  go_loopw [3] (fun i wr => ∃ (k : Nat) (lo : Int), k ≤ l.length ∧ i = .int .i64 (k : Int) ∧ Below w.heap.size w wr ∧ Hid (ChkI l k lo)) (fun i _ => l.length - (intOf i).toNat)
  case atStart => exact ⟨0, _, Nat.zero_le _, rfl, Below.refl _ _, HI0⟩
  case round =>
    obtain ⟨k, lo, hk, rfl, hBr, H⟩ := hrel
    by_cases hlt : k < l.length
    · obtain ⟨x, hx⟩ : ∃ x, l[k]? = some x := ⟨_, List.getElem?_eq_getElem hlt⟩
      obtain ⟨b, off, A', c', rfl, h⟩ := HA.out.get hx
      have e0 := cell_on hBr h.hb h.c0
      have e1 := cell_on hBr h.hb h.c1
      have e2 := cell_on hBr h.hb h.c2
      have hiv := h.iv
      have hbw : b < w.heap.size := h.hb
      have Hx := Lib.hid hx
      clear hx
      have hge := H.out.ge
      have hkl : (k : Int) < (l.length : Int) := by omega
      go_upto_region 4 with fail
      have r0 : ∀ x' : Later wr.heap.size wr, x'.w.cell? ⟨b, off + k * 3, none⟩ = some (.int .i64 x.v) := fun x' => cell_on (hBr.trans (x'.h.mono hBr.size)) h.hb h.c0
      have r1 : ∀ x' : Later wr.heap.size wr, x'.w.cell? ⟨b, off + k * 3 + 1, none⟩ = some (.int .i64 x.t.fn) := fun x' => cell_on (hBr.trans (x'.h.mono hBr.size)) h.hb h.c1
      have r2 : ∀ x' : Later wr.heap.size wr, x'.w.cell? ⟨b, off + k * 3 + 2, none⟩ = some (.slice A' x.t.args.length c') := fun x' => cell_on (hBr.trans (x'.h.mono hBr.size)) h.hb h.c2
      by_cases hneg : x.v < 0
      · have hres := Lib.hid (chkN_no (H.out.low Hx.out (by omega)))
        refine wp_region_later wr.heap.size wr (by kernel_rfl) (by kernel_rfl) (bl_drewN (Below.refl _ _) 1) ?_
        repeat (go_big_quiet_step (fail))
        refine wpQuiet_nil ?_
        rintro _ ⟨y, rfl⟩
        have hBz := hBr.trans (y.h.mono hBr.size)
        go_wp2
        go_ret
        exact ⟨ret_int hres.out.symm, hBz⟩
      · have hneg' : decide (x.v < 0) = false := decide_eq_false hneg
        rcases k with _ | m
        · have hlo := H.out.first rfl
          subst hlo
          have hk0 : decide (((0 : Nat) : Int) > 0) = false := by decide
          by_cases hs : selfB x
          · have hres := Lib.hid (chkN_no (H.out.self Hx.out hs))
            have hs' := decide_eq_true hs
            simp only [Nat.zero_mul, Nat.add_zero] at *
            refine wp_region_later wr.heap.size wr (by kernel_rfl) (by kernel_rfl) (bl_drewN (Below.refl _ _) 1) ?_
            repeat (go_big_quiet_step (first | (go_at_call 24; exact calls_later _ (Nat.le_refl _) (refItself_bd x A' c' _ hiv)) | fail))
            refine wpQuiet_nil ?_
            rintro _ ⟨y, rfl⟩
            have hBz := hBr.trans (y.h.mono hBr.size)
            go_wp2
            go_ret
            exact ⟨ret_int hres.out.symm, hBz⟩
          · have hnext := Lib.hid (H.out.next Hx.out (by omega) hs)
            have hs' := decide_eq_false hs
            simp only [Nat.zero_mul, Nat.add_zero] at *
            refine wp_region_later wr.heap.size wr (by kernel_rfl) (by kernel_rfl) (bl_drewN (Below.refl _ _) 1) ?_
            repeat (go_big_quiet_step (first | (go_at_call 24; exact calls_later _ (Nat.le_refl _) (refItself_bd x A' c' _ hiv)) | fail))
            refine wpQuiet_nil ?_
            rintro _ ⟨y, rfl⟩
            have hBz := hBr.trans (y.h.mono hBr.size)
            go_wp2
            go_roundw
            case rel => exact ⟨_, x.v, hlt, by go_num, hBz, hnext⟩
            case measure => simp [intOf]; omega
        · obtain ⟨y0, hy⟩ : ∃ y, l[m]? = some y := ⟨_, List.getElem?_eq_getElem (by omega)⟩
          obtain ⟨bb, off2, A2, c2, e, h2⟩ := HA.out.get hy
          injection e with e
          injection e with e1 e2 _
          subst e1; subst e2
          have hlo := H.out.last m y0 rfl hy
          have s0 : ∀ x' : Later wr.heap.size wr, x'.w.cell? ⟨b, off + m * 3, none⟩ = some (.int .i64 y0.v) := fun x' => cell_on (hBr.trans (x'.h.mono hBr.size)) h2.hb h2.c0
          have f0 : IntKind.i64.wrap (((m + 1 : Nat) : Int) - 1) = (m : Int) := by rw [IntKind.wrap_i64]; omega
          have f1 : decide (((m + 1 : Nat) : Int) > 0) = true := decide_eq_true (by omega)
          have f2 : (m : Int) < (l.length : Int) := by omega
          have f4 : (0 : Int) ≤ (m : Int) := by omega
          have f3 : (m : Int).toNat = m := by omega
          clear hy h2
          by_cases hle : x.v ≤ y0.v
          · have hres := Lib.hid (chkN_no (H.out.low Hx.out (by omega)))
            have hle' := decide_eq_true hle
            clear hlo
            refine wp_region_later wr.heap.size wr (by kernel_rfl) (by kernel_rfl) (bl_drewN (Below.refl _ _) 1) ?_
            repeat (go_big_quiet_step (first | (go_at_call 24; exact calls_later _ (Nat.le_refl _) (refItself_bd x A' c' _ hiv)) | fail))
            refine wpQuiet_nil ?_
            rintro _ ⟨y, rfl⟩
            have hBz := hBr.trans (y.h.mono hBr.size)
            go_wp2
            go_ret
            exact ⟨ret_int hres.out.symm, hBz⟩
          · have hle' := decide_eq_false hle
            have hlt2 : lo < x.v := by omega
            clear hlo
            by_cases hs : selfB x
            · have hres := Lib.hid (chkN_no (H.out.self Hx.out hs))
              have hs' := decide_eq_true hs
              refine wp_region_later wr.heap.size wr (by kernel_rfl) (by kernel_rfl) (bl_drewN (Below.refl _ _) 1) ?_
              repeat (go_big_quiet_step (first | (go_at_call 24; exact calls_later _ (Nat.le_refl _) (refItself_bd x A' c' _ hiv)) | fail))
              refine wpQuiet_nil ?_
              rintro _ ⟨y, rfl⟩
              have hBz := hBr.trans (y.h.mono hBr.size)
              go_wp2
              go_ret
              exact ⟨ret_int hres.out.symm, hBz⟩
            · have hnext := Lib.hid (H.out.next Hx.out hlt2 hs)
              have hs' := decide_eq_false hs
              refine wp_region_later wr.heap.size wr (by kernel_rfl) (by kernel_rfl) (bl_drewN (Below.refl _ _) 1) ?_
              repeat (go_big_quiet_step (first | (go_at_call 24; exact calls_later _ (Nat.le_refl _) (refItself_bd x A' c' _ hiv)) | fail))
              refine wpQuiet_nil ?_
              rintro _ ⟨y, rfl⟩
              have hBz := hBr.trans (y.h.mono hBr.size)
              go_wp2
              go_roundw
              case rel => exact ⟨_, x.v, hlt, by go_num, hBz, hnext⟩
              case measure => simp [intOf]; omega
    · obtain rfl : k = l.length := by omega
      have hd := Lib.hid (chkN_yes (H.out.done (Nat.le_refl _)))
      go_wp2
      go_ret
      exact ⟨ret_int hd.out.symm, hBr⟩

end Go.Proofs.Ytgjmodclgdkodaa

/- OrderStable, the law. -/

namespace Go.Proofs.Ytgjmodclgdkodaa

open Go.RowKit Go.Shelf
set_option maxRecDepth 100000

/-- A literal, as a value. -/
def liA (x : Li) : Fct := ⟨fun v w => ∃ A1 c1 A2 c2, v = .agg #[.bool x.neg, .int .i64 x.l.fn, .slice A1 x.l.args.length c1, .int .i64 x.r.fn, .slice A2 x.r.args.length c2] ∧ LiK w (· < w.heap.size) x A1 c1 A2 c2, fun ⟨A1, c1, A2, c2, hv, hK⟩ hb => ⟨A1, c1, A2, c2, hv, hK.on hb⟩⟩

section

variable {Fs : List Fct} {a0 : Act} {W : World} {dst : Option Tmp} {ty : TypeId} {pos : String} {after : Array Edge} {guard : Option (Nat × Bool)}

theorem st_moveA {s : Nat} {v : Value} (hg : ∀ j want, guard = some (j, want) → ∀ v w, (Fs.getD j Fct.any).p v w → v = .bool want) (hs : a0.eval (.tmp s) = v) : stepF Try.prog Fs a0 W ⟨dst, .move (.tmp s), ty, pos, after, guard⟩ [(s, none)] (Fct.eq v) := by
  refine .inl ⟨hg, fun a w hb hl => ?_⟩
  have h1 := ev_get (hl.1.trans hs)
  simp [go_sem, leaves, h1]
  exact ⟨Below.refl _ _, rfl⟩

theorem st_loadLi {s b : Nat} {x : Li} {A1 A2 : Option Addr} {c1 c2 : Nat} (hg : ∀ j want, guard = some (j, want) → ∀ v w, (Fs.getD j Fct.any).p v w → v = .bool want) (hs : a0.eval (.tmp s) = .pointer (some ⟨b, 0, none⟩)) (hW : W.heap[b]? = some (.cells #[.bool x.neg, .int .i64 x.l.fn, .slice A1 x.l.args.length c1, .int .i64 x.r.fn, .slice A2 x.r.args.length c2] 41)) (hK : LiK W (· < W.heap.size) x A1 c1 A2 c2) :
    stepF Try.prog Fs a0 W ⟨dst, .load 41 (.tmp s), ty, pos, after, guard⟩ [(s, none)] (liA x) := by
  refine .inl ⟨hg, fun a w hb hl => ?_⟩
  have h1 := ev_get (hl.1.trans hs)
  obtain ⟨e0, e1, e2, e3, e4⟩ := cells_5o ((hb.block b (Array.getElem?_eq_some_iff.1 hW).1).trans hW)
  simp [go_sem, leaves, h1, e0, e1, e2, e3, e4]
  exact ⟨Below.refl _ _, A1, c1, A2, c2, rfl, hK.on hb⟩

theorem st_litsA {o : Odr} {P Q : Option Addr} {pc qc s0 s1 s2 j0 j1 j2 : Nat} {x y : Li} {k : Int} (hg : ∀ j want, guard = some (j, want) → ∀ v w, (Fs.getD j Fct.any).p v w → v = .bool want) (hrk : o.prec.length ≤ 140737488351232) (hM : OdrM W W.heap.size o P Q) (hk : litsO o x y = k)
    (hF0 : Fs.getD j0 Fct.any = Fct.eq (.agg #[.bool o.lpo, .slice P o.prec.length pc, .slice Q o.wts.length qc, .int .i64 o.var])) (hF1 : Fs.getD j1 Fct.any = liA x) (hF2 : Fs.getD j2 Fct.any = liA y) :
    stepF Try.prog Fs a0 W ⟨dst, .call ⟨.value (.func 13), #[.tmp s0, .tmp s1, .tmp s2], #[27, 41, 41]⟩, ty, pos, after, guard⟩ [(s0, some j0), (s1, some j1), (s2, some j2)] (Fct.eq (.int .i64 k)) := by
  refine .inl ⟨hg, fun a w hb hl => ?_⟩
  obtain ⟨h0, h1, h2, _⟩ := hl
  rw [hF0] at h0
  rw [hF1] at h1
  rw [hF2] at h2
  obtain ⟨A1, c1, A2, c2, hv1, hK1⟩ := h1
  obtain ⟨B1, d1, B2, d2, hv2, hK2⟩ := h2
  have e0 := ev_get h0
  have e1 := ev_get hv1
  have e2 := ev_get hv2
  simp [go_sem, leaves, e0, e1, e2]
  refine (oLits_any o x y P Q A1 A2 B1 B2 pc qc c1 c2 d1 d2 w hrk (hM.on hb) hK1 hK2).mono fun e w' h => ?_
  exact ⟨_, h.1, h.2, by rw [hk]; rfl⟩

theorem st_lit04 {l : List Bd} {x : Li} {B : Option Addr} {cb s0 s1 j0 j1 : Nat} (hg : ∀ j want, guard = some (j, want) → ∀ v w, (Fs.getD j Fct.any).p v w → v = .bool want) (hsm : ∀ b ∈ l, b.t.size ≤ 4398046511104) (hB : Binds W (· < W.heap.size) B l) (hz : (appT (bdT l) x.l).size ≤ 536870912 ∧ (appT (bdT l) x.r).size ≤ 536870912)
    (hF0 : Fs.getD j0 Fct.any = Fct.eq (.slice B l.length cb)) (hF1 : Fs.getD j1 Fct.any = liA x) :
    stepF Try.prog Fs a0 W ⟨dst, .call ⟨.value (.func 14), #[.tmp s0, .tmp s1], #[43, 41]⟩, ty, pos, after, guard⟩ [(s0, some j0), (s1, some j1)] (liA (x.app l)) := by
  refine .inl ⟨hg, fun a w hb hl => ?_⟩
  obtain ⟨h0, h1, _⟩ := hl
  rw [hF0] at h0
  rw [hF1] at h1
  obtain ⟨A1, c1, A2, c2, hv1, hK1⟩ := h1
  have e0 := ev_get h0
  have e1 := ev_get hv1
  simp [go_sem, leaves, e0, e1]
  refine (refLit_any l x hsm B A1 A2 cb c1 c2 w ((hB.keep fun g e => hb.block g e).wide fun _ e => Nat.lt_of_lt_of_le e hb.size) hK1 hz).mono fun e w' h => ?_
  obtain ⟨D1, d1, D2, d2, he, hK, hbw⟩ := h
  exact ⟨_, he, hbw, D1, d1, D2, d2, rfl, hK⟩

end

theorem clsK_one {w : World} {N : Nat → Prop} {b : Nat} {x : Li} {A1 A2 : Option Addr} {c1 c2 : Nat} {ty : TypeId} (h : w.heap[b]? = some (.cells #[.bool x.neg, .int .i64 x.l.fn, .slice A1 x.l.args.length c1, .int .i64 x.r.fn, .slice A2 x.r.args.length c2] ty)) (hN : N b) (hK : LiK w N x A1 c1 A2 c2) : ClsK w N (some ⟨b, 0, none⟩) [x] := by
  obtain ⟨e0, e1, e2, e3, e4⟩ := cells_5o h
  refine ⟨fun _ => ⟨b, 0, rfl, hN, fun i y e => ?_⟩⟩
  match i, e with
  | 0, e => simp at e; subst e; exact ⟨A1, c1, A2, c2, e0, e1, e2, e3, e4, hK⟩
  | i + 1, e => simp at e

structure BoxL (w' : World) (bx : Nat) (o : Odr) (a b : Li) (As P Q A1 A2 B1 B2 : Option Addr) (n cs pc qc a1 a2 b1 b2 : Nat) : Prop where
  so : BoxSO w' bx o As P Q n cs pc qc
  ho : w'.heap[bx + 1]? = some (.cells #[.bool o.lpo, .slice P o.prec.length pc, .slice Q o.wts.length qc, .int .i64 o.var] 27)
  ha : w'.heap[bx + 1 + 1]? = some (.cells #[.bool a.neg, .int .i64 a.l.fn, .slice A1 a.l.args.length a1, .int .i64 a.r.fn, .slice A2 a.r.args.length a2] 41)
  hb : w'.heap[bx + 1 + 1 + 1]? = some (.cells #[.bool b.neg, .int .i64 b.l.fn, .slice B1 b.l.args.length b1, .int .i64 b.r.fn, .slice B2 b.r.args.length b2] 41)

theorem box_ll {w W : World} {o : Odr} {a b : Li} {As P Q A1 A2 B1 B2 : Option Addr} {n cs pc qc a1 a2 b1 b2 : Nat} (hW : (((w.alloc (.cells #[.slice As n cs] 24)).alloc (.cells #[.bool o.lpo, .slice P o.prec.length pc, .slice Q o.wts.length qc, .int .i64 o.var] 27)).alloc (.cells #[.bool a.neg, .int .i64 a.l.fn, .slice A1 a.l.args.length a1, .int .i64 a.r.fn, .slice A2 a.r.args.length a2] 41)).alloc (.cells #[.bool b.neg, .int .i64 b.l.fn, .slice B1 b.l.args.length b1, .int .i64 b.r.fn, .slice B2 b.r.args.length b2] 41) = W) :
    Below w.heap.size w W ∧ ∀ w', Below W.heap.size W w' → BoxL w' w.heap.size o a b As P Q A1 A2 B1 B2 n cs pc qc a1 a2 b1 b2 := by
  obtain ⟨q0, q1, q2, q3⟩ := heap4o w (.cells #[.slice As n cs] 24) (.cells #[.bool o.lpo, .slice P o.prec.length pc, .slice Q o.wts.length qc, .int .i64 o.var] 27) (.cells #[.bool a.neg, .int .i64 a.l.fn, .slice A1 a.l.args.length a1, .int .i64 a.r.fn, .slice A2 a.r.args.length a2] 41) (.cells #[.bool b.neg, .int .i64 b.l.fn, .slice B1 b.l.args.length b1, .int .i64 b.r.fn, .slice B2 b.r.args.length b2] 41)
  have hB : Below w.heap.size w W := by rw [← hW]; exact ((((Below.refl _ _).alloc (Nat.le_refl _) _).alloc (by simp) _).alloc (by simp; omega) _).alloc (by simp; omega) _
  rw [hW] at q0 q1 q2 q3
  refine ⟨hB, fun w' hb => ?_⟩
  have k := fun {i : Nat} {ob : Obj} (h : W.heap[i]? = some ob) => (hb.block i (Array.getElem?_eq_some_iff.1 h).1).trans h
  exact ⟨boxSO_of (k q0) (k q1), k q1, k q2, k q3⟩

set_option maxHeartbeats 8000000 in
theorem orderStable_of (sy : List Sm) (o : Odr) (a b : Li) (l : List Bd) (As P Q A1 A2 B1 B2 C : Option Addr) (n cs pc qc a1 a2 b1 b2 cc : Nat) (w : World) (hS : Syms w w.heap.size As n sy) (hn : n * 32 ≤ 140737488351232) (hM : OdrM w w.heap.size o P Q) (hrk : o.prec.length ≤ 140737488351232)
    (ha : LiK w (· < w.heap.size) a A1 a1 A2 a2) (hb : LiK w (· < w.heap.size) b B1 b1 B2 b2) (hza : a.l.size + a.r.size ≤ 2097152) (hzb : b.l.size + b.r.size ≤ 2097152) (hC : Binds w (· < w.heap.size) C l) (hzc : ∀ x ∈ l, x.t.size ≤ 2097152) (hll : l.length ≤ 1048576) :
    Calls Try.prog 4 #[.agg #[.slice As n cs], .agg #[.bool o.lpo, .slice P o.prec.length pc, .slice Q o.wts.length qc, .int .i64 o.var], .agg #[.bool a.neg, .int .i64 a.l.fn, .slice A1 a.l.args.length a1, .int .i64 a.r.fn, .slice A2 a.r.args.length a2], .agg #[.bool b.neg, .int .i64 b.l.fn, .slice B1 b.l.args.length b1, .int .i64 b.r.fn, .slice B2 b.r.args.length b2], .slice C l.length cc] w fun e w' => e = .returned (.bool true) ∧ Below w.heap.size w w' := by
  obtain ⟨W, hW⟩ : ∃ W, (((w.alloc (.cells #[.slice As n cs] 24)).alloc (.cells #[.bool o.lpo, .slice P o.prec.length pc, .slice Q o.wts.length qc, .int .i64 o.var] 27)).alloc (.cells #[.bool a.neg, .int .i64 a.l.fn, .slice A1 a.l.args.length a1, .int .i64 a.r.fn, .slice A2 a.r.args.length a2] 41)).alloc (.cells #[.bool b.neg, .int .i64 b.l.fn, .slice B1 b.l.args.length b1, .int .i64 b.r.fn, .slice B2 b.r.args.length b2] 41) = W := ⟨_, rfl⟩
  obtain ⟨hB, hX⟩ := box_ll hW
  have HX := Lib.hid hX
  have HW := Lib.hid hW
  have hSW := hS.on hB
  have hMW := hM.on hB
  have haW := ha.on hB
  have hbW := hb.on hB
  have hCW : Binds W (· < W.heap.size) C l := (hC.keep fun g e => hB.block g e).wide fun _ e => Nat.lt_of_lt_of_le e hB.size
  have HF : Hid (Calls Try.prog 6 #[.agg #[.slice As n cs], .agg #[.bool o.lpo, .slice P o.prec.length pc, .slice Q o.wts.length qc, .int .i64 o.var], .slice (some ⟨W.heap.size + 1 + 1, 0, none⟩) 2 2] (((W.alloc (.cells #[.bool a.neg, .int .i64 a.l.fn, .slice A1 a.l.args.length a1, .int .i64 a.r.fn, .slice A2 a.r.args.length a2] 41)).alloc (.cells #[.bool b.neg, .int .i64 b.l.fn, .slice B1 b.l.args.length b1, .int .i64 b.r.fn, .slice B2 b.r.args.length b2] 41)).alloc (.cells #[.slice (some ⟨W.heap.size, 0, none⟩) 1 1, .slice (some ⟨W.heap.size + 1, 0, none⟩) 1 1] 29)) fun e w' => e = .returned (.bool (fitsC sy o [[a], [b]])) ∧ Below W.heap.size W w') := Lib.hid (by
    obtain ⟨V, hV⟩ : ∃ V, (((W.alloc (.cells #[.bool a.neg, .int .i64 a.l.fn, .slice A1 a.l.args.length a1, .int .i64 a.r.fn, .slice A2 a.r.args.length a2] 41)).alloc (.cells #[.bool b.neg, .int .i64 b.l.fn, .slice B1 b.l.args.length b1, .int .i64 b.r.fn, .slice B2 b.r.args.length b2] 41)).alloc (.cells #[.slice (some ⟨W.heap.size, 0, none⟩) 1 1, .slice (some ⟨W.heap.size + 1, 0, none⟩) 1 1] 29)) = V := ⟨_, rfl⟩
    obtain ⟨q0, q1, q2⟩ := heap3o W (.cells #[.bool a.neg, .int .i64 a.l.fn, .slice A1 a.l.args.length a1, .int .i64 a.r.fn, .slice A2 a.r.args.length a2] 41) (.cells #[.bool b.neg, .int .i64 b.l.fn, .slice B1 b.l.args.length b1, .int .i64 b.r.fn, .slice B2 b.r.args.length b2] 41) (.cells #[.slice (some ⟨W.heap.size, 0, none⟩) 1 1, .slice (some ⟨W.heap.size + 1, 0, none⟩) 1 1] 29)
    have h1 : Below W.heap.size W V := by rw [← hV]; exact (((Below.refl _ _).alloc (Nat.le_refl _) _).alloc (by simp) _).alloc (by simp; omega) _
    rw [hV] at q0 q1 q2 ⊢
    have r1 := clsK_one q0 (N := (· < V.heap.size)) (Array.getElem?_eq_some_iff.1 q0).1 (haW.on h1)
    have r2 := clsK_one q1 (N := (· < V.heap.size)) (Array.getElem?_eq_some_iff.1 q1).1 (hbW.on h1)
    exact (oFits_any sy o [[a], [b]] As P Q (some ⟨W.heap.size + 1 + 1, 0, none⟩) n cs pc qc 2 V (hSW.on h1) hn (hMW.on h1) (rowC_two (m := [a]) (n := [b]) q2 (Array.getElem?_eq_some_iff.1 q2).1 ⟨_, 1, rfl, r1, by simp, fun x hx => by simp at hx; subst hx; exact hza⟩ ⟨_, 1, rfl, r2, by simp, fun x hx => by simp at hx; subst hx; exact hzb⟩)).mono fun e w' ⟨he, hw⟩ => ⟨he, h1.trans (hw.mono h1.size)⟩)
  have HK := Lib.hid fun w1 (h1 : Below W.heap.size W w1) => refSubCheck_any l C cc w1 (by omega) ((hCW.keep fun g e => h1.block g e).wide fun _ e => Nat.lt_of_lt_of_le e h1.size)
  have HCW := Lib.hid hCW
  have HSW := Lib.hid hSW
  have HMW := Lib.hid hMW
  have HaW := Lib.hid haW
  have HbW := Lib.hid hbW
  have Hwk := Lib.hid oWakes_any
  have HBB : Hid (∀ w1, Below W.heap.size W w1 → Below w.heap.size w w1) := Lib.hid fun w1 h => hB.trans (h.mono hB.size)
  obtain ⟨⟨x0, x1, x2, x3, x4⟩, _, xa, xb⟩ := hX W (Below.refl _ _)
  obtain ⟨y0, y1, y2, y3, y4⟩ := cells_5o xa
  obtain ⟨z0, z1, z2, z3, z4⟩ := cells_5o ((Below.heap_alloc W (.cells #[.bool a.neg, .int .i64 a.l.fn, .slice A1 a.l.args.length a1, .int .i64 a.r.fn, .slice A2 a.r.args.length a2] 41) _ (Array.getElem?_eq_some_iff.1 xb).1).trans xb)
  clear hW hX hS hM ha hb hC hSW hMW haW hbW hCW hB xa xb
  cases hft : fitsC sy o [[a], [b]] with
  | false =>
    rw [hft] at HF
    clear hft
    go_enter Try.func4, Try.ntmps4
    go_upto_region 1 with fail
    rw [HW.out]
    go_wp2_with (first
      | (go_at_call 6; go_must ((with_reducible refine HF.out.mono ?_); rintro e w1 ⟨rfl, hbe⟩))
      | (go_at_call 7; go_must ((with_reducible refine (Hwk.out _).mono ?_); rintro e w9 ⟨rfl, hb9⟩))
      | fail)
    go_ret
    exact ⟨rfl, HBB.out _ (hbe.trans (hb9.mono hbe.size))⟩
  | true =>
    rw [hft] at HF
    obtain ⟨hck, hgd⟩ := fits_all hft
    have hfa : sizC [a] ≤ 120 ∧ sizC [b] ≤ 120 := by
      unfold fitsC at hft
      rw [Bool.and_eq_true, List.all_eq_true] at hft
      have h1 := hft.2 [a] (by simp)
      have h2 := hft.2 [b] (by simp)
      unfold fitC at h1 h2
      simp at h1 h2
      exact ⟨h1.2, h2.2⟩
    simp only [sizC] at hfa
    have HG := Lib.hid (And.intro hck (And.intro (hgd [a] (by simp) a (by simp)) (And.intro (hgd [b] (by simp) b (by simp)) hfa)))
    clear hft hck hgd hfa
    by_cases hch : chkN l = 0
    · rw [hch] at HK
      clear hch
      by_cases hl48 : (l.length : Int) > 48
      · have g48 : decide ((l.length : Int) > 48) = true := decide_eq_true hl48
        clear hl48
        go_enter Try.func4, Try.ntmps4
        go_upto_region 1 with fail
        rw [HW.out]
        go_wp2_with (first
          | (go_at_call 6; go_must ((with_reducible refine HF.out.mono ?_); rintro e w1 ⟨rfl, hb1⟩; have HK1 := Lib.hid (HK.out w1 hb1)))
          | (go_at_call 10; go_must ((with_reducible refine HK1.out.mono ?_); rintro e w2 ⟨rfl, hb2⟩; have hbe := hb1.trans (hb2.mono hb1.size)))
          | (go_at_call 7; go_must ((with_reducible refine (Hwk.out _).mono ?_); rintro e w9 ⟨rfl, hb9⟩))
          | fail)
        go_ret
        exact ⟨rfl, HBB.out _ (hbe.trans (hb9.mono hbe.size))⟩
      · have g48 : decide ((l.length : Int) > 48) = false := decide_eq_false hl48
        clear hl48
        go_enter Try.func4, Try.ntmps4
        go_upto_region 1 with fail
        rw [HW.out]
        go_wp2_with (first
          | (go_at_call 6; go_must ((with_reducible refine HF.out.mono ?_); rintro e w1 ⟨rfl, hb1⟩; have HK1 := Lib.hid (HK.out w1 hb1)))
          | (go_at_call 10; go_must ((with_reducible refine HK1.out.mono ?_); rintro e w2 ⟨rfl, hb2⟩; have hbe0 := hb1.trans (hb2.mono hb1.size)))
          | fail)
        go_loopw [36] (fun i wr => ∃ k : Nat, k ≤ l.length ∧ i = .int .i64 (k : Int) ∧ Below W.heap.size W wr ∧ Hid (∀ x ∈ l.take k, chkP sy x.t = 0 ∧ x.t.size ≤ 20)) (fun i _ => l.length - (intOf i).toNat)
        case atStart => exact ⟨0, Nat.zero_le _, rfl, hbe0, Lib.hid fun x hx => by simp at hx⟩
        case round =>
          obtain ⟨k, hk, rfl, hBr, Hn⟩ := hrel
          by_cases hlt : k < l.length
          · obtain ⟨x, hx⟩ : ∃ x, l[k]? = some x := ⟨_, List.getElem?_eq_getElem hlt⟩
            obtain ⟨bb, off, A', c', rfl, h⟩ := HCW.out.get hx
            have hwr1 : IntKind.i64.wrap ((k : Int) + 1) = (k : Int) + 1 := by rw [IntKind.wrap_i64]; omega
            have hxz := hzc x (List.mem_of_getElem? hx)
            have hBz := fun z : Later wr.heap.size wr => hBr.trans (z.h.mono hBr.size)
            have m0 := fun z : Later wr.heap.size wr => (HX.out z.w (hBz z)).so.s0
            have m1 := fun z : Later wr.heap.size wr => cell_on (hBz z) h.hb h.c1
            have m2 := fun z : Later wr.heap.size wr => cell_on (hBz z) h.hb h.c2
            have hsub := fun z : Later wr.heap.size wr => (h.sub.keep fun g e => (hBz z).block g e).args fun g e => Nat.lt_of_lt_of_le e (hBz z).size
            have H1 := Lib.hid fun z : Later wr.heap.size wr => ref2ChkP_any sy x.t As A' n cs c' z.w (by omega) (HSW.out.on (hBz z)) hn h.it (hsub z)
            have H2 := Lib.hid fun z : Later wr.heap.size wr => refSize_any x.t (by omega) A' c' z.w h.it (hsub z)
            have Hx := Lib.hid hx
            have hsl := HSW.out.len
            have hyes : Hid (chkP sy x.t = 0 → x.t.size ≤ 20 → ∀ y ∈ l.take (k + 1), chkP sy y.t = 0 ∧ y.t.size ≤ 20) := Lib.hid fun h1 h2 y hy => by
              rw [List.take_add_one, Hx.out] at hy
              rcases List.mem_append.1 hy with hy | hy
              · exact Hn.out y hy
              · simp at hy; subst hy; exact ⟨h1, h2⟩
            have htop := Lib.hid (fun (hc : chkP sy x.t = 0) => chkP_top hc)
            clear hx h hxz hsub
            go_upto_region 6 with fail
            by_cases hc1 : chkP sy x.t = 0
            · have Ht := Lib.hid (htop.out hc1)
              by_cases hc2 : x.t.size ≤ 20
              · have HY := Lib.hid (hyes.out hc1 hc2)
                have g20 : decide ((x.t.size : Int) > 20) = false := decide_eq_false (by omega)
                rw [hc1] at H1
                clear hc1 hc2
                by_cases hf0 : 0 ≤ x.t.fn
                · obtain ⟨kl, hkl⟩ : ∃ kl : Nat, x.t.fn = (kl : Int) := ⟨x.t.fn.toNat, by omega⟩
                  have hkll : (kl : Int) < (sy.length : Int) := by have := Ht.out hf0; omega
                  obtain ⟨sl, hsl2⟩ : ∃ s, sy[kl]? = some s := ⟨_, List.getElem?_eq_getElem (by omega)⟩
                  obtain ⟨sb, so, rfl, hsb, hsc⟩ := HSW.out.ad (by omega)
                  have e5 := (hsc _ _ hsl2).2.2
                  have m4 := fun z : Later wr.heap.size wr => cell_on (hBz z) hsb e5
                  have g1 : decide ((kl : Int) ≥ 0) = true := decide_eq_true (by omega)
                  have hkn : (kl : Int) < (n : Int) := by omega
                  rw [hkl] at m1 H1 H2
                  clear e5 hf0 hsl2 hsc hkl hBz
                  cases hpd : sl.pred with
                  | true =>
                    rw [hpd] at m4
                    refine wp_region_later wr.heap.size wr (by kernel_rfl) (by kernel_rfl) (bl_drewN (Below.refl _ _) 1) ?_
                    repeat (go_big_quiet_step (first
                      | (go_at_call 11; with_reducible refine calls_later _ (Nat.le_refl _) (H1.out _))
                      | (go_at_call 12; with_reducible refine calls_later _ (Nat.le_refl _) (H2.out _))
                      | fail))
                    refine wpQuiet_nil ?_
                    rintro _ ⟨z, rfl⟩
                    have hbe := hBr.trans (z.h.mono hBr.size)
                    go_wp2_with (first
                      | (go_at_call 7; go_must ((with_reducible refine (Hwk.out _).mono ?_); rintro e w9 ⟨rfl, hb9⟩))
                      | fail)
                    go_ret
                    exact ⟨rfl, HBB.out _ (hbe.trans (hb9.mono hbe.size))⟩
                  | false =>
                    rw [hpd] at m4
                    refine wp_region_later wr.heap.size wr (by kernel_rfl) (by kernel_rfl) (bl_drewN (Below.refl _ _) 1) ?_
                    repeat (go_big_quiet_step (first
                      | (go_at_call 11; with_reducible refine calls_later _ (Nat.le_refl _) (H1.out _))
                      | (go_at_call 12; with_reducible refine calls_later _ (Nat.le_refl _) (H2.out _))
                      | fail))
                    refine wpQuiet_nil ?_
                    rintro _ ⟨z, rfl⟩
                    have hbe := hBr.trans (z.h.mono hBr.size)
                    go_wp2
                    go_roundw
                    case rel => exact ⟨k + 1, by omega, by go_num, hbe, HY⟩
                    case measure => simp [intOf]; omega
                · have g1 : decide (x.t.fn ≥ 0) = false := decide_eq_false hf0
                  clear hf0 hBz
                  refine wp_region_later wr.heap.size wr (by kernel_rfl) (by kernel_rfl) (bl_drewN (Below.refl _ _) 1) ?_
                  repeat (go_big_quiet_step (first
                    | (go_at_call 11; with_reducible refine calls_later _ (Nat.le_refl _) (H1.out _))
                    | (go_at_call 12; with_reducible refine calls_later _ (Nat.le_refl _) (H2.out _))
                    | fail))
                  refine wpQuiet_nil ?_
                  rintro _ ⟨z, rfl⟩
                  have hbe := hBr.trans (z.h.mono hBr.size)
                  go_wp2
                  go_roundw
                  case rel => exact ⟨k + 1, by omega, by go_num, hbe, HY⟩
                  case measure => simp [intOf]; omega
              · have g20 : decide ((x.t.size : Int) > 20) = true := decide_eq_true (by omega)
                rw [hc1] at H1
                clear hc1 hc2 hBz
                refine wp_region_later wr.heap.size wr (by kernel_rfl) (by kernel_rfl) (bl_drewN (Below.refl _ _) 1) ?_
                repeat (go_big_quiet_step (first
                  | (go_at_call 11; with_reducible refine calls_later _ (Nat.le_refl _) (H1.out _))
                  | (go_at_call 12; with_reducible refine calls_later _ (Nat.le_refl _) (H2.out _))
                  | fail))
                refine wpQuiet_nil ?_
                rintro _ ⟨z, rfl⟩
                have hbe := hBr.trans (z.h.mono hBr.size)
                go_wp2_with (first
                  | (go_at_call 7; go_must ((with_reducible refine (Hwk.out _).mono ?_); rintro e w9 ⟨rfl, hb9⟩))
                  | fail)
                go_ret
                exact ⟨rfl, HBB.out _ (hbe.trans (hb9.mono hbe.size))⟩
            · obtain ⟨r, hr⟩ : ∃ r, chkP sy x.t = r := ⟨_, rfl⟩
              have hr0 : ((r : Int) != 0) = true := by rw [← hr]; simpa using hc1
              rw [hr] at H1
              clear hr hc1 hBz
              refine wp_region_later wr.heap.size wr (by kernel_rfl) (by kernel_rfl) (bl_drewN (Below.refl _ _) 1) ?_
              repeat (go_big_quiet_step (first
                | (go_at_call 11; with_reducible refine calls_later _ (Nat.le_refl _) (H1.out _))
                | (go_at_call 12; with_reducible refine calls_later _ (Nat.le_refl _) (H2.out _))
                | fail))
              refine wpQuiet_nil ?_
              rintro _ ⟨z, rfl⟩
              have hbe := hBr.trans (z.h.mono hBr.size)
              go_wp2_with (first
                | (go_at_call 7; go_must ((with_reducible refine (Hwk.out _).mono ?_); rintro e w9 ⟨rfl, hb9⟩))
                | fail)
              go_ret
              exact ⟨rfl, HBB.out _ (hbe.trans (hb9.mono hbe.size))⟩
          · obtain rfl : k = l.length := by omega
            have hall := Hn.out
            rw [List.take_length] at hall
            have gck := HG.out.1
            have hsg : ∀ bd ∈ l, GdT sy bd.t ∧ bd.t.size ≤ 20 := fun bd hbd => ⟨chkP_gd (hall bd hbd).1, (hall bd hbd).2⟩
            have hza2 : a.l.size ≤ 1000 ∧ a.r.size ≤ 1000 := by have := HG.out.2.2.2.1; omega
            have hzb2 : b.l.size ≤ 1000 ∧ b.r.size ≤ 1000 := by have := HG.out.2.2.2.2; omega
            obtain ⟨k2, k3⟩ := lits_app (s := l) gck hsg HG.out.2.1 HG.out.2.2.1 hza2 hzb2
            have hap := fun t => app_sz (l := l) (fun bd hbd => (hsg bd hbd).2) t
            have hpa : (appT (bdT l) a.l).size ≤ 536870912 ∧ (appT (bdT l) a.r).size ≤ 536870912 := ⟨by have := hap a.l; omega, by have := hap a.r; omega⟩
            have hpb : (appT (bdT l) b.l).size ≤ 536870912 ∧ (appT (bdT l) b.r).size ≤ 536870912 := ⟨by have := hap b.l; omega, by have := hap b.r; omega⟩
            have hsm : ∀ bd ∈ l, bd.t.size ≤ 4398046511104 := fun bd hbd => by have := (hsg bd hbd).2; omega
            have hbd := hBr.trans ((Below.refl wr.heap.size wr).drew.mono hBr.size)
            have hbx := HX.out wr.drew hbd
            have hMd := HMW.out.on hbd
            have had := HaW.out.on hbd
            have hbd2 := HbW.out.on hbd
            have hCd : Binds wr.drew (· < wr.drew.heap.size) C l := (HCW.out.keep fun g e => hbd.block g e).wide fun _ e => Nat.lt_of_lt_of_le e hbd.size
            obtain ⟨x, hx⟩ : ∃ x, litsO o a b = x := ⟨_, rfl⟩
            obtain ⟨y, hy⟩ : ∃ y, litsO o (a.app l) (b.app l) = y := ⟨_, rfl⟩
            have HFF := Lib.hid (And.intro hbx (And.intro hMd (And.intro had (And.intro hbd2 (And.intro hCd (And.intro hx (And.intro hy (And.intro hpa (And.intro hpb hsm)))))))))
            rw [hx, hy] at k2 k3
            have K2 := Lib.hid k2
            have K3 := Lib.hid k3
            clear hall gck hsg hza2 hzb2 k2 k3 hap hpa hpb hsm hbx hMd had hbd2 hCd hx hy hbd
            go_upto_region 9 with fail
            obtain ⟨hbx, hMd, had, hbd2, hCd, hx, hy, hpa, hpb, hsm⟩ := HFF.out
            refine wp_region_facts 109 [[(6, none)], [(7, none)], [(8, none)], [(80, some 0), (81, some 1), (82, some 2)], [(6, none)], [(4, none)], [(7, none)], [(85, some 5), (86, some 6)], [(4, none)], [(8, none)], [(88, some 8), (89, some 9)], [(84, some 4), (87, some 7), (90, some 10)], [(83, some 3)], [(91, some 11)]]
              [Fct.eq (.agg #[.bool o.lpo, .slice P o.prec.length pc, .slice Q o.wts.length qc, .int .i64 o.var]), liA a, liA b, Fct.eq (.int .i64 x), Fct.eq (.agg #[.bool o.lpo, .slice P o.prec.length pc, .slice Q o.wts.length qc, .int .i64 o.var]), Fct.eq (.slice C l.length cc), liA a, liA (a.app l), Fct.eq (.slice C l.length cc), liA b, liA (b.app l), Fct.eq (.int .i64 y), Fct.eq (.int .i64 x), Fct.eq (.int .i64 y)] (by kernel_rfl) (by kernel_rfl) (by kernel_rfl) ?_ ?_
            · exact ⟨st_load4 gd_none rfl hbx.ho, st_loadLi gd_none rfl hbx.ha had, st_loadLi gd_none rfl hbx.hb hbd2, st_litsA gd_none hrk hMd hx rfl rfl rfl, st_load4 gd_none rfl hbx.ho, st_moveA gd_none rfl, st_loadLi gd_none rfl hbx.ha had, st_lit04 gd_none hsm hCd hpa rfl rfl, st_moveA gd_none rfl, st_loadLi gd_none rfl hbx.hb hbd2, st_lit04 gd_none hsm hCd hpb rfl rfl, st_litsA gd_none hrk hMd hy rfl rfl rfl, st_assign gd_none rfl, st_assign gd_none rfl, trivial⟩
            intro w4 hb4
            generalize hA0 : ({ tmps := _, defers := _ } : Act) = aa
            refine FinS.go ?_
            refine FinS.some rfl (fun u0 (e0 : u0 = _) => ?_)
            subst e0
            refine FinS.some rfl (fun u1 _ => ?_)
            refine FinS.some rfl (fun u2 _ => ?_)
            refine FinS.some rfl (fun u3 (e3 : u3 = _) => ?_)
            subst e3
            refine FinS.some rfl (fun u4 (e4 : u4 = _) => ?_)
            subst e4
            refine FinS.some rfl (fun u5 (e5 : u5 = _) => ?_)
            subst e5
            refine FinS.some rfl (fun u6 _ => ?_)
            refine FinS.some rfl (fun u7 _ => ?_)
            refine FinS.some rfl (fun u8 (e8 : u8 = _) => ?_)
            subst e8
            refine FinS.some rfl (fun u9 _ => ?_)
            refine FinS.some rfl (fun u10 _ => ?_)
            refine FinS.some rfl (fun u11 (e11 : u11 = _) => ?_)
            subst e11
            refine FinS.some rfl (fun u12 (e12 : u12 = _) => ?_)
            subst e12
            refine FinS.some rfl (fun u13 (e13 : u13 = _) => FinS.nil ?_)
            subst e13
            subst hA0
            simp only [Act.put, List.setIfInBounds_toArray, List.set_cons_succ, List.set_cons_zero]
            have hbe := hBr.trans (((Below.refl wr.heap.size wr).drew.trans (hb4.mono (Nat.le_refl _))).mono hBr.size)
            clear hbx hMd had hbd2 hCd hx hy hpa hpb hsm HFF hb4
            by_cases e3 : x = 3
            · subst e3
              obtain rfl : y = 3 := K3.out rfl
              go_wp2_with (first
                | (go_at_call 7; go_must ((with_reducible refine (Hwk.out _).mono ?_); rintro e w9 ⟨rfl, hb9⟩))
                | fail)
              go_ret
              exact ⟨rfl, HBB.out _ (hbe.trans (hb9.mono hbe.size))⟩
            · by_cases e2 : x = 2
              · subst e2
                obtain rfl : y = 2 := K2.out rfl
                go_wp2_with (first
                  | (go_at_call 7; go_must ((with_reducible refine (Hwk.out _).mono ?_); rintro e w9 ⟨rfl, hb9⟩))
                  | fail)
                go_ret
                exact ⟨rfl, HBB.out _ (hbe.trans (hb9.mono hbe.size))⟩
              · have e3' : ((x : Int) != 3) = true := by simpa using e3
                have e2' : ((x : Int) != 2) = true := by simpa using e2
                clear e3 e2
                go_wp2_with (first
                  | (go_at_call 7; go_must ((with_reducible refine (Hwk.out _).mono ?_); rintro e w9 ⟨rfl, hb9⟩))
                  | fail)
                go_ret
                exact ⟨rfl, HBB.out _ (hbe.trans (hb9.mono hbe.size))⟩
    · obtain ⟨r, hr⟩ : ∃ r, chkN l = r := ⟨_, rfl⟩
      have hr0 : ((r : Int) != 0) = true := by rw [← hr]; simpa using hch
      rw [hr] at HK
      clear hr hch
      go_enter Try.func4, Try.ntmps4
      go_upto_region 1 with fail
      rw [HW.out]
      go_wp2_with (first
        | (go_at_call 6; go_must ((with_reducible refine HF.out.mono ?_); rintro e w1 ⟨rfl, hb1⟩; have HK1 := Lib.hid (HK.out w1 hb1)))
        | (go_at_call 10; go_must ((with_reducible refine HK1.out.mono ?_); rintro e w2 ⟨rfl, hb2⟩; have hbe := hb1.trans (hb2.mono hb1.size)))
        | (go_at_call 7; go_must ((with_reducible refine (Hwk.out _).mono ?_); rintro e w9 ⟨rfl, hb9⟩))
        | fail)
      go_ret
      exact ⟨rfl, HBB.out _ (hbe.trans (hb9.mono hbe.size))⟩

end Go.Proofs.Ytgjmodclgdkodaa

/- A substitution that is an argument. -/

namespace Go.Proofs.Ytgjmodclgdkodaa

open Go.ChangeShapes Go.WideShapes Go.ChangeAt Go.RowKit
set_option maxRecDepth 20000

section

variable {H : Type} {enc : TypeId × Value → H} {W : World} {base : Nat} {held : Bool}

theorem cellsBind : Try.prog.cellsOf 48 = 3 := by kernel_rfl

theorem trod_bind (n : Nat) (cs : List Value) (x : DataW H × List MemPlace) (h : DataW.trod enc Try.prog W base (fun _ => true) held n 48 cs = some x) :
    ∃ (b : Bd) (A : Option Addr) (c : Nat), cs = [.int .i64 b.v, .int .i64 b.t.fn, .slice A b.t.args.length c] ∧ I64 b.v ∧ I64 b.t.fn ∧ Args W W.heap.size A b.t.args ∧ b.t.size ≤ Rows.uptoBulk x.1 := by
  obtain ⟨xs, n', rfl, hx, hlen, hxs, hf⟩ := DataW.trod_struct Try.underlying48 h
  rw [cellsBind] at hlen
  match cs, hlen with
  | [c0, c1, c2], _ =>
    have hx2 : xs.length = 2 := by rw [hxs]; rfl
    match xs, hx2 with
    | [x0, x1], _ =>
      have g0 := hf 0 _ rfl
      have g1 := hf 1 _ rfl
      simp [cellsInt] at g0
      simp [cellsTerm] at g1
      obtain ⟨f, hfv, ef, hw⟩ := DataW.trod_int Try.underlying3 g0
      injection hfv with hfv
      subst hfv
      have hf64 : I64 f := by
        have := hw
        simp [Lit.wf, IntKind.min, IntKind.max, IntKind.signed, IntKind.bits] at this
        exact this
      obtain ⟨t, A, c, hcs, ht64, hA, hb⟩ := trod_term _ _ _ g1
      injection hcs with e1 hcs
      injection hcs with e2 _
      subst e1; subst e2
      refine ⟨⟨f, t⟩, A, c, rfl, hf64, ht64, hA, ?_⟩
      subst hx
      simp only [ef, List.map_cons, List.map_nil, Rows.uptoBulk, Rows.uptoBulkAll]
      omega

theorem bulk_mem : ∀ {ds : List (DataW H)} {d : DataW H}, d ∈ ds → Rows.uptoBulk d ≤ Rows.uptoBulkAll ds
  | [], _, h => by simp at h
  | d' :: ds, d, h => by
    simp only [Rows.uptoBulkAll]
    rcases List.mem_cons.1 h with rfl | h
    · omega
    · have := bulk_mem h; omega

theorem open_subst {r : Reach} {b0 : Nat} {v : Value} {d : DataW H} {ps : List MemPlace} (hv : Value.okWide Try.prog W r b0 43 v) (h : DataW.Trod enc Try.prog W base (fun _ => true) held 43 v d ps) :
    ∃ (l : List Bd) (A : Option Addr) (c : Nat), v = .slice A l.length c ∧ Binds W (· < W.heap.size) A l ∧ ∀ x ∈ l, x.t.size ≤ Rows.uptoBulk d := by
  obtain ⟨a0, len0, cap0, rfl⟩ := okWide_slice Try.underlying43 hv
  obtain ⟨fuel, hf⟩ := h
  have hf' : DataW.trod enc Try.prog W base (fun _ => true) held fuel 43 [.slice a0 len0 cap0] = some (d, ps) := hf
  rcases DataW.trod_slice Try.underlying43 hf' with ⟨hv, e1⟩ | ⟨a, len, cap, elems, rest, m, hm, hv, e1, _, hl, hmax, hlenE, hel, _, _⟩
  · injection hv with hv
    injection hv with e2 e3 e4
    subst e2; subst e3; subst e4
    exact ⟨[], none, 0, rfl, Binds.nil_ _ _ _, by simp⟩
  · injection hv with hv
    injection hv with e2 e3 e4
    subst e2; subst e3; subst e4
    have each : ∀ i, i < len0 → ∃ q : Bd × Option Addr × Nat × DataW H, I64 q.1.v ∧ I64 q.1.t.fn ∧ W.cell? (a.add (i * 3)) = some (.int .i64 q.1.v) ∧ W.cell? ((a.add (i * 3)).add 1) = some (.int .i64 q.1.t.fn) ∧ W.cell? ((a.add (i * 3)).add 2) = some (.slice q.2.1 q.1.t.args.length q.2.2.1) ∧ Args W W.heap.size q.2.1 q.1.t.args ∧ q.1.t.size ≤ Rows.uptoBulk q.2.2.2 ∧ q.2.2.2 ∈ elems.map (·.1) := by
      intro i hi
      have h1 := hel i hi
      rw [cellsBind] at h1
      rw [List.getElem?_eq_getElem (by omega)] at h1
      cases hc : W.cells? base (a.add (i * 3)) 3 with
      | none => rw [hc] at h1; cases h1
      | some cs' =>
        rw [hc] at h1
        simp only [Option.bind_some] at h1
        obtain ⟨b, A, c, rfl, hb64, ht64, hA, hb⟩ := trod_bind _ cs' _ h1
        obtain ⟨_, _, hat⟩ := World.cells?_some hc
        refine ⟨(b, A, c, (elems[i]'(by omega)).1), hb64, ht64, ?_, hat 1 (by omega), hat 2 (by omega), hA, hb, List.mem_map.2 ⟨_, List.getElem_mem _, rfl⟩⟩
        have := hat 0 (by omega)
        simpa [Addr.add] using this
    haveI : Inhabited (Bd × Option Addr × Nat × DataW H) := ⟨(⟨0, .node 0 []⟩, none, 0, .nil)⟩
    obtain ⟨q, hq⟩ := Go.Deep.choose_lt each
    have hget : ∀ (i : Nat) (t : Bd), ((List.range len0).map fun i => (q i).1)[i]? = some t → i < len0 ∧ t = (q i).1 := by
      intro i t e
      have hi : i < len0 := by have := (List.getElem?_eq_some_iff.1 e).1; simpa using this
      rw [List.getElem?_map, List.getElem?_range hi] at e
      simp at e
      exact ⟨hi, e.symm⟩
    refine ⟨(List.range len0).map fun i => (q i).1, some a, cap0, by simp, ?_, ?_⟩
    · rcases Nat.eq_zero_or_pos len0 with h0 | h0
      · subst h0; exact Binds.nil_ _ _ _
      · have c00 := (hq 0 h0).2.2.1
        simp only [Nat.zero_mul, Addr.add, if_true] at c00
        obtain ⟨blk, off, spot⟩ := a
        obtain rfl : spot = none := cell_spot c00
        have hblk : blk < W.heap.size := World.block_lt_of_cell? W _ c00
        refine ⟨by unfold maxLen at hmax; simp; omega, fun _ => ⟨blk, off, rfl, hblk, fun i t e => ?_⟩⟩
        obtain ⟨hi, rfl⟩ := hget i t e
        obtain ⟨h1, h2, h3, h4, h5, h6, _⟩ := hq i hi
        rw [Addr.add_lit] at h3
        rw [Addr.add_lit, Addr.add_lit] at h4 h5
        exact ⟨(q i).2.1, (q i).2.2.1, h3, h4, h5, h1, h2, h6.toN⟩
    · intro x hx
      obtain ⟨i, hi, rfl⟩ := List.mem_map.1 hx
      have hi' : i < len0 := by simpa using hi
      obtain ⟨_, _, _, _, _, _, h7, h8⟩ := hq i hi'
      have h9 := bulk_mem h8
      have e5 := congrArg (fun z => Rows.uptoBulk z.1) e1
      simp only [Rows.uptoBulk] at e5
      show (q i).1.t.size ≤ _
      omega

end

end Go.Proofs.Ytgjmodclgdkodaa

/- An argument that is a substitution: as many binds as values at most. -/

namespace Go.Proofs.Ytgjmodclgdkodaa

open Go.ChangeShapes Go.WideShapes Go.ChangeAt Go.RowKit
set_option maxRecDepth 20000

section

variable {H : Type} {enc : TypeId × Value → H} {W : World} {base : Nat} {held : Bool}

theorem open_substN {r : Reach} {b0 : Nat} {v : Value} {d : DataW H} {ps : List MemPlace} (hv : Value.okWide Try.prog W r b0 43 v) (h : DataW.Trod enc Try.prog W base (fun _ => true) held 43 v d ps) :
    ∃ (l : List Bd) (A : Option Addr) (c : Nat), v = .slice A l.length c ∧ Binds W (· < W.heap.size) A l ∧ (∀ x ∈ l, x.t.size ≤ Rows.uptoBulk d) ∧ l.length ≤ Rows.uptoBulk d := by
  obtain ⟨a0, len0, cap0, rfl⟩ := okWide_slice Try.underlying43 hv
  obtain ⟨fuel, hf⟩ := h
  have hf' : DataW.trod enc Try.prog W base (fun _ => true) held fuel 43 [.slice a0 len0 cap0] = some (d, ps) := hf
  rcases DataW.trod_slice Try.underlying43 hf' with ⟨hv, e1⟩ | ⟨a, len, cap, elems, rest, m, hm, hv, e1, _, hl, hmax, hlenE, hel, _, _⟩
  · injection hv with hv
    injection hv with e2 e3 e4
    subst e2; subst e3; subst e4
    exact ⟨[], none, 0, rfl, Binds.nil_ _ _ _, by simp, by simp⟩
  · injection hv with hv
    injection hv with e2 e3 e4
    subst e2; subst e3; subst e4
    have each : ∀ i, i < len0 → ∃ q : Bd × Option Addr × Nat × DataW H, I64 q.1.v ∧ I64 q.1.t.fn ∧ W.cell? (a.add (i * 3)) = some (.int .i64 q.1.v) ∧ W.cell? ((a.add (i * 3)).add 1) = some (.int .i64 q.1.t.fn) ∧ W.cell? ((a.add (i * 3)).add 2) = some (.slice q.2.1 q.1.t.args.length q.2.2.1) ∧ Args W W.heap.size q.2.1 q.1.t.args ∧ q.1.t.size ≤ Rows.uptoBulk q.2.2.2 ∧ q.2.2.2 ∈ elems.map (·.1) := by
      intro i hi
      have h1 := hel i hi
      rw [cellsBind] at h1
      rw [List.getElem?_eq_getElem (by omega)] at h1
      cases hc : W.cells? base (a.add (i * 3)) 3 with
      | none => rw [hc] at h1; cases h1
      | some cs' =>
        rw [hc] at h1
        simp only [Option.bind_some] at h1
        obtain ⟨b, A, c, rfl, hb64, ht64, hA, hb⟩ := trod_bind _ cs' _ h1
        obtain ⟨_, _, hat⟩ := World.cells?_some hc
        refine ⟨(b, A, c, (elems[i]'(by omega)).1), hb64, ht64, ?_, hat 1 (by omega), hat 2 (by omega), hA, hb, List.mem_map.2 ⟨_, List.getElem_mem _, rfl⟩⟩
        have := hat 0 (by omega)
        simpa [Addr.add] using this
    haveI : Inhabited (Bd × Option Addr × Nat × DataW H) := ⟨(⟨0, .node 0 []⟩, none, 0, .nil)⟩
    obtain ⟨q, hq⟩ := Go.Deep.choose_lt each
    have hget : ∀ (i : Nat) (t : Bd), ((List.range len0).map fun i => (q i).1)[i]? = some t → i < len0 ∧ t = (q i).1 := by
      intro i t e
      have hi : i < len0 := by have := (List.getElem?_eq_some_iff.1 e).1; simpa using this
      rw [List.getElem?_map, List.getElem?_range hi] at e
      simp at e
      exact ⟨hi, e.symm⟩
    refine ⟨(List.range len0).map fun i => (q i).1, some a, cap0, by simp, ?_, ?_, ?_⟩
    · rcases Nat.eq_zero_or_pos len0 with h0 | h0
      · subst h0; exact Binds.nil_ _ _ _
      · have c00 := (hq 0 h0).2.2.1
        simp only [Nat.zero_mul, Addr.add, if_true] at c00
        obtain ⟨blk, off, spot⟩ := a
        obtain rfl : spot = none := cell_spot c00
        have hblk : blk < W.heap.size := World.block_lt_of_cell? W _ c00
        refine ⟨by unfold maxLen at hmax; simp; omega, fun _ => ⟨blk, off, rfl, hblk, fun i t e => ?_⟩⟩
        obtain ⟨hi, rfl⟩ := hget i t e
        obtain ⟨h1, h2, h3, h4, h5, h6, _⟩ := hq i hi
        rw [Addr.add_lit] at h3
        rw [Addr.add_lit, Addr.add_lit] at h4 h5
        exact ⟨(q i).2.1, (q i).2.2.1, h3, h4, h5, h1, h2, h6.toN⟩
    · intro x hx
      obtain ⟨i, hi, rfl⟩ := List.mem_map.1 hx
      have hi' : i < len0 := by simpa using hi
      obtain ⟨_, _, _, _, _, _, h7, h8⟩ := hq i hi'
      have h9 := bulk_mem h8
      have e5 := congrArg (fun z => Rows.uptoBulk z.1) e1
      simp only [Rows.uptoBulk] at e5
      show (q i).1.t.size ≤ _
      omega
    · have e5 := congrArg (fun z => Rows.uptoBulk z.1) e1
      simp only [Rows.uptoBulk] at e5
      have e6 := bulk_length (elems.map fun x => x.1)
      rw [List.length_map] at e6
      simp
      omega

end

end Go.Proofs.Ytgjmodclgdkodaa

