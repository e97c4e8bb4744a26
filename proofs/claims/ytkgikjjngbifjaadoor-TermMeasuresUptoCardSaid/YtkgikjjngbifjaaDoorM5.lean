/- TermMeasures. -/
import Derived.Test.YtkgikjjngbifjaaDoorM1
import Derived.Test.YtkgikjjngbifjaaDoorM4
namespace Go.Proofs.YtkgikjjngbifjaaDoor
open Go.RowKit
set_option maxRecDepth 100000

set_option maxHeartbeats 1000000 in
theorem numbers_same (l : List Int) (A A2 : Option Addr) (c c2 : Nat) (w : World) (hA : Ints w w.heap.size A l) (hA2 : Ints w w.heap.size A2 l) :
    Calls Tryd.prog 25 #[.slice A l.length c, .slice A2 l.length c2] w fun e w' => e = .returned (.bool true) ∧ Below w.heap.size w w' := by
  have hlen := hA.len
  go_enter Tryd.func25, Tryd.ntmps25
  go_wp2
  go_loopw [13] (fun i wr => ∃ k : Nat, k ≤ l.length ∧ i = .int .i64 (k : Int) ∧ Below w.heap.size w wr) (fun i _ => l.length - (intOf i).toNat)
  case atStart => exact ⟨0, Nat.zero_le _, rfl, Below.refl _ _⟩
  case round =>
    obtain ⟨k, hk, rfl, hBr⟩ := hrel
    by_cases hkl : k < l.length
    · obtain ⟨x, hx⟩ : ∃ x, l[k]? = some x := ⟨_, List.getElem?_eq_getElem hkl⟩
      obtain ⟨pb, po, rfl, hpb, hpc⟩ := hA.ad (by omega)
      obtain ⟨qb, qo, rfl, hqb, hqc⟩ := hA2.ad (by omega)
      have p0 := cell_on hBr hpb (hpc _ _ hx)
      have q0 := cell_on hBr hqb (hqc _ _ hx)
      clear hx hpc hqc
      go_wp2
      go_quiet (fail)
      go_wp2
      go_roundw
      case rel => exact ⟨k + 1, by omega, by go_num, bl_drewN hBr _⟩
      case measure => simp [intOf]; omega
    · obtain rfl : k = l.length := by omega
      go_wp2
      go_ret
      exact ⟨rfl, hBr⟩

theorem ref2Size_at (t : Tm) (A : Option Addr) (c : Nat) (w : World) (hsz : t.size ≤ 4611686018427387904) (hf : I64 t.fn) (hA : Args w w.heap.size A t.args) :
    Calls Tryd.prog 20 #[.agg #[.int .i64 t.fn, .slice A t.args.length c]] w fun e w' => e = .returned (.int .i64 (t.size : Int)) ∧ Below w.heap.size w w' := refSize_any t hsz A c w hf hA
theorem ref2Depth_at (t : Tm) (A : Option Addr) (c : Nat) (w : World) (hsz : t.depth ≤ 4611686018427387904) (hf : I64 t.fn) (hA : Args w w.heap.size A t.args) :
    Calls Tryd.prog 22 #[.agg #[.int .i64 t.fn, .slice A t.args.length c]] w fun e w' => e = .returned (.int .i64 (t.depth : Int)) ∧ Below w.heap.size w w' := refDepth_any t hsz A c w hf hA
theorem termGround_at (t : Tm) (A : Option Addr) (c : Nat) (w : World) (hf : I64 t.fn) (hA : Args w w.heap.size A t.args) (hdp : t.depth ≤ 1099511627776) (L : List Int) (hL : (vn t).foldl insI [] = L) :
    Calls Tryd.prog 23 #[.agg #[.int .i64 t.fn, .slice A t.args.length c]] w fun e w' => e = .returned (.bool ((L.length : Int) == 0)) ∧ Below w.heap.size w w' := by
  refine (termGround_any t A c w hf hA hdp).mono ?_
  rintro e w1 ⟨rfl, hb⟩
  refine ⟨ret_bool ?_, hb⟩
  rw [vnums_vis, Bool.eq_iff_iff, decide_eq_true_iff, beq_iff_eq]
  have h := (insI_fold (vn t) [] List.Pairwise.nil).2
  rw [hL] at h
  constructor
  · intro e
    cases hl : L with
    | nil => rfl
    | cons x r =>
      have := (h x).1 (by rw [hl]; simp)
      rw [e] at this
      simp at this
  · intro e
    have hn : L = [] := List.eq_nil_of_length_eq_zero (by omega)
    cases hv : vn t with
    | nil => rfl
    | cons x r =>
      have := (h x).2 (.inr (by rw [hv]; simp))
      rw [hn] at this
      simp at this
theorem termVars_at (t : Tm) (A : Option Addr) (c : Nat) (w : World) (hf : I64 t.fn) (hA : Args w w.heap.size A t.args) (hdp : t.depth ≤ 1099511627776) (hsz : t.size ≤ 4398046511104) (L : List Int) (hL : (vn t).foldl insI [] = L) :
    Calls Tryd.prog 14 #[.agg #[.int .i64 t.fn, .slice A t.args.length c]] w fun e w' => ∃ A' c', e = .returned (.slice A' L.length c') ∧ Ints w' w'.heap.size A' L ∧ Below w.heap.size w w' := by
  refine (termVars_any t A c w hf hA hdp hsz).mono ?_
  rintro e w1 ⟨v, rfl, ⟨A', c', rfl, hI⟩, hb⟩
  rw [hL] at hI ⊢
  exact ⟨A', c', rfl, hI, hb⟩
theorem ref2Vars_at (t : Tm) (A : Option Addr) (c : Nat) (w : World) (hf : I64 t.fn) (hsz : t.size ≤ 4398046511104) (hA : Args w w.heap.size A t.args) (L : List Int) (hL : (vn t).foldl insI [] = L) :
    Calls Tryd.prog 24 #[.agg #[.int .i64 t.fn, .slice A t.args.length c]] w fun e w' => ∃ A' c', e = .returned (.slice A' L.length c') ∧ Ints w' w'.heap.size A' L ∧ Below w.heap.size w w' := by
  refine (ref2Vars_any t A c w hf hsz hA).mono ?_
  rintro e w1 ⟨v, rfl, ⟨A', c', rfl, hI⟩, hb⟩
  rw [hL] at hI ⊢
  exact ⟨A', c', rfl, hI, hb⟩

theorem meas_chain {w1 w2 w3 w4 w5 w6 w7 w8 w9 w10 w11 w12 : World} (h2 : Below w1.drew.heap.size w1.drew w2) (h3 : Below w2.heap.size w2 w3) (h4 : Below w3.heap.size w3 w4) (h5 : Below w4.heap.size w4 w5) (h6 : Below w5.heap.size w5 w6) (h7 : Below w6.heap.size w6 w7) (h8 : Below w7.heap.size w7 w8) (h9 : Below w8.heap.size w8 w9) (h10 : Below w9.heap.size w9 w10) (h11 : Below w10.heap.size w10 w11) (h12 : Below w11.heap.size w11 w12) : Below w1.heap.size w1 w12 :=
  bl_step (bl_step (bl_step (bl_step (bl_step (bl_step (bl_step (bl_step (bl_step (bl_step (⟨h2.os, h2.tape, h2.output, h2.size, h2.block⟩ : Below w1.heap.size w1 w2) h3) h4) h5) h6) h7) h8) h9) h10) h11) h12

set_option maxHeartbeats 4000000 in
theorem TermMeasures_any (a b : Tm) (A1 A2 : Option Addr) (c1 c2 : Nat) (w : World) (hsz : a.size ≤ 4398046511104) (hda : a.depth ≤ 1099511627776) (ha : I64 a.fn) (hb : I64 b.fn) (hA1 : Args w w.heap.size A1 a.args) (hA2 : Args w w.heap.size A2 b.args) (ht : tru w) :
    Calls Tryd.prog 4 #[.agg #[.int .i64 a.fn, .slice A1 a.args.length c1], .agg #[.int .i64 b.fn, .slice A2 b.args.length c2]] w fun e w' => e = .returned (.bool true) ∧ Below w.heap.size w w' := by
  obtain ⟨q0, q1⟩ := heap2 w (.cells #[.int .i64 a.fn, .slice A1 a.args.length c1] 27) (.cells #[.int .i64 b.fn, .slice A2 b.args.length c2] 27)
  obtain ⟨W, hW⟩ : ∃ W, ((w.alloc (.cells #[.int .i64 a.fn, .slice A1 a.args.length c1] 27)).alloc (.cells #[.int .i64 b.fn, .slice A2 b.args.length c2] 27)) = W := ⟨_, rfl⟩
  have hB : Below w.heap.size w W := by rw [← hW]; exact ((Below.refl _ _).alloc (Nat.le_refl _) _).alloc (by simp) _
  rw [hW] at q0 q1
  have hWs : w.heap.size + 1 < W.heap.size := (Array.getElem?_eq_some_iff.1 q1).1
  have hS : ∀ w', Below W.heap.size W w' → w'.cell? ⟨w.heap.size, 0, none⟩ = some (.int .i64 a.fn) ∧ w'.cell? ⟨w.heap.size, 1, none⟩ = some (.slice A1 a.args.length c1) ∧ w'.cell? ⟨w.heap.size + 1, 0, none⟩ = some (.int .i64 b.fn) ∧ w'.cell? ⟨w.heap.size + 1, 1, none⟩ = some (.slice A2 b.args.length c2) := by
    intro w' h
    obtain ⟨x0, x1, _, _⟩ := cells_two ((h.block _ (by omega)).trans q0)
    obtain ⟨y0, y1, _, _⟩ := cells_two ((h.block _ hWs).trans q1)
    exact ⟨x0, x1, y0, y1⟩
  obtain ⟨L, hL⟩ : ∃ L, (vn a).foldl insI [] = L := ⟨_, rfl⟩
  have H1 := Lib.hid (hA1.on hB)
  have H2 := Lib.hid (hA2.on hB)
  have HT := Lib.hid (tru_below ht hB)
  have HW := Lib.hid hW
  have HL := Lib.hid hL
  clear hW ht hA1 hA2 q0 q1 hL
  go_enter Tryd.func4, Tryd.ntmps4
  go_upto_region 1 with fail
  rw [HW.out]
  obtain ⟨x0, x1, y0, y1⟩ := hS W (Below.refl _ _)
  go_upto_region 2 with (first
    | (go_at_call 14; (with_reducible refine (termVars_at a A1 c1 W ha H1.out hda hsz L HL.out).mono ?_); go_must (rintro e w1 ⟨Av, cv, rfl, hIv, hb1⟩; have HIv := Lib.hid hIv; clear hIv))
    | fail)
  clear x0 x1 y0 y1
  obtain ⟨x0, x1, y0, y1⟩ := hS w1 hb1
  have HD1 : Hid (Args w1.drew w1.drew.heap.size A1 a.args) := (H1.out.on hb1).drewN 1
  have HD2 : Hid (Args w1.drew w1.drew.heap.size A2 b.args) := (H2.out.on hb1).drewN 1
  go_region_held3 (fun w' => w'.cell? ⟨w.heap.size, 0, none⟩ = some (.int .i64 a.fn) ∧ w'.cell? ⟨w.heap.size, 1, none⟩ = some (.slice A1 a.args.length c1) ∧ w'.cell? ⟨w.heap.size + 1, 0, none⟩ = some (.int .i64 b.fn) ∧ w'.cell? ⟨w.heap.size + 1, 1, none⟩ = some (.slice A2 b.args.length c2))
    (first | exact ⟨x0, x1, y0, y1⟩ | exact hS _ hB14 | exact hS _ hB13 | exact hS _ hB12 | exact hS _ hB11 | exact hS _ hB10 | exact hS _ hB9 | exact hS _ hB8 | exact hS _ hB7 | exact hS _ hB6 | exact hS _ hB5 | exact hS _ hB4 | exact hS _ hB3 | exact hS _ hB2 | fail)
    (first
      | (go_at_call 15; (with_reducible refine (termSame_any a b A1 A2 c1 c2 w1.drew ha hb HD1.out HD2.out).mono ?_); go_must (rintro e w2 ⟨rfl, hb2⟩; have hB2 : Below W.heap.size W w2 := bl_step hb1 ⟨hb2.os, hb2.tape, hb2.output, hb2.size, hb2.block⟩))
      | (go_at_call 16; (with_reducible refine (ref2Same_any' a b A1 A2 c1 c2 w2 ha hb (H1.out.on hB2) (H2.out.on hB2)).mono ?_); go_must (rintro e w3 ⟨rfl, hb3⟩; have hB3 := bl_step hB2 hb3))
      | (go_at_call 17; (with_reducible refine (Compare_at a b A1 A2 c1 c2 w3 ha hb (H1.out.on hB3) (H2.out.on hB3)).mono ?_); go_must (rintro e w4 ⟨rfl, hb4⟩; have hB4 := bl_step hB3 hb4))
      | (go_at_call 18; (with_reducible refine (ref2Cmp_at a b A1 A2 c1 c2 w4 ha hb (H1.out.on hB4) (H2.out.on hB4)).mono ?_); go_must (rintro e w5 ⟨rfl, hb5⟩; have hB5 := bl_step hB4 hb5))
      | (go_at_call 19; (with_reducible refine (Size_any a A1 c1 w5 ha (H1.out.on hB5) hda (by omega)).mono ?_); go_must (rintro e w6 ⟨rfl, hb6⟩; have hB6 := bl_step hB5 hb6))
      | (go_at_call 20; (with_reducible refine (ref2Size_at a A1 c1 w6 (by omega) ha (H1.out.on hB6)).mono ?_); go_must (rintro e w7 ⟨rfl, hb7⟩; have hB7 := bl_step hB6 hb7))
      | (go_at_call 21; (with_reducible refine (termDepth_any a A1 c1 w7 ha (H1.out.on hB7) hda).mono ?_); go_must (rintro e w8 ⟨rfl, hb8⟩; have hB8 := bl_step hB7 hb8))
      | (go_at_call 22; (with_reducible refine (ref2Depth_at a A1 c1 w8 (by omega) ha (H1.out.on hB8)).mono ?_); go_must (rintro e w9 ⟨rfl, hb9⟩; have hB9 := bl_step hB8 hb9))
      | (go_at_call 23; (with_reducible refine (termGround_at a A1 c1 w9 ha (H1.out.on hB9) hda L HL.out).mono ?_); go_must (rintro e w10 ⟨rfl, hb10⟩; have hB10 := bl_step hB9 hb10))
      | (go_at_call 24; (with_reducible refine (ref2Vars_at a A1 c1 w10 ha hsz (H1.out.on hB10) L HL.out).mono ?_); go_must (rintro e w11 ⟨A11, c11, rfl, _, hb11⟩; have hB11 := bl_step hB10 hb11))
      | (go_at_call 24; (with_reducible refine (ref2Vars_at a A1 c1 w11 ha hsz (H1.out.on hB11) L HL.out).mono ?_); go_must (rintro e w12 ⟨A12, c12, rfl, hI12, hb12⟩; have hB12 := bl_step hB11 hb12; have HI12 := Lib.hid hI12; clear hI12))
      | (go_at_call 25; (with_reducible refine (numbers_same L Av A12 cv c12 w12 (HIv.out.on (meas_chain hb2 hb3 hb4 hb5 hb6 hb7 hb8 hb9 hb10 hb11 hb12)) HI12.out).mono ?_); go_must (rintro e w13 ⟨rfl, hb13⟩; have hB13 := bl_step hB12 hb13))
      | (go_at_call 13; refine (wakes_any w13 (tru_below HT.out hB13)).mono ?_; rintro e w14 ⟨rfl, hb14⟩; have hB14 := bl_step hB13 hb14)
      | fail)
  go_wp2
  go_ret
  exact ⟨rfl, hB.trans (hB14.mono hB.size)⟩
end Go.Proofs.YtkgikjjngbifjaaDoor
