/- finder, at rows that rise; halve. -/
import Derived.Test.YtfkefogmpmcfeaaU6
import Derived.Deep.RegionHeld3
namespace Go.Proofs.Ytfkefogmpmcfeaa
open Go.RowKit Go.Shelf
set_option maxRecDepth 100000

/-- Variables do not fall. -/
def Rise (l : List Bd) : Prop := ∀ (i j : Nat) (x y : Bd), i ≤ j → l[i]? = some x → l[j]? = some y → x.v ≤ y.v

set_option maxHeartbeats 1000000 in
theorem isSorted_yes (l : List Bd) (A : Option Addr) (c : Nat) (w : World) (hl : l.length ≤ 9223372036854775806) (hA : Binds w (· < w.heap.size) A l) (hr : Rise l) :
    Calls Try.prog 95 #[.slice A l.length c, .func (.func 68) #[] #[]] w fun e w' => e = .returned (.bool true) ∧ Below w.heap.size w w' := by
  have HA := Lib.hid hA
  have HR := Lib.hid hr
  clear hA hr
  go_enter Try.func95, Try.ntmps95
  go_wp2
  go_loopw [5] (fun i wr => ∃ k : Nat, k ≤ l.length ∧ i = .int .i64 ((k : Int) - 1) ∧ Below w.heap.size w wr) (fun i _ => (intOf i).toNat)
  case atStart => exact ⟨l.length, Nat.le_refl _, rfl, Below.refl _ _⟩
  case round =>
    obtain ⟨k, hk, rfl, hBr⟩ := hrel
    by_cases hlt : 2 ≤ k
    · obtain ⟨m, rfl⟩ : ∃ m, k = m + 2 := ⟨k - 2, by omega⟩
      obtain ⟨x, hx⟩ : ∃ x, l[m + 1]? = some x := ⟨_, List.getElem?_eq_getElem (by omega)⟩
      obtain ⟨y, hy⟩ : ∃ y, l[m]? = some y := ⟨_, List.getElem?_eq_getElem (by omega)⟩
      obtain ⟨b, off, A', c', rfl, h⟩ := HA.out.get hx
      obtain ⟨b2, off2, A2, c2, e, h2⟩ := HA.out.get hy
      injection e with e
      injection e with e1 e2 _
      subst e1; subst e2
      have hle := HR.out m (m + 1) y x (by omega) hy hx
      have hnum : ¬ numI x.v y.v < 0 := by unfold numI; split <;> (try split) <;> omega
      have hnum := Lib.hid hnum
      have hki : ((m + 2 : Nat) : Int) - 1 = (m : Int) + 1 := by omega
      rw [hki]
      have hSS : ∀ w', Below wr.heap.size wr w' → w'.cell? ⟨b, off + (m + 1) * 3, none⟩ = some (.int .i64 x.v) ∧ w'.cell? ⟨b, off + (m + 1) * 3 + 1, none⟩ = some (.int .i64 x.t.fn) ∧ w'.cell? ⟨b, off + (m + 1) * 3 + 2, none⟩ = some (.slice A' x.t.args.length c') ∧ w'.cell? ⟨b, off + m * 3, none⟩ = some (.int .i64 y.v) ∧ w'.cell? ⟨b, off + m * 3 + 1, none⟩ = some (.int .i64 y.t.fn) ∧ w'.cell? ⟨b, off + m * 3 + 2, none⟩ = some (.slice A2 y.t.args.length c2) := fun w' hb =>
        have hB := hBr.trans (hb.mono hBr.size)
        ⟨cell_on hB h.hb h.c0, cell_on hB h.hb h.c1, cell_on hB h.hb h.c2, cell_on hB h.hb h2.c0, cell_on hB h.hb h2.c1, cell_on hB h.hb h2.c2⟩
      obtain ⟨d0, d1, d2, d3, d4, d5⟩ := hSS wr (Below.refl _ _)
      have hm1 : m + 1 < l.length := by omega
      have hm0 : m < l.length := by omega
      have f1 : (0 : Int) ≤ (m : Int) + 1 := by omega
      have f2 : (m : Int) + 1 < (l.length : Int) := by omega
      have f3 : ((m : Int) + 1).toNat = m + 1 := by omega
      have f4 : (m : Int) < (l.length : Int) := by omega
      have f5 : (m : Int) + 1 ≤ 9223372036854775807 := by omega
      have f6 : (m : Int) + 1 > 0 := by omega
      have f7 : IntKind.i64.wrap (m : Int) = (m : Int) := by rw [IntKind.wrap_i64]; omega
      clear hx hy h h2
      go_wp2
      go_region_held3 (fun w' => w'.cell? ⟨b, off + (m + 1) * 3, none⟩ = some (.int .i64 x.v) ∧ w'.cell? ⟨b, off + (m + 1) * 3 + 1, none⟩ = some (.int .i64 x.t.fn) ∧ w'.cell? ⟨b, off + (m + 1) * 3 + 2, none⟩ = some (.slice A' x.t.args.length c') ∧ w'.cell? ⟨b, off + m * 3, none⟩ = some (.int .i64 y.v) ∧ w'.cell? ⟨b, off + m * 3 + 1, none⟩ = some (.int .i64 y.t.fn) ∧ w'.cell? ⟨b, off + m * 3 + 2, none⟩ = some (.slice A2 y.t.args.length c2))
        (first | exact ⟨d0, d1, d2, d3, d4, d5⟩ | exact hSS _ hB1 | fail)
        (first
          | (go_at_call 68; refine (byVariable_any x y A' A2 c' c2 wr.drew).mono ?_; go_must (rintro e w1 ⟨rfl, hb1⟩; have hB1 : Below wr.heap.size wr w1 := ⟨hb1.os, hb1.tape, hb1.output, hb1.size, hb1.block⟩))
          | fail)
      have hnum := hnum.out
      clear f1 f2 f3 f4 f5 f6 f7 hki hm0 hm1 hle hSS d0 d1 d2 d3 d4 d5
      go_wp2
      go_roundw
      case rel => exact ⟨m + 1, by omega, by go_num, hBr.trans (hB1.mono hBr.size)⟩
      case measure => simp [intOf]
    · have hk2 : ¬ ((k : Int) - 1 > 0) := by omega
      go_wp2
      go_ret
      exact ⟨rfl, hBr⟩

set_option maxHeartbeats 1000000 in
theorem finder_any (l : List Bd) (A : Option Addr) (c : Nat) (w : World) (hl : l.length ≤ 9223372036854775806) (hA : Binds w (· < w.heap.size) A l) (hr : Rise l) :
    Calls Try.prog 53 #[.slice A l.length c] w fun e w' => e = .returned (.func (.func 98) #[] #[.pointer (some ⟨w.heap.size, 0, none⟩)]) ∧ Boxed w' w.heap.size 23 (.slice A l.length c) ∧ Below w.heap.size w w' := by
  obtain ⟨W, hW⟩ : ∃ W, w.alloc (.cells #[.slice A l.length c] 23) = W := ⟨_, rfl⟩
  have hB : Below w.heap.size w W := by rw [← hW]; exact (Below.refl _ _).alloc (Nat.le_refl _) _
  have q0 : Boxed W w.heap.size 23 (.slice A l.length c) := by rw [← hW]; exact heap_alloc_new _ _
  have hc := Boxed.cell q0
  have H := Lib.hid (isSorted_yes l A c W hl ((hA.keep fun g e => hB.block g e).wide fun g e => Nat.lt_of_lt_of_le e hB.size) hr)
  have HW := Lib.hid hW
  clear hW hA hr
  go_enter Try.func53, Try.ntmps53
  go_upto_region 1 with fail
  rw [HW.out]
  go_wp2_with (first
    | (go_at_call 95; refine H.out.mono ?_; go_must (rintro e w1 ⟨rfl, hb1⟩))
    | fail)
  go_ret
  exact ⟨rfl, (hb1.block _ q0.lt).trans q0, hB.trans (hb1.mono hB.size)⟩

theorem finder11_any (x : Bd) (A : Option Addr) (c : Nat) (v : Int) (bx : Nat) (w : World) (hbx : Boxed w bx 3 (.int .i64 v)) :
    Calls Try.prog 100 #[.agg #[.int .i64 x.v, .int .i64 x.t.fn, .slice A x.t.args.length c], .pointer (some ⟨bx, 0, none⟩)] w fun e w' => e = .returned (.int .i64 (numI x.v v)) ∧ Below w.heap.size w w' := by
  obtain ⟨W, hW⟩ : ∃ W, w.alloc (.cells #[.int .i64 x.v, .int .i64 x.t.fn, .slice A x.t.args.length c] 81) = W := ⟨_, rfl⟩
  have hB : Below w.heap.size w W := by rw [← hW]; exact (Below.refl _ _).alloc (Nat.le_refl _) _
  have q0 : W.heap[w.heap.size]? = some (.cells #[.int .i64 x.v, .int .i64 x.t.fn, .slice A x.t.args.length c] 81) := by rw [← hW]; exact heap_alloc_new _ _
  obtain ⟨c0, _, _, _, _, _⟩ := cells_three q0
  have hcb := Boxed.cell (show Boxed W bx _ _ from (hB.block _ hbx.lt).trans hbx)
  have HW := Lib.hid hW
  clear hW
  go_enter Try.func100, Try.ntmps100
  go_upto_region 1 with fail
  rw [HW.out]
  go_wp2_with (first
    | (go_at_call 101; refine (cmpNum_any x.v v W).mono ?_; go_must (rintro e w1 ⟨rfl, hb1⟩))
    | fail)
  go_ret
  exact ⟨rfl, hB.trans (hb1.mono hB.size)⟩
end Go.Proofs.Ytfkefogmpmcfeaa
