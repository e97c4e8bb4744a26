/- The document's own answers: itself, Check, Same of substitutions. -/
import Derived.Test.YtdeegdndfblnkaaU15
import Derived.Test.YtdeegdndfblnkaaM1
namespace Go.Proofs.Ytdeegdndfblnkaa
open Go.RowKit Go.Shelf
set_option maxRecDepth 100000

theorem refItself_any (t : Tm) (v : Int) (A : Option Addr) (c : Nat) (w : World) (hv : I64 v) :
    Calls Try.prog 51 #[.agg #[.int .i64 t.fn, .slice A t.args.length c], .int .i64 v] w fun e w' => e = .returned (.bool (decide (selfB ⟨v, t⟩))) ∧ Below w.heap.size w w' := by
  have hWB : Below w.heap.size w (w.alloc (.cells #[.int .i64 t.fn, .slice A t.args.length c] 31)) := (Below.refl _ _).alloc (Nat.le_refl _) _
  have hlo := hv.1
  have hhi := hv.2
  by_cases h1 : t.fn = -1 - v
  · go_enter Try.func51, Try.ntmps51
    go_wp2
    go_ret
    exact ⟨ret_bool (by rw [Bool.eq_iff_iff, beq_iff_eq, decide_eq_true_iff]; unfold selfB; exact ⟨fun h => ⟨h1, by show t.args.length = 0; omega⟩, fun h => by have h2 : t.args.length = 0 := h.2; omega⟩), by rwa [h1] at hWB⟩
  · go_enter Try.func51, Try.ntmps51
    go_wp2
    go_ret
    exact ⟨ret_bool (by unfold selfB; simp [h1]), hWB⟩
theorem refItself_bd (x : Bd) (A : Option Addr) (c : Nat) (w : World) (hv : I64 x.v) :
    Calls Try.prog 51 #[.agg #[.int .i64 x.t.fn, .slice A x.t.args.length c], .int .i64 x.v] w fun e w' => e = .returned (.bool (decide (selfB x))) ∧ Below w.heap.size w w' :=
  refItself_any x.t x.v A c w hv

set_option maxHeartbeats 2000000 in
theorem refCheck_any (l : List Bd) (A : Option Addr) (c : Nat) (w : World) (hl : l.length ≤ 9223372036854775806) (hA : Binds w (· < w.heap.size) A l) :
    Calls Try.prog 17 #[.slice A l.length c] w fun e w' => e = .returned (.int .i64 (chkN l)) ∧ Below w.heap.size w w' := by
  have HA := Lib.hid hA
  have HI0 := Lib.hid (ChkI.start l)
  clear hA
  go_enter Try.func17, Try.ntmps17
  go_wp2
  go_loopw [3] (fun i wr => ∃ (k : Nat) (lo : Int), k ≤ l.length ∧ i = .int .i64 (k : Int) ∧ Below w.heap.size w wr ∧ Hid (ChkI l k lo)) (fun i _ => l.length - (intOf i).toNat)
  case atStart => exact ⟨0, _, Nat.zero_le _, rfl, Below.refl _ _, HI0⟩
  case round =>
    obtain ⟨k, lo, hk, rfl, hBr, H⟩ := hrel
    by_cases hlt : k < l.length
    · obtain ⟨x, hx⟩ : ∃ x, l[k]? = some x := ⟨_, List.getElem?_eq_getElem hlt⟩
      obtain ⟨b, off, A', c', rfl, h⟩ := HA.out.get hx
      have e0 := cell_on hBr h.hb h.c0
      have e1 := cell_on hBr h.hb h.c1
      have e2 := cell_on hBr h.hb h.c2
      have hiv := h.iv
      have hbw : b < w.heap.size := h.hb
      have Hx := Lib.hid hx
      clear hx
      have hge := H.out.ge
      have hkl : (k : Int) < (l.length : Int) := by omega
      go_upto_region 4 with fail
      have r0 : ∀ x' : Later wr.heap.size wr, x'.w.cell? ⟨b, off + k * 3, none⟩ = some (.int .i64 x.v) := fun x' => cell_on (hBr.trans (x'.h.mono hBr.size)) h.hb h.c0
      have r1 : ∀ x' : Later wr.heap.size wr, x'.w.cell? ⟨b, off + k * 3 + 1, none⟩ = some (.int .i64 x.t.fn) := fun x' => cell_on (hBr.trans (x'.h.mono hBr.size)) h.hb h.c1
      have r2 : ∀ x' : Later wr.heap.size wr, x'.w.cell? ⟨b, off + k * 3 + 2, none⟩ = some (.slice A' x.t.args.length c') := fun x' => cell_on (hBr.trans (x'.h.mono hBr.size)) h.hb h.c2
      by_cases hneg : x.v < 0
      · have hres := Lib.hid (chkN_no (H.out.low Hx.out (by omega)))
        refine wp_region_later wr.heap.size wr (by kernel_rfl) (by kernel_rfl) (bl_drewN (Below.refl _ _) 1) ?_
        repeat (go_big_quiet_step (fail))
        refine wpQuiet_nil ?_
        rintro _ ⟨y, rfl⟩
        have hBz := hBr.trans (y.h.mono hBr.size)
        go_wp2
        go_ret
        exact ⟨ret_int hres.out.symm, hBz⟩
      · have hneg' : decide (x.v < 0) = false := decide_eq_false hneg
        rcases k with _ | m
        · have hlo := H.out.first rfl
          subst hlo
          have hk0 : decide (((0 : Nat) : Int) > 0) = false := by decide
          by_cases hs : selfB x
          · have hres := Lib.hid (chkN_no (H.out.self Hx.out hs))
            have hs' := decide_eq_true hs
            simp only [Nat.zero_mul, Nat.add_zero] at *
            refine wp_region_later wr.heap.size wr (by kernel_rfl) (by kernel_rfl) (bl_drewN (Below.refl _ _) 1) ?_
            repeat (go_big_quiet_step (first | (go_at_call 51; exact calls_later _ (Nat.le_refl _) (refItself_bd x A' c' _ hiv)) | fail))
            refine wpQuiet_nil ?_
            rintro _ ⟨y, rfl⟩
            have hBz := hBr.trans (y.h.mono hBr.size)
            go_wp2
            go_ret
            exact ⟨ret_int hres.out.symm, hBz⟩
          · have hnext := Lib.hid (H.out.next Hx.out (by omega) hs)
            have hs' := decide_eq_false hs
            simp only [Nat.zero_mul, Nat.add_zero] at *
            refine wp_region_later wr.heap.size wr (by kernel_rfl) (by kernel_rfl) (bl_drewN (Below.refl _ _) 1) ?_
            repeat (go_big_quiet_step (first | (go_at_call 51; exact calls_later _ (Nat.le_refl _) (refItself_bd x A' c' _ hiv)) | fail))
            refine wpQuiet_nil ?_
            rintro _ ⟨y, rfl⟩
            have hBz := hBr.trans (y.h.mono hBr.size)
            go_wp2
            go_roundw
            case rel => exact ⟨_, x.v, hlt, by go_num, hBz, hnext⟩
            case measure => simp [intOf]; omega
        · obtain ⟨y0, hy⟩ : ∃ y, l[m]? = some y := ⟨_, List.getElem?_eq_getElem (by omega)⟩
          obtain ⟨bb, off2, A2, c2, e, h2⟩ := HA.out.get hy
          injection e with e
          injection e with e1 e2 _
          subst e1; subst e2
          have hlo := H.out.last m y0 rfl hy
          have s0 : ∀ x' : Later wr.heap.size wr, x'.w.cell? ⟨b, off + m * 3, none⟩ = some (.int .i64 y0.v) := fun x' => cell_on (hBr.trans (x'.h.mono hBr.size)) h2.hb h2.c0
          have f0 : IntKind.i64.wrap (((m + 1 : Nat) : Int) - 1) = (m : Int) := by rw [IntKind.wrap_i64]; omega
          have f1 : decide (((m + 1 : Nat) : Int) > 0) = true := decide_eq_true (by omega)
          have f2 : (m : Int) < (l.length : Int) := by omega
          have f4 : (0 : Int) ≤ (m : Int) := by omega
          have f3 : (m : Int).toNat = m := by omega
          clear hy h2
          by_cases hle : x.v ≤ y0.v
          · have hres := Lib.hid (chkN_no (H.out.low Hx.out (by omega)))
            have hle' := decide_eq_true hle
            clear hlo
            refine wp_region_later wr.heap.size wr (by kernel_rfl) (by kernel_rfl) (bl_drewN (Below.refl _ _) 1) ?_
            repeat (go_big_quiet_step (first | (go_at_call 51; exact calls_later _ (Nat.le_refl _) (refItself_bd x A' c' _ hiv)) | fail))
            refine wpQuiet_nil ?_
            rintro _ ⟨y, rfl⟩
            have hBz := hBr.trans (y.h.mono hBr.size)
            go_wp2
            go_ret
            exact ⟨ret_int hres.out.symm, hBz⟩
          · have hle' := decide_eq_false hle
            have hlt2 : lo < x.v := by omega
            clear hlo
            by_cases hs : selfB x
            · have hres := Lib.hid (chkN_no (H.out.self Hx.out hs))
              have hs' := decide_eq_true hs
              refine wp_region_later wr.heap.size wr (by kernel_rfl) (by kernel_rfl) (bl_drewN (Below.refl _ _) 1) ?_
              repeat (go_big_quiet_step (first | (go_at_call 51; exact calls_later _ (Nat.le_refl _) (refItself_bd x A' c' _ hiv)) | fail))
              refine wpQuiet_nil ?_
              rintro _ ⟨y, rfl⟩
              have hBz := hBr.trans (y.h.mono hBr.size)
              go_wp2
              go_ret
              exact ⟨ret_int hres.out.symm, hBz⟩
            · have hnext := Lib.hid (H.out.next Hx.out hlt2 hs)
              have hs' := decide_eq_false hs
              refine wp_region_later wr.heap.size wr (by kernel_rfl) (by kernel_rfl) (bl_drewN (Below.refl _ _) 1) ?_
              repeat (go_big_quiet_step (first | (go_at_call 51; exact calls_later _ (Nat.le_refl _) (refItself_bd x A' c' _ hiv)) | fail))
              refine wpQuiet_nil ?_
              rintro _ ⟨y, rfl⟩
              have hBz := hBr.trans (y.h.mono hBr.size)
              go_wp2
              go_roundw
              case rel => exact ⟨_, x.v, hlt, by go_num, hBz, hnext⟩
              case measure => simp [intOf]; omega
    · obtain rfl : k = l.length := by omega
      have hd := Lib.hid (chkN_yes (H.out.done (Nat.le_refl _)))
      go_wp2
      go_ret
      exact ⟨ret_int hd.out.symm, hBr⟩
end Go.Proofs.Ytdeegdndfblnkaa
