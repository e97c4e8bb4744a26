/- Check. -/
import Derived.Test.YtdeegdndfblnkaaUFA
import Derived.Test.YtdeegdndfblnkaaQ2
namespace Go.Proofs.Ytdeegdndfblnkaa
open Go.RowKit Go.Shelf
set_option maxRecDepth 100000

/-- Variables rise. -/
def RiseS (l : List Bd) : Prop := ∀ (i j : Nat) (x y : Bd), i < j → l[i]? = some x → l[j]? = some y → x.v < y.v
theorem RiseS.rise {l : List Bd} (h : RiseS l) : Rise l := fun i j x y hij hx hy => by
  rcases Nat.lt_or_ge i j with h1 | h1
  · exact Int.le_of_lt (h i j x y h1 hx hy)
  · obtain rfl : i = j := by omega
    rw [hx] at hy
    injection hy with hy
    rw [hy]
    exact Int.le_refl _

/-- Does it rise from lo on, and is no variable bound to itself? -/
def chkFrom (lo : Int) : List Bd → Bool
  | [] => true
  | x :: xs => decide (lo < x.v) && (!decide (selfB x) && chkFrom x.v xs)
def chkB (l : List Bd) : Bool := chkFrom (-1) l
/-- What Check tells. -/
def chkN (l : List Bd) : Int := if chkB l = true then 0 else 2
theorem chkN_yes {l : List Bd} (h : chkB l = true) : chkN l = 0 := by unfold chkN; rw [if_pos h]
theorem chkN_no {l : List Bd} (h : chkB l = false) : chkN l = 2 := by unfold chkN; rw [h]; rfl

/-- How far Check has come: lo is the last variable. -/
structure ChkI (l : List Bd) (k : Nat) (lo : Int) : Prop where
  ge : -1 ≤ lo
  first : k = 0 → lo = -1
  last : ∀ (m : Nat) (y : Bd), k = m + 1 → l[m]? = some y → y.v = lo
  rest : chkFrom lo (l.drop k) = chkB l
theorem ChkI.start (l : List Bd) : ChkI l 0 (-1) := ⟨Int.le_refl _, fun _ => rfl, fun m y h => by omega, rfl⟩
section
variable {l : List Bd} {k : Nat} {lo : Int} {x : Bd}
theorem ChkI.cons (h : ChkI l k lo) (hx : l[k]? = some x) : chkB l = (decide (lo < x.v) && (!decide (selfB x) && chkFrom x.v (l.drop (k + 1)))) := by
  obtain ⟨hlt, hx'⟩ := List.getElem?_eq_some_iff.1 hx
  rw [← h.rest, List.drop_eq_getElem_cons hlt, hx']
  rfl
theorem ChkI.low (h : ChkI l k lo) (hx : l[k]? = some x) (hn : ¬ lo < x.v) : chkB l = false := by
  rw [h.cons hx, decide_eq_false hn]
  rfl
theorem ChkI.self (h : ChkI l k lo) (hx : l[k]? = some x) (hn : selfB x) : chkB l = false := by
  rw [h.cons hx, decide_eq_true hn]
  simp
theorem ChkI.next (h : ChkI l k lo) (hx : l[k]? = some x) (h1 : lo < x.v) (hn : ¬ selfB x) : ChkI l (k + 1) x.v :=
  ⟨by have := h.ge; omega, fun e => by omega, fun m y e hy => by obtain rfl : m = k := by omega
                                                                 rw [hx] at hy; injection hy with hy; rw [hy], by rw [h.cons hx, decide_eq_true h1, decide_eq_false hn]; rfl⟩
theorem ChkI.done (h : ChkI l k lo) (hk : l.length ≤ k) : chkB l = true := by
  rw [← h.rest, List.drop_eq_nil_of_le hk]
  rfl
end

set_option maxHeartbeats 2000000 in
theorem subCheck_any (l : List Bd) (A : Option Addr) (c : Nat) (w : World) (hl : l.length ≤ 9223372036854775806) (hA : Binds w (· < w.heap.size) A l) :
    Calls Try.prog 16 #[.slice A l.length c] w fun e w' => e = .returned (.int .i64 (chkN l)) ∧ Below w.heap.size w w' := by
  have HA := Lib.hid hA
  have HI0 := Lib.hid (ChkI.start l)
  clear hA
  go_enter Try.func16, Try.ntmps16
  go_wp2
  go_loopw [7] (fun i wr => ∃ (k : Nat) (lo : Int), k ≤ l.length ∧ i = .int .i64 (k : Int) ∧ Below w.heap.size w wr ∧ Hid (ChkI l k lo)) (fun i _ => l.length - (intOf i).toNat)
  case atStart => exact ⟨0, _, Nat.zero_le _, rfl, Below.refl _ _, HI0⟩
  case round =>
    obtain ⟨k, lo, hk, rfl, hBr, H⟩ := hrel
    by_cases hlt : k < l.length
    · obtain ⟨x, hx⟩ : ∃ x, l[k]? = some x := ⟨_, List.getElem?_eq_getElem hlt⟩
      obtain ⟨b, off, A', c', rfl, h⟩ := HA.out.get hx
      have e0 := cell_on hBr h.hb h.c0
      have e1 := cell_on hBr h.hb h.c1
      have e2 := cell_on hBr h.hb h.c2
      have hiv := h.iv
      have hbw : b < w.heap.size := h.hb
      have Hx := Lib.hid hx
      have qb := heap_alloc_new wr (.cells #[.int .i64 x.v, .int .i64 x.t.fn, .slice A' x.t.args.length c'] 77)
      obtain ⟨W, hW⟩ : ∃ W, wr.alloc (.cells #[.int .i64 x.v, .int .i64 x.t.fn, .slice A' x.t.args.length c'] 77) = W := ⟨_, rfl⟩
      have hBx : Below wr.heap.size wr W := by rw [← hW]; exact (Below.refl _ _).alloc (Nat.le_refl _) _
      rw [hW] at qb
      have hWs : wr.heap.size < W.heap.size := (Array.getElem?_eq_some_iff.1 qb).1
      obtain ⟨b0, b1, b2, _, _, _⟩ := cells_three qb
      have HW := Lib.hid hW
      have hBW := hBr.trans (hBx.mono hBr.size)
      clear hW hx h
      have hge := H.out.ge
      go_upto_region 4 with fail
      rw [HW.out]
      clear e0 e1 e2
      have r0 : ∀ x' : Later W.heap.size W, x'.w.cell? ⟨wr.heap.size, 0, none⟩ = some (.int .i64 x.v) := fun x' => cell_on x'.h hWs b0
      have r1 : ∀ x' : Later W.heap.size W, x'.w.cell? ⟨wr.heap.size, 1, none⟩ = some (.int .i64 x.t.fn) := fun x' => cell_on x'.h hWs b1
      have r2 : ∀ x' : Later W.heap.size W, x'.w.cell? ⟨wr.heap.size, 2, none⟩ = some (.slice A' x.t.args.length c') := fun x' => cell_on x'.h hWs b2
      by_cases hneg : x.v < 0
      · have hres := Lib.hid (chkN_no (H.out.low Hx.out (by omega)))
        refine wp_region_later W.heap.size W (by kernel_rfl) (by kernel_rfl) (bl_drewN (Below.refl _ _) 1) ?_
        repeat (go_big_quiet_step (fail))
        refine wpQuiet_nil ?_
        rintro _ ⟨y, rfl⟩
        have hBz := hBW.trans (y.h.mono hBW.size)
        go_wp2
        go_ret
        exact ⟨ret_int hres.out.symm, hBz⟩
      · have hneg' : decide (x.v < 0) = false := decide_eq_false hneg
        rcases k with _ | m
        · have hlo := H.out.first rfl
          subst hlo
          have hk0 : decide (((0 : Nat) : Int) > 0) = false := by decide
          by_cases hs : selfB x
          · have hres := Lib.hid (chkN_no (H.out.self Hx.out hs))
            have hs' := decide_eq_true hs
            simp only [Nat.zero_mul, Nat.add_zero] at *
            refine wp_region_later W.heap.size W (by kernel_rfl) (by kernel_rfl) (bl_drewN (Below.refl _ _) 1) ?_
            repeat (go_big_quiet_step (first | (go_at_call 50; exact calls_later _ (Nat.le_refl _) (itself_any x A' c' _ hiv)) | fail))
            refine wpQuiet_nil ?_
            rintro _ ⟨y, rfl⟩
            have hBz := hBW.trans (y.h.mono hBW.size)
            go_wp2
            go_ret
            exact ⟨ret_int hres.out.symm, hBz⟩
          · have hnext := Lib.hid (H.out.next Hx.out (by omega) hs)
            have hs' := decide_eq_false hs
            simp only [Nat.zero_mul, Nat.add_zero] at *
            refine wp_region_later W.heap.size W (by kernel_rfl) (by kernel_rfl) (bl_drewN (Below.refl _ _) 1) ?_
            repeat (go_big_quiet_step (first | (go_at_call 50; exact calls_later _ (Nat.le_refl _) (itself_any x A' c' _ hiv)) | fail))
            refine wpQuiet_nil ?_
            rintro _ ⟨y, rfl⟩
            have hBz := hBW.trans (y.h.mono hBW.size)
            go_wp2
            go_roundw
            case rel => exact ⟨_, x.v, hlt, by go_num, hBz, hnext⟩
            case measure => simp [intOf]; omega
        · obtain ⟨y0, hy⟩ : ∃ y, l[m]? = some y := ⟨_, List.getElem?_eq_getElem (by omega)⟩
          obtain ⟨bb, off2, A2, c2, e, h2⟩ := HA.out.get hy
          injection e with e
          injection e with e1 e2 _
          subst e1; subst e2
          have hlo := H.out.last m y0 rfl hy
          have s0 : ∀ x' : Later W.heap.size W, x'.w.cell? ⟨b, off + m * 3, none⟩ = some (.int .i64 y0.v) := fun x' => cell_on (hBW.trans (x'.h.mono hBW.size)) h2.hb h2.c0
          have f0 : IntKind.i64.wrap (((m + 1 : Nat) : Int) - 1) = (m : Int) := by rw [IntKind.wrap_i64]; omega
          have f1 : decide (((m + 1 : Nat) : Int) > 0) = true := decide_eq_true (by omega)
          have f2 : (m : Int) < (l.length : Int) := by omega
          have f4 : (0 : Int) ≤ (m : Int) := by omega
          have f3 : (m : Int).toNat = m := by omega
          clear hy h2
          by_cases hle : x.v ≤ y0.v
          · have hres := Lib.hid (chkN_no (H.out.low Hx.out (by omega)))
            have hle' := decide_eq_true hle
            clear hlo
            refine wp_region_later W.heap.size W (by kernel_rfl) (by kernel_rfl) (bl_drewN (Below.refl _ _) 1) ?_
            repeat (go_big_quiet_step (first | (go_at_call 50; exact calls_later _ (Nat.le_refl _) (itself_any x A' c' _ hiv)) | fail))
            refine wpQuiet_nil ?_
            rintro _ ⟨y, rfl⟩
            have hBz := hBW.trans (y.h.mono hBW.size)
            go_wp2
            go_ret
            exact ⟨ret_int hres.out.symm, hBz⟩
          · have hle' := decide_eq_false hle
            have hlt2 : lo < x.v := by omega
            clear hlo
            by_cases hs : selfB x
            · have hres := Lib.hid (chkN_no (H.out.self Hx.out hs))
              have hs' := decide_eq_true hs
              refine wp_region_later W.heap.size W (by kernel_rfl) (by kernel_rfl) (bl_drewN (Below.refl _ _) 1) ?_
              repeat (go_big_quiet_step (first | (go_at_call 50; exact calls_later _ (Nat.le_refl _) (itself_any x A' c' _ hiv)) | fail))
              refine wpQuiet_nil ?_
              rintro _ ⟨y, rfl⟩
              have hBz := hBW.trans (y.h.mono hBW.size)
              go_wp2
              go_ret
              exact ⟨ret_int hres.out.symm, hBz⟩
            · have hnext := Lib.hid (H.out.next Hx.out hlt2 hs)
              have hs' := decide_eq_false hs
              refine wp_region_later W.heap.size W (by kernel_rfl) (by kernel_rfl) (bl_drewN (Below.refl _ _) 1) ?_
              repeat (go_big_quiet_step (first | (go_at_call 50; exact calls_later _ (Nat.le_refl _) (itself_any x A' c' _ hiv)) | fail))
              refine wpQuiet_nil ?_
              rintro _ ⟨y, rfl⟩
              have hBz := hBW.trans (y.h.mono hBW.size)
              go_wp2
              go_roundw
              case rel => exact ⟨_, x.v, hlt, by go_num, hBz, hnext⟩
              case measure => simp [intOf]; omega
    · obtain rfl : k = l.length := by omega
      have hd := Lib.hid (chkN_yes (H.out.done (Nat.le_refl _)))
      go_wp2
      go_ret
      exact ⟨ret_int hd.out.symm, hBr⟩
end Go.Proofs.Ytdeegdndfblnkaa
