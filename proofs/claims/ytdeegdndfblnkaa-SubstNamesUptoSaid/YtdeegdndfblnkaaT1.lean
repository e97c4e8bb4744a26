/- Compare, Same: the order of terms as such. -/
import Derived.Test.YtdeegdndfblnkaaT0
import Derived.Test.YtdeegdndfblnkaaWA
import Derived.Deep.RegionHeld3
namespace Go.Proofs.Ytdeegdndfblnkaa
open Go.RowKit
set_option maxRecDepth 100000

abbrev tmV (t : Tm) (A : Option Addr) (c : Nat) : Value := .agg #[.int .i64 t.fn, .slice A t.args.length c]

theorem variable_any (f : Int) (v : Value) (w : World) (hf : I64 f) (hlt : f < 0) :
    Calls Try.prog 151 #[.agg #[.int .i64 f, v]] w fun e w' => e = .returned (.int .i64 (-1 - f)) ∧ Below w.heap.size w w' := by
  have h1 := hf.1
  have h2 := hf.2
  go_enter Try.func151, Try.ntmps151
  go_wp2
  go_ret
  exact ⟨rfl, (Below.refl _ _).alloc (Nat.le_refl _) _⟩

theorem numI_lt {a b : Int} (h : a < b) : numI a b = -1 := by simp [numI, h]
theorem numI_gt {a b : Int} (h : b < a) : numI a b = 1 := by simp [numI, h]; omega
theorem numI_eq {a b : Int} (h1 : b ≤ a) (h2 : a ≤ b) : numI a b = 0 := by
  have : a = b := by omega
  subst this
  simp [numI]
theorem cmpNum_any (a b : Int) (w : World) :
    Calls Try.prog 94 #[.int .i64 a, .int .i64 b] w fun e w' => e = .returned (.int .i64 (numI a b)) ∧ Below w.heap.size w w' := by
  go_enter Try.func94, Try.ntmps94
  go_wp2
  all_goals
    go_ret
    first
      | exact ⟨ret_int (numI_lt (by omega)).symm, Below.refl _ _⟩
      | exact ⟨ret_int (numI_gt (by omega)).symm, Below.refl _ _⟩
      | exact ⟨ret_int (numI_eq (by omega) (by omega)).symm, Below.refl _ _⟩
theorem headI_vv {f g : Int} (hf : f < 0) (hg : g < 0) : headI f g = numI (-1 - f) (-1 - g) := by
  unfold headI numI
  by_cases h : f = g
  · subst h; simp
  · rw [if_neg h, if_pos ⟨hf, hg⟩]
    by_cases h1 : g < f
    · rw [if_pos h1, if_pos (by omega)]
    · rw [if_neg h1, if_neg (by omega), if_pos (by omega)]
theorem headI_ss {f g : Int} (h : ¬ (f < 0 ∧ g < 0)) : headI f g = numI f g := by
  unfold headI numI
  by_cases e : f = g
  · subst e; simp
  · rw [if_neg e, if_neg h]
    by_cases h1 : f < g
    · rw [if_pos h1, if_pos h1]
    · rw [if_neg h1, if_neg h1, if_pos (by omega)]
set_option maxHeartbeats 400000 in
theorem heads_any (f g : Int) (sa sb : Value) (w : World) (hf : I64 f) (hg : I64 g) :
    Calls Try.prog 124 #[.agg #[.int .i64 f, sa, .int .i64 g, sb]] w fun e w' => e = .returned (.int .i64 (headI f g)) ∧ Below w.heap.size w w' := by
  have hBW : Below w.heap.size w (w.alloc (.cells #[.int .i64 f, sa, .int .i64 g, sb] 149)) := (Below.refl _ _).alloc (Nat.le_refl _) _
  by_cases hfg : f < 0 ∧ g < 0
  · obtain ⟨hf0, hg0⟩ := hfg
    have hh := Lib.hid (headI_vv hf0 hg0)
    go_enter Try.func124, Try.ntmps124
    go_wp2
    obtain ⟨W, hW⟩ : ∃ W, w.alloc (.cells #[.int .i64 f, sa, .int .i64 g, sb] 149) = W := ⟨_, rfl⟩
    rw [hW] at hBW
    have hz : w.heap.size < W.heap.size := by rw [← hW]; clear hW hBW; simp
    have x0 : W.cell? ⟨w.heap.size, 0, none⟩ = some (.int .i64 f) := by rw [← hW]; clear hW hBW; go_simp
    have x1 : W.cell? ⟨w.heap.size, 1, none⟩ = some sa := by rw [← hW]; clear hW hBW; go_simp
    have x2 : W.cell? ⟨w.heap.size, 2, none⟩ = some (.int .i64 g) := by rw [← hW]; clear hW hBW; go_simp
    have x3 : W.cell? ⟨w.heap.size, 3, none⟩ = some sb := by rw [← hW]; clear hW hBW; go_simp
    rw [hW]
    clear hW
    have hS : ∀ w', Below W.heap.size W w' → w'.cell? ⟨w.heap.size, 0, none⟩ = some (.int .i64 f) ∧ w'.cell? ⟨w.heap.size, 1, none⟩ = some sa ∧ w'.cell? ⟨w.heap.size, 2, none⟩ = some (.int .i64 g) ∧ w'.cell? ⟨w.heap.size, 3, none⟩ = some sb :=
      fun _ h => ⟨cell_on h hz x0, cell_on h hz x1, cell_on h hz x2, cell_on h hz x3⟩
    go_region_held3 (fun w' => w'.cell? ⟨w.heap.size, 0, none⟩ = some (.int .i64 f) ∧ w'.cell? ⟨w.heap.size, 1, none⟩ = some sa ∧ w'.cell? ⟨w.heap.size, 2, none⟩ = some (.int .i64 g) ∧ w'.cell? ⟨w.heap.size, 3, none⟩ = some sb)
      (first | exact ⟨x0, x1, x2, x3⟩ | exact hS _ hB3 | exact hS _ hB2 | exact hS _ hB1)
      (first
        | (go_at_call 151; refine (variable_any f sa W.drew hf hf0).mono ?_; rintro e w1 ⟨rfl, hb1⟩; have hB1 : Below W.heap.size W w1 := ⟨hb1.os, hb1.tape, hb1.output, hb1.size, hb1.block⟩)
        | (go_at_call 151; refine (variable_any g sb _ hg hg0).mono ?_; rintro e w2 ⟨rfl, hb2⟩; have hB2 := bl_step hB1 hb2)
        | (go_at_call 94; refine (cmpNum_any _ _ _).mono ?_; rintro e w3 ⟨rfl, hb3⟩; have hB3 := bl_step hB2 hb3))
    go_wp2
    go_ret
    exact ⟨ret_int hh.out.symm, hBW.trans (hB3.mono (Nat.le_of_lt hz))⟩
  · have hh := headI_ss hfg
    by_cases hf0 : f < 0
    · have hg0 : ¬ g < 0 := fun e => hfg ⟨hf0, e⟩
      go_enter Try.func124, Try.ntmps124
      go_wp2_with (first | (go_at_call 94; refine (cmpNum_any _ _ _).mono ?_; rintro e w3 ⟨rfl, hb3⟩) | fail)
      go_ret
      exact ⟨ret_int hh.symm, hBW.trans (hb3.mono (by simp))⟩
    · go_enter Try.func124, Try.ntmps124
      go_wp2_with (first | (go_at_call 94; refine (cmpNum_any _ _ _).mono ?_; rintro e w3 ⟨rfl, hb3⟩) | fail)
      go_ret
      exact ⟨ret_int hh.symm, hBW.trans (hb3.mono (by simp))⟩
end Go.Proofs.Ytdeegdndfblnkaa
