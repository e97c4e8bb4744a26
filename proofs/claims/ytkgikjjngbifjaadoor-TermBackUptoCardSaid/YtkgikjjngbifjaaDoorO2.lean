/- TermOrder. -/
import Derived.Test.YtkgikjjngbifjaaDoorO1
import Derived.Test.YtkgikjjngbifjaaDoorG4
namespace Go.Proofs.YtkgikjjngbifjaaDoor
open Go.RowKit
set_option maxRecDepth 100000

theorem Compare_at (t u : Tm) (A A2 : Option Addr) (c c2 : Nat) (w : World) (hf : I64 t.fn) (hg : I64 u.fn) (hA : Args w w.heap.size A t.args) (hA2 : Args w w.heap.size A2 u.args) :
    Calls Tryd.prog 17 #[.agg #[.int .i64 t.fn, .slice A t.args.length c], .agg #[.int .i64 u.fn, .slice A2 u.args.length c2]] w fun e w' => e = .returned (.int .i64 (cmpT t u)) ∧ Below w.heap.size w w' :=
  Compare_any t u A A2 c c2 w hf hg hA hA2

set_option maxHeartbeats 4000000 in
theorem TermOrder_any (a b c : Tm) (A1 A2 A3 : Option Addr) (c1 c2 c3 : Nat) (w : World) (ha : I64 a.fn) (hb : I64 b.fn) (hc : I64 c.fn) (hA1 : Args w w.heap.size A1 a.args) (hA2 : Args w w.heap.size A2 b.args) (hA3 : Args w w.heap.size A3 c.args) (ht : tru w) :
    Calls Tryd.prog 7 #[.agg #[.int .i64 a.fn, .slice A1 a.args.length c1], .agg #[.int .i64 b.fn, .slice A2 b.args.length c2], .agg #[.int .i64 c.fn, .slice A3 c.args.length c3]] w fun e w' => e = .returned (.bool true) ∧ Below w.heap.size w w' := by
  obtain ⟨q0, q1, q2⟩ := heap3 w (.cells #[.int .i64 a.fn, .slice A1 a.args.length c1] 27) (.cells #[.int .i64 b.fn, .slice A2 b.args.length c2] 27) (.cells #[.int .i64 c.fn, .slice A3 c.args.length c3] 27)
  obtain ⟨W, hW⟩ : ∃ W, (((w.alloc (.cells #[.int .i64 a.fn, .slice A1 a.args.length c1] 27)).alloc (.cells #[.int .i64 b.fn, .slice A2 b.args.length c2] 27)).alloc (.cells #[.int .i64 c.fn, .slice A3 c.args.length c3] 27)) = W := ⟨_, rfl⟩
  have hB : Below w.heap.size w W := by rw [← hW]; exact (((Below.refl _ _).alloc (Nat.le_refl _) _).alloc (by simp) _).alloc (by simp; omega) _
  rw [hW] at q0 q1 q2
  have hWs : w.heap.size + 1 + 1 < W.heap.size := (Array.getElem?_eq_some_iff.1 q2).1
  have hS : ∀ w', Below W.heap.size W w' → w'.cell? ⟨w.heap.size, 0, none⟩ = some (.int .i64 a.fn) ∧ w'.cell? ⟨w.heap.size, 1, none⟩ = some (.slice A1 a.args.length c1) ∧ w'.cell? ⟨w.heap.size + 1, 0, none⟩ = some (.int .i64 b.fn) ∧ w'.cell? ⟨w.heap.size + 1, 1, none⟩ = some (.slice A2 b.args.length c2) ∧ w'.cell? ⟨w.heap.size + 1 + 1, 0, none⟩ = some (.int .i64 c.fn) ∧ w'.cell? ⟨w.heap.size + 1 + 1, 1, none⟩ = some (.slice A3 c.args.length c3) := by
    intro w' h
    obtain ⟨x0, x1, _, _⟩ := cells_two ((h.block _ (by omega)).trans q0)
    obtain ⟨y0, y1, _, _⟩ := cells_two ((h.block _ (by omega)).trans q1)
    obtain ⟨z0, z1, _, _⟩ := cells_two ((h.block _ hWs).trans q2)
    exact ⟨x0, x1, y0, y1, z0, z1⟩
  have H1 := Lib.hid (hA1.on hB)
  have H2 := Lib.hid (hA2.on hB)
  have H3 := Lib.hid (hA3.on hB)
  have HT := Lib.hid (tru_below ht hB)
  have HD1 : Hid (Args W.drew W.drew.heap.size A1 a.args) := H1.out.drewN 1
  have HD2 : Hid (Args W.drew W.drew.heap.size A2 b.args) := H2.out.drewN 1
  have HW := Lib.hid hW
  obtain ⟨x0, x1, y0, y1, z0, z1⟩ := hS W (Below.refl _ _)
  have hlaw := fun h1 h2 => cmp_law (a := a) (b := b) (c := c) h1 h2
  obtain ⟨r1, r2⟩ := cmp_range a b
  clear hW ht hA1 hA2 hA3 q0 q1 q2
  go_enter Tryd.func7, Tryd.ntmps7
  go_upto_region 1 with fail
  rw [HW.out]
  go_region_held3 (fun w' => w'.cell? ⟨w.heap.size, 0, none⟩ = some (.int .i64 a.fn) ∧ w'.cell? ⟨w.heap.size, 1, none⟩ = some (.slice A1 a.args.length c1) ∧ w'.cell? ⟨w.heap.size + 1, 0, none⟩ = some (.int .i64 b.fn) ∧ w'.cell? ⟨w.heap.size + 1, 1, none⟩ = some (.slice A2 b.args.length c2) ∧ w'.cell? ⟨w.heap.size + 1 + 1, 0, none⟩ = some (.int .i64 c.fn) ∧ w'.cell? ⟨w.heap.size + 1 + 1, 1, none⟩ = some (.slice A3 c.args.length c3))
    (first | exact ⟨x0, x1, y0, y1, z0, z1⟩ | exact hS _ hB3 | exact hS _ hB2 | exact hS _ hB1)
    (first
      | (go_at_call 17; (with_reducible refine (Compare_at a b A1 A2 c1 c2 W.drew ha hb HD1.out HD2.out).mono ?_); rintro e w1 ⟨rfl, hb1⟩; have hB1 : Below W.heap.size W w1 := ⟨hb1.os, hb1.tape, hb1.output, hb1.size, hb1.block⟩)
      | (go_at_call 17; (with_reducible refine (Compare_at b c A2 A3 c2 c3 w1 hb hc (H2.out.on hB1) (H3.out.on hB1)).mono ?_); rintro e w2 ⟨rfl, hb2⟩; have hB2 := bl_step hB1 hb2)
      | (go_at_call 17; (with_reducible refine (Compare_at a c A1 A3 c1 c3 w2 ha hc (H1.out.on hB2) (H3.out.on hB2)).mono ?_); rintro e w3 ⟨rfl, hb3⟩; have hB3 := bl_step hB2 hb3))
  clear x0 x1 y0 y1 z0 z1
  obtain ⟨x0, x1, y0, y1, z0, z1⟩ := hS _ hB3
  have H1' := Lib.hid (H1.out.on hB3)
  have H2' := Lib.hid (H2.out.on hB3)
  have hlaw' : (0 < cmpT a b ∨ 0 < cmpT b c ∨ cmpT a c ≤ 0) ∧ (0 ≤ cmpT a b ∨ 0 < cmpT b c ∨ cmpT a c < 0) := by
    refine ⟨?_, ?_⟩
    · by_cases h1 : 0 < cmpT a b
      · exact .inl h1
      · by_cases h2 : 0 < cmpT b c
        · exact .inr (.inl h2)
        · exact .inr (.inr (hlaw (by omega) (by omega)).1)
    · by_cases h1 : 0 ≤ cmpT a b
      · exact .inl h1
      · by_cases h2 : 0 < cmpT b c
        · exact .inr (.inl h2)
        · exact .inr (.inr ((hlaw (by omega) (by omega)).2 (by omega)))
  have hlaw' := Lib.hid hlaw'
  clear hlaw
  by_cases hxy : cmpT a b = 0
  · go_wp2_with (first
      | (go_at_call 17; (with_reducible refine (Compare_at b a A2 A1 c2 c1 w3 hb ha H2'.out H1'.out).mono ?_); go_must (rintro e w4 ⟨rfl, hb4⟩; rw [cmp_anti a b]; have hB4 := bl_step hB3 hb4; obtain ⟨u0, u1, v0, v1, t0, t1⟩ := hS _ hB4))
      | (go_at_call 15; (with_reducible refine (termSame_any a b A1 A2 c1 c2 w4 ha hb (H1.out.on hB4) (H2.out.on hB4)).mono ?_); go_must (rintro e w5 ⟨rfl, hb5⟩; have hB5 := bl_step hB4 hb5; obtain ⟨u2, u3, v2, v3, t2, t3⟩ := hS _ hB5))
      | (go_at_call 17; (with_reducible refine (Compare_at a a A1 A1 c1 c1 w5 ha ha (H1.out.on hB5) (H1.out.on hB5)).mono ?_); go_must (rintro e w6 ⟨rfl, hb6⟩; rw [cmp_refl a]; have hB6 := bl_step hB5 hb6))
      | (go_at_call 13; refine (wakes_any w6 (tru_below HT.out hB6)).mono ?_; rintro e w7 ⟨rfl, hb7⟩; have hB7 := bl_step hB6 hb7)
      | fail)
    all_goals first
      | (exfalso; have := hlaw'.out; omega)
      | (go_ret; exact ⟨rfl, hB.trans (hB7.mono hB.size)⟩)
      | (go_ret; refine ⟨ret_bool ?_, hB.trans (hB7.mono hB.size)⟩; simp; omega)
  · go_wp2_with (first
      | (go_at_call 17; (with_reducible refine (Compare_at b a A2 A1 c2 c1 w3 hb ha H2'.out H1'.out).mono ?_); go_must (rintro e w4 ⟨rfl, hb4⟩; rw [cmp_anti a b]; have hB4 := bl_step hB3 hb4; obtain ⟨u0, u1, v0, v1, t0, t1⟩ := hS _ hB4))
      | (go_at_call 15; (with_reducible refine (termSame_any a b A1 A2 c1 c2 w4 ha hb (H1.out.on hB4) (H2.out.on hB4)).mono ?_); go_must (rintro e w5 ⟨rfl, hb5⟩; have hB5 := bl_step hB4 hb5; obtain ⟨u2, u3, v2, v3, t2, t3⟩ := hS _ hB5))
      | (go_at_call 17; (with_reducible refine (Compare_at a a A1 A1 c1 c1 w5 ha ha (H1.out.on hB5) (H1.out.on hB5)).mono ?_); go_must (rintro e w6 ⟨rfl, hb6⟩; rw [cmp_refl a]; have hB6 := bl_step hB5 hb6))
      | (go_at_call 13; refine (wakes_any w6 (tru_below HT.out hB6)).mono ?_; rintro e w7 ⟨rfl, hb7⟩; have hB7 := bl_step hB6 hb7)
      | fail)
    all_goals first
      | (exfalso; have := hlaw'.out; omega)
      | (go_ret; exact ⟨rfl, hB.trans (hB7.mono hB.size)⟩)
      | (go_ret; refine ⟨ret_bool ?_, hB.trans (hB7.mono hB.size)⟩; simp; omega)
end Go.Proofs.YtkgikjjngbifjaaDoor
