/- SubstMoves: the law. -/
import Derived.Test.YtfkefogmpmcfeaaU21
import Derived.Test.YtfkefogmpmcfeaaU5
import Derived.Test.YtfkefogmpmcfeaaM1
namespace Go.Proofs.Ytfkefogmpmcfeaa
open Go.RowKit Go.Shelf
set_option maxRecDepth 100000

theorem RowT.readB {w : World} {base : Nat} {v : Value} {l : List Ti} {N : Nat → Prop} {ts : List Tm} (h : RowT w base v l N) (hl : l.map Ti.t = ts) (hlen : ts.length ≤ 9223372036854775807) (hN : ∀ g, N g → g < w.heap.size) : ∃ A c, v = .slice A ts.length c ∧ Args w w.heap.size A ts := by
  have hll : l.length = ts.length := by rw [← hl, List.length_map]
  obtain ⟨A, c, hv, hA⟩ := h.argsN (M := (· < w.heap.size)) (by omega) (fun g e => (row_lt h.row g e).2) hN
  rw [hl] at hA
  rw [hll] at hv
  exact ⟨A, c, hv, hA.args fun g e => e⟩

theorem refMove_at (t : Tm) (b : Int) (hsz : t.size ≤ 4398046511104) (A : Option Addr) (c : Nat) (w : World) (hf : I64 t.fn) (hb : I64 b) (hA : Args w w.heap.size A t.args) :
    Calls Try.prog 33 #[.agg #[.int .i64 t.fn, .slice A t.args.length c], .int .i64 b] w fun e w' => ∃ A' c', e = .returned (.agg #[.int .i64 (movT b t).fn, .slice A' (movT b t).args.length c']) ∧ Args w' w'.heap.size A' (movT b t).args ∧ Below w.heap.size w w' := by
  refine (refMove_any b hb t hsz A c w hf hA).mono ?_
  rintro e w' ⟨v, l, rfl, hl, hR, hB⟩
  have hlen : (movT b t).args.length ≤ 9223372036854775807 := by rw [movT_len]; exact hA.len
  obtain ⟨A', c', rfl, h⟩ := hR.readB hl hlen fun g e => e.2.1
  exact ⟨A', c', rfl, h, hB⟩

set_option maxHeartbeats 2000000 in
theorem SubstMoves_any (t : Tm) (b : Int) (hsz : t.size ≤ 4398046511104) (A : Option Addr) (c : Nat) (w : World) (hf : I64 t.fn) (hb : I64 b) (hA : Args w w.heap.size A t.args) :
    Calls Try.prog 5 #[.agg #[.int .i64 t.fn, .slice A t.args.length c], .int .i64 b] w fun e w' => e = .returned (.bool true) ∧ Below w.heap.size w w' := by
  obtain ⟨W, hW⟩ : ∃ W, w.alloc (.cells #[.int .i64 t.fn, .slice A t.args.length c] 31) = W := ⟨_, rfl⟩
  have hB : Below w.heap.size w W := by rw [← hW]; exact (Below.refl _ _).alloc (Nat.le_refl _) _
  have q0 := heap_alloc_new w (.cells #[.int .i64 t.fn, .slice A t.args.length c] 31)
  rw [hW] at q0
  have hWs : w.heap.size < W.heap.size := (Array.getElem?_eq_some_iff.1 q0).1
  have hS : ∀ w', Below W.heap.size W w' → w'.cell? ⟨w.heap.size, 0, none⟩ = some (.int .i64 t.fn) ∧ w'.cell? ⟨w.heap.size, 1, none⟩ = some (.slice A t.args.length c) := fun w' h => by
    obtain ⟨x0, x1, _, _⟩ := cells_two ((h.block _ hWs).trans q0)
    exact ⟨x0, x1⟩
  have HA := Lib.hid (hA.on hB)
  have HW := Lib.hid hW
  obtain ⟨x0, x1⟩ := hS W (Below.refl _ _)
  have HS := Lib.hid hS
  have hm := Lib.hid (decide_eq_true (cmp_refl (movT b t)))
  have H1 := Lib.hid (subMove_any t b hsz A c W.drew hf hb ((hA.on hB).drewN 1))
  have H2 : ∀ w1, Below W.heap.size W w1 → _ := fun w1 h => refMove_at t b hsz A c w1 hf hb ((hA.on hB).on h)
  have H2 := Lib.hid H2
  clear hW hA hS q0
  go_enter Try.func5, Try.ntmps5
  go_upto_region 1 with fail
  rw [HW.out]
  go_region_held3 (fun w' => w'.cell? ⟨w.heap.size, 0, none⟩ = some (.int .i64 t.fn) ∧ w'.cell? ⟨w.heap.size, 1, none⟩ = some (.slice A t.args.length c))
    (first | exact ⟨x0, x1⟩ | exact HS.out _ hB4 | exact HS.out _ hB3 | exact HS.out _ hB2 | exact HS.out _ hB1 | fail)
    (first
      | (go_at_call 32; (with_reducible refine H1.out.mono ?_); go_must (rintro e w1 ⟨A1, c1, rfl, hi1, hO1, hb1⟩; have hB1 : Below W.heap.size W w1 := ⟨hb1.os, hb1.tape, hb1.output, hb1.size, hb1.block⟩; have hO1 := Lib.hid hO1))
      | (go_at_call 33; (with_reducible refine (H2.out w1 hB1).mono ?_); go_must (rintro e w2 ⟨A2, c2, rfl, hA2, hb2⟩; have hB2 := bl_step hB1 hb2; have hA2 := Lib.hid hA2))
      | (go_at_call 23; (with_reducible refine (ref2Same_any' (movT b t) (movT b t) A1 A2 c1 c2 w2 hi1 hi1 ((hO1.out.args (Nat.le_refl _)).on hb2) hA2.out).mono ?_); go_must (rintro e w3 ⟨rfl, hb3⟩; rw [hm.out]; have hB3 := bl_step hB2 hb3))
      | (go_at_call 15; (with_reducible refine (subWakes_any w3).mono ?_); go_must (rintro e w4 ⟨rfl, hb4⟩; have hB4 := bl_step hB3 hb4))
      | fail)
  go_wp2
  go_ret
  exact ⟨rfl, hB.trans (hB4.mono hB.size)⟩
end Go.Proofs.Ytfkefogmpmcfeaa
