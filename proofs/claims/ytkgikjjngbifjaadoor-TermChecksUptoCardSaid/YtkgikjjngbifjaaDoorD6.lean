/- TermChecks. -/
import Derived.Test.YtkgikjjngbifjaaDoorD5
namespace Go.Proofs.YtkgikjjngbifjaaDoor
open Go.RowKit
set_option maxRecDepth 100000

set_option maxHeartbeats 4000000 in
theorem TermChecks_any (l : List Sm) (t : Tm) (As A : Option Addr) (n cs c : Nat) (w : World) (hsz : t.size ≤ 4611686018427387904) (hS : Syms w w.heap.size As n l) (hn : n * 32 ≤ 140737488351232) (ht : tru w) (hf : I64 t.fn) (hA : Args w w.heap.size A t.args) :
    Calls Tryd.prog 3 #[.agg #[.slice As n cs], .agg #[.int .i64 t.fn, .slice A t.args.length c]] w fun e w' => e = .returned (.bool true) ∧ Below w.heap.size w w' := by
  obtain rfl := hS.len
  obtain ⟨p0, p1⟩ := heap2 w (.cells #[.slice As l.length cs] 24) (.cells #[.int .i64 t.fn, .slice A t.args.length c] 27)
  obtain ⟨W, hW⟩ : ∃ W, ((w.alloc (.cells #[.slice As l.length cs] 24)).alloc (.cells #[.int .i64 t.fn, .slice A t.args.length c] 27)) = W := ⟨_, rfl⟩
  have hB : Below w.heap.size w W := by rw [← hW]; exact ((Below.refl _ _).alloc (Nat.le_refl _) _).alloc (by simp) _
  rw [hW] at p0 p1
  have hWs : w.heap.size + 1 < W.heap.size := (Array.getElem?_eq_some_iff.1 p1).1
  have HW := Lib.hid hW
  have hS' := Lib.hid (hS.on hB)
  have hA' := Lib.hid (hA.on hB)
  have hT := Lib.hid (tru_below ht hB)
  have hSS : ∀ w', Below W.heap.size W w' → w'.cell? ⟨w.heap.size, 0, none⟩ = some (.slice As l.length cs) ∧ w'.cell? ⟨w.heap.size + 1, 0, none⟩ = some (.int .i64 t.fn) ∧ w'.cell? ⟨w.heap.size + 1, 1, none⟩ = some (.slice A t.args.length c) := fun w' h =>
    ⟨(cells_one ((h.block _ (by omega)).trans p0)).1, (cells_two ((h.block _ hWs).trans p1)).1, (cells_two ((h.block _ hWs).trans p1)).2.1⟩
  clear hW hS hA ht p0 p1
  go_enter Tryd.func3, Tryd.ntmps3
  go_wp2_with (first
    | (go_at_call 9
       go_must (
       rw [HW.out]
       refine (termText_any l t As A l.length cs c W hS'.out hn hT.out hf hA'.out).mono ?_
       rintro e w1 ⟨rfl, hb1⟩
       obtain ⟨x0, x1, x2⟩ := hSS _ hb1))
    | (go_at_call 10
       go_must (
       refine (ref2Text_any l t As A l.length cs c w1 hsz (hS'.out.on hb1) hn hf (hA'.out.on hb1)).mono ?_
       rintro e w2 ⟨rfl, hb2⟩
       have hB2 := bl_step hb1 hb2
       clear x0 x1 x2
       obtain ⟨x0, x1, x2⟩ := hSS _ hB2))
    | fail)
  have hS2 : Hid (Syms w2.drew w2.drew.heap.size As l.length l) := (hS'.out.on hB2).drewN 1
  have hA2 : Hid (Args w2.drew w2.drew.heap.size A t.args) := (hA'.out.on hB2).drewN 1
  have hT2 : Hid (tru w2.drew) := tru_below hT.out (show Below W.heap.size W w2.drew from ⟨hB2.os, hB2.tape, hB2.output, hB2.size, hB2.block⟩)
  go_region_held3 (fun w' => w'.cell? ⟨w.heap.size, 0, none⟩ = some (.slice As l.length cs) ∧ w'.cell? ⟨w.heap.size + 1, 0, none⟩ = some (.int .i64 t.fn) ∧ w'.cell? ⟨w.heap.size + 1, 1, none⟩ = some (.slice A t.args.length c))
    (first | exact ⟨x0, x1, x2⟩ | exact hSS _ hB5 | exact hSS _ hB4 | exact hSS _ hB3 | fail)
    (first
      | (go_at_call 11; refine (termCheck_any l t As A l.length cs c w2.drew hS2.out hn hT2.out hf hA2.out).mono ?_; rintro e w3 ⟨rfl, hb3⟩; have hB3 : Below W.heap.size W w3 := bl_step hB2 ⟨hb3.os, hb3.tape, hb3.output, hb3.size, hb3.block⟩)
      | (go_at_call 12; refine (ref2Check_any l t As A l.length cs c w3 hsz (hS'.out.on hB3) hn hf (hA'.out.on hB3)).mono ?_; rintro e w4 ⟨rfl, hb4⟩; have hB4 := bl_step hB3 hb4)
      | (go_at_call 13; refine (wakes_any w4 (tru_below hT.out hB4)).mono ?_; rintro e w5 ⟨rfl, hb5⟩; have hB5 := bl_step hB4 hb5)
      | fail)
  go_wp2
  go_ret
  exact ⟨rfl, hB.trans (hB5.mono hB.size)⟩
end Go.Proofs.YtkgikjjngbifjaaDoor
