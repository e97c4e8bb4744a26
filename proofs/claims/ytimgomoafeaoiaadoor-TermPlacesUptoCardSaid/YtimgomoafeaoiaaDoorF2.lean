/- term.Check. -/
import Derived.Test.YtimgomoafeaoiaaDoorF1
import Derived.Test.YtimgomoafeaoiaaDoorW11
namespace Go.Proofs.YtimgomoafeaoiaaDoor
open Go.RowKit
set_option maxRecDepth 100000

/-- What term.Check answers. -/
def chkT (l : List Sm) (t : Tm) : Int := if checkI l ≠ 0 then 2 else if (fitT l t 1 300).1 = true then 0 else 2
theorem chk_sig {l : List Sm} {t : Tm} (h : ¬ checkI l = 0) : chkT l t = 2 := if_pos h
theorem chk_yes {l : List Sm} {t : Tm} (h : checkI l = 0) (h1 : (fitT l t 1 300).1 = true) : chkT l t = 0 := (if_neg (fun e => e h)).trans (if_pos h1)
theorem chk_no {l : List Sm} {t : Tm} (h : checkI l = 0) (h1 : (fitT l t 1 300).1 = false) : chkT l t = 2 := (if_neg (fun e => e h)).trans (if_neg (by simp [h1]))

set_option maxHeartbeats 2000000 in
theorem termCheck_any (l : List Sm) (t : Tm) (As A : Option Addr) (n cs c : Nat) (w : World) (hS : Syms w w.heap.size As n l) (hn : n * 32 ≤ 140737488351232) (ht : tru w) (hf : I64 t.fn) (hA : Args w w.heap.size A t.args) :
    Calls Tryd.prog 19 #[.agg #[.slice As n cs], .agg #[.int .i64 t.fn, .slice A t.args.length c]] w fun e w' => e = .returned (.int .i64 (chkT l t)) ∧ Below w.heap.size w w' := by
  obtain rfl := hS.len
  have hl64 : l.length ≤ 9223372036854775807 := by omega
  obtain ⟨p0, p1, p2⟩ := heap3 w (.cells #[.slice As l.length cs] 48) (.cells #[.int .i64 t.fn, .slice A t.args.length c] 24) (.cells #[.int .i64 300] 3)
  obtain ⟨W, hW⟩ : ∃ W, (((w.alloc (.cells #[.slice As l.length cs] 48)).alloc (.cells #[.int .i64 t.fn, .slice A t.args.length c] 24)).alloc (.cells #[.int .i64 300] 3)) = W := ⟨_, rfl⟩
  have hB : Below w.heap.size w W := by rw [← hW]; exact (((Below.refl _ _).alloc (Nat.le_refl _) _).alloc (by simp) _).alloc (by simp; omega) _
  rw [hW] at p0 p1 p2
  have hWs : w.heap.size + 1 + 1 < W.heap.size := (Array.getElem?_eq_some_iff.1 p2).1
  have hS' := Lib.hid (hS.on hB)
  have ht' := Lib.hid (tru_below ht hB)
  have HW := Lib.hid hW
  have hA2 := Lib.hid (hA.blw hB)
  have hS2 := Lib.hid (hS.below hB)
  clear hW hS ht hA
  have fin : ∀ {w' : World}, Below W.heap.size W w' → Below w.heap.size w w' := fun h => hB.trans (h.mono hB.size)
  have fin2 : ∀ {w1 w' : World}, Below W.heap.size W w1 → Keeps (fun g => g < w1.heap.size ∧ g ≠ w.heap.size + 1 + 1) w1 w' → Below w.heap.size w w' := fun h k => (fin h).trans (k.below fun g e => ⟨by have := h.size; omega, by omega⟩)
  by_cases h0 : checkI l = 0
  · cases h1 : (fitT l t 1 300).1 with
    | true =>
      have hc := Lib.hid (chk_yes h0 h1)
      have h1' := Lib.hid h1
      clear h1
      go_enter Tryd.func19, Tryd.ntmps19
      go_wp2_with (first
        | (go_at_call 29
           rw [HW.out]
           refine (Check_any As l.length cs l W hS'.out hn ht'.out).mono ?_
           rintro e w1 ⟨rfl, hb1⟩
           rw [h0]
           have x0 := (cells_one ((hb1.block _ (by omega)).trans p0)).1
           obtain ⟨x1, x2, _, _⟩ := cells_two ((hb1.block _ (by omega)).trans p1)
           have x3 := Lib.hid ((hb1.block _ hWs).trans p2))
        | (go_at_call 30
           refine (termFits_any l t As A cs c 1 300 (w.heap.size + 1 + 1) w1 hf ((hS2.out.below (hb1.mono (by omega))).more (by omega)) hl64 ((hA2.out.blw (hb1.mono (by omega))).more (by omega)) x3.out (by decide) (by decide) (by decide) (by decide)).mono ?_
           rintro e w2 ⟨rfl, hk2, _⟩
           rw [h1'.out])
        | fail)
      go_ret
      exact ⟨ret_int hc.out.symm, fin2 hb1 hk2⟩
    | false =>
      have hc := Lib.hid (chk_no h0 h1)
      have h1' := Lib.hid h1
      clear h1
      go_enter Tryd.func19, Tryd.ntmps19
      go_wp2_with (first
        | (go_at_call 29
           rw [HW.out]
           refine (Check_any As l.length cs l W hS'.out hn ht'.out).mono ?_
           rintro e w1 ⟨rfl, hb1⟩
           rw [h0]
           have x0 := (cells_one ((hb1.block _ (by omega)).trans p0)).1
           obtain ⟨x1, x2, _, _⟩ := cells_two ((hb1.block _ (by omega)).trans p1)
           have x3 := Lib.hid ((hb1.block _ hWs).trans p2))
        | (go_at_call 30
           refine (termFits_any l t As A cs c 1 300 (w.heap.size + 1 + 1) w1 hf ((hS2.out.below (hb1.mono (by omega))).more (by omega)) hl64 ((hA2.out.blw (hb1.mono (by omega))).more (by omega)) x3.out (by decide) (by decide) (by decide) (by decide)).mono ?_
           rintro e w2 ⟨rfl, hk2, _⟩
           rw [h1'.out])
        | fail)
      go_ret
      exact ⟨ret_int hc.out.symm, fin2 hb1 hk2⟩
  · have hc := Lib.hid (chk_sig (t := t) h0)
    go_enter Tryd.func19, Tryd.ntmps19
    go_wp2_with (first
      | (go_at_call 29
         rw [HW.out]
         refine (Check_any As l.length cs l W hS'.out hn ht'.out).mono ?_
         rintro e w1 ⟨rfl, hb1⟩)
      | fail)
    go_ret
    exact ⟨ret_int hc.out.symm, fin hb1⟩
end Go.Proofs.YtimgomoafeaoiaaDoor
