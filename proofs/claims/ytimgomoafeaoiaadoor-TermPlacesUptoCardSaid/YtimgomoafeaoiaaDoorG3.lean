/- term.Text. -/
import Derived.Test.YtimgomoafeaoiaaDoorG2
import Derived.Test.YtimgomoafeaoiaaDoorK1
namespace Go.Proofs.YtimgomoafeaoiaaDoor
open Go.RowKit
set_option maxRecDepth 100000

/-- What is left of the room tells how large a term is. -/
theorem fit_size (l : List Sm) (t : Tm) : ∀ d r, (fitT l t d r).1 = true → (fitT l t d r).2 = r - t.size ∧ (t.size : Int) ≤ r := by
  refine Tm.ind (P := fun t => ∀ d r, (fitT l t d r).1 = true → (fitT l t d r).2 = r - t.size ∧ (t.size : Int) ≤ r) (fun f xs ih d r h => ?_) t
  have key : ∀ ys : List Tm, (∀ t ∈ ys, t ∈ xs) → ∀ d r, 0 ≤ r → (fitL l ys d r).1 = true → (fitL l ys d r).2 = r - sizes ys ∧ (sizes ys : Int) ≤ r := by
    intro ys
    induction ys with
    | nil => intro _ d r hr h; simp [fitL, sizes]; exact hr
    | cons y ys ihy =>
      intro hm d r hr h
      cases hb : (fitT l y d r).1 with
      | false => rw [fitL_no hb] at h; cases h
      | true =>
        rw [fitL_yes hb] at h ⊢
        have e1 := ih y (hm y (by simp)) d r hb
        have e2 := ihy (fun t ht => hm t (by simp [ht])) d _ ((fit_le l y d r hr).2.2 hb) h
        simp only [sizes]
        omega
  by_cases h1 : r - 1 < 0 ∨ 30 < d
  · rw [fit_room h1] at h; cases h
  · by_cases hf : f < 0
    · rw [fit_var h1 hf] at h ⊢
      have := of_decide_eq_true h
      have hx : xs = [] := List.eq_nil_of_length_eq_zero this.2
      subst hx
      simp only [Tm.size, sizes]
      omega
    · cases hs : l[f.toNat]? with
      | none => rw [fit_out h1 hf (by have := List.getElem?_eq_none_iff.1 hs; omega)] at h; cases h
      | some s =>
        by_cases hb : s.arity ≠ xs.length ∨ (s.pred = true ∧ 1 < d)
        · rw [fit_bad h1 hf hs hb] at h; cases h
        · rw [fit_in h1 hf hs hb] at h ⊢
          have := key xs (fun _ h => h) (d + 1) (r - 1) (by omega) h
          simp only [Tm.size]
          omega
theorem chk_zero {l : List Sm} {t : Tm} (h : chkT l t = 0) : checkI l = 0 ∧ (fitT l t 1 300).1 = true := by
  unfold chkT at h
  split at h
  · cases h
  · rename_i h0
    split at h
    · rename_i h1; exact ⟨Classical.not_not.1 h0, h1⟩
    · cases h

/-- The text that Text tells. -/
def textS (l : List Sm) (t : Tm) : ByteArray := if chkT l t = 0 then txtT l t else ByteArray.empty

set_option maxHeartbeats 2000000 in
theorem termText_any (l : List Sm) (t : Tm) (As A : Option Addr) (n cs c : Nat) (w : World) (hS : Syms w w.heap.size As n l) (hn : n * 32 ≤ 140737488351232) (ht : tru w) (hf : I64 t.fn) (hA : Args w w.heap.size A t.args) :
    Calls Tryd.prog 16 #[.agg #[.slice As n cs], .agg #[.int .i64 t.fn, .slice A t.args.length c]] w fun e w' => e = .returned (.tuple #[.string (textS l t), .int .i64 (chkT l t)]) ∧ Below w.heap.size w w' := by
  obtain rfl := hS.len
  have hl64 : l.length ≤ 9223372036854775807 := by omega
  obtain ⟨p0, p1⟩ := heap2 w (.cells #[.slice As l.length cs] 48) (.cells #[.int .i64 t.fn, .slice A t.args.length c] 24)
  obtain ⟨W, hW⟩ : ∃ W, ((w.alloc (.cells #[.slice As l.length cs] 48)).alloc (.cells #[.int .i64 t.fn, .slice A t.args.length c] 24)) = W := ⟨_, rfl⟩
  have hB : Below w.heap.size w W := by rw [← hW]; exact ((Below.refl _ _).alloc (Nat.le_refl _) _).alloc (by simp) _
  rw [hW] at p0 p1
  have hWs : w.heap.size + 1 < W.heap.size := (Array.getElem?_eq_some_iff.1 p1).1
  have HW := Lib.hid hW
  have hS' := Lib.hid (hS.on hB)
  have ht' := Lib.hid (tru_below ht hB)
  have hA' := Lib.hid (hA.on hB)
  clear hW hS ht hA
  by_cases h0 : chkT l t = 0
  · have hts : Hid (textS l t = txtT l t) := if_pos h0
    obtain ⟨hc, hfit⟩ := chk_zero h0
    have hs300 := (fit_size l t 1 300 hfit).2
    have htx := text_any l (chk_names hc) hl64 t ⟨1, 300, hfit⟩ (by omega)
    clear hc hfit
    go_enter Tryd.func16, Tryd.ntmps16
    go_wp2_with (first
      | (go_at_call 19
         go_must (
         rw [HW.out]
         refine (termCheck_any l t As A l.length cs c W hS'.out hn ht'.out hf hA'.out).mono ?_
         rintro e w1 ⟨rfl, hb1⟩
         rw [h0]
         have x0 := (cells_one ((hb1.block _ (by omega)).trans p0)).1
         obtain ⟨x1, x2, _, _⟩ := cells_two ((hb1.block _ hWs).trans p1)))
      | (go_at_call 28
         go_must (
         refine (htx As A cs c w1 hf (hS'.out.on hb1) (hA'.out.on hb1)).mono ?_
         rintro e w2 ⟨rfl, hb2⟩))
      | fail)
    refine bodyPost_ret (v := .tuple #[.string (txtT l t), .int .i64 0]) (by simp [results, Tryd.results16, go_sem]) rfl ⟨by rw [hts.out, h0], hB.trans ((bl_step hb1 hb2).mono hB.size)⟩
  · have hts : Hid (textS l t = ByteArray.empty) := if_neg h0
    have h0' : chkT l t = 2 := by
      unfold chkT at h0 ⊢
      split
      · rfl
      · rename_i h1; rw [if_neg h1] at h0
        split
        · rename_i h2; rw [if_pos h2] at h0; exact absurd rfl h0
        · rfl
    go_enter Tryd.func16, Tryd.ntmps16
    go_wp2_with (first
      | (go_at_call 19
         go_must (
         rw [HW.out]
         refine (termCheck_any l t As A l.length cs c W hS'.out hn ht'.out hf hA'.out).mono ?_
         rintro e w1 ⟨rfl, hb1⟩
         rw [h0']))
      | fail)
    refine bodyPost_ret (v := .tuple #[.string ByteArray.empty, .int .i64 2]) (by simp [results, Tryd.results16, go_sem]; try rfl) rfl ⟨by rw [hts.out, h0'], hB.trans (hb1.mono hB.size)⟩
end Go.Proofs.YtimgomoafeaoiaaDoor
