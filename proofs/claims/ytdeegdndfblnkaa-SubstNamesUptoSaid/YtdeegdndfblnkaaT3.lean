/- Compare, Same. -/
import Derived.Test.YtdeegdndfblnkaaT2
namespace Go.Proofs.Ytdeegdndfblnkaa
open Go.RowKit
set_option maxRecDepth 100000

theorem cmpT_h {f g : Int} {xs ys : List Tm} (h : ¬ headI f g = 0) : cmpT (.node f xs) (.node g ys) = headI f g := (cmpT_eq _ _).trans (if_pos h)
theorem cmpT_c {f g : Int} {xs ys : List Tm} (h : headI f g = 0) (h1 : ¬ cmpL xs ys = 0) : cmpT (.node f xs) (.node g ys) = cmpL xs ys := (cmpT_eq _ _).trans ((if_neg (fun e => e h)).trans (if_pos h1))
theorem cmpT_n {f g : Int} {xs ys : List Tm} (h : headI f g = 0) (h1 : cmpL xs ys = 0) : cmpT (.node f xs) (.node g ys) = numI xs.length ys.length := (cmpT_eq _ _).trans ((if_neg (fun e => e h)).trans (if_neg (fun e => e h1)))

set_option maxHeartbeats 2000000 in
theorem Compare_any (t : Tm) : CmpAt t := by
  refine Tm.ind (P := CmpAt) (fun f xs ih => ?_) t
  intro u A A2 c c2 w hf0 hg hA hA2
  obtain ⟨g, ys⟩ := u
  simp only [Tm.fn, Tm.args] at hf0 hg hA hA2 ⊢
  have hl1 := hA.len
  have hl2 := hA2.len
  obtain ⟨W, hW⟩ : ∃ W, (((w.alloc (.cells #[.int .i64 f, .slice A xs.length c] 31)).alloc (.cells #[.int .i64 g, .slice A2 ys.length c2] 31)).alloc (.cells #[.int .i64 f, .slice A xs.length c, .int .i64 g, .slice A2 ys.length c2] 149)) = W := ⟨_, rfl⟩
  have hWB : Below w.heap.size w W := by rw [← hW]; exact (((Below.refl _ _).alloc (Nat.le_refl _) _).alloc (by simp) _).alloc (by simp; omega) _
  have hS : ∀ w', Below W.heap.size W w' → w'.cell? ⟨w.heap.size, 1, none⟩ = some (.slice A xs.length c) ∧ w'.cell? ⟨w.heap.size + 1, 1, none⟩ = some (.slice A2 ys.length c2) ∧ w'.cell? ⟨w.heap.size + 1 + 1, 0, none⟩ = some (.int .i64 f) ∧ w'.cell? ⟨w.heap.size + 1 + 1, 1, none⟩ = some (.slice A xs.length c) ∧ w'.cell? ⟨w.heap.size + 1 + 1, 2, none⟩ = some (.int .i64 g) ∧ w'.cell? ⟨w.heap.size + 1 + 1, 3, none⟩ = some (.slice A2 ys.length c2) := by
    intro w' h
    refine ⟨cell_on h ?_ ?_, cell_on h ?_ ?_, cell_on h ?_ ?_, cell_on h ?_ ?_, cell_on h ?_ ?_, cell_on h ?_ ?_⟩ <;> (rw [← hW]; clear hW hWB h; first | (go_simp; done) | (simp; omega) | simp)
  have hA' := Lib.hid (hA.on hWB)
  have hA2' := Lib.hid (hA2.on hWB)
  have HW := Lib.hid hW
  clear hW
  have hSB : ∀ w1 w2, Below W.heap.size W w1 → Below w1.heap.size w1 w2 → Below W.heap.size W w2 := fun _ _ h1 h2 => bl_step h1 h2
  have hsz : w.heap.size ≤ W.heap.size := hWB.size
  have hfst := fun w1 (hb1 : Below W.heap.size W w1) => (fun (hle : ys.length < xs.length) => first_any f g xs ys A A2 c c2 ys.length w1 ih (Nat.le_of_lt hle) (Nat.le_refl _) (.inr rfl) (hA'.out.on hb1) (hA2'.out.on hb1))
  have hfst' := fun w1 (hb1 : Below W.heap.size W w1) => (fun (hle : ¬ ys.length < xs.length) => first_any f g xs ys A A2 c c2 xs.length w1 ih (Nat.le_refl _) (Nat.le_of_not_lt hle) (.inl rfl) (hA'.out.on hb1) (hA2'.out.on hb1))
  have hfst := Lib.hid hfst
  have hfst' := Lib.hid hfst'
  by_cases h0 : headI f g = 0
  · by_cases h1 : cmpL xs ys = 0
    · have hf := Lib.hid (cmpT_n h0 h1 : cmpT (.node f xs) (.node g ys) = numI xs.length ys.length)
      go_enter Try.func96, Try.ntmps96
      go_wp2_with (first
        | (go_at_call 124; rw [HW.out]; refine (heads_any f g _ _ W hf0 hg).mono ?_; rintro e w1 ⟨rfl, hb1⟩; rw [h0]; obtain ⟨x0, x1, x2, x3, x4, x5⟩ := hS _ hb1)
        | (go_at_call 125; (first | (have hle : ys.length < xs.length := (by assumption); refine (hfst.out w1 hb1 hle).mono ?_) | (have hle : ¬ ys.length < xs.length := (by assumption); refine (hfst'.out w1 hb1 hle).mono ?_)); rintro e w2 ⟨rfl, hb2⟩; rw [h1]; have hB2 := hSB _ _ hb1 hb2; obtain ⟨y0, y1, y2, y3, y4, y5⟩ := hS _ hB2)
        | (go_at_call 94; refine (cmpNum_any _ _ _).mono ?_; rintro e w3 ⟨rfl, hb3⟩; have hB3 := hSB _ _ hB2 hb3)
        | fail)
      all_goals
        go_ret
        exact ⟨ret_int hf.out.symm, hWB.trans (hB3.mono hsz)⟩
    · have hf := Lib.hid (cmpT_c h0 h1 : cmpT (.node f xs) (.node g ys) = cmpL xs ys)
      go_enter Try.func96, Try.ntmps96
      go_wp2_with (first
        | (go_at_call 124; rw [HW.out]; refine (heads_any f g _ _ W hf0 hg).mono ?_; rintro e w1 ⟨rfl, hb1⟩; rw [h0]; obtain ⟨x0, x1, x2, x3, x4, x5⟩ := hS _ hb1)
        | (go_at_call 125; (first | (have hle : ys.length < xs.length := (by assumption); refine (hfst.out w1 hb1 hle).mono ?_) | (have hle : ¬ ys.length < xs.length := (by assumption); refine (hfst'.out w1 hb1 hle).mono ?_)); rintro e w2 ⟨rfl, hb2⟩; have hB2 := hSB _ _ hb1 hb2)
        | fail)
      all_goals
        go_ret
        exact ⟨ret_int hf.out.symm, hWB.trans (hB2.mono hsz)⟩
  · have hf := Lib.hid (cmpT_h h0 : cmpT (.node f xs) (.node g ys) = headI f g)
    go_enter Try.func96, Try.ntmps96
    go_wp2_with (first
      | (go_at_call 124; rw [HW.out]; refine (heads_any f g _ _ W hf0 hg).mono ?_; rintro e w1 ⟨rfl, hb1⟩)
      | fail)
    go_ret
    exact ⟨ret_int hf.out.symm, hWB.trans (hb1.mono hsz)⟩

set_option maxHeartbeats 400000 in
theorem termSame_any (t u : Tm) (A A2 : Option Addr) (c c2 : Nat) (w : World) (hf : I64 t.fn) (hg : I64 u.fn) (hA : Args w w.heap.size A t.args) (hA2 : Args w w.heap.size A2 u.args) :
    Calls Try.prog 54 #[.agg #[.int .i64 t.fn, .slice A t.args.length c], .agg #[.int .i64 u.fn, .slice A2 u.args.length c2]] w fun e w' => e = .returned (.bool (decide (cmpT t u = 0))) ∧ Below w.heap.size w w' := by
  have hWB : Below w.heap.size w ((w.alloc (.cells #[.int .i64 t.fn, .slice A t.args.length c] 31)).alloc (.cells #[.int .i64 u.fn, .slice A2 u.args.length c2] 31)) := ((Below.refl _ _).alloc (Nat.le_refl _) _).alloc (by simp) _
  go_enter Try.func54, Try.ntmps54
  go_wp2_with (first
    | (go_at_call 96; refine (Compare_any t u A A2 c c2 _ hf hg (hA.on hWB) (hA2.on hWB)).mono ?_; rintro e w1 ⟨rfl, hb1⟩; have hB1 := bl_step hWB hb1)
    | fail)
  go_ret
  exact ⟨rfl, hB1⟩
end Go.Proofs.Ytdeegdndfblnkaa
