/- clone, Move. -/
import Derived.Test.YtdeegdndfblnkaaU3
namespace Go.Proofs.Ytdeegdndfblnkaa
open Go.RowKit Go.Shelf
set_option maxRecDepth 100000

mutual
theorem renT_id {σ : Type} (s : σ) : ∀ t : Tm, renT (fun (s : σ) v => (s, v)) s t = (s, t)
  | .node f xs => by
    have hF : renF (fun (s : σ) v => (s, v)) s f = (s, f) := by
      unfold renF
      split
      · simp only; rw [show -1 - (-1 - f) = f by omega]
      · rfl
    simp only [renT, hF, renL_id s xs]
theorem renL_id {σ : Type} (s : σ) : ∀ xs : List Tm, renL (fun (s : σ) v => (s, v)) s xs = (s, xs)
  | [] => by simp only [renL]
  | t :: ts => by simp only [renL, renT_id s t, renL_id s ts]
end

theorem clone1_any (v : Int) (w : World) : Calls Try.prog 95 #[.int .i64 v] w fun e w' => e = .returned (.int .i64 v) ∧ w' = w := by
  go_enter Try.func95, Try.ntmps95
  go_wp2
  go_ret
  exact ⟨rfl, rfl⟩
theorem clone1_num (B0 : Nat) : NumC (fun (s : Unit) v => (s, v)) 95 #[] (fun _ => False) (fun _ => False) (· < B0) (fun _ _ => True) B0 where
  ent := enters_of Try.func95 (by kernel_rfl) rfl
  call := fun s v W _ _ h0 h1 => (clone1_any v W).mono fun e w' ⟨he, hw⟩ => ⟨he, ⟨by omega, h1⟩, trivial, by rw [hw]; exact KeepsC.refl _ _⟩
  stay := fun _ _ _ _ _ => trivial
  cb := fun _ e => e.elim
  db := fun _ e => e.elim
  nb := fun _ e => e
  nc := fun _ _ e => e

/-- A copy of t, in new memory. -/
def CopyPost (t : Tm) (w : World) (e : Ending) (w' : World) : Prop := ∃ A' c', e = .returned (.agg #[.int .i64 t.fn, .slice A' t.args.length c']) ∧ OwnT w' w.heap.size w'.heap.size A' t.args ∧ Below w.heap.size w w'

set_option maxHeartbeats 1000000 in
theorem subClone_any (t : Tm) (hsz : t.size ≤ 4398046511104) (A : Option Addr) (c : Nat) (w : World) (hf : I64 t.fn) (hA : Args w w.heap.size A t.args) :
    Calls Try.prog 48 #[.agg #[.int .i64 t.fn, .slice A t.args.length c]] w (CopyPost t w) := by
  obtain ⟨q0, q1⟩ := heap2 w (.cells #[.int .i64 t.fn, .slice A t.args.length c] 31) (.cells #[.int .i64 0, .slice none 0 0] 31)
  obtain ⟨W, hW⟩ : ∃ W, ((w.alloc (.cells #[.int .i64 t.fn, .slice A t.args.length c] 31)).alloc (.cells #[.int .i64 0, .slice none 0 0] 31)) = W := ⟨_, rfl⟩
  have hB : Below w.heap.size w W := by rw [← hW]; exact ((Below.refl _ _).alloc (Nat.le_refl _) _).alloc (by simp) _
  rw [hW] at q0 q1
  have hWs : w.heap.size + 1 < W.heap.size := (Array.getElem?_eq_some_iff.1 q1).1
  have hren := Lib.hid (rename_any (clone1_num W.heap.size) t hsz () A c W (Nat.le_refl _) trivial hf (hA.on hB).toN)
  have HW := Lib.hid hW
  obtain ⟨a0, a1, _, _⟩ := cells_two q0
  clear hW hA
  go_enter Try.func48, Try.ntmps48
  go_upto_region 1 with fail
  rw [HW.out]
  go_wp2_with (first
    | (go_at_call 63; refine hren.out.mono ?_; go_must (rintro e w3 ⟨A3, c3, rfl, _, hO3, _, hk3⟩; rw [renT_id] at hO3 ⊢; have hb3 := hk3.none; have y3 := (hb3.block _ hWs).trans q1; obtain ⟨b0, b1, g0, g1⟩ := cells_two y3; have hO3 := Lib.hid hO3))
    | fail)
  obtain ⟨z0, z1⟩ := set2_two (u := .int .i64 t.fn) (v := .slice A3 t.args.length c3) y3
  have p0 := (cells_two z0).1
  have p1 := (cells_two z1).2.1
  have hoth : ∀ g, g ≠ w.heap.size + 1 → ((w3.setCell ⟨w.heap.size + 1, 0, none⟩ (.int .i64 t.fn)).setCell ⟨w.heap.size + 1, 1, none⟩ (.slice A3 t.args.length c3)).heap[g]? = w3.heap[g]? := fun g e => (heap_setCell_other _ _ _ _ e).trans (heap_setCell_other _ _ _ _ e)
  refine bodyPost_ret (v := .agg #[.int .i64 t.fn, .slice A3 t.args.length c3]) (by simp [results, Try.results48, go_sem, p0, p1]) rfl ⟨A3, c3, rfl, ?_, ?_⟩
  · exact OwnT.wide (lo := W.heap.size) (hi := w3.heap.size) (hO3.out.keep fun g h1 _ => hoth g (by omega)) (by omega) (by simp)
  · exact ((hB.trans (hb3.mono (by omega))).setCell (by show _ ≤ w.heap.size + 1; omega) _).setCell (by show _ ≤ w.heap.size + 1; omega) _

/-- A variable's number moved, where it may be. -/
def movI (b v : Int) : Int := if (0 < b ∧ v ≤ 2147483647 - b) ∨ (b ≤ 0 ∧ 0 ≤ v + b ∧ v + b ≤ 2147483647) then v + b else v
theorem within_any (v b : Int) (w : World) (h0 : 0 ≤ v) (h1 : v ≤ 9223372036854775807) (hb : I64 b) :
    Calls Try.prog 70 #[.int .i64 v, .int .i64 b] w fun e w' => e = .returned (.bool (decide ((0 < b ∧ v ≤ 2147483647 - b) ∨ (b ≤ 0 ∧ 0 ≤ v + b ∧ v + b ≤ 2147483647)))) ∧ w' = w := by
  have hlo := hb.1
  have hhi := hb.2
  by_cases hp : 0 < b
  · have hp' : b > 0 := hp
    go_enter Try.func70, Try.ntmps70
    go_wp2
    go_ret
    exact ⟨ret_bool (by first | (rw [decide_eq_decide]; omega) | (simp; omega)), rfl⟩
  · have hp' : ¬ b > 0 := hp
    by_cases hq : 0 ≤ v + b
    · go_enter Try.func70, Try.ntmps70
      go_wp2
      go_ret
      exact ⟨ret_bool (by first | (rw [decide_eq_decide]; omega) | (simp; omega)), rfl⟩
    · go_enter Try.func70, Try.ntmps70
      go_wp2
      go_ret
      exact ⟨ret_bool (by first | (rw [decide_eq_decide]; omega) | (simp; omega)), rfl⟩
/-- Move's own function, with the number in its box. -/
theorem move1_any (v b : Int) (bx : Nat) (w : World) (h0 : 0 ≤ v) (h1 : v ≤ 9223372036854775807) (hb : I64 b) (hbx : Boxed w bx 3 (.int .i64 b)) :
    Calls Try.prog 69 #[.int .i64 v, .pointer (some ⟨bx, 0, none⟩)] w fun e w' => e = .returned (.int .i64 (movI b v)) ∧ w' = w := by
  have hc := Boxed.cell hbx
  have hlo := hb.1
  have hhi := hb.2
  by_cases hp : (0 < b ∧ v ≤ 2147483647 - b) ∨ (b ≤ 0 ∧ 0 ≤ v + b ∧ v + b ≤ 2147483647)
  · have hm := Lib.hid (show movI b v = v + b by unfold movI; rw [if_pos hp])
    have hw := within_any v b w h0 h1 hb
    rw [decide_eq_true hp] at hw
    have hw := Lib.hid hw
    have hr : v + b ≤ 9223372036854775807 ∧ -9223372036854775808 ≤ v + b := by omega
    obtain ⟨hr1, hr2⟩ := hr
    clear hp
    go_enter Try.func69, Try.ntmps69
    go_wp2_with (first
      | (go_at_call 70; refine hw.out.mono ?_; go_must (rintro e w1 ⟨rfl, rfl⟩))
      | fail)
    go_ret
    exact ⟨ret_int hm.out.symm, rfl⟩
  · have hm := Lib.hid (show movI b v = v by unfold movI; rw [if_neg hp])
    have hw := within_any v b w h0 h1 hb
    rw [decide_eq_false hp] at hw
    have hw := Lib.hid hw
    clear hp
    go_enter Try.func69, Try.ntmps69
    go_wp2_with (first
      | (go_at_call 70; refine hw.out.mono ?_; go_must (rintro e w1 ⟨rfl, rfl⟩))
      | fail)
    go_ret
    exact ⟨ret_int hm.out.symm, rfl⟩
theorem movI_i64 {b v : Int} (hb : I64 b) (h0 : 0 ≤ v) (h1 : v ≤ 9223372036854775807) : I64 (movI b v) := by
  have hlo := hb.1
  have hhi := hb.2
  unfold movI
  split
  · exact ⟨by omega, by omega⟩
  · exact ⟨by omega, h1⟩
theorem move1_num (b : Int) (hb : I64 b) (bx B0 : Nat) (N : Nat → Prop) (hN : ∀ g, N g → g < B0) (hbx : bx < B0) : NumC (fun (s : Unit) v => (s, movI b v)) 69 #[.pointer (some ⟨bx, 0, none⟩)] (fun _ => False) (· = bx) N (fun _ W => Boxed W bx 3 (.int .i64 b)) B0 where
  ent := enters_of Try.func69 (by kernel_rfl) rfl
  call := fun s v W _ hI h0 h1 => (move1_any v b bx W h0 h1 hb hI).mono fun e w' ⟨he, hw⟩ => ⟨he, movI_i64 hb h0 h1, by rw [hw]; exact hI, by rw [hw]; exact KeepsC.refl _ _⟩
  stay := fun _ W W' hI hk => (hk.block bx rfl).trans hI
  cb := fun _ e => e.elim
  db := fun g e => by have e' : g = bx := e; omega
  nb := hN
  nc := fun _ _ e => e

/-- The term with its variables moved. -/
def movT (b : Int) (t : Tm) : Tm := (renT (fun (s : Unit) v => (s, movI b v)) () t).2
def TermPost (t : Tm) (w : World) (e : Ending) (w' : World) : Prop := ∃ A' c', e = .returned (.agg #[.int .i64 t.fn, .slice A' t.args.length c']) ∧ I64 t.fn ∧ OwnT w' w.heap.size w'.heap.size A' t.args ∧ Below w.heap.size w w'

set_option maxHeartbeats 1000000 in
theorem subMove_any (t : Tm) (b : Int) (hsz : t.size ≤ 4398046511104) (A : Option Addr) (c : Nat) (w : World) (hf : I64 t.fn) (hb : I64 b) (hA : Args w w.heap.size A t.args) :
    Calls Try.prog 31 #[.agg #[.int .i64 t.fn, .slice A t.args.length c], .int .i64 b] w (TermPost (movT b t) w) := by
  obtain ⟨q0, q1, q2⟩ := heap3 w (.cells #[.int .i64 t.fn, .slice A t.args.length c] 31) (.cells #[.int .i64 b] 3) (.cells #[.int .i64 0, .slice none 0 0] 31)
  obtain ⟨W, hW⟩ : ∃ W, (((w.alloc (.cells #[.int .i64 t.fn, .slice A t.args.length c] 31)).alloc (.cells #[.int .i64 b] 3)).alloc (.cells #[.int .i64 0, .slice none 0 0] 31)) = W := ⟨_, rfl⟩
  have hB : Below w.heap.size w W := by rw [← hW]; exact (((Below.refl _ _).alloc (Nat.le_refl _) _).alloc (by simp) _).alloc (by simp; omega) _
  rw [hW] at q0 q1 q2
  have hWs : w.heap.size + 1 + 1 < W.heap.size := (Array.getElem?_eq_some_iff.1 q2).1
  have hren := Lib.hid (rename_any (move1_num b hb (w.heap.size + 1) W.heap.size (· < W.heap.size) (fun _ e => e) (by omega)) t hsz () A c W (Nat.le_refl _) q1 hf (hA.on hB).toN)
  have HW := Lib.hid hW
  have hmt := Lib.hid (show (renT (fun (s : Unit) v => (s, movI b v)) () t).2 = movT b t from rfl)
  obtain ⟨a0, a1, _, _⟩ := cells_two q0
  clear hW hA
  go_enter Try.func31, Try.ntmps31
  go_upto_region 1 with fail
  rw [HW.out]
  go_wp2_with (first
    | (go_at_call 63; refine hren.out.mono ?_; go_must (rintro e w3 ⟨A3, c3, rfl, hi3, hO3, _, hk3⟩; rw [hmt.out] at hi3 hO3 ⊢; have hb3 := hk3.none; have y3 := (hb3.block _ hWs).trans q2; obtain ⟨b0, b1, g0, g1⟩ := cells_two y3; have hO3 := Lib.hid hO3))
    | fail)
  obtain ⟨z0, z1⟩ := set2_two (u := .int .i64 (movT b t).fn) (v := .slice A3 (movT b t).args.length c3) y3
  have p0 := (cells_two z0).1
  have p1 := (cells_two z1).2.1
  have hoth : ∀ g, g ≠ w.heap.size + 1 + 1 → ((w3.setCell ⟨w.heap.size + 1 + 1, 0, none⟩ (.int .i64 (movT b t).fn)).setCell ⟨w.heap.size + 1 + 1, 1, none⟩ (.slice A3 (movT b t).args.length c3)).heap[g]? = w3.heap[g]? := fun g e => (heap_setCell_other _ _ _ _ e).trans (heap_setCell_other _ _ _ _ e)
  refine bodyPost_ret (v := .agg #[.int .i64 (movT b t).fn, .slice A3 (movT b t).args.length c3]) (by simp [results, Try.results31, go_sem, p0, p1]) rfl ⟨A3, c3, rfl, hi3, ?_, ?_⟩
  · exact OwnT.wide (lo := W.heap.size) (hi := w3.heap.size) (hO3.out.keep fun g h1 _ => hoth g (by omega)) (by omega) (by simp)
  · exact ((hB.trans (hb3.mono (by omega))).setCell (by show _ ≤ w.heap.size + 1 + 1; omega) _).setCell (by show _ ≤ w.heap.size + 1 + 1; omega) _
end Go.Proofs.Ytdeegdndfblnkaa
