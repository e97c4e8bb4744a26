/- Places. -/
import Derived.Test.YtimgomoafeaoiaaDoorB2
import Derived.Test.YtimgomoafeaoiaaDoorC0
import Derived.Lib.BufferMore
import Derived.OwnWalk
namespace Go.Proofs.YtimgomoafeaoiaaDoor
open Go.RowKit Go.Shelf
attribute [local go_sem] Oper.semAt_some
set_option maxRecDepth 100000

set_option maxHeartbeats 1000000 in
theorem posClone_any (l : List Int) (A : Option Addr) (c : Nat) (w : World) (hlen : l.length ≤ 4398046511104) (hA : Ints w w.heap.size A l) :
    Calls Tryd.prog 27 #[.slice A l.length c] w fun e w' => ∃ A' c', e = .returned (.slice A' l.length c') ∧ Ints w' w'.heap.size A' l ∧ Below w.heap.size w w' ∧ ∀ b off, A' = some ⟨b, off, none⟩ → w.heap.size ≤ b := by
  obtain ⟨i0, hi, hz0, hz1, hz2⟩ := info_parts infoInt
  have h64 := hA.i64
  cases A with
  | none =>
    have h0 : l.length = 0 := by
      rcases Nat.eq_zero_or_pos l.length with h | h
      · exact h
      · obtain ⟨_, _, e, _⟩ := hA.ad h; cases e
    have hl : l = [] := List.eq_nil_of_length_eq_zero h0
    subst hl
    have hnil := fun W => Lib.run_eql_slice_nil_nil (P := Tryd.prog) W 0 c Tryd.underlying26
    go_enter Tryd.func27, Tryd.ntmps27
    go_wp2
    go_ret
    exact ⟨none, 0, rfl, ⟨by simp, by simp, fun h => by simp at h⟩, Below.refl _ _, fun b off e => by cases e⟩
  | some a =>
    have hnil := fun W => Lib.run_eql_slice_some_nil (P := Tryd.prog) W a l.length c Tryd.underlying26
    go_enter Tryd.func27, Tryd.ntmps27
    have hown0 : (w.alloc (.cells #[] 3)).ownsRow w.heap.size 3 1 (.slice (some ⟨w.heap.size, 0, none⟩) 0 0) 0 [] := ⟨rfl, .inr ⟨w.heap.size, 0, #[], rfl, Nat.le_refl _, heap_alloc_new w _, Nat.le_refl _, by decide, rfl, rfl⟩⟩
    have hcl : ∀ (j : Nat) (u : Value), (l.map (Value.int .i64))[j]? = some u → (w.alloc (.cells #[] 3)).cell? (a.add j) = some u := by
      intro j u hu
      rw [List.getElem?_map] at hu
      cases hx : l[j]? with
      | none => rw [hx] at hu; cases hu
      | some x =>
        rw [hx] at hu
        injection hu with hu
        obtain ⟨b, off, e, hb, hc⟩ := hA.ad (by have := (List.getElem?_eq_some_iff.1 hx).1; omega)
        injection e with e
        subst e; subst hu
        have h3 := cell_on (o := off + j) ((Below.refl _ _).alloc (Nat.le_refl _) (.cells #[] 3)) hb (hc _ _ hx)
        rwa [show ((⟨b, off, none⟩ : Addr).add j) = ⟨b, off + j, none⟩ from by unfold Addr.add; split <;> simp_all]
    go_wp2_with (first
      | (at_builtin
         go_must (
         refine wpList_append_own _ rfl _ _ 26 rfl w.heap.size 3 i0 (.int .i64 0) 1 8 Tryd.underlying26 hi hz0 hz1 hz2 rfl (by decide) _ 0 _ rfl hown0 a l.length c (l.map (Value.int .i64)) rfl (by simp) hcl (by simp [Value.oneCell']) (by unfold maxLen; omega) (by omega) (by simp) ?_
         intro v1 w1 hown1 hgr1 _))
      | fail)
    go_ret
    rw [Nat.zero_add, List.nil_append] at hown1
    have hB1 : Below w.heap.size w w1 := ((Below.refl _ _).alloc (Nat.le_refl _) _).grown hgr1 (by simp) fun k e => (row_lt hown0 k e).1
    obtain ⟨A', c', rfl, hI⟩ := row_ints hown1 (by omega) h64
    refine ⟨A', c', rfl, hI, hB1, fun b off e => ?_⟩
    rcases hown1.2 with ⟨h1, _⟩ | ⟨g, cap, cur, h1, h2, _⟩
    · injection h1 with h1
      rw [h1] at e
      cases e
    · injection h1 with h1
      rw [h1] at e
      injection e with e
      injection e with e
      omega

theorem termPlaces_any (t : Tm) (A : Option Addr) (c : Nat) (w : World) (hsz : t.size ≤ 4398046511104) (hf : I64 t.fn) (hA : Args w w.heap.size A t.args) :
    Calls Tryd.prog 12 #[.agg #[.int .i64 t.fn, .slice A t.args.length c]] w fun e w' => e = .returned (.func (.func 25) #[] #[.pointer (some ⟨w.heap.size, 0, none⟩)]) ∧ Below w.heap.size w w' ∧
      ∃ A' c', w'.heap[w.heap.size]? = some (.cells #[.int .i64 t.fn, .slice A' t.args.length c'] 24) ∧ OwnT w' (w.heap.size + 1) w'.heap.size A' t.args := by
  obtain ⟨W, hW⟩ : ∃ W, w.alloc (.cells #[.int .i64 t.fn, .slice A t.args.length c] 24) = W := ⟨_, rfl⟩
  have hB : Below w.heap.size w W := by rw [← hW]; exact (Below.refl _ _).alloc (Nat.le_refl _) _
  have q0 : W.heap[w.heap.size]? = some (.cells #[.int .i64 t.fn, .slice A t.args.length c] 24) := by rw [← hW]; exact heap_alloc_new _ _
  have hWs : W.heap.size = w.heap.size + 1 := by rw [← hW]; simp
  have HW := Lib.hid hW
  clear hW
  go_enter Tryd.func12, Tryd.ntmps12
  go_wp2_with (first
    | (go_at_call 22
       go_must (
       rw [HW.out]
       refine (clone_any t hsz A c W hf (hA.on hB)).mono ?_
       rintro e w2 ⟨A4, c4, rfl, hO4, hb4⟩
       have y0 := (hb4.block _ (by omega)).trans q0
       obtain ⟨d0, d1, k0, k1⟩ := cells_two y0))
    | fail)
  go_ret
  obtain ⟨_, z1⟩ := set2_two (u := .int .i64 t.fn) (v := .slice A4 t.args.length c4) y0
  refine ⟨rfl, ((hB.trans (hb4.mono (by omega))).setCell (by show _ ≤ w.heap.size; omega) _).setCell (by show _ ≤ w.heap.size; omega) _, A4, c4, z1, ?_⟩
  refine OwnT.wide (lo := W.heap.size) (hi := w2.heap.size) (hO4.keep fun g h1 _ => ?_) (by omega) (by simp)
  exact (heap_setCell_other _ _ _ _ (by show g ≠ w.heap.size; omega)).trans (heap_setCell_other _ _ _ _ (by show g ≠ w.heap.size; omega))
end Go.Proofs.YtimgomoafeaoiaaDoor
