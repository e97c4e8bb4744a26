/- Rows that are sorted are one; wakes. -/
import Derived.Test.YtdeegdndfblnkaaU16
namespace Go.Proofs.Ytdeegdndfblnkaa
open Go.RowKit Go.Shelf
set_option maxRecDepth 100000

theorem bd_cells {w w1 : World} {b : Nat} {v f : Int} (h : w.heap[b]? = some (.cells #[.int .i64 v, .int .i64 f, .slice none 0 0] 77)) (hb : Below w.heap.size w w1) (hv : I64 v) (hf : I64 f) : Binds w1 (· < w1.heap.size) (some ⟨b, 0, none⟩) [⟨v, .node f []⟩] := by
  have hlt := (Array.getElem?_eq_some_iff.1 h).1
  obtain ⟨c0, c1, c2, _, _, _⟩ := cells_three ((hb.block b hlt).trans h)
  refine ⟨by simp, fun _ => ⟨b, 0, rfl, Nat.lt_of_lt_of_le hlt hb.size, fun i x hx => ?_⟩⟩
  match i, hx with
  | 0, hx =>
    simp only [List.getElem?_cons_zero, Option.some.injEq] at hx
    subst hx
    exact ⟨none, 0, c0, c1, c2, hv, hf, .nil _⟩
  | i + 1, hx => simp at hx

theorem comp_wakes {S : List Bd} (hp : S.Perm (bothB [⟨0, .node (-2) []⟩] [⟨1, .node 1 []⟩])) (hs : S.Pairwise fun x y => x.v ≤ y.v) : (S.filter fun x => !decide (selfB x)) = [⟨0, .node 1 []⟩, ⟨1, .node 1 []⟩] := by
  have hb : bothB [⟨0, .node (-2) []⟩] [⟨1, .node 1 []⟩] = [⟨0, .node 1 []⟩, ⟨1, .node 1 []⟩] := by
    unfold bothB thenB hasB
    simp [findB, bdT, appT]
  rw [hb] at hp
  have hS : S = [⟨0, .node 1 []⟩, ⟨1, .node 1 []⟩] := by
    refine List.Perm.eq_of_pairwise (le := fun x y : Bd => x.v ≤ y.v) (fun x y hx hy h1 h2 => ?_) hs (by simp) hp
    have hx' := hp.mem_iff.1 hx
    simp only [List.mem_cons, List.not_mem_nil, or_false] at hx' hy
    rcases hx' with rfl | rfl <;> rcases hy with rfl | rfl <;> first | rfl | (simp at h1 h2)
  rw [hS]
  simp [selfB, Tm.fn, Tm.args]

/-- What Compose makes of the two that wakes hands over. -/
def TwoPost (w : World) (e : Ending) (w' : World) : Prop :=
  ∃ b off c', e = .returned (.tuple #[.slice (some ⟨b, off, none⟩) 2 c', .int .i64 0]) ∧ Binds w' (· < w'.heap.size) (some ⟨b, off, none⟩) [⟨0, .node 1 []⟩, ⟨1, .node 1 []⟩] ∧ b < w'.heap.size ∧ w'.cell? ⟨b, off + 1, none⟩ = some (.int .i64 1) ∧ w'.cell? ⟨b, off + 3 + 1, none⟩ = some (.int .i64 1) ∧ Below w.heap.size w w'
theorem comp_two (w : World) (b1 b2 : Nat) (h1 : w.heap[b1]? = some (.cells #[.int .i64 0, .int .i64 (-2), .slice none 0 0] 77)) (h2 : w.heap[b2]? = some (.cells #[.int .i64 1, .int .i64 1, .slice none 0 0] 77)) :
    Calls Try.prog 45 #[.slice (some ⟨b1, 0, none⟩) 1 1, .slice (some ⟨b2, 0, none⟩) 1 1] w (TwoPost w) := by
  refine (compose_yes [⟨0, .node (-2) []⟩] [⟨1, .node 1 []⟩] _ 1 _ 1 w (by simp) (by simp) (by simp [Tm.size, sizes]) (by simp [Tm.size, sizes]) (bd_cells h1 (Below.refl _ _) ⟨by decide, by decide⟩ ⟨by decide, by decide⟩) (bd_cells h2 (Below.refl _ _) ⟨by decide, by decide⟩ ⟨by decide, by decide⟩) (by decide) (by decide)).mono ?_
  rintro e w' ⟨A', c', S, rfl, hp, hs, hB, hb⟩
  rw [comp_wakes hp hs] at hB ⊢
  obtain ⟨b, off, hA, hN, hc⟩ := hB.ad (by simp)
  obtain ⟨_, _, _, k0, _⟩ := hc 0 _ rfl
  obtain ⟨_, _, _, k1, _⟩ := hc 1 _ rfl
  rw [Nat.zero_mul, Nat.add_zero] at k0
  rw [Nat.one_mul] at k1
  subst hA
  exact ⟨b, off, c', rfl, hB.wide fun g e => e.2, hN.2, k0, k1, hb⟩

theorem heap4s (w : World) (o1 o2 o3 o4 : Obj) : ((((w.alloc o1).alloc o2).alloc o3).alloc o4).heap[w.heap.size + 2]? = some o3 ∧ ((((w.alloc o1).alloc o2).alloc o3).alloc o4).heap[w.heap.size + 3]? = some o4 := by
  obtain ⟨h1, h2, h3⟩ := heap3 w o1 o2 o3
  have e3 : (((w.alloc o1).alloc o2).alloc o3).heap.size = w.heap.size + 3 := by simp
  refine ⟨?_, ?_⟩
  · rw [Below.heap_alloc _ _ _ (by omega)]; exact h3
  · rw [← e3]; exact heap_alloc_new _ o4

theorem apply_two (w : World) (b off c : Nat) (hB : Binds w (· < w.heap.size) (some ⟨b, off, none⟩) [⟨0, .node 1 []⟩, ⟨1, .node 1 []⟩]) :
    Calls Try.prog 24 #[.slice (some ⟨b, off, none⟩) 2 c, .agg #[.int .i64 (-1), .slice none 0 0]] w fun e w' => (∃ A c', e = .returned (.agg #[.int .i64 1, .slice A 0 c'])) ∧ Below w.heap.size w w' := by
  refine (apply_any [⟨0, .node 1 []⟩, ⟨1, .node 1 []⟩] _ c (.node (-1) []) none 0 w (by simp [Tm.size, sizes]) (by simp) hB (pairwise_rise (by simp)) (by simp [Tm.size, sizes]) ⟨by decide, by decide⟩ (.nil _)).mono ?_
  rintro e w' ⟨A', c', rfl, _, _, hb⟩
  have ht : appT (bdT [⟨0, .node 1 []⟩, ⟨1, .node 1 []⟩]) (.node (-1) []) = .node 1 [] := by simp [findB, bdT, appT]
  rw [ht]
  exact ⟨⟨_, _, rfl⟩, hb⟩
theorem check_one (w : World) (b : Nat) (h : w.heap[b]? = some (.cells #[.int .i64 0, .int .i64 (-1), .slice none 0 0] 77)) :
    Calls Try.prog 16 #[.slice (some ⟨b, 0, none⟩) 1 1] w fun e w' => e = .returned (.int .i64 2) ∧ Below w.heap.size w w' :=
  subCheck_no [⟨0, .node (-1) []⟩] _ 1 w (by simp) (bd_cells h (Below.refl _ _) ⟨by decide, by decide⟩ ⟨by decide, by decide⟩) (by decide)

set_option maxHeartbeats 4000000 in
theorem subWakes_any (w : World) : Calls Try.prog 12 #[] w fun e w' => e = .returned (.bool true) ∧ Below w.heap.size w w' := by
  go_enter Try.func12, Try.ntmps12
  go_upto_region 3 with (first
    | (go_at_call 45; refine (comp_two _ _ _ (heap4s w _ _ _ _).1 (heap4s w _ _ _ _).2).mono ?_; go_must (rintro e w1 ⟨b, off, c1, rfl, hB, hbl, k0, k1, hb1⟩; have hb1 := ((((Below.refl w.heap.size w).alloc (Nat.le_refl _) _).alloc (by simp) _).alloc (by simp; omega) _ |>.alloc (by simp; omega) _).trans (hb1.mono (by simp; omega)); have hB := Lib.hid hB))
    | fail)
  have hfd : ∀ (A : Option Addr) (c : Nat) (w : World), (Instr.field 31 (.agg #[.int .i64 1, .slice A 0 c]) 0).run Try.prog w = .ok (.int .i64 1) w := fun _ _ _ => by kernel_rfl
  go_wp2_with (first
    | (go_at_call 24; refine (apply_two w1 b off c1 hB.out).mono ?_; go_must (rintro e w2 ⟨⟨A2, c2, rfl⟩, hb2⟩))
    | (go_at_call 16; refine (check_one _ _ (heap_alloc_new _ _)).mono ?_; go_must (rintro e w3 ⟨rfl, hb3⟩))
    | fail)

  go_ret
  exact ⟨rfl, hb1.trans ((hb2.mono hb1.size).trans (((Below.refl _ _).alloc (Nat.le_trans hb1.size hb2.size) _).trans (hb3.mono (by have := hb1.size; have := hb2.size; simp; omega))))⟩
end Go.Proofs.Ytdeegdndfblnkaa
