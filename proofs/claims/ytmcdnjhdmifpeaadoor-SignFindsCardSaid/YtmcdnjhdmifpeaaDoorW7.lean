/- slices.Clone at symbols. -/
import Derived.Test.YtmcdnjhdmifpeaaDoorW6
import Derived.Lib.SliceRun
namespace Go.Proofs.YtmcdnjhdmifpeaaDoor
open Go.RowKit

theorem Own.empty_ (w : World) : Own (w.alloc (.cells #[] 33)) w.heap.size (.slice (some ⟨w.heap.size, 0, none⟩) 0 0) [] :=
  ⟨⟨rfl, .inr ⟨w.heap.size, 0, #[], rfl, Nat.le_refl _, heap_alloc_new w _, Nat.le_refl _, Nat.zero_le _, rfl, rfl⟩⟩, fun x hx => by simp at hx⟩

/-- The slice v, in new memory, holds l. -/
def ClonePost (l : List Sm) (w : World) (e : Ending) (w' : World) : Prop := ∃ A c, e = .returned (.slice A l.length c) ∧ Own w' w.heap.size (.slice A l.length c) l ∧ Below w.heap.size w w'

set_option maxHeartbeats 400000 in
theorem Clone_any (A : Option Addr) (n c : Nat) (l : List Sm) (w : World) (h : Syms w w.heap.size A n l) (hn : n * 32 ≤ 140737488351232) :
    Calls Tryd.prog 28 #[.slice A n c] w (ClonePost l w) := by
  obtain rfl : l.length = n := h.len
  have hnil := fun (w : World) (a : Option Addr) (n c : Nat) => Lib.run_eql_slice_nil (P := Tryd.prog) w 22 33 a n c 0 0 Tryd.underlying22
  rcases A with _ | ad
  · have h0 : l = [] := by
      rcases Nat.eq_zero_or_pos l.length with h0 | h0
      · exact List.eq_nil_of_length_eq_zero h0
      · obtain ⟨_, _, e, _⟩ := h.ad h0
        cases e
    subst h0
    go_enter Tryd.func28, Tryd.ntmps28
    go_wp2
    go_ret
    exact ⟨none, 0, rfl, Own.nil_ _ _, Below.refl _ _⟩
  · go_enter Tryd.func28, Tryd.ntmps28
    go_wp2_with (first
    | (at_builtin
       refine wpList_append_syms rfl _ _ rfl (.slice (some ⟨w.heap.size, 0, none⟩) 0 0) [] rfl w.heap.size (Own.empty_ w) (some ad) l.length c w.heap.size l rfl (h.below ((Below.refl _ _).alloc (Nat.le_refl _) _)) (by simp; omega) (by simp) ?_
       intro A' c' w1 hown1 hg1
       have hB1 := ((Below.refl w.heap.size w).alloc (Nat.le_refl _) _).grown hg1 (by simp) (fun k hk => by simp [Value.ownBlock] at hk; omega)
       clear hg1)
    | fail)
    go_ret
    simp only [List.length_nil, Nat.zero_add, List.nil_append] at hown1
    exact ⟨A', c', rfl, hown1, hB1⟩
end Go.Proofs.YtmcdnjhdmifpeaaDoor
