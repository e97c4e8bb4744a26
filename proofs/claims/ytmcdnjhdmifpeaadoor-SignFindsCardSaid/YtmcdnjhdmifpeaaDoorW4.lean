/- Copies; the plain check of a signature. -/
import Derived.Test.YtmcdnjhdmifpeaaDoorL1
import Derived.Test.YtmcdnjhdmifpeaaDoorW3
namespace Go.Proofs.YtmcdnjhdmifpeaaDoor
open Go.RowKit

/-- The value v is the signature l. -/
def IsSig (w : World) (l : List Sm) (v : Value) : Prop := ∃ A c, v = .agg #[.slice A l.length c] ∧ Syms w w.heap.size A l.length l
def SigPost (l : List Sm) (w : World) (e : Ending) (w' : World) : Prop := ∃ v, e = .returned v ∧ IsSig w' l v ∧ Below w.heap.size w w'

/-- What a cell beneath the first B blocks holds behind more of them. -/
theorem cell_on {B : Nat} {W w1 : World} (hb : Below B W w1) {b o : Nat} {v : Value} (hlt : b < B) (h : W.cell? ⟨b, o, none⟩ = some v) : w1.cell? ⟨b, o, none⟩ = some v := (hb.cell (p := ⟨b, o, none⟩) hlt).trans h
theorem frozen_on {B : Nat} {W w1 : World} (hb : Below B W w1) {b o : Nat} {x : Bool} (hlt : b < B) (h : W.frozen? ⟨b, o, none⟩ = x) : w1.frozen? ⟨b, o, none⟩ = x := (hb.frozen (p := ⟨b, o, none⟩) hlt).trans h

set_option maxHeartbeats 400000 in
theorem Copy_any (A : Option Addr) (n c : Nat) (l : List Sm) (w : World) (h : Syms w w.heap.size A n l) (hn : n * 32 ≤ 140737488351232) :
    Calls Tryd.prog 10 #[.agg #[.slice A n c]] w (SigPost l w) := by
  obtain rfl : l.length = n := h.len
  go_enter Tryd.func10, Tryd.ntmps10
  go_wp2_with (first
    | (at_builtin
       refine wpList_append_syms rfl _ _ rfl (.slice none 0 0) [] rfl (w.heap.size + 3) (Own.nil_ _ _) A l.length c w.heap.size l rfl (h.below ((((Below.refl _ _).alloc (Nat.le_refl _) _).alloc (by simp) _).alloc (by simp; omega) _)) (by simp; omega) (by first | (simp; done) | (simp; omega)) ?_
       intro A' c' w1 hown1 hg1
       have hb1 := (Below.refl _ _).grown hg1 (Nat.le_refl _) (by simp [Value.ownBlock])
       have hz1 := hb1.size
       have hB1 := bl_step ((((Below.refl w.heap.size w).alloc (Nat.le_refl _) _).alloc (by simp) _).alloc (by simp; omega) _) hb1
       have s2 := cell_on hb1 (b := w.heap.size + 1 + 1) (o := 0) (v := .slice none 0 0) (by simp) (by go_simp)
       have f2 := frozen_on hb1 (b := w.heap.size + 1 + 1) (o := 0) (x := false) (by simp) (by go_simp)
       have s1 := cell_on hb1 (b := w.heap.size + 1) (o := 0) (v := .slice none 0 0) (by simp) (by go_simp)
       have f1 := frozen_on hb1 (b := w.heap.size + 1) (o := 0) (x := false) (by simp) (by go_simp)
       simp at hz1
       clear hg1 hb1)
    | fail)
  refine bodyPost_ret (v := .agg #[.slice A' l.length c']) (by simp [results, Tryd.results10, go_sem, s1]) rfl ⟨_, rfl, ⟨A', c', rfl, ?_⟩, ?_⟩
  · simp only [List.length_nil, Nat.zero_add, List.nil_append] at hown1
    have := ((hown1.setCell (p := ⟨w.heap.size + 1 + 1, 0, none⟩) (by simp) (.slice A' l.length c')).setCell (p := ⟨w.heap.size + 1, 0, none⟩) (by simp) (.slice A' l.length c')).syms
    exact this
  · exact (hB1.setCell (by simp; omega) _).setCell (by simp) _
end Go.Proofs.YtmcdnjhdmifpeaaDoor
