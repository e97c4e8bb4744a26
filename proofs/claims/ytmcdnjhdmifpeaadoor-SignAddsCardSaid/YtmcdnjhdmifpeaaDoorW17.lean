/- SignAdds: the law's call answers true. -/
import Derived.Test.YtmcdnjhdmifpeaaDoorW14
import Derived.Test.YtmcdnjhdmifpeaaDoorW16
namespace Go.Proofs.YtmcdnjhdmifpeaaDoor
open Go.RowKit

theorem addL_len64 {l m : List Sm} {n : Nat} (h : l.length = n) (hn : n * 32 ≤ 140737488351232) (hm : m.length * 32 ≤ 140737488351232) : (addL l m).length ≤ 9223372036854775807 := by
  unfold addL
  split
  · have := addAll_len' l m
    omega
  · simp

set_option maxRecDepth 100000 in
set_option maxHeartbeats 4000000 in
theorem SignAdds_any (A A' : Option Addr) (n n' c c' : Nat) (l m : List Sm) (w : World) (h : Syms w w.heap.size A n l) (hm : Syms w w.heap.size A' n' m) (hn : n * 32 ≤ 140737488351232) (hn' : n' * 32 ≤ 140737488351232) (ht : tru w) :
    Calls Tryd.prog 5 #[.agg #[.slice A n c], .slice A' n' c'] w fun e w' => e = .returned (.bool true) ∧ Below w.heap.size w w' := by
  obtain rfl := hm.len
  have hbx : Below w.heap.size w (w.alloc (.cells #[.slice A n c] 24)) := (Below.refl _ _).alloc (Nat.le_refl _) _
  have Hk := Lib.hid (addL_len64 h.len hn hn')
  have Hl := Lib.hid h
  have Hm := Lib.hid hm
  have Ht := Lib.hid ht
  clear h hm ht
  go_enter Tryd.func5, Tryd.ntmps5
  go_wp2_with (first
    | (at_builtin
       refine wpList_append_syms rfl _ _ rfl (.slice none 0 0) [] rfl (w.heap.size + 1) (Own.nil_ _ _) A' m.length c' w.heap.size m rfl (Hm.out.below hbx) (by simp; omega) (by simp) ?_
       intro A1 c1 w1 hown1 hg1
       have hb1 := (Below.refl _ _).grown hg1 (Nat.le_refl _) (by simp [Value.ownBlock])
       have z1 := cell_on hb1 (b := w.heap.size) (o := 0) (v := .slice A n c) (by simp) (by go_simp)
       have hB1 : Below w.heap.size w w1 := bl_step hbx hb1
       have hz1 : w.heap.size < w1.heap.size := cell_lt z1
       have Hs1 : Hid (Syms w1 w1.heap.size A1 m.length m) := by have := hown1.syms; simpa [Hid] using this
       clear hg1 hb1 hown1)
    | (go_at_call 10
       refine (Copy_any _ _ _ l _ (Hl.out.on hB1) hn).mono ?_
       rintro e w2 ⟨v2, rfl, ⟨A2, c2, rfl, hs2⟩, hb2⟩
       have z2 := cell_on hb2 hz1 z1
       have hz2 : w.heap.size < w2.heap.size := cell_lt z2
       have hB2 : Below w.heap.size w w2 := bl_step hB1 hb2)
    | (go_at_call 19
       refine (Add_any A2 A1 l.length m.length c2 c1 l m _ hs2 (Hs1.out.on hb2) (by rw [Hl.out.len]; exact hn) hn' (tru_below Ht.out hB2)).mono ?_
       rintro e w3 ⟨v3, rfl, ⟨A3, c3, rfl, hs3⟩, hb3⟩
       have hbx3 : Below w3.heap.size w3 (w3.alloc (.cells #[.slice A3 (addL l m).length c3] 24)) := (Below.refl _ _).alloc (Nat.le_refl _) _
       have hB3 : Below w.heap.size w w3 := bl_step hB2 hb3
       have z3 := cell_on hb3 hz2 z2
       have hz3 : w.heap.size < w3.heap.size := cell_lt z3
       have z3' := cell_on hbx3 hz3 z3
       have hB3' : Below w.heap.size w (w3.alloc (.cells #[.slice A3 (addL l m).length c3] 24)) := bl_step hB3 hbx3)
    | (go_at_call 20
       refine (refAdd_any A A' n m.length c c' l m _ (Hl.out.on hB3') (Hm.out.on hB3') hn hn').mono ?_
       rintro e w4 ⟨v4, rfl, ⟨A4, c4, rfl, hs4⟩, hb4⟩
       have hbx4 : Below w4.heap.size w4 (w4.alloc (.cells #[.slice A4 (addL l m).length c4] 24)) := (Below.refl _ _).alloc (Nat.le_refl _) _
       have q4 := cell_on hb4 (b := w3.heap.size) (o := 0) (v := .slice A3 (addL l m).length c3) (by simp) (by go_simp)
       have hq4 : w3.heap.size < w4.heap.size := cell_lt q4
       have q4' := cell_on hbx4 hq4 q4
       have hB4 : Below w.heap.size w (w4.alloc (.cells #[.slice A4 (addL l m).length c4] 24)) := bl_step (bl_step hB3' hb4) hbx4)
    | (go_at_call 8
       refine (head_any _ (tru_below Ht.out hB4)).mono ?_
       rintro e w5 ⟨rfl, hb5⟩
       have q5 := cell_on hb5 (b := w3.heap.size) (o := 0) (by simp; omega) q4'
       have r5 := cell_on hb5 (b := w4.heap.size) (o := 0) (v := .slice A4 (addL l m).length c4) (by simp) (by go_simp)
       have hB5 : Below w.heap.size w w5 := bl_step hB4 hb5)
    | (go_at_call 13
       refine (refSame_any A3 A4 _ _ c3 c4 w5.heap.size (addL l m) (addL l m) w5 ((hs3.on ((bl_step (bl_step hbx3 hb4) hbx4))).on hb5) ((hs4.on hbx4).on hb5) (Nat.le_refl _) Hk.out Hk.out).mono ?_
       rintro e w6 ⟨rfl, hb6⟩
       have hB6 : Below w.heap.size w w6 := bl_step hB5 hb6)
    | fail)
  go_ret
  exact ⟨by simp, hB6⟩
end Go.Proofs.YtmcdnjhdmifpeaaDoor
