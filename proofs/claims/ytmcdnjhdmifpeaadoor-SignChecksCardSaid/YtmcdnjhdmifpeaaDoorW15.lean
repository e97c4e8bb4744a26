/- SignChecks: the law's call answers true. -/
import Derived.Test.YtmcdnjhdmifpeaaDoorW14
namespace Go.Proofs.YtmcdnjhdmifpeaaDoor
open Go.RowKit

theorem syms_of_one (w : World) : Syms (w.alloc (.cells #[.string truthSm.name, .int .i64 truthSm.arity, .bool truthSm.pred] 33)) (w.alloc (.cells #[.string truthSm.name, .int .i64 truthSm.arity, .bool truthSm.pred] 33)).heap.size (some ⟨w.heap.size, 0, none⟩) 1 [truthSm] := by
  have := syms_one w truthSm truth_ok 33
  rwa [← World.size_alloc w (.cells #[.string truthSm.name, .int .i64 truthSm.arity, .bool truthSm.pred] 33)] at this

set_option maxRecDepth 100000 in
set_option maxHeartbeats 4000000 in
theorem SignChecks_any (A A' : Option Addr) (n n' c c' : Nat) (l l' : List Sm) (w : World) (h : Syms w w.heap.size A n l) (h' : Syms w w.heap.size A' n' l') (hn : n * 32 ≤ 140737488351232) (hn' : n' * 32 ≤ 140737488351232) (ht : tru w) :
    Calls Tryd.prog 3 #[.agg #[.slice A n c], .agg #[.slice A' n' c']] w fun e w' => e = .returned (.bool true) ∧ Below w.heap.size w w' := by
  go_enter Tryd.func3, Tryd.ntmps3
  go_wp2
  obtain ⟨W, hW⟩ : ∃ W, (w.alloc (.cells #[.slice A n c] 24)).alloc (.cells #[.slice A' n' c'] 24) = W := ⟨_, rfl⟩
  have hWB : Below w.heap.size w W := by rw [← hW]; exact ((Below.refl _ _).alloc (Nat.le_refl _) _).alloc (by simp) _
  have hz : w.heap.size + 1 < W.heap.size := by rw [← hW]; clear hW; simp
  have x1 : W.cell? ⟨w.heap.size, 0, none⟩ = some (.slice A n c) := by rw [← hW]; clear hW; go_simp
  have x2 : W.cell? ⟨w.heap.size + 1, 0, none⟩ = some (.slice A' n' c') := by rw [← hW]; clear hW; go_simp
  rw [hW]
  have g := Lib.hid (h.on hWB)
  have g' := Lib.hid (h'.on hWB)
  have Ht := Lib.hid (tru_below ht hWB)
  clear hW h h' ht
  have hz' : w.heap.size < W.heap.size := by omega
  have h64 : n ≤ 9223372036854775807 ∧ n' ≤ 9223372036854775807 := by omega
  go_region_held3 (fun w' => w'.cell? ⟨w.heap.size, 0, none⟩ = some (.slice A n c) ∧ w'.cell? ⟨w.heap.size + 1, 0, none⟩ = some (.slice A' n' c'))
    (first | exact ⟨x1, x2⟩ | exact ⟨cell_on hB11 hz' x1, cell_on hB11 hz x2⟩ | exact ⟨cell_on hB10 hz' x1, cell_on hB10 hz x2⟩ | exact ⟨cell_on hB9 hz' x1, cell_on hB9 hz x2⟩ | exact ⟨cell_on hB8 hz' x1, cell_on hB8 hz x2⟩ | exact ⟨cell_on hB7 hz' x1, cell_on hB7 hz x2⟩ | exact ⟨cell_on hB6 hz' x1, cell_on hB6 hz x2⟩ | exact ⟨cell_on hB5 hz' x1, cell_on hB5 hz x2⟩ | exact ⟨cell_on hB4 hz' x1, cell_on hB4 hz x2⟩ | exact ⟨cell_on hB3 hz' x1, cell_on hB3 hz x2⟩ | exact ⟨cell_on hB2 hz' x1, cell_on hB2 hz x2⟩ | exact ⟨cell_on hB1 hz' x1, cell_on hB1 hz x2⟩)
    (first
      | (go_at_call 8; refine (head_any W.drew Ht.out).mono ?_; rintro e w1 ⟨rfl, hb1⟩; have hB1 : Below W.heap.size W w1 := ⟨hb1.os, hb1.tape, hb1.output, hb1.size, hb1.block⟩)
      | (go_at_call 10; refine (Copy_any _ _ _ l _ (g.out.on hB1) hn).mono ?_; rintro e w2 ⟨v2, rfl, ⟨A2, c2, rfl, hs2⟩, hb2⟩; have hB2 := bl_step hB1 hb2)
      | (go_at_call 9; refine (Check_any A2 _ c2 l _ hs2 (by rw [g.out.len]; exact hn) (tru_below Ht.out hB2)).mono ?_; rintro e w3 ⟨rfl, hb3⟩; have hB3 := bl_step hB2 hb3)
      | (go_at_call 11; refine (refCheck_any _ _ _ l _ (g.out.on hB3) hn).mono ?_; rintro e w4 ⟨rfl, hb4⟩; have hB4 := bl_step hB3 hb4)
      | (go_at_call 12; ((with_reducible refine (Same_any A A' n n' c c' l l' _ (g.out.on hB4) (g'.out.on hB4) h64.1 h64.2).mono ?_); rintro e w5 ⟨rfl, hb5⟩; have hB5 := bl_step hB4 hb5))
      | (go_at_call 13; ((with_reducible refine (refSame_any A A' n n' c c' _ l l' _ (g.out.on hB5) (g'.out.on hB5) (Nat.le_refl _) h64.1 h64.2).mono ?_); rintro e w6 ⟨rfl, hb6⟩; have hB6 := bl_step hB5 hb6))
      | (go_at_call 12; ((with_reducible refine (Same_any A' A' n' n' c' c' l' l' _ (g'.out.on hB6) (g'.out.on hB6) h64.2 h64.2).mono ?_); rintro e w7 ⟨rfl, hb7⟩; have hB7 := bl_step hB6 hb7))
      | (go_at_call 14; refine (New_any _ (tru_below Ht.out hB7)).mono ?_; rintro e w8 ⟨v8, rfl, ⟨A8, c8, rfl, hs8⟩, hb8⟩; have hB8 := bl_step hB7 hb8)
      | (go_at_call 15; refine (Truth_any _).mono ?_; rintro e w9 ⟨rfl, hb9⟩; have hB9 := bl_step hB8 hb9; have hB10 : Below W.heap.size W (w9.alloc (.cells #[.string truthSm.name, .int .i64 truthSm.arity, .bool truthSm.pred] 33)) := hB9.alloc hB9.size _)
      | (go_at_call 13; refine (refSame_any A8 _ 1 1 c8 1 _ [truthSm] [truthSm] _ ((hs8.on hb9).on ((Below.refl _ _).alloc (Nat.le_refl _) _)) (syms_of_one w9) (Nat.le_refl _) (by decide) (by decide)).mono ?_; rintro e w10 ⟨rfl, hb10⟩; have hB11 := bl_step hB10 hb10))
  go_wp2
  go_ret
  exact ⟨rfl, hWB.trans (hB11.mono (by omega))⟩
end Go.Proofs.YtmcdnjhdmifpeaaDoor
