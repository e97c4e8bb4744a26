/- Check. -/
import Derived.Test.YtimgomoafeaoiaaDoorW5
import Derived.Test.YtimgomoafeaoiaaDoorW10
namespace Go.Proofs.YtimgomoafeaoiaaDoor
open Go.RowKit
set_option maxRecDepth 20000

theorem firstF_at {l : List Sm} {k : Nat} {y : Sm} (hy : l[k]? = some y) : (firstF l y).getD 0 = atI l y := by
  have : ¬ atI l y < 0 := by
    intro hlt
    have h1 : l.findIdx? (· == y) = none := by
      cases hf : l.findIdx? (· == y) with
      | none => rfl
      | some i => simp [atI, hf] at hlt; omega
    rw [List.findIdx?_eq_none_iff] at h1
    have := h1 y (List.mem_of_getElem? hy)
    simp at this
  simp [firstF, this]

set_option maxHeartbeats 800000 in
theorem Check_any (A : Option Addr) (n c : Nat) (l : List Sm) (w : World) (h : Syms w w.heap.size A n l) (hn : n * 32 ≤ 140737488351232) (ht : tru w) :
    Calls Tryd.prog 29 #[.agg #[.slice A n c]] w fun e w' => e = .returned (.int .i64 (checkI l)) ∧ Below w.heap.size w w' := by
  have hneq := run_neq_sym
  by_cases h96 : 96 < n
  · have hf := Lib.hid (show checkI l = 3 by simp only [checkI]; rw [if_pos (by rw [h.len]; exact h96)])
    go_enter Tryd.func29, Tryd.ntmps29
    go_wp2
    go_ret
    exact ⟨ret_int hf.out.symm, (Below.refl _ _).alloc (Nat.le_refl _) _⟩
  · rcases Nat.eq_zero_or_pos n with h0 | h0
    · have hf := Lib.hid (show checkI l = 110 by
        have : l = [] := List.eq_nil_of_length_eq_zero (h.len.trans h0)
        subst this; rfl)
      subst h0
      go_enter Tryd.func29, Tryd.ntmps29
      go_wp2
      go_quiet (fail)
      go_wp2
      go_ret
      exact ⟨ret_int hf.out.symm, bl_drewN ((Below.refl _ _).alloc (Nat.le_refl _) _) _⟩
    · have h0' : (((n : Nat) : Int) == 0) = false := beq_eq_false_iff_ne.2 (by omega)
      go_enter Tryd.func29, Tryd.ntmps29
      go_wp2
      obtain ⟨W, hW⟩ : ∃ W, w.alloc (.cells #[.slice A n c] 48) = W := ⟨_, rfl⟩
      have hWB : Below w.heap.size w W := by rw [← hW]; exact (Below.refl _ _).alloc (Nat.le_refl _) _
      have hz : w.heap.size + 1 = W.heap.size := by rw [← hW]; clear hW; simp
      have x1 : W.cell? ⟨w.heap.size, 0, none⟩ = some (.slice A n c) := by rw [← hW]; clear hW; go_simp
      rw [hW]
      have g := h.below hWB
      have hok := Lib.hid h.ok
      obtain ⟨t1, t2, t3, _⟩ := tru_below ht hWB
      clear hW h ht
      have hlt0 : w.heap.size < W.heap.size := by omega
      clear hz
      obtain ⟨b, off, rfl, hb0, hc⟩ := g.ad h0
      have hb : b < W.heap.size := Nat.lt_trans hb0 hlt0
      obtain ⟨y, hy⟩ : ∃ y, l[0]? = some y := ⟨_, List.getElem?_eq_getElem (by rw [g.len]; exact h0)⟩
      obtain ⟨c1, c2, c3⟩ := hc 0 y hy
      simp only [Nat.zero_mul, Nat.add_zero] at c1 c2 c3
      have Hy := Lib.hid hy
      clear hy
      have Hc := Lib.hid hc
      clear hc
      by_cases hyt : y = truthSm
      · have hs := smB_true hyt
        have hf := Lib.hid (show checkI l = scanI l by
          simp only [checkI]; rw [if_neg (by rw [g.len]; exact h96), if_neg (by rw [Hy.out, hyt]; simp)])
        clear hyt
        go_quiet (fail)
        clear t1 t2 t3 hs c1 c2 c3
        go_wp2_with (first | (go_at_call 40; refine (numbers_any _ _ _ l hn _ (((g.drewN _).more (Nat.le_of_lt hlt0)))).mono ?_; rintro e w1 ⟨rfl, hmap, hb1⟩; have hB1 : Below W.heap.size W w1 := ⟨hb1.os, hb1.tape, hb1.output, hb1.size, hb1.block⟩; have z1 := cell_on hB1 hlt0 x1) | fail)
        clear hb1 z1
        have hmap' : SMap w1 W.heap.size n (firstF l) := hmap
        clear hmap
        go_loopw [29] (fun i wr => ∃ k : Nat, k ≤ n ∧ i = .int .i64 k ∧ Below w1.heap.size w1 wr ∧ Hid (∀ j, 1 ≤ j → j < k → errAt l j = 0)) (fun i _ => n - (intOf i).toNat)
        case atStart => exact ⟨0, Nat.zero_le _, rfl, Below.refl _ _, fun j h1 h2 => by omega⟩
        case round =>
          obtain ⟨k, hk, rfl, hBr0, HA⟩ := hrel
          have hBr : Below W.heap.size W wr := hB1.trans (hBr0.mono hB1.size)
          have z1 := cell_on hBr hlt0 x1
          have hmr := hmap'.below hBr0
          by_cases hlt : k < n
          · obtain ⟨y, hy⟩ : ∃ y, l[k]? = some y := ⟨_, List.getElem?_eq_getElem (by rw [g.len]; exact hlt)⟩
            obtain ⟨c1, c2, c3⟩ := Hc.out k y hy
            have d1 := cell_on hBr hb c1
            have d2 := cell_on hBr hb c2
            have d3 := cell_on hBr hb c3
            have hyok : y.Ok := hok.out y (List.mem_of_getElem? hy)
            have hys := hyok.size
            have hbox : Below wr.heap.size wr (wr.alloc (.cells #[.string y.name, .int .i64 y.arity, .bool y.pred] 59)) := (Below.refl _ _).alloc (Nat.le_refl _) _
            have hlk := (hmr.below hbox).look hyok
            rw [firstF_at hy] at hlk
            have Hy := Lib.hid hy
            clear hy hyok hmr
            by_cases hk0 : k = 0
            · have hk0' : (((k : Nat) : Int) == 0) = true := by simp [hk0]
              have Hk0 := Lib.hid hk0
              clear hk0 hlk
              go_wp2
              go_roundw
              case rel => exact ⟨k + 1, by omega, by go_num, hBr0.trans (hbox.mono hBr0.size), fun j h1 h2 => by have := Hk0.out; omega⟩
              case measure => simp [intOf]; omega
            · have hk0' : (((k : Nat) : Int) == 0) = false := by simpa using hk0
              by_cases he : oneI y.name y.arity = 0
              · have he' : (oneI y.name y.arity != 0) = false := by simp [he]
                have He := Lib.hid he
                clear he
                by_cases ha : atI l y < k
                · go_wp2_with (first | (go_at_call 41; refine (fits_any _ _ _ hys).mono ?_; rintro e w2 ⟨rfl, rfl⟩) | fail)
                  go_ret
                  exact ⟨ret_int (hf.out.trans (scan_at (by omega) HA.out (err_same Hy.out He.out ha) (by decide))).symm, hWB.trans ((hBr.trans (hbox.mono hBr.size)).mono (Nat.le_of_lt hlt0))⟩
                · go_wp2_with (first | (go_at_call 41; refine (fits_any _ _ _ hys).mono ?_; rintro e w2 ⟨rfl, rfl⟩) | fail)
                  go_roundw
                  case rel => exact ⟨k + 1, by omega, by go_num, hBr0.trans (hbox.mono hBr0.size), err_before HA.out (err_ok Hy.out He.out (by omega))⟩
                  case measure => simp [intOf]; omega
              · have he' : (oneI y.name y.arity != 0) = true := by simp [he]
                have He := Lib.hid he
                clear he hlk
                go_wp2_with (first | (go_at_call 41; refine (fits_any _ _ _ hys).mono ?_; rintro e w2 ⟨rfl, rfl⟩) | fail)
                go_ret
                exact ⟨ret_int (hf.out.trans (scan_at (by omega) HA.out (err_one Hy.out He.out) He.out)).symm, hWB.trans ((hBr.trans (hbox.mono hBr.size)).mono (Nat.le_of_lt hlt0))⟩
          · have : k = n := by omega
            subst this
            go_wp2
            go_ret
            exact ⟨ret_int (hf.out.trans (scan_miss (fun j h1 h2 => HA.out j h1 (by rw [← g.len]; exact h2)))).symm, hWB.trans (hBr.mono (by omega))⟩
      · have hs := smB_false hyt
        have hf := Lib.hid (show checkI l = 110 by
          simp only [checkI]; rw [if_neg (by rw [g.len]; exact h96), if_pos (by rw [Hy.out]; simpa using hyt)])
        clear hyt
        go_quiet (fail)
        go_wp2
        go_ret
        exact ⟨ret_int hf.out.symm, bl_drewN hWB _⟩
end Go.Proofs.YtimgomoafeaoiaaDoor
