/- slices.Index, Equal, Clone at symbols; Find, Same, New. -/
import Derived.Test.YtmcdnjhdmifpeaaDoorW4
import Derived.Deep.RegionHeld3
namespace Go.Proofs.YtmcdnjhdmifpeaaDoor
open Go.RowKit

set_option maxHeartbeats 400000 in
theorem Index_any (A : Option Addr) (n c B : Nat) (l : List Sm) (x : Sm) (w : World) (h : Syms w B A n l) (hB : B ≤ w.heap.size) (hn : n ≤ 9223372036854775807) :
    Calls Tryd.prog 27 #[.slice A n c, .agg #[.string x.name, .int .i64 x.arity, .bool x.pred]] w fun e w' => e = .returned (.int .i64 (atI l x)) ∧ Below w.heap.size w w' := by
  have heq := run_eql_sym
  go_enter Tryd.func27, Tryd.ntmps27
  go_wp2
  obtain ⟨W, hW⟩ : ∃ W, w.alloc (.cells #[.string x.name, .int .i64 x.arity, .bool x.pred] 33) = W := ⟨_, rfl⟩
  have hWB : Below w.heap.size w W := by rw [← hW]; exact (Below.refl _ _).alloc (Nat.le_refl _) _
  have x1 : W.cell? ⟨w.heap.size, 0, none⟩ = some (.string x.name) := by rw [← hW]; clear hW; go_simp
  have x2 : W.cell? ⟨w.heap.size, 1, none⟩ = some (.int .i64 x.arity) := by rw [← hW]; clear hW; go_simp
  have x3 : W.cell? ⟨w.heap.size, 2, none⟩ = some (.bool x.pred) := by rw [← hW]; clear hW; go_simp
  rw [hW]
  have h' := h.below (hWB.mono hB)
  clear hW
  go_loopw [8] (fun i wr => ∃ k q : Nat, k ≤ n ∧ i = .int .i64 k ∧ wr = W.drewN q ∧ Hid (∀ j, j < k → l[j]? ≠ some x)) (fun i _ => n - (intOf i).toNat)
  case atStart => exact ⟨0, 0, Nat.zero_le _, rfl, rfl, fun j h0 => absurd h0 (Nat.not_lt_zero _)⟩
  case round =>
    obtain ⟨k, q, hk, rfl, rfl, HA⟩ := hrel
    by_cases hlt : k < n
    · obtain ⟨b, off, rfl, hb, hc⟩ := h'.ad (by omega)
      have hkl : k < l.length := by rw [h'.len]; exact hlt
      obtain ⟨y, hy⟩ : ∃ y, l[k]? = some y := ⟨_, List.getElem?_eq_getElem hkl⟩
      obtain ⟨c1, c2, c3⟩ := hc k y hy
      have Hy := Lib.hid hy
      clear hy hc h h'
      by_cases hyx : x = y
      · have hs := smB_true hyx
        have Hyx := Lib.hid hyx
        clear hyx
        go_wp2
        go_quiet (fail)
        go_wp2
        go_ret
        exact ⟨ret_int (atI_hit l x k (by rw [Hy.out, Hyx.out]) HA.out).symm, bl_drewN (bl_drewN hWB _) _⟩
      · have hs := smB_false hyx
        go_wp2
        go_quiet (fail)
        go_wp2
        go_roundw
        case rel => exact ⟨k + 1, q + nq, by omega, by go_num, rfl, not_before HA.out Hy.out (Ne.symm hyx)⟩
        case measure => simp [intOf]; omega
    · have : k = n := by omega
      subst this
      go_wp2
      go_ret
      exact ⟨ret_int (atI_miss l x (fun j hj => HA.out j (by rw [← h.len]; exact hj))).symm, bl_drewN hWB _⟩

set_option maxHeartbeats 400000 in
theorem Equal_any (A A' : Option Addr) (n n' c c' B : Nat) (l l' : List Sm) (w : World) (g : Syms w B A n l) (g' : Syms w B A' n' l') (hn : n ≤ 9223372036854775807) (hn' : n' ≤ 9223372036854775807) :
    Calls Tryd.prog 26 #[.slice A n c, .slice A' n' c'] w fun e w' => e = .returned (.bool (decide (l = l'))) ∧ Below w.heap.size w w' := by
  have heq := run_neq_sym
  by_cases hnn : n = n'
  · subst hnn
    go_enter Tryd.func26, Tryd.ntmps26
    go_wp2
    go_loopw [13] (fun i wr => ∃ k q : Nat, k ≤ n ∧ i = .int .i64 k ∧ wr = w.drewN q ∧ Hid (∀ j, j < k → l[j]? = l'[j]?)) (fun i _ => n - (intOf i).toNat)
    case atStart => exact ⟨0, 0, Nat.zero_le _, rfl, rfl, fun j h0 => absurd h0 (Nat.not_lt_zero _)⟩
    case round =>
      obtain ⟨k, q, hk, rfl, rfl, HA⟩ := hrel
      by_cases hlt : k < n
      · obtain ⟨b, off, rfl, hb, hc⟩ := g.ad (by omega)
        obtain ⟨b', off', rfl, hb', hc'⟩ := g'.ad (by omega)
        obtain ⟨x, hx⟩ : ∃ x, l[k]? = some x := ⟨_, List.getElem?_eq_getElem (by rw [g.len]; exact hlt)⟩
        obtain ⟨y, hy⟩ : ∃ y, l'[k]? = some y := ⟨_, List.getElem?_eq_getElem (by rw [g'.len]; exact hlt)⟩
        obtain ⟨c1, c2, c3⟩ := hc k x hx
        obtain ⟨c1', c2', c3'⟩ := hc' k y hy
        have Hx := Lib.hid hx
        have Hy := Lib.hid hy
        clear hx hy hc hc' g g'
        by_cases hxy : x = y
        · have hs := smB_true hxy
          have Hxy := Lib.hid hxy
          clear hxy
          go_wp2
          go_quiet (fail)
          go_wp2
          go_roundw
          case rel => exact ⟨k + 1, q + nq, by omega, by go_num, rfl, alike_before HA.out (by rw [Hx.out, Hy.out, Hxy.out])⟩
          case measure => simp [intOf]; omega
        · have hs := smB_false hxy
          go_wp2
          go_quiet (fail)
          go_wp2
          go_ret
          exact ⟨ret_bool (alike_not Hx.out Hy.out hxy).symm, bl_drewN (bl_drewN (Below.refl _ _) _) _⟩
      · have : k = n := by omega
        subst this
        go_wp2
        go_ret
        exact ⟨ret_bool (alike_all g.len g'.len HA.out).symm, bl_drewN (Below.refl _ _) _⟩
  · have hf := Lib.hid (show decide (l = l') = false by simp; rintro rfl; exact hnn (g.len.symm.trans g'.len))
    go_enter Tryd.func26, Tryd.ntmps26
    go_wp2
    go_ret
    exact ⟨ret_bool hf.out.symm, Below.refl _ _⟩

set_option maxHeartbeats 400000 in
theorem Same_any (A A' : Option Addr) (n n' c c' : Nat) (l l' : List Sm) (w : World) (h : Syms w w.heap.size A n l) (h' : Syms w w.heap.size A' n' l') (hn : n ≤ 9223372036854775807) (hn' : n' ≤ 9223372036854775807) :
    Calls Tryd.prog 12 #[.agg #[.slice A n c], .agg #[.slice A' n' c']] w fun e w' => e = .returned (.bool (decide (l = l'))) ∧ Below w.heap.size w w' := by
  have hB := ((Below.refl w.heap.size w).alloc (Nat.le_refl _) (.cells #[.slice A n c] 24)).alloc (by simp) (.cells #[.slice A' n' c'] 24)
  go_enter Tryd.func12, Tryd.ntmps12
  go_wp2_with (first | (go_at_call 26; refine (Equal_any _ _ _ _ _ _ w.heap.size l l' _ (h.below hB) (h'.below hB) hn hn').mono ?_; rintro e w' ⟨rfl, hb⟩) | fail)
  go_ret
  exact ⟨rfl, bl_step hB hb⟩

def findN (l : List Sm) (x : Sm) : Int := if atI l x < 0 then 0 else atI l x
def findB (l : List Sm) (x : Sm) : Bool := decide (0 ≤ atI l x)
theorem ret_ib {k : IntKind} {a a' : Int} {b b' : Bool} (h : a = a') (h' : b = b') : Ending.returned (.tuple #[.int k a, .bool b]) = .returned (.tuple #[.int k a', .bool b']) := by rw [h, h']

set_option maxHeartbeats 400000 in
theorem Find_any (A : Option Addr) (n c : Nat) (l : List Sm) (x : Sm) (w : World) (h : Syms w w.heap.size A n l) (hn : n ≤ 9223372036854775807) :
    Calls Tryd.prog 16 #[.agg #[.slice A n c], .agg #[.string x.name, .int .i64 x.arity, .bool x.pred]] w fun e w' =>
      e = .returned (.tuple #[.int .i64 (findN l x), .bool (findB l x)]) ∧ Below w.heap.size w w' := by
  have hB := ((Below.refl w.heap.size w).alloc (Nat.le_refl _) (.cells #[.slice A n c] 24)).alloc (by simp) (.cells #[.string x.name, .int .i64 x.arity, .bool x.pred] 33)
  by_cases ha : atI l x < 0
  · go_enter Tryd.func16, Tryd.ntmps16
    go_wp2_with (first | (go_at_call 27; refine (Index_any _ _ _ w.heap.size l x _ (h.below hB) hB.size hn).mono ?_; rintro e w' ⟨rfl, hb⟩) | fail)
    go_ret2
    exact ⟨ret_ib (by simp [findN, ha]) (by simp [findB]; omega), bl_step hB hb⟩
  · go_enter Tryd.func16, Tryd.ntmps16
    go_wp2_with (first | (go_at_call 27; refine (Index_any _ _ _ w.heap.size l x _ (h.below hB) hB.size hn).mono ?_; rintro e w' ⟨rfl, hb⟩) | fail)
    go_ret2
    exact ⟨ret_ib (by unfold findN; rw [if_neg (by omega)]) (by unfold findB; rw [decide_eq_true (by omega)]), bl_step hB hb⟩

theorem syms_one (w : World) (x : Sm) (hx : x.Ok) (t : TypeId) : Syms (w.alloc (.cells #[.string x.name, .int .i64 x.arity, .bool x.pred] t)) (w.heap.size + 1) (some ⟨w.heap.size, 0, none⟩) 1 [x] := by
  refine ⟨rfl, fun y hy => ?_, fun _ => ⟨w.heap.size, 0, rfl, by omega, fun i y hy => ?_⟩⟩
  · rw [List.mem_singleton] at hy; subst hy; exact hx
  · have hi : i = 0 := by
      have := (List.getElem?_eq_some_iff.1 hy).1
      simp at this; exact this
    subst hi
    simp at hy
    subst hy
    refine ⟨?_, ?_, ?_⟩ <;> go_simp

def tru (w : World) : Prop := w.cell? ⟨0, 0, none⟩ = some (.string truthSm.name) ∧ w.cell? ⟨0, 1, none⟩ = some (.int .i64 truthSm.arity) ∧ w.cell? ⟨0, 2, none⟩ = some (.bool truthSm.pred) ∧ 0 < w.heap.size
theorem tru_on {B : Nat} {w w' : World} (h : tru w) (hb : Below B w w') (hB : 0 < B) : tru w' := by
  obtain ⟨h1, h2, h3, h4⟩ := h
  exact ⟨cell_on hb hB h1, cell_on hb hB h2, cell_on hb hB h3, Nat.lt_of_lt_of_le h4 hb.size⟩
theorem tru_below {w w' : World} (h : tru w) (hb : Below w.heap.size w w') : tru w' := tru_on h hb h.2.2.2

set_option maxHeartbeats 400000 in
theorem New_any (w : World) (ht : tru w) : Calls Tryd.prog 14 #[] w (SigPost [truthSm] w) := by
  obtain ⟨t1, t2, t3, t4⟩ := ht
  go_enter Tryd.func14, Tryd.ntmps14
  go_wp2
  refine bodyPost_ret (v := .agg #[.slice (some ⟨w.heap.size + 1, 0, none⟩) 1 1]) (by simp [results, Tryd.results14, go_sem]) rfl ⟨_, rfl, ⟨_, 1, rfl, ?_⟩, ?_⟩
  · have := syms_one (w.alloc (.cells #[.slice (some ⟨w.heap.size + 1, 0, none⟩) 1 1] 24)) truthSm truth_ok 33
    simp only [World.size_alloc] at this
    simp only [World.size_alloc]
    exact this
  · repeat first | exact Below.refl _ _ | refine bl_drewN ?_ _ | refine Below.alloc ?_ (by simp) _ | refine Below.setCell ?_ (by simp) _
end Go.Proofs.YtmcdnjhdmifpeaaDoor
