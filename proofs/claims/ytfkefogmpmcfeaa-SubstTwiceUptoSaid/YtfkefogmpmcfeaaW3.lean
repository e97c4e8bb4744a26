/- One symbol by the plain answer; $true; a symbol's place; two signatures. -/
import Derived.Test.YtfkefogmpmcfeaaW2
namespace Go.Proofs.Ytfkefogmpmcfeaa
open Go.RowKit

set_option maxHeartbeats 400000 in
theorem One_any (x : Sm) (w : World) (hx : x.Ok) :
    Calls Try.prog 155 #[.agg #[.string x.name, .int .i64 x.arity, .bool x.pred]] w fun e w' => e = .returned (.int .i64 (oneI x.name x.arity)) ∧ Below w.heap.size w w' := by
  have hs := hx.size
  have hlo := hx.lo
  have hhi := hx.hi
  cases h2 : namedB x.name with
  | false =>
    have hf := Lib.hid (show oneI x.name x.arity = 111 by simp [oneI, h2])
    go_enter Try.func155, Try.ntmps155
    go_wp2_with (first | (go_at_call 168; refine (Named_any _ _ hs).mono ?_; rintro e w' ⟨rfl, rfl⟩) | fail)
    go_ret
    exact ⟨ret_int hf.out.symm, (Below.refl _ _).alloc (Nat.le_refl _) _⟩
  | true =>
    have hf := Lib.hid (show oneI x.name x.arity = if x.arity < 0 ∨ 6 < x.arity then 112 else 0 by simp [oneI, h2])
    go_enter Try.func155, Try.ntmps155
    go_wp2_with (first | (go_at_call 168; refine (Named_any _ _ hs).mono ?_; rintro e w' ⟨rfl, rfl⟩) | fail)
    all_goals
      go_ret
      refine ⟨ret_int ?_, (Below.refl _ _).alloc (Nat.le_refl _) _⟩
      rw [hf.out]
      first | rw [if_pos (by omega)] | rw [if_neg (by omega)]

def truthS : ByteArray := ⟨#[36, 116, 114, 117, 101]⟩
def truthSm : Sm := ⟨truthS, 0, true⟩
theorem truth_ok : truthSm.Ok := ⟨by decide, by decide, by decide⟩

set_option maxHeartbeats 400000 in
theorem Truth_any (w : World) :
    Calls Try.prog 154 #[] w fun e w' => e = .returned (.agg #[.string truthSm.name, .int .i64 truthSm.arity, .bool truthSm.pred]) ∧ Below w.heap.size w w' := by
  go_enter Try.func154, Try.ntmps154
  go_wp2
  refine bodyPost_ret (v := .agg #[.string truthSm.name, .int .i64 truthSm.arity, .bool truthSm.pred]) (by simp [results, Try.results154, go_sem, truthSm, truthS]) rfl ⟨rfl, ?_⟩
  repeat first | exact Below.refl _ _ | refine bl_drewN ?_ _ | refine Below.alloc ?_ (by simp) _ | refine Below.setCell ?_ (by simp) _

def atI (l : List Sm) (x : Sm) : Int := match l.findIdx? (· == x) with | some i => i | none => -1
theorem atI_hit (l : List Sm) (x : Sm) (k : Nat) (hx : l[k]? = some x) (h : ∀ j, j < k → l[j]? ≠ some x) : atI l x = k := by
  have : l.findIdx? (· == x) = some k := by
    rw [List.findIdx?_eq_some_iff_getElem]
    obtain ⟨hk, hx⟩ := List.getElem?_eq_some_iff.1 hx
    refine ⟨hk, by simp [hx], fun j hj => ?_⟩
    have := h j hj
    rw [List.getElem?_eq_getElem (by omega)] at this
    simpa using this
  simp [atI, this]
theorem atI_miss (l : List Sm) (x : Sm) (h : ∀ j, j < l.length → l[j]? ≠ some x) : atI l x = -1 := by
  have : l.findIdx? (· == x) = none := by
    rw [List.findIdx?_eq_none_iff]
    intro y hy
    obtain ⟨j, hj, rfl⟩ := List.getElem_of_mem hy
    have := h j hj
    rw [List.getElem?_eq_getElem hj] at this
    simpa using this
  simp [atI, this]
theorem not_before {l : List Sm} {x y : Sm} {k : Nat} (h : ∀ j, j < k → l[j]? ≠ some x) (hy : l[k]? = some y) (hx : y ≠ x) : ∀ j, j < k + 1 → l[j]? ≠ some x := by
  intro j hlt
  by_cases e : j = k
  · subst e; rw [hy]; intro h; injection h with h; exact hx h
  · exact h j (by omega)

set_option maxHeartbeats 400000 in
theorem At_any (A : Option Addr) (n c B : Nat) (l : List Sm) (x : Sm) (w : World) (h : Syms w B A n l) (hB : B ≤ w.heap.size) (hn : n ≤ 9223372036854775807) :
    Calls Try.prog 156 #[.slice A n c, .agg #[.string x.name, .int .i64 x.arity, .bool x.pred]] w fun e w' => e = .returned (.int .i64 (atI l x)) ∧ Below w.heap.size w w' := by
  have heq := run_eql_sym
  go_enter Try.func156, Try.ntmps156
  go_wp2
  obtain ⟨W, hW⟩ : ∃ W, w.alloc (.cells #[.string x.name, .int .i64 x.arity, .bool x.pred] 146) = W := ⟨_, rfl⟩
  have hWB : Below w.heap.size w W := by rw [← hW]; exact (Below.refl _ _).alloc (Nat.le_refl _) _
  have x1 : W.cell? ⟨w.heap.size, 0, none⟩ = some (.string x.name) := by rw [← hW]; clear hW; go_simp
  have x2 : W.cell? ⟨w.heap.size, 1, none⟩ = some (.int .i64 x.arity) := by rw [← hW]; clear hW; go_simp
  have x3 : W.cell? ⟨w.heap.size, 2, none⟩ = some (.bool x.pred) := by rw [← hW]; clear hW; go_simp
  rw [hW]
  have h' := h.below (hWB.mono hB)
  clear hW
  go_loopw [5] (fun i wr => ∃ k q : Nat, k ≤ n ∧ i = .int .i64 k ∧ wr = W.drewN q ∧ Hid (∀ j, j < k → l[j]? ≠ some x)) (fun i _ => n - (intOf i).toNat)
  case atStart => exact ⟨0, 0, Nat.zero_le _, rfl, rfl, fun j h0 => absurd h0 (Nat.not_lt_zero _)⟩
  case round =>
    obtain ⟨k, q, hk, rfl, rfl, HA⟩ := hrel
    by_cases hlt : k < n
    · obtain ⟨b, off, rfl, hb, hc⟩ := h'.ad (by omega)
      have hkl : k < l.length := by rw [h'.len]; exact hlt
      obtain ⟨y, hy⟩ : ∃ y, l[k]? = some y := ⟨_, List.getElem?_eq_getElem hkl⟩
      obtain ⟨c1, c2, c3⟩ := hc k y hy
      have Hy := Lib.hid hy
      clear hy hc h h'
      by_cases hyx : y = x
      · have hs := smB_true hyx
        have Hyx := Lib.hid hyx
        clear hyx
        go_wp2
        go_quiet (fail)
        go_wp2
        go_ret
        exact ⟨ret_int (atI_hit l x k (by rw [Hy.out, Hyx.out]) HA.out).symm, bl_drewN (bl_drewN hWB _) _⟩
      · have hs := smB_false hyx
        go_wp2
        go_quiet (fail)
        go_wp2
        go_roundw
        case rel => exact ⟨k + 1, q + nq, by omega, by go_num, rfl, not_before HA.out Hy.out hyx⟩
        case measure => simp [intOf]; omega
    · have : k = n := by omega
      subst this
      go_wp2
      go_ret
      exact ⟨ret_int (atI_miss l x (fun j hj => HA.out j (by rw [← h.len]; exact hj))).symm, bl_drewN hWB _⟩

theorem alike_before {l l' : List Sm} {k : Nat} (h : ∀ j, j < k → l[j]? = l'[j]?) (hk : l[k]? = l'[k]?) : ∀ j, j < k + 1 → l[j]? = l'[j]? := by
  intro j hlt
  by_cases e : j = k
  · subst e; exact hk
  · exact h j (by omega)
theorem alike_not {l l' : List Sm} {k : Nat} {x y : Sm} (hx : l[k]? = some x) (hy : l'[k]? = some y) (h : x ≠ y) : decide (l = l') = false := by
  rw [decide_eq_false_iff_not]
  rintro rfl
  rw [hx] at hy
  injection hy with hy
  exact h hy
theorem alike_all {l l' : List Sm} {n : Nat} (hl : l.length = n) (hl' : l'.length = n) (h : ∀ j, j < n → l[j]? = l'[j]?) : decide (l = l') = true := by
  rw [decide_eq_true_eq]
  refine List.ext_getElem? fun j => ?_
  by_cases hj : j < n
  · exact h j hj
  · rw [List.getElem?_eq_none (by omega), List.getElem?_eq_none (by omega)]