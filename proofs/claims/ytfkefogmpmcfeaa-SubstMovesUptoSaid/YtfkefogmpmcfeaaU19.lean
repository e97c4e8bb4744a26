/- slices.DeleteFunc at a row of binds. -/
import Derived.Test.YtfkefogmpmcfeaaU18
namespace Go.Proofs.Ytfkefogmpmcfeaa
open Go.RowKit Go.Shelf
set_option maxRecDepth 100000

/-- Stores into the row, one bind's cells. -/
def setB (w : World) (g i : Nat) (x : Bi) : World := ((w.setCell ⟨g, i * 3, none⟩ (.int .i64 x.v)).setCell ⟨g, i * 3 + 1, none⟩ (.int .i64 x.t.fn)).setCell ⟨g, i * 3 + 2, none⟩ (.slice x.A x.t.args.length x.c)

theorem flat_set (l : List Bi) (i t : Nat) (x : Bi) (hi : i < l.length) : ((l.set i x).flatMap Bi.cells)[t]? = if t / 3 = i then x.cells[t % 3]? else (l.flatMap Bi.cells)[t]? := by
  have h1 := bi_get (l.set i x) (t / 3) (t % 3) (Nat.mod_lt _ (by omega))
  have h2 := bi_get l (t / 3) (t % 3) (Nat.mod_lt _ (by omega))
  rw [show t / 3 * 3 + t % 3 = t by omega] at h1 h2
  rw [h1, h2, List.getElem?_set]
  by_cases e : i = t / 3
  · rw [if_pos e, if_pos (by omega), if_pos e.symm]; rfl
  · rw [if_neg e, if_neg fun h => e h.symm]

theorem RowB.set {w : World} {base g cap n : Nat} {l : List Bi} {N : Nat → Prop} {x : Bi} {i : Nat} (h : RowB w base (.slice (some ⟨g, 0, none⟩) n cap) l N) (hi : i < l.length) (hN : ∀ k, N k → k ≠ g) (hx : BiFx w N x) : RowB (setB w g i x) base (.slice (some ⟨g, 0, none⟩) n cap) (l.set i x) N := by
  have hoth : ∀ k, k ≠ g → (setB w g i x).heap[k]? = w.heap[k]? := fun k e => (heap_setCell_other _ _ _ _ e).trans ((heap_setCell_other _ _ _ _ e).trans (heap_setCell_other _ _ _ _ e))
  refine ⟨⟨by rw [bi_len], ?_⟩, fun y hy => ?_⟩
  · rcases h.row.2 with ⟨e, _⟩ | ⟨g', cap', cur, e, hb, hg, hc, hm, hs, ht⟩
    · cases e
    · injection e with e1 e2 e3
      injection e1 with e1
      injection e1 with e1
      subst e1; subst e2; subst e3
      refine .inr ⟨g, cap, ((cur.setIfInBounds (i * 3) (.int .i64 x.v)).setIfInBounds (i * 3 + 1) (.int .i64 x.t.fn)).setIfInBounds (i * 3 + 2) (.slice x.A x.t.args.length x.c), by rw [List.length_set], hb, ?_, by rw [List.length_set]; exact hc, hm, by simp [hs], ?_⟩
      · exact heap_setCell_same _ _ _ _ _ _ (heap_setCell_same _ _ _ _ _ _ (heap_setCell_same _ _ _ _ _ _ hg))
      · apply List.ext_getElem?
        intro t
        rw [flat_set l i t x hi, List.getElem?_take, List.length_set, Array.getElem?_toList, ← ht, List.getElem?_take]
        have hsz : l.length * 3 ≤ cur.size := by rw [hs]; exact Nat.mul_le_mul_right 3 hc
        by_cases hlt : t < l.length * 3
        · rw [if_pos hlt, if_pos hlt, Array.getElem?_setIfInBounds, Array.getElem?_setIfInBounds, Array.getElem?_setIfInBounds]
          simp only [Array.size_setIfInBounds]
          by_cases e : t / 3 = i
          · rw [if_pos e]
            have h3 : t % 3 < 3 := Nat.mod_lt _ (by omega)
            obtain e0 | e0 | e0 : t % 3 = 0 ∨ t % 3 = 1 ∨ t % 3 = 2 := by omega
            · rw [if_neg (by omega), if_neg (by omega), if_pos (by omega), if_pos (by omega), e0]; rfl
            · rw [if_neg (by omega), if_pos (by omega), if_pos (by omega), e0]; rfl
            · rw [if_pos (by omega), if_pos (by omega), e0]; rfl
          · rw [if_neg e, if_neg (by omega), if_neg (by omega), if_neg (by omega), Array.getElem?_toList]
        · rw [if_neg hlt, if_neg hlt, if_neg (by omega)]
  · rcases List.mem_or_eq_of_mem_set hy with hy | rfl
    · exact (h.fx y hy).keep fun k hk => hoth k (hN k hk)
    · exact hx.keep fun k hk => hoth k (hN k hk)

/-- What a run of stores leaves. -/
theorem heap_setCells (b : Nat) : ∀ (vs : List Value) (o : Nat) (w : World) (cur : Array Value) (e : TypeId), w.heap[b]? = some (.cells cur e (0, 0)) →
    ∃ cur', (w.setCells b o vs).heap[b]? = some (.cells cur' e (0, 0)) ∧ cur'.size = cur.size ∧ ∀ t, t < o → cur'[t]? = cur[t]?
  | [], _, _, cur, _, h => ⟨cur, h, rfl, fun _ _ => rfl⟩
  | v :: r, o, w, cur, e, h => by
    obtain ⟨cur', h1, h2, h3⟩ := heap_setCells b r (o + 1) (w.setCell ⟨b, o, none⟩ v) _ e (heap_setCell_same w b o _ _ v h)
    refine ⟨cur', h1, by simpa using h2, fun t ht => ?_⟩
    rw [h3 t (by omega), Array.getElem?_setIfInBounds, if_neg (by omega)]
theorem heap_setCells_other (b : Nat) : ∀ (vs : List Value) (o : Nat) (w : World) (k : Nat), k ≠ b → (w.setCells b o vs).heap[k]? = w.heap[k]?
  | [], _, _, _, _ => rfl
  | v :: r, o, w, k, h => by rw [World.setCells, heap_setCells_other b r (o + 1) _ k h]; exact heap_setCell_other _ _ _ _ h
theorem setCells_size (b : Nat) : ∀ (vs : List Value) (o : Nat) (w : World), (w.setCells b o vs).heap.size = w.heap.size ∧ (w.setCells b o vs).os = w.os ∧ (w.setCells b o vs).tape = w.tape ∧ (w.setCells b o vs).output = w.output
  | [], _, _ => ⟨rfl, rfl, rfl, rfl⟩
  | v :: r, o, w => by
    obtain ⟨h1, h2, h3, h4⟩ := setCells_size b r (o + 1) (w.setCell ⟨b, o, none⟩ v)
    rw [World.setCells]
    exact ⟨by rw [h1]; simp, h2, h3, h4⟩

/-- The first bind of a variable to itself. -/
def idxB (l : List Bd) : Int := match l.findIdx? (fun x => decide (selfB x)) with | none => -1 | some i => i

set_option maxHeartbeats 1000000 in
theorem indexSelf_any (l : List Bd) (A : Option Addr) (c : Nat) (w : World) (hA : Binds w (· < w.heap.size) A l) :
    Calls Try.prog 111 #[.slice A l.length c, .func (.func 56) #[] #[]] w fun e w' => e = .returned (.int .i64 (idxB l)) ∧ Below w.heap.size w w' := by
  have hlen := hA.len
  have HA := Lib.hid hA
  clear hA
  go_enter Try.func111, Try.ntmps111
  go_wp2
  go_loopw [8] (fun i wr => ∃ k : Nat, k ≤ l.length ∧ i = .int .i64 (k : Int) ∧ Below w.heap.size w wr ∧ Hid (∀ j, j < k → ∀ x, l[j]? = some x → ¬ selfB x)) (fun i _ => l.length - (intOf i).toNat)
  case atStart => exact ⟨0, Nat.zero_le _, rfl, Below.refl _ _, Lib.hid fun j hj => by omega⟩
  case round =>
    obtain ⟨k, hk, rfl, hBr, Hn⟩ := hrel
    by_cases hlt : k < l.length
    · obtain ⟨x, hx⟩ : ∃ x, l[k]? = some x := ⟨_, List.getElem?_eq_getElem hlt⟩
      obtain ⟨b, off, A', c', rfl, h⟩ := HA.out.get hx
      have e0 := cell_on hBr h.hb h.c0
      have e1 := cell_on hBr h.hb h.c1
      have e2 := cell_on hBr h.hb h.c2
      have hiv := h.iv
      have Hx := Lib.hid hx
      clear hx h
      by_cases hs : selfB x
      · have hns := Lib.hid (decide_eq_true hs)
        have hres : Hid (idxB l = (k : Int)) := Lib.hid (by
          obtain ⟨hk', hxe⟩ := List.getElem?_eq_some_iff.1 Hx.out
          have : l.findIdx? (fun x => decide (selfB x)) = some k := by
            rw [List.findIdx?_eq_some_iff_getElem]
            exact ⟨hk', by rw [hxe]; exact decide_eq_true hs, fun j hj => by have := Hn.out j hj _ (List.getElem?_eq_getElem (by omega)); simpa using this⟩
          unfold idxB
          rw [this])
        go_wp2_with (first
          | (go_at_call 56; refine (itself_any x A' c' wr hiv).mono ?_; go_must (rintro e w1 ⟨rfl, hb1⟩; rw [hns.out]; have hB1 := hBr.trans (hb1.mono hBr.size)))
          | fail)
        go_ret
        exact ⟨ret_int hres.out.symm, hB1⟩
      · have hns := Lib.hid (decide_eq_false hs)
        go_wp2_with (first
          | (go_at_call 56; refine (itself_any x A' c' wr hiv).mono ?_; go_must (rintro e w1 ⟨rfl, hb1⟩; rw [hns.out]; have hB1 := hBr.trans (hb1.mono hBr.size)))
          | fail)
        go_roundw
        case rel => exact ⟨k + 1, by omega, by go_num, hB1, Lib.hid fun j hj y hy => by
          rcases Nat.lt_or_ge j k with h | h
          · exact Hn.out j h y hy
          · obtain rfl : j = k := by omega
            rw [Hx.out] at hy; injection hy with hy; rw [← hy]; exact hs⟩
        case measure => simp [intOf]; omega
    · obtain rfl : k = l.length := by omega
      have hres : Hid (idxB l = -1) := Lib.hid (by
        have : l.findIdx? (fun x => decide (selfB x)) = none := by
          rw [List.findIdx?_eq_none_iff]
          intro x hx
          obtain ⟨j, hj⟩ := List.mem_iff_getElem?.1 hx
          have := Hn.out j (List.getElem?_eq_some_iff.1 hj).1 x hj
          simpa using this
        unfold idxB
        rw [this])
      go_wp2
      go_ret
      exact ⟨ret_int hres.out.symm, hBr⟩
end Go.Proofs.Ytfkefogmpmcfeaa
