/- The document's own answers: low, over, Small, Check. -/
import Derived.Test.YtkgikjjngbifjaaDoorD1
import Derived.Test.YtkgikjjngbifjaaDoorG3
namespace Go.Proofs.YtkgikjjngbifjaaDoor
open Go.RowKit
set_option maxRecDepth 100000

mutual
def lowT : Tm → Bool
  | .node f xs => if f < 0 then decide (-48 ≤ f ∧ xs.length = 0) else lowL xs
def lowL : List Tm → Bool
  | [] => true
  | t :: ts => lowT t && lowL ts
end
mutual
def overT (l : List Sm) : Tm → Bool → Bool
  | .node f xs, top => if f < 0 then true else match l[f.toNat]? with
    | none => false
    | some s => if s.arity ≠ xs.length ∨ (s.pred = true ∧ top = false) then false else overL l xs
def overL (l : List Sm) : List Tm → Bool
  | [] => true
  | t :: ts => overT l t false && overL l ts
end
theorem low_drop {xs : List Tm} {k : Nat} {u : Tm} (h : xs[k]? = some u) : lowL (xs.drop k) = (lowT u && lowL (xs.drop (k + 1))) := by
  have hlt := (List.getElem?_eq_some_iff.1 h).1
  rw [List.drop_eq_getElem_cons hlt]
  rw [List.getElem?_eq_getElem hlt] at h
  injection h with h
  rw [h]
  simp only [lowL]
theorem over_drop {l : List Sm} {xs : List Tm} {k : Nat} {u : Tm} (h : xs[k]? = some u) : overL l (xs.drop k) = (overT l u false && overL l (xs.drop (k + 1))) := by
  have hlt := (List.getElem?_eq_some_iff.1 h).1
  rw [List.drop_eq_getElem_cons hlt]
  rw [List.getElem?_eq_getElem hlt] at h
  injection h with h
  rw [h]
  simp only [overL]

def RLow (t : Tm) : Prop := ∀ (A : Option Addr) (c : Nat) (w : World), I64 t.fn → Args w w.heap.size A t.args →
  Calls Tryd.prog 63 #[.agg #[.int .i64 t.fn, .slice A t.args.length c], .int .i64 48] w fun e w' => e = .returned (.bool (lowT t)) ∧ Below w.heap.size w w'
set_option maxHeartbeats 1000000 in
theorem refLow_any (t : Tm) : RLow t := by
  refine Tm.ind (P := RLow) (fun f xs ih => ?_) t
  intro A c w hf hA
  simp only [Tm.fn, Tm.args] at hf hA ⊢
  have hlen := hA.len
  obtain ⟨W, hW⟩ : ∃ W, w.alloc (.cells #[.int .i64 f, .slice A xs.length c] 27) = W := ⟨_, rfl⟩
  obtain ⟨hB, hlt, hS⟩ := box_term hW
  have HW := Lib.hid hW
  obtain ⟨x0, x1⟩ := hS W (Below.refl _ _)
  clear hW
  by_cases hf0 : f < 0
  · have hl := Lib.hid (show lowT (.node f xs) = decide (-48 ≤ f ∧ xs.length = 0) by simp only [lowT, if_pos hf0])
    by_cases h48 : -48 ≤ f
    · go_enter Tryd.func63, Tryd.ntmps63
      go_upto_region 1 with fail
      rw [HW.out]
      go_wp2
      go_ret
      exact ⟨ret_bool (by rw [hl.out]; simp only [h48, true_and]; cases xs <;> simp; omega), hB⟩
    · go_enter Tryd.func63, Tryd.ntmps63
      go_upto_region 1 with fail
      rw [HW.out]
      go_wp2
      go_ret
      exact ⟨ret_bool (by rw [hl.out]; exact (decide_eq_false fun h => by have := h.1; omega).symm), hB⟩
  · have hl := Lib.hid (show lowT (.node f xs) = lowL xs by simp only [lowT, if_neg hf0])
    go_enter Tryd.func63, Tryd.ntmps63
    go_upto_region 1 with fail
    rw [HW.out]
    go_wp2
    clear x0 x1
    go_loopw [5] (fun i wr => ∃ k : Nat, k ≤ xs.length ∧ i = .int .i64 (k : Int) ∧ Below W.heap.size W wr ∧ Hid (lowL xs = lowL (xs.drop k))) (fun i _ => xs.length - (intOf i).toNat)
    case atStart => exact ⟨0, Nat.zero_le _, rfl, Below.refl _ _, rfl⟩
    case round =>
      obtain ⟨k, hk, rfl, hBr, H⟩ := hrel
      obtain ⟨_, x1⟩ := hS _ hBr
      by_cases hkl : k < xs.length
      · obtain ⟨u, hu⟩ : ∃ u, xs[k]? = some u := ⟨_, List.getElem?_eq_getElem hkl⟩
        obtain ⟨bb, off, A1, c1, rfl, ha⟩ := (hA.on (hB.trans (hBr.mono hB.size))).get hu
        have e0 := ha.c0
        have e1 := ha.c1
        have hmem := List.mem_of_getElem? hu
        have hd := low_drop hu
        have hsub := Lib.hid ha.sub
        have hu64 := ha.hi
        clear hu ha
        cases hb : lowT u with
        | true =>
          have H2 : Hid (lowL xs = lowL (xs.drop (k + 1))) := by rw [show lowL xs = _ from H.out, hd, hb, Bool.true_and]; rfl
          clear H hd
          go_wp2_with (first
            | (go_at_call 63
               go_must (
               refine (ih u hmem A1 c1 wr hu64 hsub.out).mono ?_
               rintro e w2 ⟨rfl, hb2⟩
               rw [hb]))
            | fail)
          exact ⟨⟨k + 1, by omega, by go_num, hBr.trans (hb2.mono hBr.size), H2⟩, by simp [intOf]; omega⟩
        | false =>
          have H2 : Hid (lowT (.node f xs) = false) := by rw [hl.out, show lowL xs = _ from H.out, hd, hb, Bool.false_and]; rfl
          clear H hd
          go_wp2_with (first
            | (go_at_call 63
               go_must (
               refine (ih u hmem A1 c1 wr hu64 hsub.out).mono ?_
               rintro e w2 ⟨rfl, hb2⟩
               rw [hb]))
            | fail)
          go_ret
          exact ⟨ret_bool H2.out.symm, (hB.trans (hBr.mono hB.size)).trans (hb2.mono (by have := hBr.size; omega))⟩
      · obtain rfl : k = xs.length := by omega
        have H2 : lowT (.node f xs) = true := by rw [hl.out, show lowL xs = _ from H.out]; simp [lowL]
        have H2 := Lib.hid H2
        go_wp2
        go_ret
        exact ⟨ret_bool H2.out.symm, hB.trans (hBr.mono hB.size)⟩

theorem fit_iff (l : List Sm) (t : Tm) : ∀ d r, 1 ≤ d → ((fitT l t d r).1 = true ↔ ((t.size : Int) ≤ r ∧ (t.depth : Int) + d ≤ 31 ∧ lowT t = true ∧ overT l t (decide (d ≤ 1)) = true)) := by
  refine Tm.ind (P := fun t => ∀ d r, 1 ≤ d → ((fitT l t d r).1 = true ↔ ((t.size : Int) ≤ r ∧ (t.depth : Int) + d ≤ 31 ∧ lowT t = true ∧ overT l t (decide (d ≤ 1)) = true))) (fun f xs ih d r hd => ?_) t
  have key : ∀ ys : List Tm, (∀ t ∈ ys, t ∈ xs) → ∀ d r, 2 ≤ d → d ≤ 31 → 0 ≤ r → ((fitL l ys d r).1 = true ↔ ((sizes ys : Int) ≤ r ∧ (depths ys : Int) + d ≤ 31 ∧ lowL ys = true ∧ overL l ys = true)) := by
    intro ys
    induction ys with
    | nil => intro _ d r h1 h2 h3; simp [fitL, sizes, depths, lowL, overL]; omega
    | cons y ys ihy =>
      intro hm d r h1 h2 h3
      have e1 := ih y (hm y (by simp)) d r (by omega)
      rw [show decide (d ≤ 1) = false by simp; omega] at e1
      simp only [sizes, depths, lowL, overL, Bool.and_eq_true]
      cases hb : (fitT l y d r).1 with
      | true =>
        rw [fitL_yes hb]
        obtain ⟨a1, a2, a3, a4⟩ := e1.1 hb
        have hs := fit_size l y d r hb
        rw [ihy (fun t ht => hm t (by simp [ht])) d _ h1 h2 ((fit_le l y d r h3).2.2 hb), hs.1]
        constructor
        · rintro ⟨b1, b2, b3, b4⟩; exact ⟨by omega, by omega, ⟨a3, b3⟩, a4, b4⟩
        · rintro ⟨b1, b2, ⟨_, b3⟩, _, b4⟩; exact ⟨by omega, by omega, b3, b4⟩
      | false =>
        rw [fitL_no hb]
        constructor
        · intro h; cases h
        · rintro ⟨b1, b2, ⟨b3, _⟩, b4, _⟩
          have := e1.2 ⟨by omega, by omega, b3, b4⟩
          rw [hb] at this; cases this
  simp only [Tm.size, Tm.depth]
  by_cases h1 : r - 1 < 0 ∨ 30 < d
  · rw [fit_room h1]
    constructor
    · intro h; cases h
    · rintro ⟨b1, b2, _, _⟩; omega
  · by_cases hf : f < 0
    · rw [fit_var h1 hf]
      simp only [lowT, overT, if_pos hf, decide_eq_true_eq]
      constructor
      · rintro ⟨b1, b2⟩
        have hx : xs = [] := List.eq_nil_of_length_eq_zero b2
        subst hx
        simp [sizes, depths]; omega
      · rintro ⟨_, _, ⟨b1, b2⟩, _⟩; exact ⟨by omega, b2⟩
    · simp only [lowT, overT, if_neg hf]
      cases hs : l[f.toNat]? with
      | none =>
        rw [fit_out h1 hf (by have := List.getElem?_eq_none_iff.1 hs; omega)]
        simp
      | some s =>
        by_cases hb : s.arity ≠ xs.length ∨ (s.pred = true ∧ 1 < d)
        · rw [fit_bad h1 hf hs hb]
          have hb' : s.arity ≠ xs.length ∨ (s.pred = true ∧ decide (d ≤ 1) = false) := hb.imp id fun h => ⟨h.1, by simp; omega⟩
          simp only [if_pos hb']
          simp
        · have hb' : ¬ (s.arity ≠ xs.length ∨ (s.pred = true ∧ decide (d ≤ 1) = false)) := fun h => hb (h.imp id fun h => ⟨h.1, by have := h.2; simp at this; omega⟩)
          rw [fit_in h1 hf hs hb, key xs (fun _ h => h) (d + 1) (r - 1) (by omega) (by omega) (by omega)]
          simp only [if_neg hb']
          constructor
          · rintro ⟨b1, b2, b3, b4⟩; exact ⟨by omega, by omega, b3, b4⟩
          · rintro ⟨b1, b2, b3, b4⟩; exact ⟨by omega, by omega, b3, b4⟩
theorem chk_two {l : List Sm} {t : Tm} (h : ¬ chkT l t = 0) : chkT l t = 2 := by
  unfold chkT at h ⊢
  split
  · rfl
  · rename_i h1; rw [if_neg h1] at h
    split
    · rename_i h2; rw [if_pos h2] at h; exact absurd rfl h
    · rfl
end Go.Proofs.YtkgikjjngbifjaaDoor
