/- The document's own answers: low, Small. -/
import Derived.Test.YtdeegdndfblnkaaD1
namespace Go.Proofs.Ytdeegdndfblnkaa
open Go.RowKit
set_option maxRecDepth 100000

mutual
def lowT : Tm → Bool
  | .node f xs => if f < 0 then decide (-48 ≤ f ∧ xs.length = 0) else lowL xs
def lowL : List Tm → Bool
  | [] => true
  | t :: ts => lowT t && lowL ts
end
theorem low_drop {xs : List Tm} {k : Nat} {u : Tm} (h : xs[k]? = some u) : lowL (xs.drop k) = (lowT u && lowL (xs.drop (k + 1))) := by
  have hlt := (List.getElem?_eq_some_iff.1 h).1
  rw [List.drop_eq_getElem_cons hlt]
  rw [List.getElem?_eq_getElem hlt] at h
  injection h with h
  rw [h]
  simp only [lowL]

def RLow (t : Tm) : Prop := ∀ (A : Option Addr) (c : Nat) (w : World), I64 t.fn → Args w w.heap.size A t.args →
  Calls Try.prog 68 #[.agg #[.int .i64 t.fn, .slice A t.args.length c], .int .i64 48] w fun e w' => e = .returned (.bool (lowT t)) ∧ Below w.heap.size w w'
set_option maxHeartbeats 1000000 in
theorem refLow_any (t : Tm) : RLow t := by
  refine Tm.ind (P := RLow) (fun f xs ih => ?_) t
  intro A c w hf hA
  simp only [Tm.fn, Tm.args] at hf hA ⊢
  have hlen := hA.len
  obtain ⟨W, hW⟩ : ∃ W, w.alloc (.cells #[.int .i64 f, .slice A xs.length c] 31) = W := ⟨_, rfl⟩
  obtain ⟨hB, hlt, hS⟩ := box_term hW
  have HW := Lib.hid hW
  obtain ⟨x0, x1⟩ := hS W (Below.refl _ _)
  clear hW
  by_cases hf0 : f < 0
  · have hl := Lib.hid (show lowT (.node f xs) = decide (-48 ≤ f ∧ xs.length = 0) by simp only [lowT, if_pos hf0])
    by_cases h48 : -48 ≤ f
    · go_enter Try.func68, Try.ntmps68
      go_upto_region 1 with fail
      rw [HW.out]
      go_wp2
      go_ret
      exact ⟨ret_bool (by rw [hl.out]; simp only [h48, true_and]; cases xs <;> simp; omega), hB⟩
    · go_enter Try.func68, Try.ntmps68
      go_upto_region 1 with fail
      rw [HW.out]
      go_wp2
      go_ret
      exact ⟨ret_bool (by rw [hl.out]; exact (decide_eq_false fun h => by have := h.1; omega).symm), hB⟩
  · have hl := Lib.hid (show lowT (.node f xs) = lowL xs by simp only [lowT, if_neg hf0])
    go_enter Try.func68, Try.ntmps68
    go_upto_region 1 with fail
    rw [HW.out]
    go_wp2
    clear x0 x1
    go_loopw [5] (fun i wr => ∃ k : Nat, k ≤ xs.length ∧ i = .int .i64 (k : Int) ∧ Below W.heap.size W wr ∧ Hid (lowL xs = lowL (xs.drop k))) (fun i _ => xs.length - (intOf i).toNat)
    case atStart => exact ⟨0, Nat.zero_le _, rfl, Below.refl _ _, rfl⟩
    case round =>
      obtain ⟨k, hk, rfl, hBr, H⟩ := hrel
      obtain ⟨_, x1⟩ := hS _ hBr
      by_cases hkl : k < xs.length
      · obtain ⟨u, hu⟩ : ∃ u, xs[k]? = some u := ⟨_, List.getElem?_eq_getElem hkl⟩
        obtain ⟨bb, off, A1, c1, rfl, ha⟩ := (hA.on (hB.trans (hBr.mono hB.size))).get hu
        have e0 := ha.c0
        have e1 := ha.c1
        have hmem := List.mem_of_getElem? hu
        have hd := low_drop hu
        have hsub := Lib.hid ha.sub
        have hu64 := ha.hi
        clear hu ha
        cases hb : lowT u with
        | true =>
          have H2 : Hid (lowL xs = lowL (xs.drop (k + 1))) := by rw [show lowL xs = _ from H.out, hd, hb, Bool.true_and]; rfl
          clear H hd
          go_wp2_with (first
            | (go_at_call 68
               go_must (
               refine (ih u hmem A1 c1 wr hu64 hsub.out).mono ?_
               rintro e w2 ⟨rfl, hb2⟩
               rw [hb]))
            | fail)
          exact ⟨⟨k + 1, by omega, by go_num, hBr.trans (hb2.mono hBr.size), H2⟩, by simp [intOf]; omega⟩
        | false =>
          have H2 : Hid (lowT (.node f xs) = false) := by rw [hl.out, show lowL xs = _ from H.out, hd, hb, Bool.false_and]; rfl
          clear H hd
          go_wp2_with (first
            | (go_at_call 68
               go_must (
               refine (ih u hmem A1 c1 wr hu64 hsub.out).mono ?_
               rintro e w2 ⟨rfl, hb2⟩
               rw [hb]))
            | fail)
          go_ret
          exact ⟨ret_bool H2.out.symm, (hB.trans (hBr.mono hB.size)).trans (hb2.mono (by have := hBr.size; omega))⟩
      · obtain rfl : k = xs.length := by omega
        have H2 : lowT (.node f xs) = true := by rw [hl.out, show lowL xs = _ from H.out]; simp [lowL]
        have H2 := Lib.hid H2
        go_wp2
        go_ret
        exact ⟨ret_bool H2.out.symm, hB.trans (hBr.mono hB.size)⟩

def smallT (t : Tm) : Bool := decide (t.size ≤ 300) && decide (t.depth ≤ 30) && lowT t
set_option maxHeartbeats 1000000 in
theorem refSmall_any (t : Tm) (A : Option Addr) (c : Nat) (w : World) (hsz : t.size ≤ 4611686018427387904) (hf : I64 t.fn) (hA : Args w w.heap.size A t.args) :
    Calls Try.prog 30 #[.agg #[.int .i64 t.fn, .slice A t.args.length c], .int .i64 48] w fun e w' => e = .returned (.bool (smallT t)) ∧ Below w.heap.size w w' := by
  have hdz := depth_le_size t
  obtain ⟨W, hW⟩ : ∃ W, w.alloc (.cells #[.int .i64 t.fn, .slice A t.args.length c] 31) = W := ⟨_, rfl⟩
  obtain ⟨hB, hlt, hS⟩ := box_term hW
  have HW := Lib.hid hW
  have HA := Lib.hid (hA.on hB)
  clear hW hA
  by_cases h1 : t.size ≤ 300
  · by_cases h2 : t.depth ≤ 30
    · have hs := Lib.hid (show smallT t = lowT t by simp [smallT, h1, h2])
      go_enter Try.func30, Try.ntmps30
      go_wp2_with (first
        | (go_at_call 46; go_must (rw [HW.out]; refine (refSize_any t hsz A c W hf HA.out).mono ?_; rintro e w1 ⟨rfl, hb1⟩; obtain ⟨x0, x1⟩ := hS _ hb1))
        | (go_at_call 67; go_must (refine (refDepth_any t (by omega) A c w1 hf (HA.out.on hb1)).mono ?_; rintro e w2 ⟨rfl, hb2⟩; have hB2 := bl_step hb1 hb2; obtain ⟨x2, x3⟩ := hS _ hB2))
        | (go_at_call 68; go_must (refine (refLow_any t A c w2 hf (HA.out.on hB2)).mono ?_; rintro e w3 ⟨rfl, hb3⟩; have hB3 := bl_step hB2 hb3))
        | fail)
      go_ret
      exact ⟨ret_bool hs.out.symm, hB.trans (hB3.mono hB.size)⟩
    · have hs := Lib.hid (show smallT t = false by simp [smallT, h2])
      go_enter Try.func30, Try.ntmps30
      go_wp2_with (first
        | (go_at_call 46; go_must (rw [HW.out]; refine (refSize_any t hsz A c W hf HA.out).mono ?_; rintro e w1 ⟨rfl, hb1⟩; obtain ⟨x0, x1⟩ := hS _ hb1))
        | (go_at_call 67; go_must (refine (refDepth_any t (by omega) A c w1 hf (HA.out.on hb1)).mono ?_; rintro e w2 ⟨rfl, hb2⟩; have hB2 := bl_step hb1 hb2))
        | fail)
      go_ret
      exact ⟨ret_bool hs.out.symm, hB.trans (hB2.mono hB.size)⟩
  · have hs := Lib.hid (show smallT t = false by simp [smallT, h1])
    go_enter Try.func30, Try.ntmps30
    go_wp2_with (first
      | (go_at_call 46; go_must (rw [HW.out]; refine (refSize_any t hsz A c W hf HA.out).mono ?_; rintro e w1 ⟨rfl, hb1⟩))
      | fail)
    go_ret
    exact ⟨ret_bool hs.out.symm, hB.trans (hb1.mono hB.size)⟩
end Go.Proofs.Ytdeegdndfblnkaa
