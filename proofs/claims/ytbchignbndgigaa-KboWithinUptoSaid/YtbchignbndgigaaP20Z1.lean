import Derived.Test.YtbchignbndgigaaP17Z2
import Derived.Test.YtbchignbndgigaaP19Z1
import Derived.Test.YtbchignbndgigaaP17Z8
import Derived.Test.YtbchignbndgigaaP19Z2
import Derived.Test.YtbchignbndgigaaP17Z9
import Derived.Test.YtbchignbndgigaaP17Z1
import Derived.Deep.RegionLaw
/- The document's own answers: low, Small. -/

namespace Go.Proofs.Ytbchignbndgigaa

open Go.RowKit
set_option maxRecDepth 100000

mutual
def lowT : Tm → Bool
  | .node f xs => if f < 0 then decide (-48 ≤ f ∧ xs.length = 0) else lowL xs
def lowL : List Tm → Bool
  | [] => true
  | t :: ts => lowT t && lowL ts
end

theorem low_drop {xs : List Tm} {k : Nat} {u : Tm} (h : xs[k]? = some u) : lowL (xs.drop k) = (lowT u && lowL (xs.drop (k + 1))) := by
  have hlt := (List.getElem?_eq_some_iff.1 h).1
  rw [List.drop_eq_getElem_cons hlt]
  rw [List.getElem?_eq_getElem hlt] at h
  injection h with h
  rw [h]
  simp only [lowL]

def RLow (t : Tm) : Prop := ∀ (A : Option Addr) (c : Nat) (w : World), I64 t.fn → Args w w.heap.size A t.args →
  Calls Try.prog 89 #[.agg #[.int .i64 t.fn, .slice A t.args.length c], .int .i64 48] w fun e w' => e = .returned (.bool (lowT t)) ∧ Below w.heap.size w w'

set_option maxHeartbeats 1000000 in
theorem refLow_any (t : Tm) : RLow t := by
  refine Tm.ind (P := RLow) (fun f xs ih => ?_) t
  intro A c w hf hA
  simp only [Tm.fn, Tm.args] at hf hA ⊢
  have hlen := hA.len
  obtain ⟨W, hW⟩ : ∃ W, w.alloc (.cells #[.int .i64 f, .slice A xs.length c] 27) = W := ⟨_, rfl⟩
  obtain ⟨hB, hlt, hS⟩ := box_term hW
  have HW := Lib.hid hW
  obtain ⟨x0, x1⟩ := hS W (Below.refl _ _)
  clear hW
  by_cases hf0 : f < 0
  · have hl := Lib.hid (show lowT (.node f xs) = decide (-48 ≤ f ∧ xs.length = 0) by simp only [lowT, if_pos hf0])
    by_cases h48 : -48 ≤ f
    · go_enter Try.func89, Try.ntmps89
      go_upto_region 1 with fail
      rw [HW.out]
      go_wp2
      go_ret
      exact ⟨ret_bool (by rw [hl.out]; simp only [h48, true_and]; cases xs <;> simp; omega), hB⟩
    · go_enter Try.func89, Try.ntmps89
      go_upto_region 1 with fail
      rw [HW.out]
      go_wp2
      go_ret
      exact ⟨ret_bool (by rw [hl.out]; exact (decide_eq_false fun h => by have := h.1; omega).symm), hB⟩
  · have hl := Lib.hid (show lowT (.node f xs) = lowL xs by simp only [lowT, if_neg hf0])
    go_enter Try.func89, Try.ntmps89
    go_upto_region 1 with fail
    rw [HW.out]
    go_wp2
    clear x0 x1
    go_loopw [5] (fun i wr => ∃ k : Nat, k ≤ xs.length ∧ i = .int .i64 (k : Int) ∧ Below W.heap.size W wr ∧ Hid (lowL xs = lowL (xs.drop k))) (fun i _ => xs.length - (intOf i).toNat)
    case atStart => exact ⟨0, Nat.zero_le _, rfl, Below.refl _ _, rfl⟩
    case round =>
      obtain ⟨k, hk, rfl, hBr, H⟩ := hrel
      obtain ⟨_, x1⟩ := hS _ hBr
      by_cases hkl : k < xs.length
      · obtain ⟨u, hu⟩ : ∃ u, xs[k]? = some u := ⟨_, List.getElem?_eq_getElem hkl⟩
        obtain ⟨bb, off, A1, c1, rfl, ha⟩ := (hA.on (hB.trans (hBr.mono hB.size))).get hu
        have e0 := ha.c0
        have e1 := ha.c1
        have hmem := List.mem_of_getElem? hu
        have hd := low_drop hu
        have hsub := Lib.hid ha.sub
        have hu64 := ha.hi
        clear hu ha
        cases hb : lowT u with
        | true =>
          have H2 : Hid (lowL xs = lowL (xs.drop (k + 1))) := by rw [show lowL xs = _ from H.out, hd, hb, Bool.true_and]; rfl
          clear H hd
          go_wp2_with (first
            | (go_at_call 89
               go_must (
               refine (ih u hmem A1 c1 wr hu64 hsub.out).mono ?_
               rintro e w2 ⟨rfl, hb2⟩
               rw [hb]))
            | fail)
          exact ⟨⟨k + 1, by omega, by go_num, hBr.trans (hb2.mono hBr.size), H2⟩, by simp [intOf]; omega⟩
        | false =>
          have H2 : Hid (lowT (.node f xs) = false) := by rw [hl.out, show lowL xs = _ from H.out, hd, hb, Bool.false_and]; rfl
          clear H hd
          go_wp2_with (first
            | (go_at_call 89
               go_must (
               refine (ih u hmem A1 c1 wr hu64 hsub.out).mono ?_
               rintro e w2 ⟨rfl, hb2⟩
               rw [hb]))
            | fail)
          go_ret
          exact ⟨ret_bool H2.out.symm, (hB.trans (hBr.mono hB.size)).trans (hb2.mono (by have := hBr.size; omega))⟩
      · obtain rfl : k = xs.length := by omega
        have H2 : lowT (.node f xs) = true := by rw [hl.out, show lowL xs = _ from H.out]; simp [lowL]
        have H2 := Lib.hid H2
        go_wp2
        go_ret
        exact ⟨ret_bool H2.out.symm, hB.trans (hBr.mono hB.size)⟩

def smallT (t : Tm) : Bool := decide (t.size ≤ 300) && decide (t.depth ≤ 30) && lowT t

set_option maxHeartbeats 1000000 in
theorem refSmall_any (t : Tm) (A : Option Addr) (c : Nat) (w : World) (hsz : t.size ≤ 4611686018427387904) (hf : I64 t.fn) (hA : Args w w.heap.size A t.args) :
    Calls Try.prog 70 #[.agg #[.int .i64 t.fn, .slice A t.args.length c], .int .i64 48] w fun e w' => e = .returned (.bool (smallT t)) ∧ Below w.heap.size w w' := by
  have hdz := depth_le_size t
  obtain ⟨W, hW⟩ : ∃ W, w.alloc (.cells #[.int .i64 t.fn, .slice A t.args.length c] 27) = W := ⟨_, rfl⟩
  obtain ⟨hB, hlt, hS⟩ := box_term hW
  have HW := Lib.hid hW
  have HA := Lib.hid (hA.on hB)
  clear hW hA
  by_cases h1 : t.size ≤ 300
  · by_cases h2 : t.depth ≤ 30
    · have hs := Lib.hid (show smallT t = lowT t by simp [smallT, h1, h2])
      go_enter Try.func70, Try.ntmps70
      go_wp2_with (first
        | (go_at_call 35; go_must (rw [HW.out]; refine (refSize_any t hsz A c W hf HA.out).mono ?_; rintro e w1 ⟨rfl, hb1⟩; obtain ⟨x0, x1⟩ := hS _ hb1))
        | (go_at_call 88; go_must (refine (refDepth_any t (by omega) A c w1 hf (HA.out.on hb1)).mono ?_; rintro e w2 ⟨rfl, hb2⟩; have hB2 := bl_step hb1 hb2; obtain ⟨x2, x3⟩ := hS _ hB2))
        | (go_at_call 89; go_must (refine (refLow_any t A c w2 hf (HA.out.on hB2)).mono ?_; rintro e w3 ⟨rfl, hb3⟩; have hB3 := bl_step hB2 hb3))
        | fail)
      go_ret
      exact ⟨ret_bool hs.out.symm, hB.trans (hB3.mono hB.size)⟩
    · have hs := Lib.hid (show smallT t = false by simp [smallT, h2])
      go_enter Try.func70, Try.ntmps70
      go_wp2_with (first
        | (go_at_call 35; go_must (rw [HW.out]; refine (refSize_any t hsz A c W hf HA.out).mono ?_; rintro e w1 ⟨rfl, hb1⟩; obtain ⟨x0, x1⟩ := hS _ hb1))
        | (go_at_call 88; go_must (refine (refDepth_any t (by omega) A c w1 hf (HA.out.on hb1)).mono ?_; rintro e w2 ⟨rfl, hb2⟩; have hB2 := bl_step hb1 hb2))
        | fail)
      go_ret
      exact ⟨ret_bool hs.out.symm, hB.trans (hB2.mono hB.size)⟩
  · have hs := Lib.hid (show smallT t = false by simp [smallT, h1])
    go_enter Try.func70, Try.ntmps70
    go_wp2_with (first
      | (go_at_call 35; go_must (rw [HW.out]; refine (refSize_any t hsz A c W hf HA.out).mono ?_; rintro e w1 ⟨rfl, hb1⟩))
      | fail)
    go_ret
    exact ⟨ret_bool hs.out.symm, hB.trans (hb1.mono hB.size)⟩

end Go.Proofs.Ytbchignbndgigaa

/- The document's own answers: over, Check (of a term). -/

namespace Go.Proofs.Ytbchignbndgigaa

open Go.RowKit
set_option maxRecDepth 100000

mutual
def overT (l : List Sm) : Tm → Bool → Bool
  | .node f xs, top => if f < 0 then true else match l[f.toNat]? with
    | none => false
    | some s => if s.arity ≠ xs.length ∨ (s.pred = true ∧ top = false) then false else overL l xs
def overL (l : List Sm) : List Tm → Bool
  | [] => true
  | t :: ts => overT l t false && overL l ts
end

theorem over_drop {l : List Sm} {xs : List Tm} {k : Nat} {u : Tm} (h : xs[k]? = some u) : overL l (xs.drop k) = (overT l u false && overL l (xs.drop (k + 1))) := by
  have hlt := (List.getElem?_eq_some_iff.1 h).1
  rw [List.drop_eq_getElem_cons hlt]
  rw [List.getElem?_eq_getElem hlt] at h
  injection h with h
  rw [h]
  simp only [overL]

section

variable {l : List Sm} {f : Int} {xs : List Tm} {top : Bool} {s : Sm}

theorem over_var (hf : f < 0) : overT l (.node f xs) top = true := by simp only [overT, if_pos hf]

theorem over_out (hf : ¬ f < 0) (h : (l.length : Int) ≤ f) : overT l (.node f xs) top = false := by
  simp only [overT, if_neg hf, List.getElem?_eq_none (show l.length ≤ f.toNat by omega)]

theorem over_bad (hf : ¬ f < 0) (hs : l[f.toNat]? = some s) (hb : s.arity ≠ xs.length ∨ (s.pred = true ∧ top = false)) : overT l (.node f xs) top = false := by
  simp only [overT, if_neg hf, hs, if_pos hb]

theorem over_in (hf : ¬ f < 0) (hs : l[f.toNat]? = some s) (hb : ¬ (s.arity ≠ xs.length ∨ (s.pred = true ∧ top = false))) : overT l (.node f xs) top = overL l xs := by
  simp only [overT, if_neg hf, hs, if_neg hb]

end

def ROver (l : List Sm) (t : Tm) : Prop := ∀ (As A : Option Addr) (cs c : Nat) (top : Bool) (w : World), I64 t.fn → Syms w w.heap.size As l.length l → Args w w.heap.size A t.args →
  Calls Try.prog 71 #[.agg #[.slice As l.length cs], .agg #[.int .i64 t.fn, .slice A t.args.length c], .bool top] w fun e w' => e = .returned (.bool (overT l t top)) ∧ Below w.heap.size w w'

set_option maxHeartbeats 2000000 in
theorem refOver_any (l : List Sm) (hl : l.length ≤ 9223372036854775807) (t : Tm) : ROver l t := by
  refine Tm.ind (P := ROver l) (fun f xs ih => ?_) t
  intro As A cs c top w hf hS hA
  simp only [Tm.fn, Tm.args] at hf hA ⊢
  have hlen := hA.len
  obtain ⟨p0, p1⟩ := heap2 w (.cells #[.slice As l.length cs] 36) (.cells #[.int .i64 f, .slice A xs.length c] 27)
  obtain ⟨W, hW⟩ : ∃ W, ((w.alloc (.cells #[.slice As l.length cs] 36)).alloc (.cells #[.int .i64 f, .slice A xs.length c] 27)) = W := ⟨_, rfl⟩
  have hB : Below w.heap.size w W := by rw [← hW]; exact ((Below.refl _ _).alloc (Nat.le_refl _) _).alloc (by simp) _
  rw [hW] at p0 p1
  have hWs : w.heap.size + 1 < W.heap.size := (Array.getElem?_eq_some_iff.1 p1).1
  have HW := Lib.hid hW
  have hSS : ∀ w', Below W.heap.size W w' → w'.cell? ⟨w.heap.size, 0, none⟩ = some (.slice As l.length cs) ∧ w'.cell? ⟨w.heap.size + 1, 1, none⟩ = some (.slice A xs.length c) := fun w' h =>
    ⟨(cells_one ((h.block _ (by omega)).trans p0)).1, (cells_two ((h.block _ hWs).trans p1)).2.1⟩
  obtain ⟨a0, _⟩ := cells_one p0
  obtain ⟨b0, b1, _, _⟩ := cells_two p1
  have hSW := hS.on hB
  have HS := Lib.hid hS
  clear hW p0 p1
  by_cases hf0 : f < 0
  · have ho := Lib.hid (over_var (l := l) (xs := xs) (top := top) hf0)
    go_enter Try.func71, Try.ntmps71
    go_upto_region 1 with fail
    rw [HW.out]
    go_wp2
    go_ret
    exact ⟨ret_bool ho.out.symm, hB⟩
  · by_cases hout : (l.length : Int) ≤ f
    · have ho := Lib.hid (over_out (xs := xs) (top := top) hf0 hout)
      go_enter Try.func71, Try.ntmps71
      go_upto_region 1 with fail
      rw [HW.out]
      go_wp2
      go_ret
      exact ⟨ret_bool ho.out.symm, hB⟩
    · obtain ⟨k0, rfl⟩ : ∃ k0 : Nat, f = (k0 : Int) := ⟨f.toNat, by omega⟩
      obtain ⟨s, hs⟩ : ∃ s, l[k0]? = some s := ⟨_, List.getElem?_eq_getElem (by omega)⟩
      obtain ⟨sb, so, rfl, hsb, hsc⟩ := hSW.ad (by omega)
      obtain ⟨y0, y1, y2⟩ := hsc _ _ hs
      have hs' : l[((k0 : Int)).toNat]? = some s := by simpa using hs
      have hlt' : (k0 : Int) < l.length := by omega
      have hge' : (k0 : Int) ≥ 0 := by omega
      have hB5 : Below W.heap.size W (W.alloc (.cells #[.string s.name, .int .i64 s.arity, .bool s.pred] 89)) := (Below.refl _ _).alloc (Nat.le_refl _) _
      by_cases hb : s.arity ≠ xs.length ∨ (s.pred = true ∧ top = false)
      · have ho := Lib.hid (over_bad (xs := xs) hf0 hs' hb)
        by_cases hb1 : s.arity = xs.length
        · obtain ⟨hb3, rfl⟩ := hb.resolve_left (fun h => h hb1)
          clear hs hs' hsc
          go_enter Try.func71, Try.ntmps71
          go_upto_region 1 with fail
          rw [HW.out]
          go_wp2
          go_ret
          exact ⟨ret_bool ho.out.symm, hB.trans (hB5.mono hB.size) |>.mono (Nat.le_refl _) |> fun h => by simpa [hb1, hb3] using h⟩
        · clear hs hs' hsc
          go_enter Try.func71, Try.ntmps71
          go_upto_region 1 with fail
          rw [HW.out]
          go_wp2
          go_ret
          exact ⟨ret_bool ho.out.symm, hB.trans (hB5.mono hB.size)⟩
      · have hol := Lib.hid (over_in (xs := xs) hf0 hs' hb)
        have hb1 : s.arity = xs.length := Classical.not_not.1 (fun h => hb (.inl h))
        have hb2 : s.pred = true → top = true := fun h => by
          cases htop : top with
          | true => rfl
          | false => exact absurd (.inr ⟨h, htop⟩) hb
        clear hs hs' hsc hb
        go_enter Try.func71, Try.ntmps71
        go_upto_region 1 with fail
        rw [HW.out]
        go_upto_region 6 with fail
        go_cut [37] (fun s37 wx => s37 = .bool false ∧ wx = W.alloc (.cells #[.string s.name, .int .i64 s.arity, .bool s.pred] 89))
        case first =>
          by_cases hp : s.pred = true
          · have htop := hb2 hp
            subst htop
            go_wp2
            go_meet
            case rel => exact ⟨rfl, by rw [hb1, hp]⟩
          · have hp' : s.pred = false := by simpa using hp
            go_wp2
            go_meet
            case rel => exact ⟨rfl, by rw [hb1, hp']⟩
        case rest =>
          obtain ⟨rfl, rfl⟩ := hcut
          clear a0 b0 b1 y0 y1 y2
          go_wp2
          go_loopw [8] (fun i wr => ∃ k : Nat, k ≤ xs.length ∧ i = .int .i64 (k : Int) ∧ Below W.heap.size W wr ∧ Hid (overL l xs = overL l (xs.drop k))) (fun i _ => xs.length - (intOf i).toNat)
          case atStart => exact ⟨0, Nat.zero_le _, rfl, by rw [← hb1]; exact hB5, rfl⟩
          case round =>
            obtain ⟨k, hk, rfl, hBr, H⟩ := hrel
            obtain ⟨x0, x1⟩ := hSS _ hBr
            have hBw := hB.trans (hBr.mono hB.size)
            have hBrs := hBr.size
            by_cases hkl : k < xs.length
            · obtain ⟨u, hu⟩ : ∃ u, xs[k]? = some u := ⟨_, List.getElem?_eq_getElem hkl⟩
              obtain ⟨bb, off, A1, c1, rfl, ha⟩ := (hA.on hBw).get hu
              have e0 := ha.c0
              have e1 := ha.c1
              have hbb := ha.hb
              have hmem := List.mem_of_getElem? hu
              have hd := over_drop (l := l) hu
              have hsub : Hid (Args wr.drew wr.drew.heap.size A1 u.args) := ha.sub.drewN 1
              have hsy : Hid (Syms wr.drew wr.drew.heap.size (some ⟨sb, so, none⟩) l.length l) := (HS.out.on hBw).drewN 1
              have hu64 := ha.hi
              have hkeep : ∀ w2, Below wr.drew.heap.size wr.drew w2 → w2.cell? ⟨w.heap.size, 0, none⟩ = some (.slice (some ⟨sb, so, none⟩) l.length cs) ∧ w2.cell? ⟨w.heap.size + 1, 1, none⟩ = some (.slice (some ⟨bb, off, none⟩) xs.length c) ∧ w2.cell? ⟨bb, off + k * 2, none⟩ = some (.int .i64 u.fn) ∧ w2.cell? ⟨bb, off + k * 2 + 1, none⟩ = some (.slice A1 u.args.length c1) := fun w2 h => by
                have h' : Below wr.heap.size wr w2 := ⟨h.os, h.tape, h.output, h.size, h.block⟩
                exact ⟨cell_on h' (by omega) x0, cell_on h' (by omega) x1, cell_on h' hbb e0, cell_on h' hbb e1⟩
              clear hu ha
              cases hb : overT l u false with
              | true =>
                have H2 : Hid (overL l xs = overL l (xs.drop (k + 1))) := by rw [show overL l xs = _ from H.out, hd, hb, Bool.true_and]; rfl
                clear H hd
                go_wp2
                go_region_held3 (fun w' => w'.cell? ⟨w.heap.size, 0, none⟩ = some (.slice (some ⟨sb, so, none⟩) l.length cs) ∧ w'.cell? ⟨w.heap.size + 1, 1, none⟩ = some (.slice (some ⟨bb, off, none⟩) xs.length c) ∧ w'.cell? ⟨bb, off + k * 2, none⟩ = some (.int .i64 u.fn) ∧ w'.cell? ⟨bb, off + k * 2 + 1, none⟩ = some (.slice A1 u.args.length c1))
                  (first | exact ⟨x0, x1, e0, e1⟩ | exact hkeep _ hb2 | fail)
                  (first | (go_at_call 71; refine (ih u hmem (some ⟨sb, so, none⟩) A1 cs c1 false wr.drew hu64 hsy.out hsub.out).mono ?_; rintro e w2 ⟨rfl, hb2⟩; rw [hb]) | fail)
                go_wp2
                exact ⟨⟨k + 1, by omega, by go_num, hBr.trans (Below.mono (B := wr.heap.size) ⟨hb2.os, hb2.tape, hb2.output, hb2.size, hb2.block⟩ hBrs), H2⟩, by simp [intOf]; omega⟩
              | false =>
                have H2 : Hid (overT l (.node (k0 : Int) xs) top = false) := by rw [hol.out, show overL l xs = _ from H.out, hd, hb, Bool.false_and]; rfl
                clear H hd
                go_wp2
                go_region_held3 (fun w' => w'.cell? ⟨w.heap.size, 0, none⟩ = some (.slice (some ⟨sb, so, none⟩) l.length cs) ∧ w'.cell? ⟨w.heap.size + 1, 1, none⟩ = some (.slice (some ⟨bb, off, none⟩) xs.length c) ∧ w'.cell? ⟨bb, off + k * 2, none⟩ = some (.int .i64 u.fn) ∧ w'.cell? ⟨bb, off + k * 2 + 1, none⟩ = some (.slice A1 u.args.length c1))
                  (first | exact ⟨x0, x1, e0, e1⟩ | exact hkeep _ hb2 | fail)
                  (first | (go_at_call 71; refine (ih u hmem (some ⟨sb, so, none⟩) A1 cs c1 false wr.drew hu64 hsy.out hsub.out).mono ?_; rintro e w2 ⟨rfl, hb2⟩; rw [hb]) | fail)
                go_wp2
                go_ret
                exact ⟨ret_bool H2.out.symm, hBw.trans (Below.mono (B := wr.heap.size) ⟨hb2.os, hb2.tape, hb2.output, hb2.size, hb2.block⟩ (by omega))⟩
            · obtain rfl : k = xs.length := by omega
              have H2 : overT l (.node (k0 : Int) xs) top = true := by rw [hol.out, show overL l xs = _ from H.out]; simp [overL]
              have H2 := Lib.hid H2
              go_wp2
              go_ret
              exact ⟨ret_bool H2.out.symm, hBw⟩

/-- May the term be over the signature? -/
def chkP (l : List Sm) (t : Tm) : Int := if checkI l = 0 then (if smallT t = true then (if overT l t true = true then 0 else 2) else 2) else 2

set_option maxHeartbeats 2000000 in
theorem ref2ChkP_any (l : List Sm) (t : Tm) (As A : Option Addr) (n cs c : Nat) (w : World) (hsz : t.size ≤ 4611686018427387904) (hS : Syms w w.heap.size As n l) (hn : n * 32 ≤ 140737488351232) (hf : I64 t.fn) (hA : Args w w.heap.size A t.args) :
    Calls Try.prog 48 #[.agg #[.slice As n cs], .agg #[.int .i64 t.fn, .slice A t.args.length c]] w fun e w' => e = .returned (.int .i64 (chkP l t)) ∧ Below w.heap.size w w' := by
  obtain rfl := hS.len
  have hl64 : l.length ≤ 9223372036854775807 := by omega
  obtain ⟨p0, p1⟩ := heap2 w (.cells #[.slice As l.length cs] 36) (.cells #[.int .i64 t.fn, .slice A t.args.length c] 27)
  obtain ⟨W, hW⟩ : ∃ W, ((w.alloc (.cells #[.slice As l.length cs] 36)).alloc (.cells #[.int .i64 t.fn, .slice A t.args.length c] 27)) = W := ⟨_, rfl⟩
  have hB : Below w.heap.size w W := by rw [← hW]; exact ((Below.refl _ _).alloc (Nat.le_refl _) _).alloc (by simp) _
  rw [hW] at p0 p1
  have hWs : w.heap.size + 1 < W.heap.size := (Array.getElem?_eq_some_iff.1 p1).1
  have HW := Lib.hid hW
  have hS' := Lib.hid (hS.on hB)
  have hA' := Lib.hid (hA.on hB)
  have hSS : ∀ w', Below W.heap.size W w' → w'.cell? ⟨w.heap.size, 0, none⟩ = some (.slice As l.length cs) ∧ w'.cell? ⟨w.heap.size + 1, 0, none⟩ = some (.int .i64 t.fn) ∧ w'.cell? ⟨w.heap.size + 1, 1, none⟩ = some (.slice A t.args.length c) := fun w' h =>
    ⟨(cells_one ((h.block _ (by omega)).trans p0)).1, (cells_two ((h.block _ hWs).trans p1)).1, (cells_two ((h.block _ hWs).trans p1)).2.1⟩
  have hc : chkP l t = if checkI l = 0 then (if smallT t = true then (if overT l t true = true then 0 else 2) else 2) else 2 := rfl
  clear hW hS hA
  by_cases h0 : checkI l = 0
  · rw [if_pos h0] at hc
    cases hs : smallT t with
    | true =>
      rw [if_pos hs] at hc
      cases ho : overT l t true with
      | true =>
        rw [if_pos ho] at hc
        have Hc := Lib.hid hc
        clear hc
        go_enter Try.func48, Try.ntmps48
        go_wp2_with (first
          | (go_at_call 67; go_must (rw [HW.out]; refine (refCheck_any As l.length cs l W hS'.out hn).mono ?_; rintro e w1 ⟨rfl, hb1⟩; rw [h0]; obtain ⟨x0, x1, x2⟩ := hSS _ hb1))
          | (go_at_call 70; go_must (refine (refSmall_any t A c w1 hsz hf (hA'.out.on hb1)).mono ?_; rintro e w2 ⟨rfl, hb2⟩; rw [hs]; have hB2 := bl_step hb1 hb2; obtain ⟨y0, y1, y2⟩ := hSS _ hB2))
          | (go_at_call 71; go_must (refine (refOver_any l hl64 t As A cs c true w2 hf (hS'.out.on hB2) (hA'.out.on hB2)).mono ?_; rintro e w3 ⟨rfl, hb3⟩; rw [ho]; have hB3 := bl_step hB2 hb3))
          | fail)
        go_ret
        exact ⟨ret_int Hc.out.symm, hB.trans (hB3.mono hB.size)⟩
      | false =>
        rw [if_neg (by rw [ho]; decide)] at hc
        have Hc := Lib.hid hc
        clear hc
        go_enter Try.func48, Try.ntmps48
        go_wp2_with (first
          | (go_at_call 67; go_must (rw [HW.out]; refine (refCheck_any As l.length cs l W hS'.out hn).mono ?_; rintro e w1 ⟨rfl, hb1⟩; rw [h0]; obtain ⟨x0, x1, x2⟩ := hSS _ hb1))
          | (go_at_call 70; go_must (refine (refSmall_any t A c w1 hsz hf (hA'.out.on hb1)).mono ?_; rintro e w2 ⟨rfl, hb2⟩; rw [hs]; have hB2 := bl_step hb1 hb2; obtain ⟨y0, y1, y2⟩ := hSS _ hB2))
          | (go_at_call 71; go_must (refine (refOver_any l hl64 t As A cs c true w2 hf (hS'.out.on hB2) (hA'.out.on hB2)).mono ?_; rintro e w3 ⟨rfl, hb3⟩; rw [ho]; have hB3 := bl_step hB2 hb3))
          | fail)
        go_ret
        exact ⟨ret_int Hc.out.symm, hB.trans (hB3.mono hB.size)⟩
    | false =>
      rw [if_neg (by rw [hs]; decide)] at hc
      have Hc := Lib.hid hc
      clear hc
      go_enter Try.func48, Try.ntmps48
      go_wp2_with (first
        | (go_at_call 67; go_must (rw [HW.out]; refine (refCheck_any As l.length cs l W hS'.out hn).mono ?_; rintro e w1 ⟨rfl, hb1⟩; rw [h0]; obtain ⟨x0, x1, x2⟩ := hSS _ hb1))
        | (go_at_call 70; go_must (refine (refSmall_any t A c w1 hsz hf (hA'.out.on hb1)).mono ?_; rintro e w2 ⟨rfl, hb2⟩; rw [hs]; have hB2 := bl_step hb1 hb2; obtain ⟨y0, y1, y2⟩ := hSS _ hB2))
        | fail)
      go_ret
      exact ⟨ret_int Hc.out.symm, hB.trans (hB2.mono hB.size)⟩
  · rw [if_neg h0] at hc
    have Hc := Lib.hid hc
    clear hc
    go_enter Try.func48, Try.ntmps48
    go_wp2_with (first
      | (go_at_call 67; go_must (rw [HW.out]; refine (refCheck_any As l.length cs l W hS'.out hn).mono ?_; rintro e w1 ⟨rfl, hb1⟩))
      | fail)
    go_ret
    exact ⟨ret_int Hc.out.symm, hB.trans (hb1.mono hB.size)⟩

end Go.Proofs.Ytbchignbndgigaa

/- kbo: which orders may be; above each part; transitive; total on ground terms; kept beside others and under what is put in: all plain. -/

namespace Go.Proofs.Ytbchignbndgigaa

open Go.RowKit
set_option maxRecDepth 20000

/-- Which orders may be over symbols with so many arguments. -/
structure Adm (o : Odr) (ar : List Nat) : Prop where
  np : o.prec.length = ar.length
  nw : o.wts.length = ar.length
  inj : ∀ i k : Nat, i < ar.length → k < ar.length → o.prec.getD i 0 = o.prec.getD k 0 → i = k
  v1 : 1 ≤ o.var
  v2 : o.var ≤ 1000
  w0 : ∀ i : Nat, i < ar.length → 0 ≤ o.wts.getD i 0
  w1 : ∀ i : Nat, i < ar.length → o.wts.getD i 0 ≤ 1000
  a0 : ∀ i : Nat, i < ar.length → ar.getD i 0 = 0 → o.var ≤ o.wts.getD i 0
  a1 : ∀ i : Nat, i < ar.length → ar.getD i 0 = 1 → o.wts.getD i 0 = 0 → ∀ k : Nat, k < ar.length → k ≠ i → ¬ o.prec.getD i 0 < o.prec.getD k 0

/-- Which terms may be: variables without arguments, symbols with theirs. -/
def wfTop (ar : List Nat) (f : Int) (n : Nat) : Bool := if f < 0 then decide (n = 0) else decide (f < (ar.length : Int)) && decide (n = ar.getD f.toNat 0)

mutual
def wfT (ar : List Nat) : Tm → Bool
  | .node f xs => wfTop ar f xs.length && wfL ar xs
def wfL (ar : List Nat) : List Tm → Bool
  | [] => true
  | t :: ts => wfT ar t && wfL ar ts
end

theorem wfL_mem {ar : List Nat} : ∀ {xs : List Tm} {t : Tm}, wfL ar xs = true → t ∈ xs → wfT ar t = true
  | [], _, _, h => by simp at h
  | x :: xs, t, h, ht => by
    simp only [wfL, Bool.and_eq_true] at h
    rcases List.mem_cons.1 ht with rfl | ht
    · exact h.1
    · exact wfL_mem h.2 ht

theorem wf_var {ar : List Nat} {f : Int} {xs : List Tm} (h : wfT ar (.node f xs) = true) (hf : f < 0) : xs = [] := by
  rw [wfT, wfTop, if_pos hf, Bool.and_eq_true, decide_eq_true_eq] at h
  exact List.eq_nil_of_length_eq_zero h.1

theorem wf_sym {ar : List Nat} {f : Int} {xs : List Tm} (h : wfT ar (.node f xs) = true) (hf : ¬ f < 0) : f < (ar.length : Int) ∧ xs.length = ar.getD f.toNat 0 := by
  rw [wfT, wfTop, if_neg hf] at h
  simp only [Bool.and_eq_true, decide_eq_true_eq] at h
  exact h.1

theorem wf_args {ar : List Nat} {f : Int} {xs : List Tm} (h : wfT ar (.node f xs) = true) : wfL ar xs = true := by
  rw [wfT, Bool.and_eq_true] at h; exact h.2

section

variable {o : Odr} {ar : List Nat}

theorem Adm.wt_var (A : Adm o ar) {f : Int} (hf : f < 0) : wtI o f = o.var := by
  have := A.v1; have := A.v2
  unfold wtI capI; rw [if_pos hf]; omega

theorem Adm.wt_sym (A : Adm o ar) {f : Int} (hf : ¬ f < 0) (hl : f < (ar.length : Int)) : wtI o f = o.wts.getD f.toNat 0 := by
  have := A.w0 f.toNat (by omega); have := A.w1 f.toNat (by omega)
  unfold wtI capI; rw [if_neg hf]; omega

theorem Adm.wt_le (A : Adm o ar) {f : Int} (hl : f < (ar.length : Int)) : wtI o f ≤ 1000 := by
  by_cases hf : f < 0
  · rw [A.wt_var hf]; exact A.v2
  · rw [A.wt_sym hf hl]; exact A.w1 _ (by omega)

theorem wtI_lo (o : Odr) (f : Int) : 0 ≤ wtI o f := by unfold wtI capI; omega

theorem Adm.know (A : Adm o ar) : ∀ t : Tm, wfT ar t = true → knowT o t = true := by
  refine Tm.ind fun f xs ih h => ?_
  have hL : ∀ ys : List Tm, (∀ y ∈ ys, y ∈ xs) → knowL o ys = true := by
    intro ys
    induction ys with
    | nil => intro _; rfl
    | cons y ys ih2 =>
      intro hy
      rw [knowL, Bool.and_eq_true]
      exact ⟨ih y (hy y (by simp)) (wfL_mem (wf_args h) (hy y (by simp))), ih2 fun z hz => hy z (by simp [hz])⟩
  rw [knowT, Bool.and_eq_true]
  refine ⟨?_, hL xs fun _ h => h⟩
  unfold knowTop
  by_cases hf : f < 0
  · rw [if_pos hf, wf_var h hf]; rfl
  · have := (wf_sym h hf).1
    rw [if_neg hf, A.np, A.nw]
    simp [this]

theorem Adm.ws_ge (A : Adm o ar) : ∀ t : Tm, wfT ar t = true → o.var ≤ wsT o t := by
  refine Tm.ind fun f xs ih h => ?_
  rw [wsT]
  by_cases hf : f < 0
  · rw [A.wt_var hf, wf_var h hf, wsL]; omega
  · obtain ⟨h1, h2⟩ := wf_sym h hf
    match xs, h2, ih, h with
    | [], h2, _, _ =>
      rw [A.wt_sym hf h1, wsL]
      have := A.a0 f.toNat (by omega) h2.symm
      omega
    | x :: xs, h2, ih, h =>
      rw [wsL]
      have := ih x (by simp) (wfL_mem (wf_args h) (by simp))
      have := wsL_lo o xs
      have := wtI_lo o f
      omega

mutual
theorem Adm.ws_le (A : Adm o ar) : ∀ t : Tm, wfT ar t = true → wsT o t ≤ 1000 * (t.size : Int)
  | .node f xs, h => by
    have h1 := A.wsL_le xs (wf_args h)
    have h2 : wtI o f ≤ 1000 := by
      by_cases hf : f < 0
      · exact A.wt_le (by omega)
      · exact A.wt_le (wf_sym h hf).1
    rw [wsT, Tm.size]; omega
theorem Adm.wsL_le (A : Adm o ar) : ∀ xs : List Tm, wfL ar xs = true → wsL o xs ≤ 1000 * (sizes xs : Int)
  | [], _ => by rw [wsL, sizes]; omega
  | x :: xs, h => by
    rw [wfL, Bool.and_eq_true] at h
    have h1 := A.ws_le x h.1
    have h2 := A.wsL_le xs h.2
    rw [wsL, sizes]; omega
end

/-- Terms that may be, and are not too large for their weights to be cut. -/
structure Gd (ar : List Nat) (t : Tm) : Prop where
  wf : wfT ar t = true
  sz : t.size ≤ 2147483

theorem Gd.arg {f : Int} {xs : List Tm} {x : Tm} (h : Gd ar (.node f xs)) (hx : x ∈ xs) : Gd ar x := by
  refine ⟨wfL_mem (wf_args h.wf) hx, ?_⟩
  have := size_mem hx
  have := h.sz
  rw [Tm.size] at this; omega

theorem Gd.cap (A : Adm o ar) {t : Tm} (h : Gd ar t) : capI (wsT o t) = wsT o t := by
  have h1 := A.ws_le t h.wf
  have h2 := wsT_lo o t
  have h3 := h.sz
  unfold capI; omega

/-- Above, in plain words. -/
def abvE (o : Odr) (s t : Tm) : Prop := ¬ s.fn < 0 ∧ (if t.fn < 0 then arnT s.fn t.fn s = true else if s.fn = t.fn then abvL o s.args t.args = true else o.prec.getD t.fn.toNat 0 < o.prec.getD s.fn.toNat 0)

structure AbvP (o : Odr) (s t : Tm) : Prop where
  cov : ∀ v, v < 0 → ofT v t ≤ ofT v s
  ge : wsT o t ≤ wsT o s
  eq : wsT o s = wsT o t → abvE o s t

theorem abv_iff (A : Adm o ar) {s t : Tm} (hs : Gd ar s) (ht : Gd ar t) : abvT o s t = true ↔ AbvP o s t := by
  rw [abvT_eq, Bool.and_eq_true, cov_iff (A.know t ht.wf), hs.cap A, ht.cap A]
  constructor
  · rintro ⟨h1, h2⟩
    by_cases he : wsT o s = wsT o t
    · rw [if_pos he] at h2
      refine ⟨h1, by omega, fun _ => ?_⟩
      by_cases hf : s.fn < 0
      · rw [if_pos hf] at h2; cases h2
      · rw [if_neg hf] at h2
        refine ⟨hf, ?_⟩
        by_cases hg : t.fn < 0
        · rw [if_pos hg] at h2 ⊢; exact h2
        · rw [if_neg hg] at h2 ⊢
          by_cases hfg : s.fn = t.fn
          · rw [if_pos hfg] at h2 ⊢; exact h2
          · rw [if_neg hfg, decide_eq_true_eq] at h2; rw [if_neg hfg]; exact h2
    · rw [if_neg he, decide_eq_true_eq] at h2
      exact ⟨h1, by omega, fun e => absurd e he⟩
  · rintro ⟨h1, h2, h3⟩
    refine ⟨h1, ?_⟩
    by_cases he : wsT o s = wsT o t
    · obtain ⟨hf, h4⟩ := h3 he
      rw [if_pos he, if_neg hf]
      by_cases hg : t.fn < 0
      · rw [if_pos hg] at h4 ⊢; exact h4
      · rw [if_neg hg] at h4 ⊢
        by_cases hfg : s.fn = t.fn
        · rw [if_pos hfg] at h4 ⊢; exact h4
        · rw [if_neg hfg] at h4 ⊢; simpa using h4
    · rw [if_neg he, decide_eq_true_eq]; omega

theorem abv_irr {s : Tm} : ¬ abvT o s s = true := fun h => by have := abv_asym s s h; rw [h] at this; cases this

/-- A symbol without weight and with one argument is highest. -/
theorem Adm.zero_top (A : Adm o ar) {f g : Int} (hf : ¬ f < 0) (hg : ¬ g < 0) (hfl : f < (ar.length : Int)) (hgl : g < (ar.length : Int)) (h1 : ar.getD f.toNat 0 = 1) (h0 : wtI o f = 0) (hne : ¬ f = g) : o.prec.getD g.toNat 0 < o.prec.getD f.toNat 0 := by
  rw [A.wt_sym hf hfl] at h0
  have := A.a1 f.toNat (by omega) h1 h0 g.toNat (by omega) (by omega)
  have := A.inj f.toNat g.toNat (by omega) (by omega)
  omega

theorem wsL_mem (A : Adm o ar) : ∀ {xs : List Tm} {x : Tm}, wfL ar xs = true → x ∈ xs → wsT o x + o.var * ((xs.length : Int) - 1) ≤ wsL o xs
  | [], _, _, h => by simp at h
  | y :: ys, x, hw, h => by
    rw [wfL, Bool.and_eq_true] at hw
    have hge : ∀ zs : List Tm, wfL ar zs = true → o.var * (zs.length : Int) ≤ wsL o zs := by
      intro zs
      induction zs with
      | nil => intro _; rw [wsL]; simp
      | cons z zs ih =>
        intro hz
        rw [wfL, Bool.and_eq_true] at hz
        have h1 := A.ws_ge z hz.1
        have h2 := ih hz.2
        rw [wsL, List.length_cons]
        have : o.var * ((zs.length + 1 : Nat) : Int) = o.var * (zs.length : Int) + o.var := by
          rw [Int.natCast_add]; simp [Int.mul_add]
        omega
    rw [wsL, List.length_cons]
    have e1 : o.var * (((ys.length + 1 : Nat) : Int) - 1) = o.var * (ys.length : Int) := by congr 1; omega
    rw [e1]
    rcases List.mem_cons.1 h with rfl | h
    · have := hge ys hw.2; omega
    · have h1 := wsL_mem A hw.2 h
      have h2 := A.ws_ge y hw.1
      have : o.var * ((ys.length : Int) - 1) = o.var * (ys.length : Int) - o.var := by rw [Int.mul_sub]; simp
      omega

/-- Where a part weighs as much as the whole: one argument, a symbol without weight. -/
theorem one_arg (A : Adm o ar) {f : Int} {xs : List Tm} {x : Tm} (h : Gd ar (.node f xs)) (hx : x ∈ xs) (he : wsT o (.node f xs) ≤ wsT o x) : ¬ f < 0 ∧ f < (ar.length : Int) ∧ ar.getD f.toNat 0 = 1 ∧ wtI o f = 0 ∧ xs = [x] ∧ wsT o (.node f xs) = wsT o x := by
  have h1 := wsL_mem A (wf_args h.wf) hx
  have h0 := wtI_lo o f
  have hf : ¬ f < 0 := fun hf => by rw [wf_var h.wf hf] at hx; simp at hx
  obtain ⟨h2, h3⟩ := wf_sym h.wf hf
  rw [wsT] at he ⊢
  match xs, hx, h1, he, h3 with
  | [y], hx, h1, he, h3 =>
    obtain rfl : x = y := by simpa using hx
    rw [wsL, wsL] at he ⊢
    refine ⟨hf, h2, h3.symm, by omega, rfl, by omega⟩
  | y :: z :: ys, hx, h1, he, h3 =>
    exfalso
    have hv := A.v1
    have : o.var * (((y :: z :: ys).length : Int) - 1) = o.var * (ys.length : Int) + o.var := by
      simp only [List.length_cons]
      have : (((ys.length + 1 + 1 : Nat)) : Int) - 1 = (ys.length : Int) + 1 := by omega
      rw [this, Int.mul_add]; simp
    have h9 : 0 ≤ o.var * (ys.length : Int) := Int.mul_nonneg (by omega) (by omega)
    omega

theorem of_arg {v f : Int} {xs : List Tm} {x : Tm} (hx : x ∈ xs) : ofT v x ≤ ofT v (.node f xs) := by
  rw [ofT]
  have : ∀ ys : List Tm, x ∈ ys → ofT v x ≤ ofL v ys := by
    intro ys
    induction ys with
    | nil => intro h; simp at h
    | cons y ys ih =>
      intro h
      rw [ofL]
      rcases List.mem_cons.1 h with rfl | h
      · omega
      · have := ih h; omega
  have := this xs hx
  omega

theorem var_of {ar : List Nat} {t : Tm} (hw : wfT ar t = true) (hv : t.fn < 0) : t = .node t.fn [] := by
  obtain ⟨f, xs⟩ := t
  rw [wf_var hw hv]; rfl

/-- A term is above each of its arguments. -/
theorem abv_arg (A : Adm o ar) : ∀ (x : Tm) (f : Int) (xs : List Tm), Gd ar (.node f xs) → x ∈ xs → abvT o (.node f xs) x = true := by
  intro x
  refine Tm.ind (P := fun x => ∀ (f : Int) (xs : List Tm), Gd ar (.node f xs) → x ∈ xs → abvT o (.node f xs) x = true) (fun g ys ih f xs h hx => ?_) x
  have hg := h.arg hx
  rw [abv_iff A h hg]
  by_cases hle : wsT o (.node f xs) ≤ wsT o (.node g ys)
  · obtain ⟨hf, hfl, hf1, hf0, rfl, heq⟩ := one_arg A h hx hle
    refine ⟨fun v _ => of_arg hx, by omega, fun _ => ⟨hf, ?_⟩⟩
    change if g < 0 then arnT f g (.node f [.node g ys]) = true else if f = g then abvL o [.node g ys] ys = true else o.prec.getD g.toNat 0 < o.prec.getD f.toNat 0
    by_cases hgn : g < 0
    · rw [if_pos hgn, arnT_one]
      simp [Tm.fn]
    · rw [if_neg hgn]
      by_cases hfg : f = g
      · subst hfg
        rw [if_pos rfl]
        have h2 := (wf_sym hg.wf hgn).2
        rw [hf1] at h2
        match ys, h2, ih, hg with
        | [y], _, ih, hg =>
          have h3 := ih y (by simp) f [y] hg (by simp)
          have hne : ¬ cmpT (.node f [y]) y = 0 := fun e => by
            rw [cmp_zero_iff] at e
            rw [← e] at h3
            exact abv_irr (by simpa [e] using h3)
          rw [abvL, if_neg hne]
          exact h3
      · rw [if_neg hfg]
        exact A.zero_top hf hgn hfl (wf_sym hg.wf hgn).1 hf1 hf0 hfg
  · exact ⟨fun v _ => of_arg hx, by omega, fun e => by omega⟩

end

section

variable {o : Odr} {ar : List Nat}

theorem arn_of (A : Adm o ar) {v : Int} (hv : v < 0) : ∀ s : Tm, Gd ar s → ¬ s.fn < 0 → wsT o s = o.var → 0 < ofT v s → arnT s.fn v s = true ∧ s.fn < (ar.length : Int) ∧ ar.getD s.fn.toNat 0 = 1 ∧ wtI o s.fn = 0 := by
  refine Tm.ind fun f xs ih h hf hw hof => ?_
  change ¬ f < 0 at hf
  have hex : ∃ x ∈ xs, 0 < ofT v x := by
    rw [ofT, if_neg (by omega)] at hof
    have : ∀ ys : List Tm, 0 < ofL v ys → ∃ x ∈ ys, 0 < ofT v x := by
      intro ys
      induction ys with
      | nil => intro h; rw [ofL] at h; omega
      | cons y ys ih =>
        intro h
        rw [ofL] at h
        by_cases hy : 0 < ofT v y
        · exact ⟨y, by simp, hy⟩
        · obtain ⟨x, hx, h⟩ := ih (by omega); exact ⟨x, by simp [hx], h⟩
    exact this xs (by omega)
  obtain ⟨x, hx, hox⟩ := hex
  have hgx := h.arg hx
  have h1 := A.ws_ge x hgx.wf
  obtain ⟨_, hfl, hf1, hf0, rfl, heq⟩ := one_arg A h hx (by omega)
  refine ⟨?_, hfl, hf1, hf0⟩
  change arnT f v (.node f [x]) = true
  rw [arnT_one, beq_self_eq_true, Bool.true_and, Bool.or_eq_true]
  by_cases hxn : x.fn < 0
  · left
    rw [var_of hgx.wf hxn, ofT, ofL] at hox
    by_cases e : x.fn = v
    · rw [e, beq_self_eq_true]
    · rw [if_neg e] at hox; omega
  · right
    obtain ⟨h2, h3, h4, h5⟩ := ih x (by simp) hgx hxn (by omega) hox
    have : f = x.fn := by
      by_cases e : f = x.fn
      · exact e
      · have h6 := A.zero_top hf hxn hfl h3 hf1 hf0 e
        have h7 := A.zero_top hxn hf h3 hfl h4 h5 (fun e' => e e'.symm)
        omega
    rw [this]; exact h2

theorem of_var {t : Tm} (hw : wfT ar t = true) (hv : t.fn < 0) : ofT t.fn t = 1 := by
  rw [var_of hw hv]
  change ofT t.fn (.node t.fn []) = 1
  rw [ofT, ofL, if_pos rfl]

theorem ws_var (A : Adm o ar) {t : Tm} (hw : wfT ar t = true) (hv : t.fn < 0) : wsT o t = o.var := by
  rw [var_of hw hv]
  change wsT o (.node t.fn []) = o.var
  rw [wsT, wsL, A.wt_var hv]; omega

theorem gd_args {f : Int} {xs : List Tm} (h : Gd ar (.node f xs)) : ∀ x ∈ xs, Gd ar x := fun _ hx => h.arg hx

theorem abvL_trans (A : Adm o ar) : ∀ (xs ys zs : List Tm), (∀ x ∈ xs, ∀ y z, Gd ar x → Gd ar y → Gd ar z → abvT o x y = true → abvT o y z = true → abvT o x z = true) → (∀ x ∈ xs, Gd ar x) → (∀ x ∈ ys, Gd ar x) → (∀ x ∈ zs, Gd ar x) →
    abvL o xs ys = true → abvL o ys zs = true → abvL o xs zs = true
  | [], _, _, _, _, _, _, h, _ => by rw [abvL] at h; cases h
  | _ :: _, [], _, _, _, _, _, _, h => by rw [abvL] at h; cases h
  | _ :: _, _ :: _, [], _, _, _, _, _, _ => by rw [abvL]
  | x :: xs, y :: ys, z :: zs, ih, gx, gy, gz, h1, h2 => by
    rw [abvL] at h1 h2 ⊢
    by_cases e1 : cmpT x y = 0
    · rw [if_pos e1] at h1
      rw [cmp_zero_iff] at e1; subst e1
      by_cases e2 : cmpT x z = 0
      · rw [if_pos e2] at h2 ⊢
        exact abvL_trans A xs ys zs (fun a ha => ih a (by simp [ha])) (fun a ha => gx a (by simp [ha])) (fun a ha => gy a (by simp [ha])) (fun a ha => gz a (by simp [ha])) h1 h2
      · rw [if_neg e2] at h2 ⊢; exact h2
    · rw [if_neg e1] at h1
      by_cases e2 : cmpT y z = 0
      · rw [cmp_zero_iff] at e2; subst e2
        rw [if_neg e1]; exact h1
      · rw [if_neg e2] at h2
        have h3 := ih x (by simp) y z (gx x (by simp)) (gy y (by simp)) (gz z (by simp)) h1 h2
        have : ¬ cmpT x z = 0 := fun e => by
          rw [cmp_zero_iff] at e; subst e
          exact abv_irr h3
        rw [if_neg this]; exact h3

/-- What is above what is above is above. -/
theorem abv_trans (A : Adm o ar) : ∀ (s t u : Tm), Gd ar s → Gd ar t → Gd ar u → abvT o s t = true → abvT o t u = true → abvT o s u = true := by
  intro s
  refine Tm.ind (P := fun s => ∀ (t u : Tm), Gd ar s → Gd ar t → Gd ar u → abvT o s t = true → abvT o t u = true → abvT o s u = true) (fun f xs ih t u hs ht hu h1 h2 => ?_) s
  obtain ⟨g, ys⟩ := t
  obtain ⟨k, zs⟩ := u
  rw [abv_iff A hs ht] at h1
  rw [abv_iff A ht hu] at h2
  rw [abv_iff A hs hu]
  refine ⟨fun v hv => Nat.le_trans (h2.cov v hv) (h1.cov v hv), Int.le_trans h2.ge h1.ge, fun he => ?_⟩
  have g1 := h1.ge
  have g2 := h2.ge
  obtain ⟨hf, h3⟩ := h1.eq (by omega)
  obtain ⟨hg, h4⟩ := h2.eq (by omega)
  refine ⟨hf, ?_⟩
  change ¬ f < 0 at hf
  change ¬ g < 0 at hg
  change if g < 0 then arnT f g (.node f xs) = true else if f = g then abvL o xs ys = true else o.prec.getD g.toNat 0 < o.prec.getD f.toNat 0 at h3
  change if k < 0 then arnT g k (.node g ys) = true else if g = k then abvL o ys zs = true else o.prec.getD k.toNat 0 < o.prec.getD g.toNat 0 at h4
  change if k < 0 then arnT f k (.node f xs) = true else if f = k then abvL o xs zs = true else o.prec.getD k.toNat 0 < o.prec.getD f.toNat 0
  rw [if_neg hg] at h3
  by_cases hk : k < 0
  · rw [if_pos hk]
    have h5 : 0 < ofT k (.node f xs) := by
      have h6 := h2.cov k hk
      have h7 := h1.cov k hk
      have h8 : ofT k (.node k zs) = 1 := of_var (t := .node k zs) hu.wf hk
      omega
    exact (arn_of A hk (.node f xs) hs hf (by rw [he]; exact ws_var A hu.wf hk) h5).1
  · rw [if_neg hk] at h4 ⊢
    by_cases e1 : f = g
    · subst e1
      rw [if_pos rfl] at h3
      by_cases e2 : f = k
      · subst e2
        rw [if_pos rfl] at h4 ⊢
        exact abvL_trans A xs ys zs (fun x hx y z gx gy gz => ih x hx y z gx gy gz) (gd_args hs) (gd_args ht) (gd_args hu) h3 h4
      · rw [if_neg e2] at h4 ⊢; exact h4
    · rw [if_neg e1] at h3
      by_cases e2 : g = k
      · subst e2
        rw [if_neg e1]; exact h3
      · rw [if_neg e2] at h4
        have : ¬ f = k := fun e => by subst e; omega
        rw [if_neg this]; omega

/-- Terms without variables: one is above the other, or they are the same. -/
def grd (t : Tm) : Prop := ∀ v, v < 0 → ofT v t = 0

theorem grd_arg {f : Int} {xs : List Tm} {x : Tm} (h : grd (.node f xs)) (hx : x ∈ xs) : grd x := fun v hv => by
  have := h v hv; have := of_arg (v := v) (f := f) hx; omega

theorem grd_top {f : Int} {xs : List Tm} (h : grd (.node f xs)) : ¬ f < 0 := fun hf => by
  have := h f hf; rw [ofT, if_pos rfl] at this; omega

theorem abvL_tot : ∀ (xs ys : List Tm), xs.length = ys.length → (∀ x ∈ xs, ∀ y ∈ ys, cmpT x y = 0 ∨ abvT o x y = true ∨ abvT o y x = true) → xs = ys ∨ abvL o xs ys = true ∨ abvL o ys xs = true
  | [], [], _, _ => .inl rfl
  | [], _ :: _, h, _ => by simp at h
  | _ :: _, [], h, _ => by simp at h
  | x :: xs, y :: ys, h, ih => by
    rw [abvL, abvL]
    by_cases e : cmpT x y = 0
    · have e' := e
      rw [cmp_zero_iff] at e'; subst e'
      rw [if_pos e, if_pos e]
      rcases abvL_tot xs ys (by simpa using h) (fun a ha b hb => ih a (by simp [ha]) b (by simp [hb])) with rfl | h1 | h1
      · exact .inl rfl
      · exact .inr (.inl h1)
      · exact .inr (.inr h1)
    · have e' : ¬ cmpT y x = 0 := fun e' => by rw [cmp_zero_iff] at e'; subst e'; exact e (cmp_zero_iff.2 rfl)
      rw [if_neg e, if_neg e']
      rcases ih x (by simp) y (by simp) with h1 | h1 | h1
      · exact absurd h1 e
      · exact .inr (.inl h1)
      · exact .inr (.inr h1)

theorem abv_tot (A : Adm o ar) : ∀ (s t : Tm), Gd ar s → Gd ar t → grd s → grd t → cmpT s t = 0 ∨ abvT o s t = true ∨ abvT o t s = true := by
  intro s
  refine Tm.ind (P := fun s => ∀ t, Gd ar s → Gd ar t → grd s → grd t → cmpT s t = 0 ∨ abvT o s t = true ∨ abvT o t s = true) (fun f xs ih t hs ht gs gt => ?_) s
  obtain ⟨g, ys⟩ := t
  rw [abv_iff A hs ht, abv_iff A ht hs, cmp_zero_iff]
  have hf := grd_top gs
  have hg := grd_top gt
  have c1 : ∀ v, v < 0 → ofT v (.node g ys) ≤ ofT v (.node f xs) := fun v hv => by rw [gt v hv]; omega
  have c2 : ∀ v, v < 0 → ofT v (.node f xs) ≤ ofT v (.node g ys) := fun v hv => by rw [gs v hv]; omega
  by_cases h1 : wsT o (.node f xs) = wsT o (.node g ys)
  · obtain ⟨hf1, hf2⟩ := wf_sym hs.wf hf
    obtain ⟨hg1, hg2⟩ := wf_sym ht.wf hg
    by_cases e : f = g
    · subst e
      rcases abvL_tot (o := o) xs ys (by omega) (fun x hx y hy => ih x hx y (hs.arg hx) (ht.arg hy) (grd_arg gs hx) (grd_arg gt hy)) with rfl | h | h
      · exact .inl rfl
      · refine .inr (.inl ⟨c1, by omega, fun _ => ⟨hf, ?_⟩⟩)
        change if f < 0 then _ else if f = f then abvL o xs ys = true else _
        rw [if_neg hf, if_pos rfl]; exact h
      · refine .inr (.inr ⟨c2, by omega, fun _ => ⟨hf, ?_⟩⟩)
        change if f < 0 then _ else if f = f then abvL o ys xs = true else _
        rw [if_neg hf, if_pos rfl]; exact h
    · have := A.inj f.toNat g.toNat (by omega) (by omega)
      have hne : ¬ o.prec.getD f.toNat 0 = o.prec.getD g.toNat 0 := fun h => e (by have := this h; omega)
      by_cases hlt : o.prec.getD f.toNat 0 < o.prec.getD g.toNat 0
      · refine .inr (.inr ⟨c2, by omega, fun _ => ⟨hg, ?_⟩⟩)
        change if f < 0 then _ else if g = f then _ else o.prec.getD f.toNat 0 < o.prec.getD g.toNat 0
        rw [if_neg hf, if_neg (fun e' => e e'.symm)]; exact hlt
      · refine .inr (.inl ⟨c1, by omega, fun _ => ⟨hf, ?_⟩⟩)
        change if g < 0 then _ else if f = g then _ else o.prec.getD g.toNat 0 < o.prec.getD f.toNat 0
        rw [if_neg hg, if_neg e]; omega
  · by_cases h2 : wsT o (.node f xs) < wsT o (.node g ys)
    · exact .inr (.inr ⟨c2, by omega, fun e => absurd e.symm h1⟩)
    · exact .inr (.inl ⟨c1, by omega, fun e => absurd e h1⟩)

/-- What is above stays above beside others in the same term. -/
theorem wsL_app (o : Odr) : ∀ xs ys : List Tm, wsL o (xs ++ ys) = wsL o xs + wsL o ys
  | [], ys => by rw [List.nil_append, wsL]; omega
  | x :: xs, ys => by rw [List.cons_append, wsL, wsL, wsL_app o xs ys]; omega

theorem ofL_app (v : Int) : ∀ xs ys : List Tm, ofL v (xs ++ ys) = ofL v xs + ofL v ys
  | [], ys => by rw [List.nil_append, ofL]; omega
  | x :: xs, ys => by rw [List.cons_append, ofL, ofL, ofL_app v xs ys]; omega

theorem abvL_beside {s t : Tm} (hst : abvT o s t = true) : ∀ (l r r' : List Tm), abvL o (l ++ s :: r) (l ++ t :: r') = true
  | [], r, r' => by
    rw [List.nil_append, List.nil_append, abvL]
    have : ¬ cmpT s t = 0 := fun e => by rw [cmp_zero_iff] at e; subst e; exact abv_irr hst
    rw [if_neg this]; exact hst
  | x :: l, r, r' => by
    rw [List.cons_append, List.cons_append, abvL, if_pos (cmp_zero_iff.2 rfl)]
    exact abvL_beside hst l r r'

theorem abv_within (A : Adm o ar) {s t : Tm} {f : Int} {l r : List Tm} (h1 : Gd ar (.node f (l ++ s :: r))) (h2 : Gd ar (.node f (l ++ t :: r))) (hst : abvT o s t = true) : abvT o (.node f (l ++ s :: r)) (.node f (l ++ t :: r)) = true := by
  have hP := (abv_iff A (h1.arg (by simp)) (h2.arg (by simp))).1 hst
  rw [abv_iff A h1 h2]
  have hf : ¬ f < 0 := fun hf => by have := wf_var h1.wf hf; simp at this
  have hge := hP.ge
  refine ⟨fun v hv => ?_, ?_, fun _ => ⟨hf, ?_⟩⟩
  · have := hP.cov v hv
    rw [ofT, ofT, ofL_app, ofL_app, ofL, ofL]; omega
  · rw [wsT, wsT, wsL_app, wsL_app, wsL, wsL]; omega
  · change if f < 0 then _ else if f = f then abvL o (l ++ s :: r) (l ++ t :: r) = true else _
    rw [if_neg hf, if_pos rfl]
    exact abvL_beside hst l r r

end

end Go.Proofs.Ytbchignbndgigaa

/- kbo: Fits (of the law): which orders and terms may be over a signature; what it says, plain. -/

namespace Go.Proofs.Ytbchignbndgigaa

open Go.RowKit Go.Shelf Go.Maps
set_option maxRecDepth 100000

def fitsL (l : List Sm) (ts : List Tm) : Bool := ts.all fun t => decide (chkP l t = 0)

def fitsB (l : List Sm) (o : Odr) (ts : List Tm) : Bool := !o.lpo && (decide (chkO l o = 0) && fitsL l ts)

theorem fitsL_no {l : List Sm} {ts : List Tm} {t : Tm} (ht : t ∈ ts) (h : ¬ chkP l t = 0) : fitsL l ts = false := by
  unfold fitsL
  rw [List.all_eq_false]
  exact ⟨t, ht, by simpa using h⟩

theorem fitsL_yes {l : List Sm} {ts : List Tm} (h : ∀ (j : Nat) (t : Tm), j < ts.length → ts[j]? = some t → chkP l t = 0) : fitsL l ts = true := by
  unfold fitsL
  rw [List.all_eq_true]
  intro t ht
  obtain ⟨j, hj⟩ := List.getElem?_of_mem ht
  exact decide_eq_true (h j t (List.getElem?_eq_some_iff.1 hj).1 hj)

set_option maxHeartbeats 2000000 in
theorem kboFits_any (l : List Sm) (o : Odr) (ts : List Tm) (As P Q A : Option Addr) (n cs pc qc c : Nat) (w : World) (hS : Syms w w.heap.size As n l) (hn : n * 32 ≤ 140737488351232) (hM : OdrM w w.heap.size o P Q) (hsz : ∀ x ∈ ts, x.size ≤ 4611686018427387904) (hA : Args w w.heap.size A ts) :
    Calls Try.prog 20 #[.agg #[.slice As n cs], .agg #[.bool o.lpo, .slice P o.prec.length pc, .slice Q o.wts.length qc, .int .i64 o.var], .slice A ts.length c] w fun e w' => e = .returned (.bool (fitsB l o ts)) ∧ Below w.heap.size w w' := by
  have hlen := hA.len
  obtain ⟨W, hW⟩ : ∃ W, (w.alloc (.cells #[.slice As n cs] 36)).alloc (.cells #[.bool o.lpo, .slice P o.prec.length pc, .slice Q o.wts.length qc, .int .i64 o.var] 24) = W := ⟨_, rfl⟩
  obtain ⟨hB, hz, hBx⟩ := box_so hW
  have HW := Lib.hid hW
  have HC := Lib.hid (refOrderCheck_any l o As P Q n cs pc qc W (hS.on hB) hn (hM.on hB))
  have HS : Hid (∀ w1, Below W.heap.size W w1 → Syms w1 w1.heap.size As n l) := Lib.hid fun w1 hb => (hS.on (hB.trans (hb.mono hB.size)))
  have HA : Hid (∀ w1, Below W.heap.size W w1 → Args w1 w1.heap.size A ts) := Lib.hid fun w1 hb => (hA.on (hB.trans (hb.mono hB.size)))
  have HX := Lib.hid hBx
  have Hsz := Lib.hid hsz
  have Hn := Lib.hid hn
  obtain ⟨x0, x1, x2, x3, x4⟩ := hBx W (Below.refl _ _)
  clear hW hS hM hBx hz hA hsz hn
  cases hlpo : o.lpo with
  | true =>
    have hfin := Lib.hid (show fitsB l o ts = false by unfold fitsB; rw [hlpo]; rfl)
    rw [hlpo] at x1 HX HW HC
    clear hlpo
    go_enter Try.func20, Try.ntmps20
    go_upto_region 1 with fail
    rw [HW.out]
    go_wp2_with (fail)
    go_ret
    exact ⟨ret_bool hfin.out.symm, hB⟩
  | false =>
    have Hlpo := Lib.hid hlpo
    rw [hlpo] at x1 HX HW HC
    clear hlpo
    by_cases hc : ¬ chkO l o = 0
    · have hfin := Lib.hid (show fitsB l o ts = false by unfold fitsB; rw [decide_eq_false hc]; simp)
      have g1 : (chkO l o != 0) = true := by simpa using hc
      go_enter Try.func20, Try.ntmps20
      go_upto_region 1 with fail
      rw [HW.out]
      go_wp2_with (first
        | (go_at_call 47; (with_reducible refine HC.out.mono ?_); go_must (rintro e w1 ⟨rfl, hb1⟩))
        | fail)
      go_ret
      exact ⟨ret_bool hfin.out.symm, hB.trans (hb1.mono hB.size)⟩
    · replace hc := Decidable.not_not.1 hc
      have Hc := Lib.hid hc
      rw [hc] at HC
      clear hc
      go_enter Try.func20, Try.ntmps20
      go_upto_region 1 with fail
      rw [HW.out]
      go_wp2_with (first
        | (go_at_call 47; (with_reducible refine HC.out.mono ?_); go_must (rintro e w1 ⟨rfl, hb1⟩))
        | fail)
      go_loopw [7] (fun i wr => ∃ k : Nat, k ≤ ts.length ∧ i = .int .i64 (k : Int) ∧ Below W.heap.size W wr ∧ Hid (∀ (j : Nat) (t : Tm), j < k → ts[j]? = some t → chkP l t = 0)) (fun i _ => ts.length - (intOf i).toNat)
      case atStart => exact ⟨0, Nat.zero_le _, rfl, hb1, Lib.hid fun j t h => by omega⟩
      case round =>
        obtain ⟨k, hk, rfl, hBr, HP⟩ := hrel
        clear hb1 x0 x1 x2 x3 x4
        by_cases hkl : k < ts.length
        · obtain ⟨u, hu⟩ : ∃ u, ts[k]? = some u := ⟨_, List.getElem?_eq_getElem hkl⟩
          obtain ⟨bb, off, A1, c1, hAA, ha⟩ := (HA.out wr hBr).get hu
          have hSr := HS.out wr hBr
          have HI := Lib.hid (fun y : Later wr.heap.size wr => ref2ChkP_any l u As A1 n cs c1 y.w (Hsz.out u (List.mem_of_getElem? hu)) (hSr.on y.h) Hn.out ha.hi ((ha.sub.blw y.h).more y.h.size))
          have Hu := Lib.hid hu
          obtain ⟨v, hv⟩ : ∃ v, chkP l u = v := ⟨_, rfl⟩
          rw [hv] at HI
          have Hv := Lib.hid hv
          have m0 : ∀ y : Later wr.heap.size wr, y.w.cell? ⟨w.heap.size, 0, none⟩ = some (.slice As n cs) := fun y => (HX.out y.w (hBr.trans (y.h.mono hBr.size))).1
          have m6 : ∀ y : Later wr.heap.size wr, y.w.cell? ⟨bb, off + k * 2, none⟩ = some (.int .i64 u.fn) := fun y => cell_on y.h ha.hb ha.c0
          have m7 : ∀ y : Later wr.heap.size wr, y.w.cell? ⟨bb, off + k * 2 + 1, none⟩ = some (.slice A1 u.args.length c1) := fun y => cell_on y.h ha.hb ha.c1
          subst hAA
          clear ha hu hv hSr
          by_cases h0 : ¬ v = 0
          · have g1 : (v != 0) = true := by simpa using h0
            have hfin := Lib.hid (show fitsB l o ts = false by unfold fitsB; rw [fitsL_no (List.mem_of_getElem? Hu.out) (by rw [Hv.out]; exact h0)]; simp)
            go_upto_region 6 with fail
            refine wp_region_later wr.heap.size wr (by kernel_rfl) (by kernel_rfl) (bl_drewN (Below.refl _ _) 1) ?_
            repeat (go_big_quiet_step (first | (go_at_call 48; with_reducible refine calls_later _ (Nat.le_refl _) (HI.out _)) | fail))
            refine wpQuiet_nil ?_
            rintro _ ⟨z, rfl⟩
            clear m0 m6 m7
            go_wp2
            go_ret
            exact ⟨ret_bool hfin.out.symm, hB.trans ((hBr.trans (z.h.mono hBr.size)).mono hB.size)⟩
          · replace h0 := Decidable.not_not.1 h0
            have g1 : (v != 0) = false := by simpa using h0
            have hgd := Lib.hid (Hv.out.trans h0)
            clear h0
            go_upto_region 6 with fail
            refine wp_region_later wr.heap.size wr (by kernel_rfl) (by kernel_rfl) (bl_drewN (Below.refl _ _) 1) ?_
            repeat (go_big_quiet_step (first | (go_at_call 48; with_reducible refine calls_later _ (Nat.le_refl _) (HI.out _)) | fail))
            refine wpQuiet_nil ?_
            rintro _ ⟨z, rfl⟩
            clear m0 m6 m7
            go_wp2
            go_roundw
            case rel =>
              refine ⟨k + 1, by omega, by go_num, hBr.trans (z.h.mono hBr.size), Lib.hid fun j t hj ht => ?_⟩
              by_cases e : j = k
              · subst e
                rw [Hu.out] at ht
                injection ht with ht
                rw [← ht]; exact hgd.out
              · exact HP.out j t (by omega) ht
            case measure => simp [intOf]; omega
        · obtain rfl : k = ts.length := by omega
          have hfin := Lib.hid (show fitsB l o ts = true by unfold fitsB; rw [Hlpo.out, decide_eq_true Hc.out, fitsL_yes HP.out]; rfl)
          go_wp2
          go_ret
          exact ⟨ret_bool hfin.out.symm, hB.trans (hBr.mono hB.size)⟩

/-- The arities (a negative one lets no term be). -/
def arN (a : Int) : Nat := if a < 0 then 2 else a.toNat

def arL (l : List Sm) : List Nat := l.map fun s => arN s.arity

theorem arN_nat (n : Nat) : arN (n : Int) = n := by unfold arN; rw [if_neg (by omega)]; omega

theorem arN_zero {a : Int} (h : arN a = 0) : a = 0 := by
  unfold arN at h
  by_cases ha : a < 0
  · rw [if_pos ha] at h; omega
  · rw [if_neg ha] at h; omega

theorem arN_one {a : Int} (h : arN a = 1) : a = 1 := by
  unfold arN at h
  by_cases ha : a < 0
  · rw [if_pos ha] at h; omega
  · rw [if_neg ha] at h; omega

theorem arL_at {l : List Sm} {i : Nat} {s : Sm} (h : l[i]? = some s) : (arL l).getD i 0 = arN s.arity := by
  unfold arL; rw [List.getD_eq_getElem?_getD, List.getElem?_map, h]; rfl

theorem arL_len (l : List Sm) : (arL l).length = l.length := by unfold arL; simp

mutual
theorem wf_of {l : List Sm} : ∀ (t : Tm) (top : Bool), lowT t = true → overT l t top = true → wfT (arL l) t = true
  | .node f xs, top, h1, h2 => by
    rw [lowT] at h1
    rw [overT] at h2
    rw [wfT, wfTop]
    by_cases hf : f < 0
    · rw [if_pos hf, decide_eq_true_eq] at h1
      rw [if_pos hf]
      have : xs = [] := List.eq_nil_of_length_eq_zero h1.2
      subst this
      rfl
    · rw [if_neg hf] at h1 h2
      rw [if_neg hf]
      cases hs : l[f.toNat]? with
      | none => rw [hs] at h2; cases h2
      | some s =>
        rw [hs] at h2
        by_cases hb : s.arity ≠ xs.length ∨ (s.pred = true ∧ top = false)
        · simp only [if_pos hb] at h2; cases h2
        · simp only [if_neg hb] at h2
          rw [wfL_of xs h1 h2, arL_len, arL_at hs]
          have hlt := (List.getElem?_eq_some_iff.1 hs).1
          have ha : s.arity = xs.length := Decidable.byContradiction fun e => hb (.inl e)
          rw [ha, arN_nat]
          simp only [Bool.and_true, Bool.and_eq_true, decide_eq_true_eq]
          exact ⟨by omega, trivial⟩
theorem wfL_of {l : List Sm} : ∀ (xs : List Tm), lowL xs = true → overL l xs = true → wfL (arL l) xs = true
  | [], _, _ => rfl
  | x :: xs, h1, h2 => by
    rw [lowL, Bool.and_eq_true] at h1
    rw [overL, Bool.and_eq_true] at h2
    rw [wfL, wf_of x false h1.1 h2.1, wfL_of xs h1.2 h2.2]; rfl
end

theorem chkP_gd {l : List Sm} {t : Tm} (h : chkP l t = 0) : Gd (arL l) t := by
  unfold chkP at h
  by_cases h0 : checkI l = 0
  · rw [if_pos h0] at h
    by_cases h1 : smallT t = true
    · rw [if_pos h1] at h
      by_cases h2 : overT l t true = true
      · have h1' := h1
        unfold smallT at h1'
        simp only [Bool.and_eq_true, decide_eq_true_eq] at h1'
        exact ⟨wf_of t true h1'.2 h2, by omega⟩
      · rw [if_neg h2] at h; cases h
    · rw [if_neg h1] at h; cases h
  · rw [if_neg h0] at h; cases h

theorem fits_gd {l : List Sm} {o : Odr} {ts : List Tm} (h : fitsB l o ts = true) : ∀ t ∈ ts, Gd (arL l) t := by
  intro t ht
  unfold fitsB at h
  simp only [Bool.and_eq_true] at h
  have := List.all_eq_true.1 h.2.2 t ht
  exact chkP_gd (of_decide_eq_true this)

theorem chkO_adm {l : List Sm} {o : Odr} (hl : o.lpo = false) (h : chkO l o = 0) : Adm o (arL l) := by
  unfold chkO at h
  by_cases hc : ¬ (checkI l = 0 ∧ rankB o.prec l.length = true ∧ (o.lpo = true ∨ (o.wts.length = l.length ∧ 1 ≤ o.var ∧ o.var ≤ 1000 ∧ o.wts.getD 0 0 = o.var ∧ chkW l o = true)))
  · rw [if_neg hc] at h; cases h
  replace hc := Decidable.not_not.1 hc
  obtain ⟨_, hr, h⟩ := hc
  rcases h with h | ⟨hw, v1, v2, _, hW⟩
  · rw [hl] at h; cases h
  unfold rankB at hr
  rw [Bool.and_eq_true, decide_eq_true_eq, List.all_eq_true] at hr
  have hbad : ∀ i, i < l.length → badR o.prec i = false := fun i hi => by simpa using hr.2 i (List.mem_range.2 hi)
  have hne : ∀ i k, i < l.length → k < i → ¬ o.prec.getD i 0 = o.prec.getD k 0 := fun i k hi hk e => by
    have := hbad i hi
    rw [badR_same hk e] at this; cases this
  have hbw : ∀ i, i < l.length → ∃ s, l[i]? = some s ∧ badX s (o.wts.getD i 0) o.var (highB o.prec i) = false := fun i hi => by
    unfold chkW at hW
    rw [List.all_eq_true] at hW
    have h1 := hW i (List.mem_range.2 hi)
    obtain ⟨s, hs⟩ : ∃ s, l[i]? = some s := ⟨_, List.getElem?_eq_getElem hi⟩
    refine ⟨s, hs, ?_⟩
    unfold badW at h1
    rw [hs] at h1
    simpa using h1
  have hX : ∀ i, i < l.length → ∃ s, l[i]? = some s ∧ 0 ≤ o.wts.getD i 0 ∧ o.wts.getD i 0 ≤ 1000 ∧ (s.arity = 0 → o.var ≤ o.wts.getD i 0) ∧ (s.arity = 1 → o.wts.getD i 0 = 0 → highB o.prec i = true) := fun i hi => by
    obtain ⟨s, hs, hb⟩ := hbw i hi
    unfold badX at hb
    simp only [Bool.or_eq_false_iff, Bool.and_eq_false_iff, decide_eq_false_iff_not, Bool.not_eq_false'] at hb
    obtain ⟨⟨⟨b1, b2⟩, b3⟩, b4⟩ := hb
    refine ⟨s, hs, by omega, by omega, fun h0 => ?_, fun h1 h0 => ?_⟩
    · rcases b3 with b3 | b3
      · exact absurd h0 b3
      · omega
    · rcases b4 with (b4 | b4) | b4
      · exact absurd h1 b4
      · exact absurd h0 b4
      · exact b4
  have hlen := arL_len l
  refine ⟨by rw [hr.1, hlen], by rw [hw, hlen], fun i k hi hk e => ?_, v1, v2, fun i hi => ?_, fun i hi => ?_, fun i hi h0 => ?_, fun i hi h1 h0 k hk hne => ?_⟩
  · rw [hlen] at hi hk
    rcases Nat.lt_trichotomy i k with h | h | h
    · exact absurd e.symm (hne k i hk h)
    · exact h
    · exact absurd e (hne i k hi h)
  · rw [hlen] at hi; obtain ⟨s, _, h1, _⟩ := hX i hi; exact h1
  · rw [hlen] at hi; obtain ⟨s, _, _, h1, _⟩ := hX i hi; exact h1
  · rw [hlen] at hi; obtain ⟨s, hs, _, _, h1, _⟩ := hX i hi
    rw [arL_at hs] at h0
    exact h1 (arN_zero h0)
  · rw [hlen] at hi hk; obtain ⟨s, hs, _, _, _, h2⟩ := hX i hi
    rw [arL_at hs] at h1
    have hh := h2 (arN_one h1) h0
    unfold highB at hh
    rw [List.all_eq_true] at hh
    have := hh k (List.mem_range.2 (by rw [hr.1]; exact hk))
    unfold overI at this
    intro hlt
    rw [decide_eq_true hne, decide_eq_true hlt] at this
    cases this

end Go.Proofs.Ytbchignbndgigaa

/- kbo: what its laws share: boxes of a signature, an order and terms; rows of three terms; the answers, plain; Turned. -/

namespace Go.Proofs.Ytbchignbndgigaa

open Go.RowKit Go.Shelf Go.Maps
set_option maxRecDepth 100000

theorem heap5 (w : World) (o0 o1 o2 o3 o4 : Obj) : (((((w.alloc o0).alloc o1).alloc o2).alloc o3).alloc o4).heap[w.heap.size]? = some o0 ∧ (((((w.alloc o0).alloc o1).alloc o2).alloc o3).alloc o4).heap[w.heap.size + 1]? = some o1 ∧ (((((w.alloc o0).alloc o1).alloc o2).alloc o3).alloc o4).heap[w.heap.size + 2]? = some o2 ∧
    (((((w.alloc o0).alloc o1).alloc o2).alloc o3).alloc o4).heap[w.heap.size + 3]? = some o3 ∧ (((((w.alloc o0).alloc o1).alloc o2).alloc o3).alloc o4).heap[w.heap.size + 4]? = some o4 := by
  have e0 := heap_alloc_new w o0
  have e1 := heap_alloc_new (w.alloc o0) o1
  have e2 := heap_alloc_new ((w.alloc o0).alloc o1) o2
  have e3 := heap_alloc_new (((w.alloc o0).alloc o1).alloc o2) o3
  have e4 := heap_alloc_new ((((w.alloc o0).alloc o1).alloc o2).alloc o3) o4
  have s : ∀ (v : World) (o : Obj), (v.alloc o).heap.size = v.heap.size + 1 := fun v o => by simp
  rw [s] at e1
  rw [s, s] at e2
  rw [s, s, s] at e3
  rw [s, s, s, s] at e4
  refine ⟨?_, ?_, ?_, ?_, e4⟩
  · rw [Below.heap_alloc _ _ _ (by simp only [s]; omega), Below.heap_alloc _ _ _ (by simp only [s]; omega), Below.heap_alloc _ _ _ (by simp only [s]; omega), Below.heap_alloc _ _ _ (by simp only [s]; omega)]
    exact e0
  · rw [Below.heap_alloc _ _ _ (by simp only [s]; omega), Below.heap_alloc _ _ _ (by simp only [s]; omega), Below.heap_alloc _ _ _ (by simp only [s]; omega)]
    exact e1
  · rw [Below.heap_alloc _ _ _ (by simp only [s]; omega), Below.heap_alloc _ _ _ (by simp only [s]; omega)]
    exact e2
  · rw [Below.heap_alloc _ _ _ (by simp only [s]; omega)]
    exact e3

theorem below5 (w : World) (o0 o1 o2 o3 o4 : Obj) : Below w.heap.size w (((((w.alloc o0).alloc o1).alloc o2).alloc o3).alloc o4) :=
  (((((Below.refl _ _).alloc (Nat.le_refl _) _).alloc (by simp) _).alloc (by simp; omega) _).alloc (by simp; omega) _).alloc (by simp; omega) _

/-- A signature, an order, in their boxes b and b + 1. -/
structure BoxSO (w : World) (b : Nat) (o : Odr) (As P Q : Option Addr) (n cs pc qc : Nat) : Prop where
  s0 : w.cell? ⟨b, 0, none⟩ = some (.slice As n cs)
  o0 : w.cell? ⟨b + 1, 0, none⟩ = some (.bool o.lpo)
  o1 : w.cell? ⟨b + 1, 1, none⟩ = some (.slice P o.prec.length pc)
  o2 : w.cell? ⟨b + 1, 2, none⟩ = some (.slice Q o.wts.length qc)
  o3 : w.cell? ⟨b + 1, 3, none⟩ = some (.int .i64 o.var)

theorem boxSO_of {w : World} {b : Nat} {o : Odr} {As P Q : Option Addr} {n cs pc qc : Nat} {ty ty2 : TypeId} (h0 : w.heap[b]? = some (.cells #[.slice As n cs] ty)) (h1 : w.heap[b + 1]? = some (.cells #[.bool o.lpo, .slice P o.prec.length pc, .slice Q o.wts.length qc, .int .i64 o.var] ty2)) : BoxSO w b o As P Q n cs pc qc := by
  obtain ⟨a0, _⟩ := cells_one h0
  obtain ⟨b0, b1, b2, b3⟩ := cells_four h1
  exact ⟨a0, b0, b1, b2, b3⟩

/-- A term that lies in memory. -/
structure TmK (w : World) (t : Tm) (A : Option Addr) (c : Nat) : Prop where
  i64 : I64 t.fn
  args : ArgsK w (· < w.heap.size) A c t.args

theorem TmK.on {w w' : World} {t : Tm} {A : Option Addr} {c : Nat} (h : TmK w t A c) (hb : Below w.heap.size w w') : TmK w' t A c := ⟨h.i64, h.args.on hb⟩

theorem cells_six {W : World} {b : Nat} {x0 x1 x2 x3 x4 x5 : Value} {t : TypeId} (h : W.heap[b]? = some (.cells #[x0, x1, x2, x3, x4, x5] t)) : W.cell? ⟨b, 0, none⟩ = some x0 ∧ W.cell? ⟨b, 1, none⟩ = some x1 ∧ W.cell? ⟨b, 2, none⟩ = some x2 ∧ W.cell? ⟨b, 3, none⟩ = some x3 ∧ W.cell? ⟨b, 4, none⟩ = some x4 ∧ W.cell? ⟨b, 5, none⟩ = some x5 := by
  refine ⟨?_, ?_, ?_, ?_, ?_, ?_⟩ <;> simp [World.cell?, h]

theorem argsK_three {w : World} {N : Nat → Prop} {b : Nat} {t u v : Tm} {A A2 A3 : Option Addr} {c c2 c3 : Nat} {e : TypeId} (h : w.heap[b]? = some (.cells #[.int .i64 t.fn, .slice A t.args.length c, .int .i64 u.fn, .slice A2 u.args.length c2, .int .i64 v.fn, .slice A3 v.args.length c3] e)) (hN : N b) (h1 : I64 t.fn) (h2 : I64 u.fn) (h3 : I64 v.fn) (hA : ArgsK w N A c t.args) (hA2 : ArgsK w N A2 c2 u.args) (hA3 : ArgsK w N A3 c3 v.args) :
    ArgsK w N (some ⟨b, 0, none⟩) 3 [t, u, v] := by
  obtain ⟨z0, z1, z2, z3, z4, z5⟩ := cells_six h
  refine .row b 0 3 [t, u, v] (fun i => if i = 0 then A else if i = 1 then A2 else A3) (fun i => if i = 0 then c else if i = 1 then c2 else c3) (by simp) hN (by simp) (fun i x e => ?_) (fun i x e => ?_) (fun i x e => ?_) (fun i x e => ?_)
  all_goals
    match i, e with
    | 0, e =>
      simp only [List.getElem?_cons_zero, Option.some.injEq] at e
      subst e
      first
        | exact h1
        | exact z0
        | exact z1
        | exact hA
    | 1, e =>
      simp only [List.getElem?_cons_succ, List.getElem?_cons_zero, Option.some.injEq] at e
      subst e
      first
        | exact h2
        | exact z2
        | exact z3
        | exact hA2
    | 2, e =>
      simp only [List.getElem?_cons_succ, List.getElem?_cons_zero, Option.some.injEq] at e
      subst e
      first
        | exact h3
        | exact z4
        | exact z5
        | exact hA3
    | i + 3, e => simp at e

/-- Rows of one, two, three terms, as the law lays them: in a world behind W. -/
theorem row_one {W w1 : World} {t : Tm} {A : Option Addr} {c : Nat} (h : TmK W t A c) (hb : Below W.heap.size W w1) :
    Args (w1.alloc (.cells #[.int .i64 t.fn, .slice A t.args.length c] 27)) (w1.alloc (.cells #[.int .i64 t.fn, .slice A t.args.length c] 27)).heap.size (some ⟨w1.heap.size, 0, none⟩) [t] := by
  have hb1 : Below w1.heap.size w1 (w1.alloc (.cells #[.int .i64 t.fn, .slice A t.args.length c] 27)) := (Below.refl _ _).alloc (Nat.le_refl _) _
  have ht := (h.on hb).on hb1
  exact (argsK_one (N := (· < (w1.alloc (.cells #[.int .i64 t.fn, .slice A t.args.length c] 27)).heap.size)) (heap_alloc_new w1 _) (by simp) ht.i64 ht.args).toA

theorem row_two {W w1 : World} {s t : Tm} {A A2 : Option Addr} {c c2 : Nat} (hs : TmK W s A c) (ht : TmK W t A2 c2) (hb : Below W.heap.size W w1) :
    Args (w1.alloc (.cells #[.int .i64 s.fn, .slice A s.args.length c, .int .i64 t.fn, .slice A2 t.args.length c2] 27)) (w1.alloc (.cells #[.int .i64 s.fn, .slice A s.args.length c, .int .i64 t.fn, .slice A2 t.args.length c2] 27)).heap.size (some ⟨w1.heap.size, 0, none⟩) [s, t] := by
  have hb1 : Below w1.heap.size w1 (w1.alloc (.cells #[.int .i64 s.fn, .slice A s.args.length c, .int .i64 t.fn, .slice A2 t.args.length c2] 27)) := (Below.refl _ _).alloc (Nat.le_refl _) _
  have h1 := (hs.on hb).on hb1
  have h2 := (ht.on hb).on hb1
  exact (argsK_two (N := (· < (w1.alloc (.cells #[.int .i64 s.fn, .slice A s.args.length c, .int .i64 t.fn, .slice A2 t.args.length c2] 27)).heap.size)) (heap_alloc_new w1 _) (by simp) h1.i64 h2.i64 h1.args h2.args).toA

theorem row_three {W w1 : World} {s t u : Tm} {A A2 A3 : Option Addr} {c c2 c3 : Nat} (hs : TmK W s A c) (ht : TmK W t A2 c2) (hu : TmK W u A3 c3) (hb : Below W.heap.size W w1) :
    Args (w1.alloc (.cells #[.int .i64 s.fn, .slice A s.args.length c, .int .i64 t.fn, .slice A2 t.args.length c2, .int .i64 u.fn, .slice A3 u.args.length c3] 27)) (w1.alloc (.cells #[.int .i64 s.fn, .slice A s.args.length c, .int .i64 t.fn, .slice A2 t.args.length c2, .int .i64 u.fn, .slice A3 u.args.length c3] 27)).heap.size (some ⟨w1.heap.size, 0, none⟩) [s, t, u] := by
  have hb1 : Below w1.heap.size w1 (w1.alloc (.cells #[.int .i64 s.fn, .slice A s.args.length c, .int .i64 t.fn, .slice A2 t.args.length c2, .int .i64 u.fn, .slice A3 u.args.length c3] 27)) := (Below.refl _ _).alloc (Nat.le_refl _) _
  have h1 := (hs.on hb).on hb1
  have h2 := (ht.on hb).on hb1
  have h3 := (hu.on hb).on hb1
  exact (argsK_three (N := (· < (w1.alloc (.cells #[.int .i64 s.fn, .slice A s.args.length c, .int .i64 t.fn, .slice A2 t.args.length c2, .int .i64 u.fn, .slice A3 u.args.length c3] 27)).heap.size)) (heap_alloc_new w1 _) (by simp) h1.i64 h2.i64 h3.i64 h1.args h2.args h3.args).toA

/-- The program's answers, in every world behind W. -/
theorem kboCmp_at {W : World} {o : Odr} {s t : Tm} {P Q A A2 : Option Addr} {pc qc c c2 : Nat} (hM : OdrM W W.heap.size o P Q) (hs : TmK W s A c) (ht : TmK W t A2 c2) (hz : s.size + t.size ≤ 1073741824) : ∀ w1, Below W.heap.size W w1 →
    Calls Try.prog 16 #[.agg #[.bool o.lpo, .slice P o.prec.length pc, .slice Q o.wts.length qc, .int .i64 o.var], .agg #[.int .i64 s.fn, .slice A s.args.length c], .agg #[.int .i64 t.fn, .slice A2 t.args.length c2]] w1 fun e w' => e = .returned (.int .i64 (cmpR o s t)) ∧ Below w1.heap.size w1 w' := fun w1 hb => by
  have := kboCmp_any o s t P Q A A2 pc qc c c2 w1 (hM.on hb) hs.i64 ht.i64 hz (hs.on hb).args (ht.on hb).args
  rwa [cmpO_eq] at this

theorem kboAbove_at {W : World} {o : Odr} {s t : Tm} {P Q A A2 : Option Addr} {pc qc c c2 : Nat} (hM : OdrM W W.heap.size o P Q) (hs : TmK W s A c) (ht : TmK W t A2 c2) (hz : s.size + t.size ≤ 1073741824) : ∀ w1, Below W.heap.size W w1 →
    Calls Try.prog 17 #[.agg #[.bool o.lpo, .slice P o.prec.length pc, .slice Q o.wts.length qc, .int .i64 o.var], .agg #[.int .i64 s.fn, .slice A s.args.length c], .agg #[.int .i64 t.fn, .slice A2 t.args.length c2]] w1 fun e w' => e = .returned (.bool (cmpR o s t == 3)) ∧ Below w1.heap.size w1 w' := fun w1 hb => by
  have := kboAbove_any o s t P Q A A2 pc qc c c2 w1 (hM.on hb) hs.i64 ht.i64 hz (hs.on hb).args (ht.on hb).args
  rwa [cmpO_eq] at this

/-- A relation the other way round. -/
def turnI (r : Int) : Int := if r = 1 then 3 else if r = 3 then 1 else r

theorem kboTurned_any (r : Int) (w : World) : Calls Try.prog 21 #[.int .i64 r] w fun e w' => e = .returned (.int .i64 (turnI r)) ∧ Below w.heap.size w w' := by
  by_cases h1 : r = 1
  · subst h1
    go_enter Try.func21, Try.ntmps21
    go_wp2
    go_ret
    exact ⟨rfl, Below.refl _ _⟩
  · by_cases h3 : r = 3
    · subst h3
      go_enter Try.func21, Try.ntmps21
      go_wp2
      go_ret
      exact ⟨rfl, Below.refl _ _⟩
    · have hfin := Lib.hid (show turnI r = r by unfold turnI; rw [if_neg h1, if_neg h3])
      have g1 : (r == 1) = false := by simpa using h1
      have g3 : (r == 3) = false := by simpa using h3
      go_enter Try.func21, Try.ntmps21
      go_wp2
      go_ret
      exact ⟨ret_int hfin.out.symm, Below.refl _ _⟩

section

variable {o : Odr} {ar : List Nat} {s t u : Tm}

theorem cmpR_gd (K : Adm o ar) (hs : Gd ar s) (ht : Gd ar t) : cmpR o s t = if cmpT s t = 0 then 2 else if abvT o s t then 3 else if abvT o t s then 1 else 0 := by
  unfold cmpR; rw [K.know s hs.wf, K.know t ht.wf]; rfl

theorem cmpR_two (K : Adm o ar) (hs : Gd ar s) (ht : Gd ar t) : cmpR o s t = 2 ↔ cmpT s t = 0 := by
  rw [cmpR_gd K hs ht]
  by_cases h : cmpT s t = 0
  · simp [h]
  · simp only [h, if_false]
    constructor
    · intro e; split at e <;> (try split at e) <;> cases e
    · intro e; exact e.elim

theorem cmpR_three (K : Adm o ar) (hs : Gd ar s) (ht : Gd ar t) : cmpR o s t = 3 ↔ abvT o s t = true := by
  rw [cmpR_gd K hs ht]
  by_cases h : cmpT s t = 0
  · have : s = t := cmp_zero_iff.1 h
    subst this
    simp only [h, if_true]
    constructor
    · intro e; cases e
    · intro e; exact absurd e abv_irr
  · simp only [h, if_false]
    cases h1 : abvT o s t
    · simp only [Bool.false_eq_true, if_false, iff_false]
      split <;> decide
    · simp

theorem cmpR_self (K : Adm o ar) (hs : Gd ar s) : cmpR o s s = 2 := (cmpR_two K hs hs).2 (cmp_zero_iff.2 rfl)

theorem cmpR_turn (K : Adm o ar) (hs : Gd ar s) (ht : Gd ar t) : cmpR o t s = turnI (cmpR o s t) := by
  rw [cmpR_gd K hs ht, cmpR_gd K ht hs]
  by_cases h : cmpT s t = 0
  · have : s = t := cmp_zero_iff.1 h
    subst this
    simp [h, turnI]
  · have h' : ¬ cmpT t s = 0 := fun e => by
      rw [cmp_zero_iff] at e; subst e; exact h (cmp_zero_iff.2 rfl)
    rw [if_neg h, if_neg h']
    cases h1 : abvT o s t
    · cases h2 : abvT o t s <;> simp [turnI]
    · rw [abv_asym s t h1]; simp [turnI]

theorem cmpR_trans (K : Adm o ar) (hs : Gd ar s) (ht : Gd ar t) (hu : Gd ar u) (h1 : cmpR o s t = 3) (h2 : cmpR o t u = 3) : cmpR o s u = 3 :=
  (cmpR_three K hs hu).2 (abv_trans K s t u hs ht hu ((cmpR_three K hs ht).1 h1) ((cmpR_three K ht hu).1 h2))

end

end Go.Proofs.Ytbchignbndgigaa

/- Put, in plain words and in memory. -/

namespace Go.Proofs.Ytbchignbndgigaa

open Go.RowKit
set_option maxRecDepth 100000

/-- The term with s at a place. -/
def putT : Tm → List Int → Tm → Tm
  | _, [], s => s
  | t, i :: p, s => match t.args[i.toNat]? with
    | none => t
    | some u => .node t.fn (t.args.set i.toNat (putT u p s))

theorem sub_get {t s : Tm} {i : Int} {p : List Int} (h : subT t (i :: p) = some s) : 0 ≤ i ∧ ∃ u, t.args[i.toNat]? = some u ∧ subT u p = some s := by
  simp only [subT] at h
  split at h
  · rename_i h1
    cases hu : t.args[i.toNat]? with
    | none => rw [hu] at h; cases h
    | some u => rw [hu] at h; exact ⟨h1.1, u, rfl, h⟩
  · cases h

theorem put_self : ∀ {p : List Int} {t u : Tm}, subT t p = some u → putT t p u = t
  | [], t, u, h => by simp only [subT] at h; injection h with h; rw [h]; rfl
  | i :: p, t, s, h => by
    obtain ⟨_, u, hu, h1⟩ := sub_get h
    have := put_self h1
    obtain ⟨hlt, he⟩ := List.getElem?_eq_some_iff.1 hu
    simp only [putT, hu, this]
    rw [← he, List.set_getElem_self]
    exact Tm.eta t

/-- The place that is found, as one follows the rows. -/
def PathA (w : World) : List Int → Nat → Nat → Tm → Nat → Nat → Prop
  | [], b, o, _, b', o' => b' = b ∧ o' = o
  | i :: p, b, o, t, b', o' => ∃ gb go c u, 0 ≤ i ∧ w.cell? ⟨b, o + 1, none⟩ = some (.slice (some ⟨gb, go, none⟩) t.args.length c) ∧ t.args[i.toNat]? = some u ∧ PathA w p gb (go + i.toNat * 2) u b' o'

def FindP (t : Tm) (p : List Int) (w : World) (B b0 o0 : Nat) (e : Ending) (w' : World) : Prop := w' = w ∧
  match subT t p with
  | none => e = .returned (.pointer none)
  | some s => ∃ b off, e = .returned (.pointer (some ⟨b, off, none⟩)) ∧ PtrT w B b off s ∧ PathA w p b0 o0 t b off

/-- Where a place lies in a term's own rows: at its box, or in one of the rows; and no cell of it is frozen. -/
theorem path_in {w : World} : ∀ {p : List Int} {b o b' o' : Nat} {t : Tm} {A : Option Addr} {c lo hi : Nat}, PathA w p b o t b' o' → w.cell? ⟨b, o + 1, none⟩ = some (.slice A t.args.length c) → OwnT w lo hi A t.args →
    (p = [] ∧ b' = b ∧ o' = o) ∨ (lo ≤ b' ∧ b' < hi ∧ w.frozen? ⟨b', o', none⟩ = false ∧ w.frozen? ⟨b', o' + 1, none⟩ = false)
  | [], _, _, _, _, _, _, _, _, _, h, _, _ => .inl ⟨rfl, h.1, h.2⟩
  | i :: p, b, o, b', o', .node f xs, A, c, lo, hi, h, hc, hO => by
    obtain ⟨gb, go, c', u, h0, h1, h2, h3⟩ := h
    simp only [Tm.args] at hc h1 h2 hO
    rw [hc] at h1
    injection h1 with h1
    injection h1 with hA _ _
    have hlt := (List.getElem?_eq_some_iff.1 h2).1
    cases hO with
    | nil => simp at hlt
    | row _ _ rb cap _ vs A' c2 m hlo hpos hlen hrow hm0 hmn hm hi64 e0 e1 hs =>
      injection hA with hA
      injection hA with r1 r2 _
      subst r1; subst r2
      have hml := mono_to hm (show i.toNat + 1 ≤ xs.length by omega) (Nat.le_refl _)
      have hm1 := mono_to hm (Nat.zero_le i.toNat) (by omega)
      have hvs : vs.length = xs.length * 2 := hrow.1
      have hmi := hm i.toNat hlt
      have hcell : w.cell? ⟨rb, 0 + i.toNat * 2 + 1, none⟩ = some (.slice (A' i.toNat) u.args.length (c2 i.toNat)) := by
        rw [Nat.zero_add, hrow.cellAt (i.toNat * 2 + 1) (by omega)]
        exact e1 _ _ h2
      rcases path_in h3 hcell (hs _ _ h2) with ⟨_, rfl, rfl⟩ | ⟨k1, k2, k3⟩
      · exact .inr ⟨hlo, by omega, hrow.frozenAt (0 + i.toNat * 2), hrow.frozenAt (0 + i.toNat * 2 + 1)⟩
      · exact .inr ⟨by omega, by omega, k3⟩

/-- Two cells of a block hold a term's; all else is as it was. -/
structure Wrote (w w2 : World) (b' o' : Nat) (s : Tm) (As : Option Addr) (cs : Nat) : Prop where
  blk : ∀ g, g ≠ b' → w2.heap[g]? = w.heap[g]?
  cell : ∀ o2, o2 ≠ o' → o2 ≠ o' + 1 → w2.cell? ⟨b', o2, none⟩ = w.cell? ⟨b', o2, none⟩
  c0 : w2.cell? ⟨b', o', none⟩ = some (.int .i64 s.fn)
  c1 : w2.cell? ⟨b', o' + 1, none⟩ = some (.slice As s.args.length cs)

theorem wrote_two {w : World} {b o : Nat} {x y : Value} (s : Tm) (As : Option Addr) (cs : Nat) (h0 : w.cell? ⟨b, o, none⟩ = some x) (h1 : w.cell? ⟨b, o + 1, none⟩ = some y) :
    Wrote w ((w.setCell ⟨b, o, none⟩ (.int .i64 s.fn)).setCell ⟨b, o + 1, none⟩ (.slice As s.args.length cs)) b o s As cs := by
  have ne : ∀ {i j : Nat}, i ≠ j → (⟨b, i, none⟩ : Addr) ≠ ⟨b, j, none⟩ := fun h e => h (by injection e)
  refine ⟨fun g hg => (heap_setCell_other _ _ _ _ hg).trans (heap_setCell_other _ _ _ _ hg), fun o2 h2 h3 => ?_, ?_, ?_⟩
  · rw [World.cell?_setCell_other _ _ _ _ (ne (Ne.symm h3)), World.cell?_setCell_other _ _ _ _ (ne (Ne.symm h2))]
  · rw [World.cell?_setCell_other _ _ _ _ (ne (by omega)), World.cell?_setCell_same _ _ _ h0]
  · exact World.cell?_setCell_same _ _ _ (u := y) (by rw [World.cell?_setCell_other _ _ _ _ (ne (by omega))]; exact h1)

/-- A term's own rows, and s laid at a place in them: the term with s there. -/
theorem put_args {w w2 : World} {s : Tm} {As : Option Addr} {cs lo2 hi2 : Nat} {N : Nat → Prop} (hs64 : I64 s.fn) (hsO : OwnT w lo2 hi2 As s.args) (hN2 : ∀ g, lo2 ≤ g → g < hi2 → N g) : ∀ {p : List Int} {b o b' o' : Nat} {t v : Tm} {A : Option Addr} {c lo hi : Nat}, PathA w p b o t b' o' → subT t p = some v → I64 t.fn →
    w.cell? ⟨b, o, none⟩ = some (.int .i64 t.fn) → w.cell? ⟨b, o + 1, none⟩ = some (.slice A t.args.length c) → OwnT w lo hi A t.args → b < lo → b < lo2 → hi ≤ lo2 → (∀ g, lo ≤ g → g < hi → N g) → Wrote w w2 b' o' s As cs →
    ∃ A2 c2, I64 (putT t p s).fn ∧ w2.cell? ⟨b, o, none⟩ = some (.int .i64 (putT t p s).fn) ∧ w2.cell? ⟨b, o + 1, none⟩ = some (.slice A2 (putT t p s).args.length c2) ∧ ArgsN w2 N A2 (putT t p s).args
  | [], b, o, b', o', t, v, A, c, lo, hi, h, _, _, _, _, _, hbl, hb2, _, _, hW => by
    obtain ⟨rfl, rfl⟩ := h
    exact ⟨As, cs, hs64, hW.c0, hW.c1, (hsO.keep fun g h1 h2 => hW.blk g (by omega)).argsN.wide fun g h => hN2 g h.1 h.2⟩
  | i :: p, b, o, b', o', .node f xs, v, A, c, lo, hi, h, hv, hf, hc0, hc, hO, hbl, hb2, hh2, hhB, hW => by
    obtain ⟨gb, go, c', u, h0, h1, h2, h3⟩ := h
    obtain ⟨_, u', hu', hv'⟩ := sub_get hv
    simp only [Tm.args, Tm.fn] at hc0 hc h1 h2 hO hu' hf
    rw [h2] at hu'
    cases hu'
    rw [hc] at h1
    injection h1 with h1
    injection h1 with hA _ _
    have hlt := (List.getElem?_eq_some_iff.1 h2).1
    cases hO with
    | nil => simp at hlt
    | row _ _ rb cap _ vs A' c2 m hlo hpos hlen hrow hm0 hmn hm hi64 e0 e1 hs =>
      injection hA with hA
      injection hA with r1 r2 _
      subst r1; subst r2
      have hml := mono_to hm (show i.toNat + 1 ≤ xs.length by omega) (Nat.le_refl _)
      have hm1 := mono_to hm (Nat.zero_le i.toNat) (by omega)
      have hvs : vs.length = xs.length * 2 := hrow.1
      have hmi := hm i.toNat hlt
      have hce : ∀ k, k < xs.length * 2 → w.cell? ⟨rb, 0 + k, none⟩ = vs[k]? := fun k hk => by rw [Nat.zero_add]; exact hrow.cellAt k (by omega)
      have hcell : w.cell? ⟨rb, 0 + i.toNat * 2 + 1, none⟩ = some (.slice (A' i.toNat) u.args.length (c2 i.toNat)) := (hce (i.toNat * 2 + 1) (by omega)).trans (e1 _ _ h2)
      have hcell0 : w.cell? ⟨rb, 0 + i.toNat * 2, none⟩ = some (.int .i64 u.fn) := (hce (i.toNat * 2) (by omega)).trans (e0 _ _ h2)
      obtain ⟨A3, c3, q1, q2, q3, q4⟩ := put_args hs64 hsO hN2 h3 hv' (hi64 _ _ h2) hcell0 hcell (hs _ _ h2) (by omega) (by omega) (by omega) (fun g k1 k2 => hhB g (by omega) (by omega)) hW
      have hwhere : (b' = rb ∧ o' = 0 + i.toNat * 2) ∨ (m i.toNat ≤ b' ∧ b' < m (i.toNat + 1)) := by
        rcases path_in h3 hcell (hs _ _ h2) with ⟨_, rfl, rfl⟩ | ⟨k1, k2, _⟩
        · exact .inl ⟨rfl, rfl⟩
        · exact .inr ⟨k1, k2⟩
      have hbb : b ≠ b' := by omega
      have hcb : ∀ o2, w2.cell? ⟨b, o2, none⟩ = w.cell? ⟨b, o2, none⟩ := fun o2 => cell_of_heap (hW.blk b hbb)
      have hother : ∀ k, k ≠ i.toNat * 2 → k ≠ i.toNat * 2 + 1 → w2.cell? ⟨rb, 0 + k, none⟩ = w.cell? ⟨rb, 0 + k, none⟩ := fun k k1 k2 => by
        rcases hwhere with ⟨rfl, rfl⟩ | ⟨k3, k4⟩
        · exact hW.cell _ (by omega) (by omega)
        · exact cell_of_heap (hW.blk rb (by omega))
      have hput : putT (.node f xs) (i :: p) s = .node f (xs.set i.toNat (putT u p s)) := by simp only [putT, Tm.args, h2, Tm.fn]
      rw [hput]
      simp only [Tm.fn, Tm.args, List.length_set]
      refine ⟨some ⟨rb, 0, none⟩, c, hf, (hcb o).trans hc0, (hcb (o + 1)).trans hc, ?_⟩
      have hget : ∀ (j : Nat) (z : Tm), (xs.set i.toNat (putT u p s))[j]? = some z → (j = i.toNat ∧ z = putT u p s) ∨ (j ≠ i.toNat ∧ xs[j]? = some z) := by
        intro j z hz
        by_cases e : j = i.toNat
        · subst e
          rw [List.getElem?_set_self hlt] at hz
          injection hz with hz
          exact .inl ⟨rfl, hz.symm⟩
        · rw [List.getElem?_set_ne (Ne.symm e)] at hz
          exact .inr ⟨e, hz⟩
      have hj : ∀ {j : Nat} {z : Tm}, xs[j]? = some z → j < xs.length := fun e => (List.getElem?_eq_some_iff.1 e).1
      refine .row rb 0 _ (fun j => if j = i.toNat then A3 else A' j) (fun j => if j = i.toNat then c3 else c2 j) (hhB rb hlo (by omega)) (by rw [List.length_set]; exact hlen) (fun j z hz => ?_) (fun j z hz => ?_) (fun j z hz => ?_) (fun j z hz => ?_)
      · rcases hget j z hz with ⟨rfl, rfl⟩ | ⟨e, hz'⟩
        · exact q1
        · exact hi64 j z hz'
      · rcases hget j z hz with ⟨rfl, rfl⟩ | ⟨e, hz'⟩
        · exact q2
        · exact (hother (j * 2) (by omega) (by omega)).trans ((hce (j * 2) (by have := hj hz'; omega)).trans (e0 j z hz'))
      · rcases hget j z hz with ⟨rfl, rfl⟩ | ⟨e, hz'⟩
        · simp only [if_true]; exact q3
        · simp only [if_neg e]
          exact (hother (j * 2 + 1) (by omega) (by omega)).trans ((hce (j * 2 + 1) (by have := hj hz'; omega)).trans (e1 j z hz'))
      · rcases hget j z hz with ⟨rfl, rfl⟩ | ⟨e, hz'⟩
        · simp only [if_true]; exact q4
        · simp only [if_neg e]
          have hjl := hj hz'
          have g1 := mono_to hm (Nat.zero_le j) (by omega)
          have g2 := mono_to hm (show j + 1 ≤ xs.length by omega) (Nat.le_refl _)
          refine ((hs j z hz').keep fun g k1 k2 => hW.blk g ?_).argsN.wide fun g h => hhB g (by omega) (by omega)
          rcases hwhere with ⟨rfl, _⟩ | ⟨k3, k4⟩
          · omega
          · rcases Nat.lt_or_gt_of_ne e with h5 | h5
            · have := mono_to hm (show j + 1 ≤ i.toNat by omega) (by omega)
              omega
            · have := mono_to hm (show i.toNat + 1 ≤ j by omega) (by omega)
              omega

theorem path_keep {w w' : World} (hk : ∀ b o v, w.cell? ⟨b, o, none⟩ = some v → w'.cell? ⟨b, o, none⟩ = some v) : ∀ {p : List Int} {b o b' o' : Nat} {t : Tm}, PathA w p b o t b' o' → PathA w' p b o t b' o'
  | [], _, _, _, _, _, h => h
  | _ :: _, _, _, _, _, _, h => by
    obtain ⟨gb, go, c, u, h0, h1, h2, h3⟩ := h
    exact ⟨gb, go, c, u, h0, hk _ _ _ h1, h2, path_keep hk h3⟩

theorem frozen_of_heap {w w' : World} {b o : Nat} (h : w'.heap[b]? = w.heap[b]?) : w'.frozen? ⟨b, o, none⟩ = w.frozen? ⟨b, o, none⟩ := by simp [World.frozen?, h]

theorem cell_grow {w w' : World} (h : Below w.heap.size w w') : ∀ b o v, w.cell? ⟨b, o, none⟩ = some v → w'.cell? ⟨b, o, none⟩ = some v := fun _ _ _ e => cell_on h (World.block_lt_of_cell? w _ e) e

end Go.Proofs.Ytbchignbndgigaa

/- The document's own answer: Copy. -/

namespace Go.Proofs.Ytbchignbndgigaa

open Go.RowKit Go.Shelf
set_option maxRecDepth 100000

/-- What lies apart since a world, but for the row of v itself. -/
def Apart (lo : Nat) (v : Value) (w : World) (g : Nat) : Prop := lo ≤ g ∧ g < w.heap.size ∧ v.ownBlock ≠ some g

/-- A copy of t, in new memory: the row of its arguments is the call's own. -/
def RCopyPost (t : Tm) (w : World) (e : Ending) (w' : World) : Prop := ∃ v l, e = .returned (.agg #[.int .i64 t.fn, v]) ∧ l.map Ti.t = t.args ∧ RowT w' w.heap.size v l (Apart w.heap.size v w') ∧ Below w.heap.size w w'

def RCopyAt (t : Tm) : Prop := t.size ≤ 4398046511104 → ∀ (A : Option Addr) (c : Nat) (w : World), I64 t.fn → Args w w.heap.size A t.args → Calls Try.prog 50 #[.agg #[.int .i64 t.fn, .slice A t.args.length c]] w (RCopyPost t w)

/-- What the loop has laid: the box, its row. -/
structure RCopyI (w wr : World) (f : Int) (xs : List Tm) (k : Nat) (v : Value) (l : List Ti) : Prop where
  box : wr.heap[w.heap.size + 2]? = some (.cells #[.int .i64 f, v] 27)
  key : l.map Ti.t = xs.take k
  row : RowT wr (w.heap.size + 3) v l (Apart (w.heap.size + 3) v wr)

theorem RCopyI.len {w wr : World} {f : Int} {xs : List Tm} {k : Nat} {v : Value} {l : List Ti} (h : RCopyI w wr f xs k v l) (hk : k ≤ xs.length) : l.length = k := by
  have := congrArg List.length h.key
  simpa [Nat.min_eq_left hk] using this

theorem row_own {W : World} {base n : Nat} {e : TypeId} {size : Nat} {v : Value} {vs : List Value} (h : W.ownsRow base e size v n vs) : ∃ A c, v = .slice A n c := by
  rcases h.2 with ⟨hv, h0⟩ | ⟨g, cap, cur, hv, _⟩
  · exact ⟨none, 0, by rw [hv, h0]⟩
  · exact ⟨_, cap, hv⟩

theorem RowT.base {w : World} {base base' : Nat} {v : Value} {l : List Ti} {N : Nat → Prop} (h : RowT w base v l N) (hb : base' ≤ base) : RowT w base' v l N := by
  refine ⟨⟨h.row.1, ?_⟩, h.i64, h.sub⟩
  rcases h.row.2 with h0 | ⟨g, cap, cur, hv, h1, hrest⟩
  · exact .inl h0
  · exact .inr ⟨g, cap, cur, hv, Nat.le_trans hb h1, hrest⟩

/-- One more: the copy of the next argument, its box, the row that has grown, the store. -/
theorem RCopyI.next {w wr w4 w5 : World} {f : Int} {xs : List Tm} {k : Nat} {v v4 v5 : Value} {l l4 : List Ti} {u : Tm} {A4 : Option Addr} {c4 : Nat} {o : Obj} (h : RCopyI w wr f xs k v l) (hu : xs[k]? = some u) (hi : I64 u.fn) (hl4 : l4.map Ti.t = u.args) (h64 : u.args.length ≤ 9223372036854775807) (hv4 : v4 = .slice A4 u.args.length c4)
    (hR4 : RowT w4 wr.heap.size v4 l4 (Apart wr.heap.size v4 w4)) (hb4 : Below wr.heap.size wr w4) (hown : w5.ownsRow (w.heap.size + 3) 27 2 v5 (k + 1) (l.flatMap Ti.cells ++ (⟨u, A4, c4⟩ : Ti).cells))
    (hgr : (w4.alloc o).grownBy w5 v.ownBlock) (hat : v5.ownBlock = v.ownBlock ∨ v5.ownBlock = some (w4.alloc o).heap.size) :
    RCopyI w (w5.setCell ⟨w.heap.size + 2, 1, none⟩ v5) f xs (k + 1) v5 (l ++ [⟨u, A4, c4⟩]) := by
  have hkl := (List.getElem?_eq_some_iff.1 hu).1
  have hlen := h.len (by omega)
  have hlt := row_lt h.row.row
  have hs4 := hb4.size
  have hs5 := hgr.size
  have hbs : w.heap.size + 2 < wr.heap.size := (Array.getElem?_eq_some_iff.1 h.box).1
  have hK : ∀ g, g < wr.heap.size → v.ownBlock ≠ some g → w5.heap[g]? = wr.heap[g]? := fun g h1 h2 => (hgr.block g (by simp; omega) (fun e => h2 e.symm)).trans ((Below.heap_alloc w4 o g (by omega)).trans (hb4.block g h1))
  have hK4 : ∀ g, g < w4.heap.size → v.ownBlock ≠ some g → w5.heap[g]? = w4.heap[g]? := fun g h1 h2 => (hgr.block g (by simp; omega) (fun e => h2 e.symm)).trans (Below.heap_alloc w4 o g h1)
  have hb2 : v.ownBlock ≠ some (w.heap.size + 2) := fun e => by have := (hlt _ e).1; omega
  have hbox5 := (hK _ hbs hb2).trans h.box
  obtain ⟨_, z1⟩ := set2_two (u := .int .i64 f) (v := v5) hbox5
  have hset : ∀ g, g ≠ w.heap.size + 2 → (w5.setCell ⟨w.heap.size + 2, 1, none⟩ v5).heap[g]? = w5.heap[g]? := fun g e => heap_setCell_other _ _ _ _ e
  have hlt5 := row_lt hown
  have hv5 : ∀ g, g < wr.heap.size → v.ownBlock ≠ some g → v5.ownBlock ≠ some g := fun g h1 h2 e => by
    rcases hat with h3 | h3
    · rw [h3] at e; exact h2 e
    · rw [h3] at e; injection e with e; simp at e; omega
  have hv54 : ∀ g, wr.heap.size ≤ g → g < w4.heap.size → v5.ownBlock ≠ some g := fun g h1 h2 e => by
    rcases hat with h3 | h3
    · rw [h3] at e; have := (hlt _ e).2; omega
    · rw [h3] at e; injection e with e; simp at e; omega
  have hsz5 : w4.heap.size + 1 ≤ w5.heap.size := by simpa using hs5
  refine ⟨?_, ?_, ?_⟩
  · exact heap_setCell_same w5 _ 1 _ _ _ hbox5
  · rw [List.map_append, h.key, List.take_add_one, hu]; rfl
  · refine RowT.push (w := wr) (N := Apart (w.heap.size + 3) v wr) h.row ?_ hi ?_ (fun g hg => ?_) (fun g hg => ⟨hg.1, by have := hg.2.1; simp; omega, hv5 g hg.2.1 hg.2.2⟩)
    · rw [hlen]
      exact row_keep hown fun g e => hset g (by have := (hlt5 g e).1; omega)
    · have hl4l : l4.length ≤ 9223372036854775807 := by have := congrArg List.length hl4; simp at this; omega
      obtain ⟨A', c', e, hA⟩ := hR4.argsN (M := fun g => wr.heap.size ≤ g ∧ g < w4.heap.size) hl4l (fun g e => row_lt hR4.row g e) (fun g hg => ⟨hg.1, hg.2.1⟩)
      rw [hv4] at e
      injection e with e1 _ _
      subst e1
      rw [hl4] at hA
      refine (hA.keep fun g hg => ?_).wide fun g hg => ⟨by omega, by simp; omega, hv54 g hg.1 hg.2⟩
      exact (hset g (by omega)).trans (hK4 g hg.2 fun e => by have := (hlt _ e).2; omega)
    · exact (hset g (by have := hg.1; omega)).trans (hK g hg.2.1 hg.2.2)

set_option maxHeartbeats 2000000 in
theorem refCopy_any (t : Tm) : RCopyAt t := by
  refine Tm.ind (P := RCopyAt) (fun f xs ih => ?_) t
  intro hsz A c w hf hA
  simp only [Tm.fn, Tm.args] at hf hA ⊢
  have hlen : xs.length ≤ 4398046511104 := by have := sizes_len xs; simp only [Tm.size] at hsz; omega
  obtain ⟨i0, hi, hz0, hz1, hz2⟩ := info_parts info_term
  obtain ⟨q0, q1, q2⟩ := heap3 w (.cells #[.int .i64 f, .slice A xs.length c] 27) (.cells #[.int .i64 0, .slice none 0 0] 27) (.cells #[.int .i64 f, .slice none 0 0] 27)
  obtain ⟨W, hW⟩ : ∃ W, (((w.alloc (.cells #[.int .i64 f, .slice A xs.length c] 27)).alloc (.cells #[.int .i64 0, .slice none 0 0] 27)).alloc (.cells #[.int .i64 f, .slice none 0 0] 27)) = W := ⟨_, rfl⟩
  have hB : Below w.heap.size w W := by rw [← hW]; exact (((Below.refl _ _).alloc (Nat.le_refl _) _).alloc (by simp) _).alloc (by simp; omega) _
  rw [hW] at q0 q1 q2
  have hWs : w.heap.size + 2 < W.heap.size := (Array.getElem?_eq_some_iff.1 q2).1
  have hI0 : RCopyI w W f xs 0 (.slice none 0 0) [] := ⟨q2, by simp, RowT.nil_ _ _ _⟩
  have HI0 := Lib.hid hI0
  have HA := Lib.hid hA
  have HW := Lib.hid hW
  clear hW hA q2 hI0
  go_enter Try.func50, Try.ntmps50
  go_wp2
  rw [HW.out]
  go_loopw [4] (fun i wr => ∃ (k : Nat) (v : Value) (l : List Ti), k ≤ xs.length ∧ i = .int .i64 (k : Int) ∧ Below (w.heap.size + 2) W wr ∧ Hid (RCopyI w wr f xs k v l)) (fun i _ => xs.length - (intOf i).toNat)
  case atStart => exact ⟨0, _, [], Nat.zero_le _, rfl, Below.refl _ _, HI0⟩
  case round =>
    obtain ⟨k, v, l, hk, rfl, hBr, H⟩ := hrel
    have hbx := H.out.box
    have hbs : w.heap.size + 2 < wr.heap.size := (Array.getElem?_eq_some_iff.1 hbx).1
    obtain ⟨a0, a1, _, _⟩ := cells_two ((hBr.block _ (by omega)).trans q0)
    obtain ⟨c0, c1, g0, g1⟩ := cells_two hbx
    have hBw : Below w.heap.size w wr := hB.trans (hBr.mono (by omega))
    by_cases hlt : k < xs.length
    · obtain ⟨u, hu⟩ : ∃ u, xs[k]? = some u := ⟨_, List.getElem?_eq_getElem hlt⟩
      obtain ⟨bb, off, A1, c1', rfl, ha⟩ := HA.out.get hu
      have hbw := ha.hb
      have e0 := cell_on hBw hbw ha.c0
      have e1 := cell_on hBw hbw ha.c1
      have hbb : bb < wr.heap.size := by omega
      have hs1 : Hid (Args wr.drew wr.drew.heap.size A1 u.args) := (ha.sub.on hBw).drewN 1
      have hi64 := ha.hi
      have hmem := List.mem_of_getElem? hu
      have hszt : u.size ≤ 4398046511104 := by have := size_mem hmem; simp only [Tm.size] at hsz; omega
      have hul : u.args.length ≤ 9223372036854775807 := ha.sub.len
      have Hu := Lib.hid hu
      have hrow := H.out.row.row
      have hll := H.out.len hk
      rw [hll] at hrow
      obtain ⟨Av, cv, hv⟩ := row_own hrow
      subst hv
      have hrl := row_lt hrow
      have Hrow := Lib.hid hrow
      have hSS : ∀ w', Below wr.heap.size wr w' → w'.cell? ⟨w.heap.size + 2, 1, none⟩ = some (.slice Av k cv) ∧ w'.cell? ⟨w.heap.size, 1, none⟩ = some (.slice (some ⟨bb, off, none⟩) xs.length c) ∧ w'.cell? ⟨bb, off + k * 2, none⟩ = some (.int .i64 u.fn) ∧ w'.cell? ⟨bb, off + k * 2 + 1, none⟩ = some (.slice A1 u.args.length c1') := fun w' h => ⟨cell_on h hbs c1, cell_on h (by omega) a1, cell_on h hbb e0, cell_on h hbb e1⟩
      have hne : ∀ g, g < w.heap.size + 3 → (Value.slice Av k cv).ownBlock ≠ some g := fun g h e => by have := (hrl g e).1; omega
      have hBX : ∀ w' : World, (∀ g, g < wr.heap.size → (Value.slice Av k cv).ownBlock ≠ some g → w'.heap[g]? = wr.heap[g]?) → w'.cell? ⟨w.heap.size + 2, 1, none⟩ = some (.slice Av k cv) ∧ w'.frozen? ⟨w.heap.size + 2, 1, none⟩ = false := fun w' h => ⟨(cell_of_heap (h _ hbs (hne _ (by omega)))).trans c1, (frozen_of_heap (h _ hbs (hne _ (by omega)))).trans g1⟩
      clear hu ha hrow
      go_wp2
      go_region_law
        (first
          | (go_simp
             go_at_call 50
             refine (ih u hmem hszt A1 c1' wr.drew hi64 hs1.out).mono ?_
             rintro e w4 ⟨v4, l4, rfl, hl4, hR4, hb4⟩
             have hB4 : Below wr.heap.size wr w4 := ⟨hb4.os, hb4.tape, hb4.output, hb4.size, hb4.block⟩
             obtain ⟨A4, c4, hv4⟩ := row_own hR4.row
             have hl4l : l4.length = u.args.length := by rw [← hl4, List.length_map]
             rw [hl4l] at hv4
             have HR4 := Lib.hid hR4
             obtain ⟨k4, _, _, _⟩ := hSS _ hB4
             obtain ⟨k4', _, _, _⟩ := hSS _ (hB4.alloc hB4.size (.cells #[.int .i64 u.fn, .slice A4 u.args.length c4] 27))
             subst hv4
             clear hR4
             dsimp only)
          | (refine step_append_at rfl (.tmp 16) (.tmp 23) 25 rfl (w.heap.size + 3) 27 i0 (.agg #[.int .i64 0, .slice none 0 0]) 2 32 Try.underlying25 hi hz0 hz1 hz2 rfl (by decide) (.slice Av k cv) k _ (by simp [Act.eval]) (row_keep Hrow.out fun g e => (Below.heap_alloc w4 _ g (Nat.lt_of_lt_of_le (hrl g e).2 hB4.size)).trans (hB4.block g (hrl g e).2)) ⟨w4.heap.size, 0, none⟩ 1 1 [.int .i64 u.fn, .slice A4 u.args.length c4] (by simp [Act.eval]) rfl (cells_new_two _ _ _ _) (by simp [Value.oneCell']) (by unfold maxLen; omega) (by omega) (by have := hB4.size; simp; omega) ?_
             intro v5 w5 hown5 hgr5 hat5
             have hK5 : ∀ g, g < wr.heap.size → (Value.slice Av k cv).ownBlock ≠ some g → w5.heap[g]? = wr.heap[g]? := fun g h1 h2 => (hgr5.block g (by have := hB4.size; simp; omega) (fun e => h2 e.symm)).trans ((Below.heap_alloc w4 _ g (by have := hB4.size; omega)).trans (hB4.block g h1))
             obtain ⟨k1, kf⟩ := hBX w5 hK5
             obtain ⟨g5, cap5, hv5⟩ := ownsRow_succ hown5
             have Hown5 := Lib.hid hown5
             have Hgr5 := Lib.hid hgr5
             have Hat5 := Lib.hid hat5
             subst hv5
             clear hown5 hgr5 hat5 hK5)
          | fail)
      all_goals
        have hst := H.out.next Hu.out hi64 hl4 hul rfl HR4.out hB4 Hown5.out Hgr5.out Hat5.out
        have hBe : Below (w.heap.size + 2) W w5 := ((hBr.trans (hB4.mono (by omega))).alloc (by have := hB4.size; omega) _).grown Hgr5.out (by have := hB4.size; simp; omega) (fun g e => by have := (hrl g e).1; omega)
        go_wp2
        go_roundw
        case rel => exact ⟨k + 1, _, _, by omega, by go_num, hBe.setCell (Nat.le_refl _) _, hst⟩
        case measure => simp [intOf]; omega
    · obtain rfl : k = xs.length := by omega
      have hrow := H.out.row.row
      have hll := H.out.len hk
      rw [hll] at hrow
      obtain ⟨Av, cv, hv⟩ := row_own hrow
      subst hv
      have hkey := Lib.hid H.out.key
      have HR := Lib.hid H.out.row
      obtain ⟨b0, b1, bg0, bg1⟩ := cells_two ((hBr.block _ (by omega)).trans q1)
      clear hrow
      go_wp2
      have z1 : (wr.setCell ⟨w.heap.size + 1, 0, none⟩ (.int .i64 f)).heap[w.heap.size + 1]? = some (.cells #[.int .i64 f, .slice none 0 0] 27) := heap_setCell_same wr _ 0 _ _ _ ((hBr.block _ (by omega)).trans q1)
      have z2 : ((wr.setCell ⟨w.heap.size + 1, 0, none⟩ (.int .i64 f)).setCell ⟨w.heap.size + 1, 1, none⟩ (.slice Av xs.length cv)).heap[w.heap.size + 1]? = some (.cells #[.int .i64 f, .slice Av xs.length cv] 27) := heap_setCell_same _ _ 1 _ _ _ z1
      have p0 := (cells_two z1).1
      have p1 := (cells_two z2).2.1
      have hoth : ∀ g, g ≠ w.heap.size + 1 → ((wr.setCell ⟨w.heap.size + 1, 0, none⟩ (.int .i64 f)).setCell ⟨w.heap.size + 1, 1, none⟩ (.slice Av xs.length cv)).heap[g]? = wr.heap[g]? := fun g e => (heap_setCell_other _ _ _ _ e).trans (heap_setCell_other _ _ _ _ e)
      refine bodyPost_ret (v := .agg #[.int .i64 f, .slice Av xs.length cv]) (by simp [results, Try.results50, go_sem, p0, p1]) rfl ⟨_, l, rfl, by rw [hkey.out, List.take_length]; rfl, ?_, ?_⟩
      · have hk3 := (HR.out.keep (fun g e => hoth g (by have := (row_lt HR.out.row g e).1; omega)) (fun g e => hoth g (by have := e.1; omega))).base (base' := w.heap.size) (by omega)
        exact hk3.wide fun g e => show Apart _ _ _ g from ⟨by have := e.1; omega, by have := e.2.1; simpa using this, e.2.2⟩
      · exact (hBw.setCell (by show _ ≤ w.heap.size + 1; omega) _).setCell (by show _ ≤ w.heap.size + 1; omega) _

end Go.Proofs.Ytbchignbndgigaa

