import Derived.Test.YtgjmodclgdkodaaP40Z2
import Derived.Test.YtgjmodclgdkodaaP40Z1
import Derived.Test.YtgjmodclgdkodaaP40Z3
import Derived.Deep.LoopGhost
import Derived.Deep.DeepCutAuto
import Derived.RangeFuncBox
import Derived.Laws.EntriesVeiled
import Derived.Lib.SlicesCompact
import Derived.Maps.OwnSet
/- The document's own answers: low, Small. -/

namespace Go.Proofs.Ytgjmodclgdkodaa

open Go.RowKit
set_option maxRecDepth 100000

mutual
def lowT : Tm → Bool
  | .node f xs => if f < 0 then decide (-48 ≤ f ∧ xs.length = 0) else lowL xs
def lowL : List Tm → Bool
  | [] => true
  | t :: ts => lowT t && lowL ts
end

theorem low_drop {xs : List Tm} {k : Nat} {u : Tm} (h : xs[k]? = some u) : lowL (xs.drop k) = (lowT u && lowL (xs.drop (k + 1))) := by
  have hlt := (List.getElem?_eq_some_iff.1 h).1
  rw [List.drop_eq_getElem_cons hlt]
  rw [List.getElem?_eq_getElem hlt] at h
  injection h with h
  rw [h]
  simp only [lowL]

def RLow (t : Tm) : Prop := ∀ (A : Option Addr) (c : Nat) (w : World), I64 t.fn → Args w w.heap.size A t.args →
  Calls Try.prog 45 #[.agg #[.int .i64 t.fn, .slice A t.args.length c], .int .i64 48] w fun e w' => e = .returned (.bool (lowT t)) ∧ Below w.heap.size w w'

set_option maxHeartbeats 1000000 in
theorem refLow_any (t : Tm) : RLow t := by
  refine Tm.ind (P := RLow) (fun f xs ih => ?_) t
  intro A c w hf hA
  simp only [Tm.fn, Tm.args] at hf hA ⊢
  have hlen := hA.len
  obtain ⟨W, hW⟩ : ∃ W, w.alloc (.cells #[.int .i64 f, .slice A xs.length c] 39) = W := ⟨_, rfl⟩
  obtain ⟨hB, hlt, hS⟩ := box_term hW
  have HW := Lib.hid hW
  obtain ⟨x0, x1⟩ := hS W (Below.refl _ _)
  clear hW
  by_cases hf0 : f < 0
  · have hl := Lib.hid (show lowT (.node f xs) = decide (-48 ≤ f ∧ xs.length = 0) by simp only [lowT, if_pos hf0])
    by_cases h48 : -48 ≤ f
    · go_enter Try.func45, Try.ntmps45
      go_upto_region 1 with fail
      rw [HW.out]
      go_wp2
      go_ret
      exact ⟨ret_bool (by rw [hl.out]; simp only [h48, true_and]; cases xs <;> simp; omega), hB⟩
    · go_enter Try.func45, Try.ntmps45
      go_upto_region 1 with fail
      rw [HW.out]
      go_wp2
      go_ret
      exact ⟨ret_bool (by rw [hl.out]; exact (decide_eq_false fun h => by have := h.1; omega).symm), hB⟩
  · have hl := Lib.hid (show lowT (.node f xs) = lowL xs by simp only [lowT, if_neg hf0])
    go_enter Try.func45, Try.ntmps45
    go_upto_region 1 with fail
    rw [HW.out]
    go_wp2
    clear x0 x1
    go_loopw [5] (fun i wr => ∃ k : Nat, k ≤ xs.length ∧ i = .int .i64 (k : Int) ∧ Below W.heap.size W wr ∧ Hid (lowL xs = lowL (xs.drop k))) (fun i _ => xs.length - (intOf i).toNat)
    case atStart => exact ⟨0, Nat.zero_le _, rfl, Below.refl _ _, rfl⟩
    case round =>
      obtain ⟨k, hk, rfl, hBr, H⟩ := hrel
      obtain ⟨_, x1⟩ := hS _ hBr
      by_cases hkl : k < xs.length
      · obtain ⟨u, hu⟩ : ∃ u, xs[k]? = some u := ⟨_, List.getElem?_eq_getElem hkl⟩
        obtain ⟨bb, off, A1, c1, rfl, ha⟩ := (hA.on (hB.trans (hBr.mono hB.size))).get hu
        have e0 := ha.c0
        have e1 := ha.c1
        have hmem := List.mem_of_getElem? hu
        have hd := low_drop hu
        have hsub := Lib.hid ha.sub
        have hu64 := ha.hi
        clear hu ha
        cases hb : lowT u with
        | true =>
          have H2 : Hid (lowL xs = lowL (xs.drop (k + 1))) := by rw [show lowL xs = _ from H.out, hd, hb, Bool.true_and]; rfl
          clear H hd
          go_wp2_with (first
            | (go_at_call 45
               go_must (
               refine (ih u hmem A1 c1 wr hu64 hsub.out).mono ?_
               rintro e w2 ⟨rfl, hb2⟩
               rw [hb]))
            | fail)
          exact ⟨⟨k + 1, by omega, by go_num, hBr.trans (hb2.mono hBr.size), H2⟩, by simp [intOf]; omega⟩
        | false =>
          have H2 : Hid (lowT (.node f xs) = false) := by rw [hl.out, show lowL xs = _ from H.out, hd, hb, Bool.false_and]; rfl
          clear H hd
          go_wp2_with (first
            | (go_at_call 45
               go_must (
               refine (ih u hmem A1 c1 wr hu64 hsub.out).mono ?_
               rintro e w2 ⟨rfl, hb2⟩
               rw [hb]))
            | fail)
          go_ret
          exact ⟨ret_bool H2.out.symm, (hB.trans (hBr.mono hB.size)).trans (hb2.mono (by have := hBr.size; omega))⟩
      · obtain rfl : k = xs.length := by omega
        have H2 : lowT (.node f xs) = true := by rw [hl.out, show lowL xs = _ from H.out]; simp [lowL]
        have H2 := Lib.hid H2
        go_wp2
        go_ret
        exact ⟨ret_bool H2.out.symm, hB.trans (hBr.mono hB.size)⟩

def smallT (t : Tm) : Bool := decide (t.size ≤ 300) && decide (t.depth ≤ 30) && lowT t

set_option maxHeartbeats 1000000 in
theorem refSmall_any (t : Tm) (A : Option Addr) (c : Nat) (w : World) (hsz : t.size ≤ 4611686018427387904) (hf : I64 t.fn) (hA : Args w w.heap.size A t.args) :
    Calls Try.prog 26 #[.agg #[.int .i64 t.fn, .slice A t.args.length c], .int .i64 48] w fun e w' => e = .returned (.bool (smallT t)) ∧ Below w.heap.size w w' := by
  have hdz := depth_le_size t
  obtain ⟨W, hW⟩ : ∃ W, w.alloc (.cells #[.int .i64 t.fn, .slice A t.args.length c] 39) = W := ⟨_, rfl⟩
  obtain ⟨hB, hlt, hS⟩ := box_term hW
  have HW := Lib.hid hW
  have HA := Lib.hid (hA.on hB)
  clear hW hA
  by_cases h1 : t.size ≤ 300
  · by_cases h2 : t.depth ≤ 30
    · have hs := Lib.hid (show smallT t = lowT t by simp [smallT, h1, h2])
      go_enter Try.func26, Try.ntmps26
      go_wp2_with (first
        | (go_at_call 12; go_must (rw [HW.out]; refine (refSize_any t hsz A c W hf HA.out).mono ?_; rintro e w1 ⟨rfl, hb1⟩; obtain ⟨x0, x1⟩ := hS _ hb1))
        | (go_at_call 44; go_must (refine (refDepth_any t (by omega) A c w1 hf (HA.out.on hb1)).mono ?_; rintro e w2 ⟨rfl, hb2⟩; have hB2 := bl_step hb1 hb2; obtain ⟨x2, x3⟩ := hS _ hB2))
        | (go_at_call 45; go_must (refine (refLow_any t A c w2 hf (HA.out.on hB2)).mono ?_; rintro e w3 ⟨rfl, hb3⟩; have hB3 := bl_step hB2 hb3))
        | fail)
      go_ret
      exact ⟨ret_bool hs.out.symm, hB.trans (hB3.mono hB.size)⟩
    · have hs := Lib.hid (show smallT t = false by simp [smallT, h2])
      go_enter Try.func26, Try.ntmps26
      go_wp2_with (first
        | (go_at_call 12; go_must (rw [HW.out]; refine (refSize_any t hsz A c W hf HA.out).mono ?_; rintro e w1 ⟨rfl, hb1⟩; obtain ⟨x0, x1⟩ := hS _ hb1))
        | (go_at_call 44; go_must (refine (refDepth_any t (by omega) A c w1 hf (HA.out.on hb1)).mono ?_; rintro e w2 ⟨rfl, hb2⟩; have hB2 := bl_step hb1 hb2))
        | fail)
      go_ret
      exact ⟨ret_bool hs.out.symm, hB.trans (hB2.mono hB.size)⟩
  · have hs := Lib.hid (show smallT t = false by simp [smallT, h1])
    go_enter Try.func26, Try.ntmps26
    go_wp2_with (first
      | (go_at_call 12; go_must (rw [HW.out]; refine (refSize_any t hsz A c W hf HA.out).mono ?_; rintro e w1 ⟨rfl, hb1⟩))
      | fail)
    go_ret
    exact ⟨ret_bool hs.out.symm, hB.trans (hb1.mono hB.size)⟩

end Go.Proofs.Ytgjmodclgdkodaa

/- The document's own answers: over, Check (of a term). -/

namespace Go.Proofs.Ytgjmodclgdkodaa

open Go.RowKit
set_option maxRecDepth 100000

mutual
def overT (l : List Sm) : Tm → Bool → Bool
  | .node f xs, top => if f < 0 then true else match l[f.toNat]? with
    | none => false
    | some s => if s.arity ≠ xs.length ∨ (s.pred = true ∧ top = false) then false else overL l xs
def overL (l : List Sm) : List Tm → Bool
  | [] => true
  | t :: ts => overT l t false && overL l ts
end

theorem over_drop {l : List Sm} {xs : List Tm} {k : Nat} {u : Tm} (h : xs[k]? = some u) : overL l (xs.drop k) = (overT l u false && overL l (xs.drop (k + 1))) := by
  have hlt := (List.getElem?_eq_some_iff.1 h).1
  rw [List.drop_eq_getElem_cons hlt]
  rw [List.getElem?_eq_getElem hlt] at h
  injection h with h
  rw [h]
  simp only [overL]

section

variable {l : List Sm} {f : Int} {xs : List Tm} {top : Bool} {s : Sm}

theorem over_var (hf : f < 0) : overT l (.node f xs) top = true := by simp only [overT, if_pos hf]

theorem over_out (hf : ¬ f < 0) (h : (l.length : Int) ≤ f) : overT l (.node f xs) top = false := by
  simp only [overT, if_neg hf, List.getElem?_eq_none (show l.length ≤ f.toNat by omega)]

theorem over_bad (hf : ¬ f < 0) (hs : l[f.toNat]? = some s) (hb : s.arity ≠ xs.length ∨ (s.pred = true ∧ top = false)) : overT l (.node f xs) top = false := by
  simp only [overT, if_neg hf, hs, if_pos hb]

theorem over_in (hf : ¬ f < 0) (hs : l[f.toNat]? = some s) (hb : ¬ (s.arity ≠ xs.length ∨ (s.pred = true ∧ top = false))) : overT l (.node f xs) top = overL l xs := by
  simp only [overT, if_neg hf, hs, if_neg hb]

end

def ROver (l : List Sm) (t : Tm) : Prop := ∀ (As A : Option Addr) (cs c : Nat) (top : Bool) (w : World), I64 t.fn → Syms w w.heap.size As l.length l → Args w w.heap.size A t.args →
  Calls Try.prog 27 #[.agg #[.slice As l.length cs], .agg #[.int .i64 t.fn, .slice A t.args.length c], .bool top] w fun e w' => e = .returned (.bool (overT l t top)) ∧ Below w.heap.size w w'

set_option maxHeartbeats 2000000 in
theorem refOver_any (l : List Sm) (hl : l.length ≤ 9223372036854775807) (t : Tm) : ROver l t := by
  refine Tm.ind (P := ROver l) (fun f xs ih => ?_) t
  intro As A cs c top w hf hS hA
  simp only [Tm.fn, Tm.args] at hf hA ⊢
  have hlen := hA.len
  obtain ⟨p0, p1⟩ := heap2 w (.cells #[.slice As l.length cs] 24) (.cells #[.int .i64 f, .slice A xs.length c] 39)
  obtain ⟨W, hW⟩ : ∃ W, ((w.alloc (.cells #[.slice As l.length cs] 24)).alloc (.cells #[.int .i64 f, .slice A xs.length c] 39)) = W := ⟨_, rfl⟩
  have hB : Below w.heap.size w W := by rw [← hW]; exact ((Below.refl _ _).alloc (Nat.le_refl _) _).alloc (by simp) _
  rw [hW] at p0 p1
  have hWs : w.heap.size + 1 < W.heap.size := (Array.getElem?_eq_some_iff.1 p1).1
  have HW := Lib.hid hW
  have hSS : ∀ w', Below W.heap.size W w' → w'.cell? ⟨w.heap.size, 0, none⟩ = some (.slice As l.length cs) ∧ w'.cell? ⟨w.heap.size + 1, 1, none⟩ = some (.slice A xs.length c) := fun w' h =>
    ⟨(cells_one ((h.block _ (by omega)).trans p0)).1, (cells_two ((h.block _ hWs).trans p1)).2.1⟩
  obtain ⟨a0, _⟩ := cells_one p0
  obtain ⟨b0, b1, _, _⟩ := cells_two p1
  have hSW := hS.on hB
  have HS := Lib.hid hS
  clear hW p0 p1
  by_cases hf0 : f < 0
  · have ho := Lib.hid (over_var (l := l) (xs := xs) (top := top) hf0)
    go_enter Try.func27, Try.ntmps27
    go_upto_region 1 with fail
    rw [HW.out]
    go_wp2
    go_ret
    exact ⟨ret_bool ho.out.symm, hB⟩
  · by_cases hout : (l.length : Int) ≤ f
    · have ho := Lib.hid (over_out (xs := xs) (top := top) hf0 hout)
      go_enter Try.func27, Try.ntmps27
      go_upto_region 1 with fail
      rw [HW.out]
      go_wp2
      go_ret
      exact ⟨ret_bool ho.out.symm, hB⟩
    · obtain ⟨k0, rfl⟩ : ∃ k0 : Nat, f = (k0 : Int) := ⟨f.toNat, by omega⟩
      obtain ⟨s, hs⟩ : ∃ s, l[k0]? = some s := ⟨_, List.getElem?_eq_getElem (by omega)⟩
      obtain ⟨sb, so, rfl, hsb, hsc⟩ := hSW.ad (by omega)
      obtain ⟨y0, y1, y2⟩ := hsc _ _ hs
      have hs' : l[((k0 : Int)).toNat]? = some s := by simpa using hs
      have hlt' : (k0 : Int) < l.length := by omega
      have hge' : (k0 : Int) ≥ 0 := by omega
      have hB5 : Below W.heap.size W (W.alloc (.cells #[.string s.name, .int .i64 s.arity, .bool s.pred] 51)) := (Below.refl _ _).alloc (Nat.le_refl _) _
      by_cases hb : s.arity ≠ xs.length ∨ (s.pred = true ∧ top = false)
      · have ho := Lib.hid (over_bad (xs := xs) hf0 hs' hb)
        by_cases hb1 : s.arity = xs.length
        · obtain ⟨hb3, rfl⟩ := hb.resolve_left (fun h => h hb1)
          clear hs hs' hsc
          go_enter Try.func27, Try.ntmps27
          go_upto_region 1 with fail
          rw [HW.out]
          go_wp2
          go_ret
          exact ⟨ret_bool ho.out.symm, hB.trans (hB5.mono hB.size) |>.mono (Nat.le_refl _) |> fun h => by simpa [hb1, hb3] using h⟩
        · clear hs hs' hsc
          go_enter Try.func27, Try.ntmps27
          go_upto_region 1 with fail
          rw [HW.out]
          go_wp2
          go_ret
          exact ⟨ret_bool ho.out.symm, hB.trans (hB5.mono hB.size)⟩
      · have hol := Lib.hid (over_in (xs := xs) hf0 hs' hb)
        have hb1 : s.arity = xs.length := Classical.not_not.1 (fun h => hb (.inl h))
        have hb2 : s.pred = true → top = true := fun h => by
          cases htop : top with
          | true => rfl
          | false => exact absurd (.inr ⟨h, htop⟩) hb
        clear hs hs' hsc hb
        go_enter Try.func27, Try.ntmps27
        go_upto_region 1 with fail
        rw [HW.out]
        go_upto_region 6 with fail
        go_cut [37] (fun s37 wx => s37 = .bool false ∧ wx = W.alloc (.cells #[.string s.name, .int .i64 s.arity, .bool s.pred] 51))
        case first =>
          by_cases hp : s.pred = true
          · have htop := hb2 hp
            subst htop
            go_wp2
            go_meet
            case rel => exact ⟨rfl, by rw [hb1, hp]⟩
          · have hp' : s.pred = false := by simpa using hp
            go_wp2
            go_meet
            case rel => exact ⟨rfl, by rw [hb1, hp']⟩
        case rest =>
          obtain ⟨rfl, rfl⟩ := hcut
          clear a0 b0 b1 y0 y1 y2
          go_wp2
          go_loopw [8] (fun i wr => ∃ k : Nat, k ≤ xs.length ∧ i = .int .i64 (k : Int) ∧ Below W.heap.size W wr ∧ Hid (overL l xs = overL l (xs.drop k))) (fun i _ => xs.length - (intOf i).toNat)
          case atStart => exact ⟨0, Nat.zero_le _, rfl, by rw [← hb1]; exact hB5, rfl⟩
          case round =>
            obtain ⟨k, hk, rfl, hBr, H⟩ := hrel
            obtain ⟨x0, x1⟩ := hSS _ hBr
            have hBw := hB.trans (hBr.mono hB.size)
            have hBrs := hBr.size
            by_cases hkl : k < xs.length
            · obtain ⟨u, hu⟩ : ∃ u, xs[k]? = some u := ⟨_, List.getElem?_eq_getElem hkl⟩
              obtain ⟨bb, off, A1, c1, rfl, ha⟩ := (hA.on hBw).get hu
              have e0 := ha.c0
              have e1 := ha.c1
              have hbb := ha.hb
              have hmem := List.mem_of_getElem? hu
              have hd := over_drop (l := l) hu
              have hsub : Hid (Args wr.drew wr.drew.heap.size A1 u.args) := ha.sub.drewN 1
              have hsy : Hid (Syms wr.drew wr.drew.heap.size (some ⟨sb, so, none⟩) l.length l) := (HS.out.on hBw).drewN 1
              have hu64 := ha.hi
              have hkeep : ∀ w2, Below wr.drew.heap.size wr.drew w2 → w2.cell? ⟨w.heap.size, 0, none⟩ = some (.slice (some ⟨sb, so, none⟩) l.length cs) ∧ w2.cell? ⟨w.heap.size + 1, 1, none⟩ = some (.slice (some ⟨bb, off, none⟩) xs.length c) ∧ w2.cell? ⟨bb, off + k * 2, none⟩ = some (.int .i64 u.fn) ∧ w2.cell? ⟨bb, off + k * 2 + 1, none⟩ = some (.slice A1 u.args.length c1) := fun w2 h => by
                have h' : Below wr.heap.size wr w2 := ⟨h.os, h.tape, h.output, h.size, h.block⟩
                exact ⟨cell_on h' (by omega) x0, cell_on h' (by omega) x1, cell_on h' hbb e0, cell_on h' hbb e1⟩
              clear hu ha
              cases hb : overT l u false with
              | true =>
                have H2 : Hid (overL l xs = overL l (xs.drop (k + 1))) := by rw [show overL l xs = _ from H.out, hd, hb, Bool.true_and]; rfl
                clear H hd
                go_wp2
                go_region_held3 (fun w' => w'.cell? ⟨w.heap.size, 0, none⟩ = some (.slice (some ⟨sb, so, none⟩) l.length cs) ∧ w'.cell? ⟨w.heap.size + 1, 1, none⟩ = some (.slice (some ⟨bb, off, none⟩) xs.length c) ∧ w'.cell? ⟨bb, off + k * 2, none⟩ = some (.int .i64 u.fn) ∧ w'.cell? ⟨bb, off + k * 2 + 1, none⟩ = some (.slice A1 u.args.length c1))
                  (first | exact ⟨x0, x1, e0, e1⟩ | exact hkeep _ hb2 | fail)
                  (first | (go_at_call 27; refine (ih u hmem (some ⟨sb, so, none⟩) A1 cs c1 false wr.drew hu64 hsy.out hsub.out).mono ?_; rintro e w2 ⟨rfl, hb2⟩; rw [hb]) | fail)
                go_wp2
                exact ⟨⟨k + 1, by omega, by go_num, hBr.trans (Below.mono (B := wr.heap.size) ⟨hb2.os, hb2.tape, hb2.output, hb2.size, hb2.block⟩ hBrs), H2⟩, by simp [intOf]; omega⟩
              | false =>
                have H2 : Hid (overT l (.node (k0 : Int) xs) top = false) := by rw [hol.out, show overL l xs = _ from H.out, hd, hb, Bool.false_and]; rfl
                clear H hd
                go_wp2
                go_region_held3 (fun w' => w'.cell? ⟨w.heap.size, 0, none⟩ = some (.slice (some ⟨sb, so, none⟩) l.length cs) ∧ w'.cell? ⟨w.heap.size + 1, 1, none⟩ = some (.slice (some ⟨bb, off, none⟩) xs.length c) ∧ w'.cell? ⟨bb, off + k * 2, none⟩ = some (.int .i64 u.fn) ∧ w'.cell? ⟨bb, off + k * 2 + 1, none⟩ = some (.slice A1 u.args.length c1))
                  (first | exact ⟨x0, x1, e0, e1⟩ | exact hkeep _ hb2 | fail)
                  (first | (go_at_call 27; refine (ih u hmem (some ⟨sb, so, none⟩) A1 cs c1 false wr.drew hu64 hsy.out hsub.out).mono ?_; rintro e w2 ⟨rfl, hb2⟩; rw [hb]) | fail)
                go_wp2
                go_ret
                exact ⟨ret_bool H2.out.symm, hBw.trans (Below.mono (B := wr.heap.size) ⟨hb2.os, hb2.tape, hb2.output, hb2.size, hb2.block⟩ (by omega))⟩
            · obtain rfl : k = xs.length := by omega
              have H2 : overT l (.node (k0 : Int) xs) top = true := by rw [hol.out, show overL l xs = _ from H.out]; simp [overL]
              have H2 := Lib.hid H2
              go_wp2
              go_ret
              exact ⟨ret_bool H2.out.symm, hBw⟩

/-- May the term be over the signature? -/
def chkP (l : List Sm) (t : Tm) : Int := if checkI l = 0 then (if smallT t = true then (if overT l t true = true then 0 else 2) else 2) else 2

set_option maxHeartbeats 2000000 in
theorem ref2ChkP_any (l : List Sm) (t : Tm) (As A : Option Addr) (n cs c : Nat) (w : World) (hsz : t.size ≤ 4611686018427387904) (hS : Syms w w.heap.size As n l) (hn : n * 32 ≤ 140737488351232) (hf : I64 t.fn) (hA : Args w w.heap.size A t.args) :
    Calls Try.prog 11 #[.agg #[.slice As n cs], .agg #[.int .i64 t.fn, .slice A t.args.length c]] w fun e w' => e = .returned (.int .i64 (chkP l t)) ∧ Below w.heap.size w w' := by
  obtain rfl := hS.len
  have hl64 : l.length ≤ 9223372036854775807 := by omega
  obtain ⟨p0, p1⟩ := heap2 w (.cells #[.slice As l.length cs] 24) (.cells #[.int .i64 t.fn, .slice A t.args.length c] 39)
  obtain ⟨W, hW⟩ : ∃ W, ((w.alloc (.cells #[.slice As l.length cs] 24)).alloc (.cells #[.int .i64 t.fn, .slice A t.args.length c] 39)) = W := ⟨_, rfl⟩
  have hB : Below w.heap.size w W := by rw [← hW]; exact ((Below.refl _ _).alloc (Nat.le_refl _) _).alloc (by simp) _
  rw [hW] at p0 p1
  have hWs : w.heap.size + 1 < W.heap.size := (Array.getElem?_eq_some_iff.1 p1).1
  have HW := Lib.hid hW
  have hS' := Lib.hid (hS.on hB)
  have hA' := Lib.hid (hA.on hB)
  have hSS : ∀ w', Below W.heap.size W w' → w'.cell? ⟨w.heap.size, 0, none⟩ = some (.slice As l.length cs) ∧ w'.cell? ⟨w.heap.size + 1, 0, none⟩ = some (.int .i64 t.fn) ∧ w'.cell? ⟨w.heap.size + 1, 1, none⟩ = some (.slice A t.args.length c) := fun w' h =>
    ⟨(cells_one ((h.block _ (by omega)).trans p0)).1, (cells_two ((h.block _ hWs).trans p1)).1, (cells_two ((h.block _ hWs).trans p1)).2.1⟩
  have hc : chkP l t = if checkI l = 0 then (if smallT t = true then (if overT l t true = true then 0 else 2) else 2) else 2 := rfl
  clear hW hS hA
  by_cases h0 : checkI l = 0
  · rw [if_pos h0] at hc
    cases hs : smallT t with
    | true =>
      rw [if_pos hs] at hc
      cases ho : overT l t true with
      | true =>
        rw [if_pos ho] at hc
        have Hc := Lib.hid hc
        clear hc
        go_enter Try.func11, Try.ntmps11
        go_wp2_with (first
          | (go_at_call 25; go_must (rw [HW.out]; refine (refCheck_any As l.length cs l W hS'.out hn).mono ?_; rintro e w1 ⟨rfl, hb1⟩; rw [h0]; obtain ⟨x0, x1, x2⟩ := hSS _ hb1))
          | (go_at_call 26; go_must (refine (refSmall_any t A c w1 hsz hf (hA'.out.on hb1)).mono ?_; rintro e w2 ⟨rfl, hb2⟩; rw [hs]; have hB2 := bl_step hb1 hb2; obtain ⟨y0, y1, y2⟩ := hSS _ hB2))
          | (go_at_call 27; go_must (refine (refOver_any l hl64 t As A cs c true w2 hf (hS'.out.on hB2) (hA'.out.on hB2)).mono ?_; rintro e w3 ⟨rfl, hb3⟩; rw [ho]; have hB3 := bl_step hB2 hb3))
          | fail)
        go_ret
        exact ⟨ret_int Hc.out.symm, hB.trans (hB3.mono hB.size)⟩
      | false =>
        rw [if_neg (by rw [ho]; decide)] at hc
        have Hc := Lib.hid hc
        clear hc
        go_enter Try.func11, Try.ntmps11
        go_wp2_with (first
          | (go_at_call 25; go_must (rw [HW.out]; refine (refCheck_any As l.length cs l W hS'.out hn).mono ?_; rintro e w1 ⟨rfl, hb1⟩; rw [h0]; obtain ⟨x0, x1, x2⟩ := hSS _ hb1))
          | (go_at_call 26; go_must (refine (refSmall_any t A c w1 hsz hf (hA'.out.on hb1)).mono ?_; rintro e w2 ⟨rfl, hb2⟩; rw [hs]; have hB2 := bl_step hb1 hb2; obtain ⟨y0, y1, y2⟩ := hSS _ hB2))
          | (go_at_call 27; go_must (refine (refOver_any l hl64 t As A cs c true w2 hf (hS'.out.on hB2) (hA'.out.on hB2)).mono ?_; rintro e w3 ⟨rfl, hb3⟩; rw [ho]; have hB3 := bl_step hB2 hb3))
          | fail)
        go_ret
        exact ⟨ret_int Hc.out.symm, hB.trans (hB3.mono hB.size)⟩
    | false =>
      rw [if_neg (by rw [hs]; decide)] at hc
      have Hc := Lib.hid hc
      clear hc
      go_enter Try.func11, Try.ntmps11
      go_wp2_with (first
        | (go_at_call 25; go_must (rw [HW.out]; refine (refCheck_any As l.length cs l W hS'.out hn).mono ?_; rintro e w1 ⟨rfl, hb1⟩; rw [h0]; obtain ⟨x0, x1, x2⟩ := hSS _ hb1))
        | (go_at_call 26; go_must (refine (refSmall_any t A c w1 hsz hf (hA'.out.on hb1)).mono ?_; rintro e w2 ⟨rfl, hb2⟩; rw [hs]; have hB2 := bl_step hb1 hb2; obtain ⟨y0, y1, y2⟩ := hSS _ hB2))
        | fail)
      go_ret
      exact ⟨ret_int Hc.out.symm, hB.trans (hB2.mono hB.size)⟩
  · rw [if_neg h0] at hc
    have Hc := Lib.hid hc
    clear hc
    go_enter Try.func11, Try.ntmps11
    go_wp2_with (first
      | (go_at_call 25; go_must (rw [HW.out]; refine (refCheck_any As l.length cs l W hS'.out hn).mono ?_; rintro e w1 ⟨rfl, hb1⟩))
      | fail)
    go_ret
    exact ⟨ret_int Hc.out.symm, hB.trans (hb1.mono hB.size)⟩

end Go.Proofs.Ytgjmodclgdkodaa

/- how often a variable stands in a term, plain -/

namespace Go.Proofs.Ytgjmodclgdkodaa

open Go.RowKit
set_option maxRecDepth 100000
set_option maxRecDepth 100000

mutual
/-- How often v stands in a term. -/
def ofT (v : Int) : Tm → Nat
  | .node f xs => (if f = v then 1 else 0) + ofL v xs
def ofL (v : Int) : List Tm → Nat
  | [] => 0
  | t :: ts => ofT v t + ofL v ts
end

theorem ofL_append (v : Int) : ∀ xs ys : List Tm, ofL v (xs ++ ys) = ofL v xs + ofL v ys
  | [], ys => by simp [ofL]
  | x :: xs, ys => by simp only [List.cons_append, ofL, ofL_append v xs ys]; omega

theorem ofL_take {v : Int} {xs : List Tm} {k : Nat} {u : Tm} (h : xs[k]? = some u) : ofL v (xs.take (k + 1)) = ofL v (xs.take k) + ofT v u := by
  rw [List.take_add_one, h, Option.toList_some, ofL_append]; simp [ofL]

theorem ofT_le (v : Int) (t : Tm) : ofT v t ≤ t.size := by
  have key : ∀ xs : List Tm, (∀ t ∈ xs, ofT v t ≤ t.size) → ofL v xs ≤ sizes xs := by
    intro xs
    induction xs with
    | nil => intro _; simp [ofL, sizes]
    | cons x xs ih => intro h; have h1 := h x (by simp); have h2 := ih fun t ht => h t (by simp [ht]); simp only [ofL, sizes]; omega
  refine Tm.ind (P := fun t => ofT v t ≤ t.size) (fun f xs ih => ?_) t
  have h1 := key xs ih
  simp only [ofT, Tm.size]
  split <;> omega

theorem ofL_le (v : Int) : ∀ xs : List Tm, ofL v xs ≤ sizes xs
  | [] => by simp [ofL, sizes]
  | x :: xs => by have h1 := ofT_le v x; have h2 := ofL_le v xs; simp only [ofL, sizes]; omega

end Go.Proofs.Ytgjmodclgdkodaa

/- The order of terms as such is an order: plain words. -/

namespace Go.Proofs.Ytgjmodclgdkodaa

/-- Argument by argument, then by how many. -/
def cmpX : List Tm → List Tm → Int
  | [], [] => 0
  | [], _ :: _ => -1
  | _ :: _, [] => 1
  | x :: xs, y :: ys => if cmpT x y ≠ 0 then cmpT x y else cmpX xs ys

theorem cmpX_eq : ∀ xs ys : List Tm, cmpX xs ys = if cmpL xs ys ≠ 0 then cmpL xs ys else numI xs.length ys.length
  | [], [] => by simp [cmpX, cmpL, numI]
  | [], y :: ys => by simp [cmpX, cmpL, numI]
  | x :: xs, [] => by simp [cmpX, cmpL, numI]; omega
  | x :: xs, y :: ys => by
    by_cases h : cmpT x y = 0
    · simp only [cmpX, cmpL, h, ne_eq, not_true_eq_false, if_false]
      rw [cmpX_eq xs ys]
      have : numI (x :: xs).length (y :: ys).length = numI xs.length ys.length := by
        unfold numI
        simp only [List.length_cons]
        by_cases h1 : (xs.length : Int) < ys.length
        · rw [if_pos h1, if_pos (by omega)]
        · rw [if_neg h1, if_neg (by omega)]
          by_cases h2 : (ys.length : Int) < xs.length
          · rw [if_pos h2, if_pos (by omega)]
          · rw [if_neg h2, if_neg (by omega)]
      rw [this]
    · simp only [cmpX, cmpL, ne_eq, h, not_false_eq_true, if_true]

theorem cmpT_x (f g : Int) (xs ys : List Tm) : cmpT (.node f xs) (.node g ys) = if headI f g ≠ 0 then headI f g else cmpX xs ys := by
  rw [cmpX_eq]
  exact cmpT_eq _ _

theorem head_anti (f g : Int) : headI g f = - headI f g := by
  unfold headI
  by_cases h : f = g
  · subst h; simp
  · rw [if_neg h, if_neg (fun e => h e.symm)]
    by_cases h1 : f < 0 ∧ g < 0
    · rw [if_pos h1, if_pos ⟨h1.2, h1.1⟩]
      by_cases h2 : g < f
      · rw [if_pos h2, if_neg (by omega)]; rfl
      · rw [if_neg h2, if_pos (by omega)]
    · rw [if_neg h1, if_neg (fun e => h1 ⟨e.2, e.1⟩)]
      by_cases h2 : f < g
      · rw [if_pos h2, if_neg (by omega)]; rfl
      · rw [if_neg h2, if_pos (by omega)]

theorem head_zero {f g : Int} (h : headI f g = 0) : f = g := by
  unfold headI at h
  split at h
  · assumption
  · split at h
    · split at h <;> omega
    · split at h <;> omega

theorem head_lt {f g : Int} : headI f g < 0 ↔ (f < 0 ∧ g < 0 ∧ g < f) ∨ (¬ (f < 0 ∧ g < 0) ∧ f < g) := by
  unfold headI
  by_cases h : f = g
  · subst h
    simp
  · rw [if_neg h]
    by_cases h1 : f < 0 ∧ g < 0
    · rw [if_pos h1]
      by_cases h2 : g < f
      · rw [if_pos h2]; omega
      · rw [if_neg h2]; omega
    · rw [if_neg h1]
      by_cases h2 : f < g
      · rw [if_pos h2]; omega
      · rw [if_neg h2]; omega

theorem head_trans {f g k : Int} (h1 : headI f g < 0) (h2 : headI g k < 0) : headI f k < 0 := by
  rw [head_lt] at *
  omega

theorem head_range (f g : Int) : -1 ≤ headI f g ∧ headI f g ≤ 1 := by
  unfold headI
  split
  · omega
  · split <;> split <;> omega

theorem cmp_anti (t : Tm) : ∀ u, cmpT u t = - cmpT t u := by
  refine Tm.ind (P := fun t => ∀ u, cmpT u t = - cmpT t u) (fun f xs ih u => ?_) t
  obtain ⟨g, ys⟩ := u
  rw [cmpT_x, cmpT_x, head_anti f g]
  have key : ∀ xs : List Tm, (∀ t ∈ xs, ∀ u, cmpT u t = - cmpT t u) → ∀ ys, cmpX ys xs = - cmpX xs ys := by
    intro xs
    induction xs with
    | nil => intro _ ys; cases ys <;> simp [cmpX]
    | cons x xs ihx =>
      intro h ys
      cases ys with
      | nil => simp [cmpX]
      | cons y ys =>
        simp only [cmpX]
        rw [h x (by simp) y, ihx (fun t ht => h t (by simp [ht])) ys]
        by_cases e : cmpT x y = 0
        · simp [e]
        · rw [if_pos (by omega), if_pos e]
  by_cases e : headI f g = 0
  · rw [if_neg (by simp [e]), if_neg (by simp [e]), key xs ih ys]
  · rw [if_pos (by omega), if_pos e]

theorem cmp_zero (t : Tm) : ∀ u, cmpT t u = 0 → t = u := by
  refine Tm.ind (P := fun t => ∀ u, cmpT t u = 0 → t = u) (fun f xs ih u h => ?_) t
  obtain ⟨g, ys⟩ := u
  rw [cmpT_x] at h
  have key : ∀ xs : List Tm, (∀ t ∈ xs, ∀ u, cmpT t u = 0 → t = u) → ∀ ys, cmpX xs ys = 0 → xs = ys := by
    intro xs
    induction xs with
    | nil => intro _ ys h; cases ys <;> simp [cmpX] at h ⊢
    | cons x xs ihx =>
      intro hh ys h
      cases ys with
      | nil => simp [cmpX] at h
      | cons y ys =>
        simp only [cmpX] at h
        by_cases e : cmpT x y = 0
        · rw [if_neg (by simp [e])] at h
          rw [hh x (by simp) y e, ihx (fun t ht => hh t (by simp [ht])) ys h]
        · rw [if_pos e] at h; exact absurd h e
  by_cases e : headI f g = 0
  · rw [if_neg (by simp [e])] at h
    rw [head_zero e, key xs ih ys h]
  · rw [if_pos e] at h; exact absurd h e

theorem cmp_refl (t : Tm) : cmpT t t = 0 := by have := cmp_anti t t; omega

theorem cmp_zero_iff {t u : Tm} : cmpT t u = 0 ↔ t = u := ⟨cmp_zero t u, fun h => by subst h; exact cmp_refl t⟩

theorem cmp_trans (t : Tm) : ∀ u v, cmpT t u < 0 → cmpT u v < 0 → cmpT t v < 0 := by
  refine Tm.ind (P := fun t => ∀ u v, cmpT t u < 0 → cmpT u v < 0 → cmpT t v < 0) (fun f xs ih u v h1 h2 => ?_) t
  obtain ⟨g, ys⟩ := u
  obtain ⟨k, zs⟩ := v
  rw [cmpT_x] at h1 h2 ⊢
  have key : ∀ xs : List Tm, (∀ t ∈ xs, ∀ u v, cmpT t u < 0 → cmpT u v < 0 → cmpT t v < 0) → ∀ ys zs, cmpX xs ys < 0 → cmpX ys zs < 0 → cmpX xs zs < 0 := by
    intro xs
    induction xs with
    | nil =>
      intro _ ys zs a b
      cases zs with
      | nil => cases ys <;> simp [cmpX] at a b
      | cons => simp [cmpX]
    | cons x xs ihx =>
      intro hh ys zs a b
      cases ys with
      | nil => simp [cmpX] at a
      | cons y ys =>
        cases zs with
        | nil => simp [cmpX] at b
        | cons z zs =>
          simp only [cmpX] at a b ⊢
          by_cases e1 : cmpT x y = 0
          · rw [if_neg (by simp [e1])] at a
            have := cmp_zero x y e1
            subst this
            by_cases e2 : cmpT x z = 0
            · rw [if_neg (by simp [e2])] at b ⊢
              exact ihx (fun t ht => hh t (by simp [ht])) ys zs a b
            · rw [if_pos e2] at b ⊢; exact b
          · rw [if_pos e1] at a
            by_cases e2 : cmpT y z = 0
            · have := cmp_zero y z e2
              subst this
              rw [if_pos e1]; exact a
            · rw [if_pos e2] at b
              have h3 := hh x (by simp) y z a b
              rw [if_pos (by omega)]; exact h3
  by_cases e1 : headI f g = 0
  · rw [if_neg (by simp [e1])] at h1
    have := head_zero e1
    subst this
    by_cases e2 : headI f k = 0
    · rw [if_neg (by simp [e2])] at h2 ⊢
      exact key xs ih ys zs h1 h2
    · rw [if_pos e2] at h2 ⊢; exact h2
  · rw [if_pos e1] at h1
    by_cases e2 : headI g k = 0
    · have := head_zero e2
      subst this
      rw [if_pos e1]; exact h1
    · rw [if_pos e2] at h2
      have h3 := head_trans h1 h2
      rw [if_pos (by omega)]; exact h3

theorem cmp_range (t : Tm) : ∀ u, -1 ≤ cmpT t u ∧ cmpT t u ≤ 1 := by
  refine Tm.ind (P := fun t => ∀ u, -1 ≤ cmpT t u ∧ cmpT t u ≤ 1) (fun f xs ih u => ?_) t
  obtain ⟨g, ys⟩ := u
  rw [cmpT_x]
  have key : ∀ xs : List Tm, (∀ t ∈ xs, ∀ u, -1 ≤ cmpT t u ∧ cmpT t u ≤ 1) → ∀ ys, -1 ≤ cmpX xs ys ∧ cmpX xs ys ≤ 1 := by
    intro xs
    induction xs with
    | nil => intro _ ys; cases ys <;> simp [cmpX]
    | cons x xs ihx =>
      intro hh ys
      cases ys with
      | nil => simp [cmpX]
      | cons y ys =>
        simp only [cmpX]
        split
        · exact hh x (by simp) y
        · exact ihx (fun t ht => hh t (by simp [ht])) ys
  split
  · exact head_range f g
  · exact key xs ih ys

theorem cmp_law {a b c : Tm} (hx : cmpT a b ≤ 0) (hy : cmpT b c ≤ 0) : cmpT a c ≤ 0 ∧ (cmpT a b < 0 → cmpT a c < 0) := by
  by_cases e1 : cmpT a b = 0
  · have := cmp_zero a b e1
    subst this
    exact ⟨hy, fun h => by omega⟩
  · by_cases e2 : cmpT b c = 0
    · have := cmp_zero b c e2
      subst this
      exact ⟨hx, fun h => h⟩
    · have := cmp_trans a b c (by omega) (by omega)
      exact ⟨by omega, fun _ => this⟩

end Go.Proofs.Ytgjmodclgdkodaa

/- which terms may be over symbols with so many arguments; ground terms: plain -/

namespace Go.Proofs.Ytgjmodclgdkodaa

open Go.RowKit
set_option maxRecDepth 20000
set_option maxRecDepth 20000

section

variable {ar : List Nat}

/-- Which terms may be: variables without arguments, symbols with theirs. -/
def wfTop (ar : List Nat) (f : Int) (n : Nat) : Bool := if f < 0 then decide (n = 0) else decide (f < (ar.length : Int)) && decide (n = ar.getD f.toNat 0)

mutual
def wfT (ar : List Nat) : Tm → Bool
  | .node f xs => wfTop ar f xs.length && wfL ar xs
def wfL (ar : List Nat) : List Tm → Bool
  | [] => true
  | t :: ts => wfT ar t && wfL ar ts
end

theorem wfL_mem {ar : List Nat} : ∀ {xs : List Tm} {t : Tm}, wfL ar xs = true → t ∈ xs → wfT ar t = true
  | [], _, _, h => by simp at h
  | x :: xs, t, h, ht => by
    simp only [wfL, Bool.and_eq_true] at h
    rcases List.mem_cons.1 ht with rfl | ht
    · exact h.1
    · exact wfL_mem h.2 ht

theorem wf_var {ar : List Nat} {f : Int} {xs : List Tm} (h : wfT ar (.node f xs) = true) (hf : f < 0) : xs = [] := by
  rw [wfT, wfTop, if_pos hf, Bool.and_eq_true, decide_eq_true_eq] at h
  exact List.eq_nil_of_length_eq_zero h.1

theorem wf_sym {ar : List Nat} {f : Int} {xs : List Tm} (h : wfT ar (.node f xs) = true) (hf : ¬ f < 0) : f < (ar.length : Int) ∧ xs.length = ar.getD f.toNat 0 := by
  rw [wfT, wfTop, if_neg hf] at h
  simp only [Bool.and_eq_true, decide_eq_true_eq] at h
  exact h.1

theorem wf_args {ar : List Nat} {f : Int} {xs : List Tm} (h : wfT ar (.node f xs) = true) : wfL ar xs = true := by
  rw [wfT, Bool.and_eq_true] at h; exact h.2

/-- Terms that may be, and are not too large for their weights to be cut. -/
structure Gd (ar : List Nat) (t : Tm) : Prop where
  wf : wfT ar t = true
  sz : t.size ≤ 2147483

theorem Gd.arg {f : Int} {xs : List Tm} {x : Tm} (h : Gd ar (.node f xs)) (hx : x ∈ xs) : Gd ar x := by
  refine ⟨wfL_mem (wf_args h.wf) hx, ?_⟩
  have := size_mem hx
  have := h.sz
  rw [Tm.size] at this; omega

theorem of_arg {v f : Int} {xs : List Tm} {x : Tm} (hx : x ∈ xs) : ofT v x ≤ ofT v (.node f xs) := by
  rw [ofT]
  have : ∀ ys : List Tm, x ∈ ys → ofT v x ≤ ofL v ys := by
    intro ys
    induction ys with
    | nil => intro h; simp at h
    | cons y ys ih =>
      intro h
      rw [ofL]
      rcases List.mem_cons.1 h with rfl | h
      · omega
      · have := ih h; omega
  have := this xs hx
  omega

theorem var_of {ar : List Nat} {t : Tm} (hw : wfT ar t = true) (hv : t.fn < 0) : t = .node t.fn [] := by
  obtain ⟨f, xs⟩ := t
  rw [wf_var hw hv]; rfl

theorem of_var {t : Tm} (hw : wfT ar t = true) (hv : t.fn < 0) : ofT t.fn t = 1 := by
  rw [var_of hw hv]
  change ofT t.fn (.node t.fn []) = 1
  rw [ofT, ofL, if_pos rfl]

theorem gd_args {f : Int} {xs : List Tm} (h : Gd ar (.node f xs)) : ∀ x ∈ xs, Gd ar x := fun _ hx => h.arg hx

/-- Terms without variables: one is above the other, or they are the same. -/
def grd (t : Tm) : Prop := ∀ v, v < 0 → ofT v t = 0

theorem grd_arg {f : Int} {xs : List Tm} {x : Tm} (h : grd (.node f xs)) (hx : x ∈ xs) : grd x := fun v hv => by
  have := h v hv; have := of_arg (v := v) (f := f) hx; omega

theorem grd_top {f : Int} {xs : List Tm} (h : grd (.node f xs)) : ¬ f < 0 := fun hf => by
  have := h f hf; rw [ofT, if_pos rfl] at this; omega

theorem ofL_app (v : Int) : ∀ xs ys : List Tm, ofL v (xs ++ ys) = ofL v xs + ofL v ys
  | [], ys => by rw [List.nil_append, ofL]; omega
  | x :: xs, ys => by rw [List.cons_append, ofL, ofL, ofL_app v xs ys]; omega

end

end Go.Proofs.Ytgjmodclgdkodaa

/- what terms may be, over a signature: plain -/

namespace Go.Proofs.Ytgjmodclgdkodaa

open Go.RowKit Go.Shelf Go.Maps
set_option maxRecDepth 100000
set_option maxRecDepth 100000

def fitsL (l : List Sm) (ts : List Tm) : Bool := ts.all fun t => decide (chkP l t = 0)

theorem fitsL_no {l : List Sm} {ts : List Tm} {t : Tm} (ht : t ∈ ts) (h : ¬ chkP l t = 0) : fitsL l ts = false := by
  unfold fitsL
  rw [List.all_eq_false]
  exact ⟨t, ht, by simpa using h⟩

theorem fitsL_yes {l : List Sm} {ts : List Tm} (h : ∀ (j : Nat) (t : Tm), j < ts.length → ts[j]? = some t → chkP l t = 0) : fitsL l ts = true := by
  unfold fitsL
  rw [List.all_eq_true]
  intro t ht
  obtain ⟨j, hj⟩ := List.getElem?_of_mem ht
  exact decide_eq_true (h j t (List.getElem?_eq_some_iff.1 hj).1 hj)

/-- The arities (a negative one lets no term be). -/
def arN (a : Int) : Nat := if a < 0 then 2 else a.toNat

def arL (l : List Sm) : List Nat := l.map fun s => arN s.arity

theorem arN_nat (n : Nat) : arN (n : Int) = n := by unfold arN; rw [if_neg (by omega)]; omega

theorem arN_zero {a : Int} (h : arN a = 0) : a = 0 := by
  unfold arN at h
  by_cases ha : a < 0
  · rw [if_pos ha] at h; omega
  · rw [if_neg ha] at h; omega

theorem arN_one {a : Int} (h : arN a = 1) : a = 1 := by
  unfold arN at h
  by_cases ha : a < 0
  · rw [if_pos ha] at h; omega
  · rw [if_neg ha] at h; omega

theorem arL_at {l : List Sm} {i : Nat} {s : Sm} (h : l[i]? = some s) : (arL l).getD i 0 = arN s.arity := by
  unfold arL; rw [List.getD_eq_getElem?_getD, List.getElem?_map, h]; rfl

theorem arL_len (l : List Sm) : (arL l).length = l.length := by unfold arL; simp

mutual
theorem wf_of {l : List Sm} : ∀ (t : Tm) (top : Bool), lowT t = true → overT l t top = true → wfT (arL l) t = true
  | .node f xs, top, h1, h2 => by
    rw [lowT] at h1
    rw [overT] at h2
    rw [wfT, wfTop]
    by_cases hf : f < 0
    · rw [if_pos hf, decide_eq_true_eq] at h1
      rw [if_pos hf]
      have : xs = [] := List.eq_nil_of_length_eq_zero h1.2
      subst this
      rfl
    · rw [if_neg hf] at h1 h2
      rw [if_neg hf]
      cases hs : l[f.toNat]? with
      | none => rw [hs] at h2; cases h2
      | some s =>
        rw [hs] at h2
        by_cases hb : s.arity ≠ xs.length ∨ (s.pred = true ∧ top = false)
        · simp only [if_pos hb] at h2; cases h2
        · simp only [if_neg hb] at h2
          rw [wfL_of xs h1 h2, arL_len, arL_at hs]
          have hlt := (List.getElem?_eq_some_iff.1 hs).1
          have ha : s.arity = xs.length := Decidable.byContradiction fun e => hb (.inl e)
          rw [ha, arN_nat]
          simp only [Bool.and_true, Bool.and_eq_true, decide_eq_true_eq]
          exact ⟨by omega, trivial⟩
theorem wfL_of {l : List Sm} : ∀ (xs : List Tm), lowL xs = true → overL l xs = true → wfL (arL l) xs = true
  | [], _, _ => rfl
  | x :: xs, h1, h2 => by
    rw [lowL, Bool.and_eq_true] at h1
    rw [overL, Bool.and_eq_true] at h2
    rw [wfL, wf_of x false h1.1 h2.1, wfL_of xs h1.2 h2.2]; rfl
end

theorem chkP_gd {l : List Sm} {t : Tm} (h : chkP l t = 0) : Gd (arL l) t := by
  unfold chkP at h
  by_cases h0 : checkI l = 0
  · rw [if_pos h0] at h
    by_cases h1 : smallT t = true
    · rw [if_pos h1] at h
      by_cases h2 : overT l t true = true
      · have h1' := h1
        unfold smallT at h1'
        simp only [Bool.and_eq_true, decide_eq_true_eq] at h1'
        exact ⟨wf_of t true h1'.2 h2, by omega⟩
      · rw [if_neg h2] at h; cases h
    · rw [if_neg h1] at h; cases h
  · rw [if_neg h0] at h; cases h

end Go.Proofs.Ytgjmodclgdkodaa

/- boxes of a signature, an order and terms; rows of terms; a relation turned -/

namespace Go.Proofs.Ytgjmodclgdkodaa

open Go.RowKit Go.Shelf Go.Maps
set_option maxRecDepth 100000
set_option maxRecDepth 100000

theorem heap5 (w : World) (o0 o1 o2 o3 o4 : Obj) : (((((w.alloc o0).alloc o1).alloc o2).alloc o3).alloc o4).heap[w.heap.size]? = some o0 ∧ (((((w.alloc o0).alloc o1).alloc o2).alloc o3).alloc o4).heap[w.heap.size + 1]? = some o1 ∧ (((((w.alloc o0).alloc o1).alloc o2).alloc o3).alloc o4).heap[w.heap.size + 2]? = some o2 ∧
    (((((w.alloc o0).alloc o1).alloc o2).alloc o3).alloc o4).heap[w.heap.size + 3]? = some o3 ∧ (((((w.alloc o0).alloc o1).alloc o2).alloc o3).alloc o4).heap[w.heap.size + 4]? = some o4 := by
  have e0 := heap_alloc_new w o0
  have e1 := heap_alloc_new (w.alloc o0) o1
  have e2 := heap_alloc_new ((w.alloc o0).alloc o1) o2
  have e3 := heap_alloc_new (((w.alloc o0).alloc o1).alloc o2) o3
  have e4 := heap_alloc_new ((((w.alloc o0).alloc o1).alloc o2).alloc o3) o4
  have s : ∀ (v : World) (o : Obj), (v.alloc o).heap.size = v.heap.size + 1 := fun v o => by simp
  rw [s] at e1
  rw [s, s] at e2
  rw [s, s, s] at e3
  rw [s, s, s, s] at e4
  refine ⟨?_, ?_, ?_, ?_, e4⟩
  · rw [Below.heap_alloc _ _ _ (by simp only [s]; omega), Below.heap_alloc _ _ _ (by simp only [s]; omega), Below.heap_alloc _ _ _ (by simp only [s]; omega), Below.heap_alloc _ _ _ (by simp only [s]; omega)]
    exact e0
  · rw [Below.heap_alloc _ _ _ (by simp only [s]; omega), Below.heap_alloc _ _ _ (by simp only [s]; omega), Below.heap_alloc _ _ _ (by simp only [s]; omega)]
    exact e1
  · rw [Below.heap_alloc _ _ _ (by simp only [s]; omega), Below.heap_alloc _ _ _ (by simp only [s]; omega)]
    exact e2
  · rw [Below.heap_alloc _ _ _ (by simp only [s]; omega)]
    exact e3

theorem below5 (w : World) (o0 o1 o2 o3 o4 : Obj) : Below w.heap.size w (((((w.alloc o0).alloc o1).alloc o2).alloc o3).alloc o4) :=
  (((((Below.refl _ _).alloc (Nat.le_refl _) _).alloc (by simp) _).alloc (by simp; omega) _).alloc (by simp; omega) _).alloc (by simp; omega) _

/-- A signature, an order, in their boxes b and b + 1. -/
structure BoxSO (w : World) (b : Nat) (o : Odr) (As P Q : Option Addr) (n cs pc qc : Nat) : Prop where
  s0 : w.cell? ⟨b, 0, none⟩ = some (.slice As n cs)
  o0 : w.cell? ⟨b + 1, 0, none⟩ = some (.bool o.lpo)
  o1 : w.cell? ⟨b + 1, 1, none⟩ = some (.slice P o.prec.length pc)
  o2 : w.cell? ⟨b + 1, 2, none⟩ = some (.slice Q o.wts.length qc)
  o3 : w.cell? ⟨b + 1, 3, none⟩ = some (.int .i64 o.var)

theorem boxSO_of {w : World} {b : Nat} {o : Odr} {As P Q : Option Addr} {n cs pc qc : Nat} {ty ty2 : TypeId} (h0 : w.heap[b]? = some (.cells #[.slice As n cs] ty)) (h1 : w.heap[b + 1]? = some (.cells #[.bool o.lpo, .slice P o.prec.length pc, .slice Q o.wts.length qc, .int .i64 o.var] ty2)) : BoxSO w b o As P Q n cs pc qc := by
  obtain ⟨a0, _⟩ := cells_one h0
  obtain ⟨b0, b1, b2, b3⟩ := cells_four h1
  exact ⟨a0, b0, b1, b2, b3⟩

/-- A term that lies in memory. -/
structure TmK (w : World) (t : Tm) (A : Option Addr) (c : Nat) : Prop where
  i64 : I64 t.fn
  args : ArgsK w (· < w.heap.size) A c t.args

theorem TmK.on {w w' : World} {t : Tm} {A : Option Addr} {c : Nat} (h : TmK w t A c) (hb : Below w.heap.size w w') : TmK w' t A c := ⟨h.i64, h.args.on hb⟩

theorem cells_six {W : World} {b : Nat} {x0 x1 x2 x3 x4 x5 : Value} {t : TypeId} (h : W.heap[b]? = some (.cells #[x0, x1, x2, x3, x4, x5] t)) : W.cell? ⟨b, 0, none⟩ = some x0 ∧ W.cell? ⟨b, 1, none⟩ = some x1 ∧ W.cell? ⟨b, 2, none⟩ = some x2 ∧ W.cell? ⟨b, 3, none⟩ = some x3 ∧ W.cell? ⟨b, 4, none⟩ = some x4 ∧ W.cell? ⟨b, 5, none⟩ = some x5 := by
  refine ⟨?_, ?_, ?_, ?_, ?_, ?_⟩ <;> simp [World.cell?, h]

theorem argsK_three {w : World} {N : Nat → Prop} {b : Nat} {t u v : Tm} {A A2 A3 : Option Addr} {c c2 c3 : Nat} {e : TypeId} (h : w.heap[b]? = some (.cells #[.int .i64 t.fn, .slice A t.args.length c, .int .i64 u.fn, .slice A2 u.args.length c2, .int .i64 v.fn, .slice A3 v.args.length c3] e)) (hN : N b) (h1 : I64 t.fn) (h2 : I64 u.fn) (h3 : I64 v.fn) (hA : ArgsK w N A c t.args) (hA2 : ArgsK w N A2 c2 u.args) (hA3 : ArgsK w N A3 c3 v.args) :
    ArgsK w N (some ⟨b, 0, none⟩) 3 [t, u, v] := by
  obtain ⟨z0, z1, z2, z3, z4, z5⟩ := cells_six h
  refine .row b 0 3 [t, u, v] (fun i => if i = 0 then A else if i = 1 then A2 else A3) (fun i => if i = 0 then c else if i = 1 then c2 else c3) (by simp) hN (by simp) (fun i x e => ?_) (fun i x e => ?_) (fun i x e => ?_) (fun i x e => ?_)
  all_goals
    match i, e with
    | 0, e =>
      simp only [List.getElem?_cons_zero, Option.some.injEq] at e
      subst e
      first
        | exact h1
        | exact z0
        | exact z1
        | exact hA
    | 1, e =>
      simp only [List.getElem?_cons_succ, List.getElem?_cons_zero, Option.some.injEq] at e
      subst e
      first
        | exact h2
        | exact z2
        | exact z3
        | exact hA2
    | 2, e =>
      simp only [List.getElem?_cons_succ, List.getElem?_cons_zero, Option.some.injEq] at e
      subst e
      first
        | exact h3
        | exact z4
        | exact z5
        | exact hA3
    | i + 3, e => simp at e

/-- Rows of one, two, three terms, as the law lays them: in a world behind W. -/
theorem row_one {W w1 : World} {t : Tm} {A : Option Addr} {c : Nat} (h : TmK W t A c) (hb : Below W.heap.size W w1) :
    Args (w1.alloc (.cells #[.int .i64 t.fn, .slice A t.args.length c] 39)) (w1.alloc (.cells #[.int .i64 t.fn, .slice A t.args.length c] 39)).heap.size (some ⟨w1.heap.size, 0, none⟩) [t] := by
  have hb1 : Below w1.heap.size w1 (w1.alloc (.cells #[.int .i64 t.fn, .slice A t.args.length c] 39)) := (Below.refl _ _).alloc (Nat.le_refl _) _
  have ht := (h.on hb).on hb1
  exact (argsK_one (N := (· < (w1.alloc (.cells #[.int .i64 t.fn, .slice A t.args.length c] 39)).heap.size)) (heap_alloc_new w1 _) (by simp) ht.i64 ht.args).toA

theorem row_two {W w1 : World} {s t : Tm} {A A2 : Option Addr} {c c2 : Nat} (hs : TmK W s A c) (ht : TmK W t A2 c2) (hb : Below W.heap.size W w1) :
    Args (w1.alloc (.cells #[.int .i64 s.fn, .slice A s.args.length c, .int .i64 t.fn, .slice A2 t.args.length c2] 39)) (w1.alloc (.cells #[.int .i64 s.fn, .slice A s.args.length c, .int .i64 t.fn, .slice A2 t.args.length c2] 39)).heap.size (some ⟨w1.heap.size, 0, none⟩) [s, t] := by
  have hb1 : Below w1.heap.size w1 (w1.alloc (.cells #[.int .i64 s.fn, .slice A s.args.length c, .int .i64 t.fn, .slice A2 t.args.length c2] 39)) := (Below.refl _ _).alloc (Nat.le_refl _) _
  have h1 := (hs.on hb).on hb1
  have h2 := (ht.on hb).on hb1
  exact (argsK_two (N := (· < (w1.alloc (.cells #[.int .i64 s.fn, .slice A s.args.length c, .int .i64 t.fn, .slice A2 t.args.length c2] 39)).heap.size)) (heap_alloc_new w1 _) (by simp) h1.i64 h2.i64 h1.args h2.args).toA

theorem row_three {W w1 : World} {s t u : Tm} {A A2 A3 : Option Addr} {c c2 c3 : Nat} (hs : TmK W s A c) (ht : TmK W t A2 c2) (hu : TmK W u A3 c3) (hb : Below W.heap.size W w1) :
    Args (w1.alloc (.cells #[.int .i64 s.fn, .slice A s.args.length c, .int .i64 t.fn, .slice A2 t.args.length c2, .int .i64 u.fn, .slice A3 u.args.length c3] 39)) (w1.alloc (.cells #[.int .i64 s.fn, .slice A s.args.length c, .int .i64 t.fn, .slice A2 t.args.length c2, .int .i64 u.fn, .slice A3 u.args.length c3] 39)).heap.size (some ⟨w1.heap.size, 0, none⟩) [s, t, u] := by
  have hb1 : Below w1.heap.size w1 (w1.alloc (.cells #[.int .i64 s.fn, .slice A s.args.length c, .int .i64 t.fn, .slice A2 t.args.length c2, .int .i64 u.fn, .slice A3 u.args.length c3] 39)) := (Below.refl _ _).alloc (Nat.le_refl _) _
  have h1 := (hs.on hb).on hb1
  have h2 := (ht.on hb).on hb1
  have h3 := (hu.on hb).on hb1
  exact (argsK_three (N := (· < (w1.alloc (.cells #[.int .i64 s.fn, .slice A s.args.length c, .int .i64 t.fn, .slice A2 t.args.length c2, .int .i64 u.fn, .slice A3 u.args.length c3] 39)).heap.size)) (heap_alloc_new w1 _) (by simp) h1.i64 h2.i64 h3.i64 h1.args h2.args h3.args).toA

/-- A relation the other way round. -/
def turnI (r : Int) : Int := if r = 1 then 3 else if r = 3 then 1 else r

end Go.Proofs.Ytgjmodclgdkodaa

/- boxes of an order and a term -/

namespace Go.Proofs.Ytgjmodclgdkodaa

open Go.RowKit Go.Shelf Go.Maps
set_option maxRecDepth 100000
set_option maxRecDepth 100000

/-- The boxes of an order and a term that are parameters, and what stays of them. -/
theorem box_ot {w W : World} {o : Odr} {P Q A : Option Addr} {pc qc c n : Nat} {f : Int} (hW : (w.alloc (.cells #[.bool o.lpo, .slice P o.prec.length pc, .slice Q o.wts.length qc, .int .i64 o.var] 27)).alloc (.cells #[.int .i64 f, .slice A n c] 39) = W) :
    Below w.heap.size w W ∧ W.heap.size = w.heap.size + 2 ∧ ∀ w', Below W.heap.size W w' → w'.cell? ⟨w.heap.size, 0, none⟩ = some (.bool o.lpo) ∧ w'.cell? ⟨w.heap.size, 1, none⟩ = some (.slice P o.prec.length pc) ∧ w'.cell? ⟨w.heap.size, 2, none⟩ = some (.slice Q o.wts.length qc) ∧ w'.cell? ⟨w.heap.size, 3, none⟩ = some (.int .i64 o.var) ∧
      w'.cell? ⟨w.heap.size + 1, 0, none⟩ = some (.int .i64 f) ∧ w'.cell? ⟨w.heap.size + 1, 1, none⟩ = some (.slice A n c) := by
  obtain ⟨q0, q1⟩ := heap2 w (.cells #[.bool o.lpo, .slice P o.prec.length pc, .slice Q o.wts.length qc, .int .i64 o.var] 27) (.cells #[.int .i64 f, .slice A n c] 39)
  rw [hW] at q0 q1
  have hz : W.heap.size = w.heap.size + 2 := by rw [← hW]; simp
  refine ⟨by rw [← hW]; exact ((Below.refl _ _).alloc (Nat.le_refl _) _).alloc (by simp) _, hz, fun w' hb => ?_⟩
  obtain ⟨a0, a1, a2, a3⟩ := cells_four ((hb.block _ (by omega)).trans q0)
  obtain ⟨b0, b1, _, _⟩ := cells_two ((hb.block _ (by omega)).trans q1)
  exact ⟨a0, a1, a2, a3, b0, b1⟩

end Go.Proofs.Ytgjmodclgdkodaa

/- kbo: around, tops. -/

namespace Go.Proofs.Ytgjmodclgdkodaa

open Go.RowKit Go.Shelf
set_option maxRecDepth 100000

/-- What is left of a term when its top, again and again the same one of one argument, is taken off. -/
def arndEnd (top : Int) : Tm → Tm
  | .node f [x] => if f = top then arndEnd top x else .node f [x]
  | t => t

theorem arnd_step {top f : Int} {x : Tm} (h : f = top) : arndEnd top (.node f [x]) = arndEnd top x := by rw [arndEnd, if_pos h]

theorem arnd_stop {top : Int} {t : Tm} (h : ¬ (t.fn = top ∧ t.args.length = 1)) : arndEnd top t = t := by
  obtain ⟨f, xs⟩ := t
  simp only [Tm.fn, Tm.args] at h
  match xs with
  | [] => rw [arndEnd]; intro _ _ e; cases e
  | [x] =>
    rw [arndEnd, if_neg]
    intro e
    exact h ⟨e, rfl⟩
  | x :: y :: ys => rw [arndEnd]; intro _ _ e; cases e

set_option maxHeartbeats 1000000 in
theorem around_any (s v : Tm) (A A2 : Option Addr) (c c2 : Nat) (w : World) (hA : Args w w.heap.size A s.args) :
    Calls Try.prog 102 #[.agg #[.int .i64 s.fn, .slice A s.args.length c], .agg #[.int .i64 v.fn, .slice A2 v.args.length c2]] w fun e w' => e = .returned (.bool (decide ((arndEnd s.fn s).fn = v.fn))) ∧ Below w.heap.size w w' := by
  obtain ⟨q0, q1⟩ := heap2 w (.cells #[.int .i64 s.fn, .slice A s.args.length c] 39) (.cells #[.int .i64 v.fn, .slice A2 v.args.length c2] 39)
  obtain ⟨W, hW⟩ : ∃ W, ((w.alloc (.cells #[.int .i64 s.fn, .slice A s.args.length c] 39)).alloc (.cells #[.int .i64 v.fn, .slice A2 v.args.length c2] 39)) = W := ⟨_, rfl⟩
  have hB : Below w.heap.size w W := by rw [← hW]; exact ((Below.refl _ _).alloc (Nat.le_refl _) _).alloc (by simp) _
  rw [hW] at q0 q1
  have hWs : w.heap.size + 1 < W.heap.size := (Array.getElem?_eq_some_iff.1 q1).1
  obtain ⟨x0, x1, _, _⟩ := cells_two q0
  have HW := Lib.hid hW
  have HA := Lib.hid hA
  obtain ⟨top, ht⟩ : ∃ top, s.fn = top := ⟨_, rfl⟩
  have H0 : Hid (∃ (u : Tm) (A1 : Option Addr) (c1 : Nat), arndEnd top s = arndEnd top u ∧ W.heap[w.heap.size]? = some (.cells #[.int .i64 u.fn, .slice A1 u.args.length c1] 39) ∧ W.heap[w.heap.size + 1]? = some (.cells #[.int .i64 v.fn, .slice A2 v.args.length c2] 39) ∧ Args w w.heap.size A1 u.args ∧ u.size ≤ s.size) := Lib.hid ⟨s, A, c, rfl, q0, q1, hA, Nat.le_refl _⟩
  rw [ht] at HW x0
  rw [ht]
  clear hW hA q0 q1 ht
  go_enter Try.func102, Try.ntmps102
  go_upto_region 1 with fail
  rw [HW.out]
  go_wp2
  clear x0 x1
  go_loopg [] s.size (fun gk wr => Below w.heap.size w wr ∧ Hid (∃ (u : Tm) (A1 : Option Addr) (c1 : Nat), arndEnd top s = arndEnd top u ∧ wr.heap[w.heap.size]? = some (.cells #[.int .i64 u.fn, .slice A1 u.args.length c1] 39) ∧ wr.heap[w.heap.size + 1]? = some (.cells #[.int .i64 v.fn, .slice A2 v.args.length c2] 39) ∧ Args w w.heap.size A1 u.args ∧ u.size ≤ gk))
  case atStart => exact ⟨hB, H0⟩
  case round =>
    obtain ⟨hBr, H⟩ := hrel
    obtain ⟨u, A1, c1, hev, r0, r1, hA1, hsz⟩ := H.out
    obtain ⟨y0, y1, z0, z1⟩ := cells_two r0
    obtain ⟨y2, y3, _, _⟩ := cells_two r1
    have Hev := Lib.hid hev
    have Hr0 := Lib.hid r0
    have Hr1 := Lib.hid r1
    clear hev r0 r1 H
    by_cases h : u.fn = top ∧ u.args.length = 1
    · obtain ⟨h1, h2⟩ := h
      obtain ⟨f, xs⟩ := u
      simp only [Tm.fn, Tm.args] at h1 h2 hA1 y0 y1 Hr0
      obtain ⟨x, rfl⟩ : ∃ x, xs = [x] := by
        match xs, h2 with
        | [x], _ => exact ⟨x, rfl⟩
      subst h1
      obtain ⟨bb, off, A3, c3, rfl, ha⟩ := hA1.get (i := 0) rfl
      have e0 := cell_on hBr ha.hb ha.c0
      have e1 := cell_on hBr ha.hb ha.c1
      rw [Nat.zero_mul, Nat.add_zero] at e0 e1
      have hev2 := Lib.hid (Hev.out.trans (arnd_step rfl))
      have hsub := Lib.hid ha.sub
      have hlt : x.size < gk := by simp only [Tm.size, sizes] at hsz; omega
      have hne : bb ≠ w.heap.size := by have := ha.hb; omega
      clear ha h2 hsz
      go_wp2
      have hst : ∀ W2 : World, W2 = (wr.setCell ⟨w.heap.size, 0, none⟩ (.int .i64 x.fn)).setCell ⟨w.heap.size, 1, none⟩ (.slice A3 x.args.length c3) → W2.heap[w.heap.size]? = some (.cells #[.int .i64 x.fn, .slice A3 x.args.length c3] 39) ∧ W2.heap[w.heap.size + 1]? = some (.cells #[.int .i64 v.fn, .slice A2 v.args.length c2] 39) := fun W2 e => by
        subst e
        exact ⟨(set2_two Hr0.out).2, (heap_setCell_other _ _ _ _ (show w.heap.size + 1 ≠ w.heap.size by omega)).trans ((heap_setCell_other _ _ _ _ (show w.heap.size + 1 ≠ w.heap.size by omega)).trans Hr1.out)⟩
      go_roundg x.size
      case measure => exact hlt
      case rel => exact ⟨(hBr.setCell (Nat.le_refl _) _).setCell (Nat.le_refl _) _, x, A3, c3, hev2.out, (hst _ rfl).1, (hst _ rfl).2, hsub.out, Nat.le_refl _⟩
    · have hend := Lib.hid (Hev.out.trans (arnd_stop h))
      by_cases h1 : u.fn = top
      · have h1' : (u.fn == top) = true := by simp [h1]
        have h2 : ¬ u.args.length = 1 := fun e => h ⟨h1, e⟩
        have h2' : ((u.args.length : Int) == 1) = false := by simp; omega
        clear h h1 h2
        go_wp2
        go_ret
        exact ⟨ret_bool (by rw [hend.out, Bool.eq_iff_iff, beq_iff_eq, decide_eq_true_eq]), hBr⟩
      · have h1' : (u.fn == top) = false := by simp [h1]
        clear h h1
        go_wp2
        go_ret
        exact ⟨ret_bool (by rw [hend.out, Bool.eq_iff_iff, beq_iff_eq, decide_eq_true_eq]), hBr⟩

/-- How two terms with other tops stand if they weigh the same; the first one no variable. -/
def topsP (o : Odr) (s t : Tm) : Int := if t.fn < 0 then (if (arndEnd s.fn s).fn = t.fn then 3 else 0) else
  if o.prec.getD t.fn.toNat 0 < o.prec.getD s.fn.toNat 0 then 3 else if o.prec.getD s.fn.toNat 0 = o.prec.getD t.fn.toNat 0 then 0 else 1

def topsR (o : Odr) (s t : Tm) : Int := if s.fn < 0 then (if t.fn < 0 then 0 else relT (topsP o t s)) else topsP o s t

theorem topsP_bd (o : Odr) (s t : Tm) : 0 ≤ topsP o s t ∧ topsP o s t ≤ 3 := by
  unfold topsP
  split
  · split <;> omega
  · split
    · omega
    · split <;> omega

set_option maxHeartbeats 4000000 in
theorem tops_pos (o : Odr) (s t : Tm) (P Q A A2 : Option Addr) (pc qc c c2 : Nat) (w : World) (hM : OdrM w w.heap.size o P Q) (hs : ¬ s.fn < 0) (hsk : s.fn < (o.prec.length : Int)) (htk : t.fn < (o.prec.length : Int)) (hA : Args w w.heap.size A s.args) :
    Calls Try.prog 83 #[.agg #[.bool o.lpo, .slice P o.prec.length pc, .slice Q o.wts.length qc, .int .i64 o.var], .agg #[.int .i64 s.fn, .slice A s.args.length c], .agg #[.int .i64 t.fn, .slice A2 t.args.length c2]] w fun e w' => e = .returned (.int .i64 (topsP o s t)) ∧ Below w.heap.size w w' := by
  obtain ⟨q0, q1, q2⟩ := heap3 w (.cells #[.bool o.lpo, .slice P o.prec.length pc, .slice Q o.wts.length qc, .int .i64 o.var] 27) (.cells #[.int .i64 s.fn, .slice A s.args.length c] 39) (.cells #[.int .i64 t.fn, .slice A2 t.args.length c2] 39)
  obtain ⟨W, hW⟩ : ∃ W, (((w.alloc (.cells #[.bool o.lpo, .slice P o.prec.length pc, .slice Q o.wts.length qc, .int .i64 o.var] 27)).alloc (.cells #[.int .i64 s.fn, .slice A s.args.length c] 39)).alloc (.cells #[.int .i64 t.fn, .slice A2 t.args.length c2] 39)) = W := ⟨_, rfl⟩
  have hB : Below w.heap.size w W := by rw [← hW]; exact (((Below.refl _ _).alloc (Nat.le_refl _) _).alloc (by simp) _).alloc (by simp; omega) _
  rw [hW] at q0 q1 q2
  have hWs : w.heap.size + 1 + 1 < W.heap.size := (Array.getElem?_eq_some_iff.1 q2).1
  have HW := Lib.hid hW
  have Har := Lib.hid (around_any s t A A2 c c2 W (hA.on hB))
  have HP := Lib.hid (hM.p.on hB)
  have H0 := Lib.hid q0
  obtain ⟨x0, x1, _, _⟩ := cells_two q1
  obtain ⟨y0, y1, _, _⟩ := cells_two q2
  have hlater : ∀ x : Later W.heap.size W, x.w.cell? ⟨w.heap.size, 1, none⟩ = some (.slice P o.prec.length pc) ∧ x.w.cell? ⟨w.heap.size + 1, 0, none⟩ = some (.int .i64 s.fn) ∧ x.w.cell? ⟨w.heap.size + 1 + 1, 0, none⟩ = some (.int .i64 t.fn) := fun x =>
    ⟨(cells_four ((x.h.block _ (by omega)).trans q0)).2.1, (cells_two ((x.h.block _ (by omega)).trans q1)).1, (cells_two ((x.h.block _ hWs).trans q2)).1⟩
  have Hl := Lib.hid hlater
  clear hW hA hM q0 q1 q2 hlater
  by_cases ht : t.fn < 0
  · have hR := Lib.hid (show topsP o s t = if (arndEnd s.fn s).fn = t.fn then 3 else 0 by unfold topsP; rw [if_pos ht])
    by_cases ha : (arndEnd s.fn s).fn = t.fn
    · have ha' := Lib.hid (decide_eq_true ha)
      have hR := Lib.hid (show topsP o s t = 3 by rw [hR.out, if_pos ha])
      have l0 : ∀ x : Later W.heap.size W, x.w.cell? ⟨w.heap.size + 1 + 1, 0, none⟩ = some (.int .i64 t.fn) := fun x => (Hl.out x).2.2
      clear ha
      go_enter Try.func83, Try.ntmps83
      go_upto_region 1 with fail
      rw [HW.out]
      go_upto_region 7 with (first
        | (go_at_call 102; (with_reducible refine Har.out.mono ?_); go_must (rintro e w1 ⟨rfl, hb1⟩; rw [ha'.out]))
        | fail)
      have ht' := decide_eq_true ht
      refine wp_region_later W.heap.size W (by kernel_rfl) (by kernel_rfl) (bl_drewN hb1 1) ?_
      repeat (go_big_quiet_step (fail))
      refine wpQuiet_nil ?_
      rintro _ ⟨z, rfl⟩
      go_wp2
      go_ret
      exact ⟨by rw [hR.out]; rfl, hB.trans (z.h.mono hB.size)⟩
    · have ha' := Lib.hid (decide_eq_false ha)
      have hR := Lib.hid (show topsP o s t = 0 by rw [hR.out, if_neg ha])
      clear ha
      go_enter Try.func83, Try.ntmps83
      go_upto_region 1 with fail
      rw [HW.out]
      go_wp2_with (first
        | (go_at_call 102; (with_reducible refine Har.out.mono ?_); go_must (rintro e w1 ⟨rfl, hb1⟩; rw [ha'.out]))
        | fail)
      go_ret
      exact ⟨by rw [hR.out]; rfl, hB.trans (hb1.mono hB.size)⟩
  · obtain ⟨k, hk⟩ : ∃ k : Nat, s.fn = (k : Int) := ⟨s.fn.toNat, by omega⟩
    obtain ⟨j, hj⟩ : ∃ j : Nat, t.fn = (j : Int) := ⟨t.fn.toNat, by omega⟩
    obtain ⟨p, hp⟩ : ∃ p, o.prec[k]? = some p := ⟨_, List.getElem?_eq_getElem (by omega)⟩
    obtain ⟨q, hq⟩ : ∃ q, o.prec[j]? = some q := ⟨_, List.getElem?_eq_getElem (by omega)⟩
    obtain ⟨b, off, hPa, hb, hc⟩ := HP.out.get hp
    obtain ⟨b', off', hPa', hb', hc'⟩ := HP.out.get hq
    rw [hPa] at hPa'
    injection hPa' with e
    injection e with e1 e2 _
    subst e1; subst e2; subst hPa
    have hR : topsP o s t = if q < p then 3 else if p = q then 0 else 1 := by
      unfold topsP
      rw [if_neg ht, hk, hj, List.getD_eq_getElem?_getD, List.getD_eq_getElem?_getD, show ((k : Int).toNat) = k from rfl, show ((j : Int).toNat) = j from rfl, hp, hq]
      rfl
    have HR := Lib.hid hR
    have l0 : ∀ x : Later W.heap.size W, x.w.cell? ⟨w.heap.size + 1 + 1, 0, none⟩ = some (.int .i64 (j : Int)) := fun x => by rw [← hj]; exact (Hl.out x).2.2
    have l1 : ∀ x : Later W.heap.size W, x.w.cell? ⟨w.heap.size + 1, 0, none⟩ = some (.int .i64 (k : Int)) := fun x => by rw [← hk]; exact (Hl.out x).2.1
    have l2 : ∀ x : Later W.heap.size W, x.w.cell? ⟨w.heap.size, 1, none⟩ = some (.slice (some ⟨b, off, none⟩) o.prec.length pc) := fun x => (Hl.out x).1
    have l3 : ∀ x : Later W.heap.size W, x.w.cell? ⟨b, off + k, none⟩ = some (.int .i64 p) := fun x => cell_on x.h hb hc
    have l4 : ∀ x : Later W.heap.size W, x.w.cell? ⟨b, off + j, none⟩ = some (.int .i64 q) := fun x => cell_on x.h hb' hc'
    rw [hk] at hs hsk x0 HW ⊢
    rw [hj] at ht htk y0 HW ⊢
    have ht' := decide_eq_false ht
    clear hR hk hj hp hq hc hc' H0 Hl
    by_cases h1 : q < p
    · have h1' : decide (p > q) = true := decide_eq_true h1
      have hR := Lib.hid (show topsP o s t = 3 by rw [HR.out, if_pos h1])
      clear h1 HR
      go_enter Try.func83, Try.ntmps83
      go_upto_region 1 with fail
      rw [HW.out]
      go_upto_region 7 with fail
      refine wp_region_later W.heap.size W (by kernel_rfl) (by kernel_rfl) (bl_drewN (Below.refl _ _) 1) ?_
      repeat (go_big_quiet_step (fail))
      refine wpQuiet_nil ?_
      rintro _ ⟨z, rfl⟩
      go_wp2
      go_ret
      exact ⟨by rw [hR.out]; rfl, hB.trans (z.h.mono hB.size)⟩
    · have h1' : decide (p > q) = false := decide_eq_false h1
      by_cases h2 : p = q
      · have h2' : (p == q) = true := by simp [h2]
        have hR := Lib.hid (show topsP o s t = 0 by rw [HR.out, if_neg h1, if_pos h2])
        clear h1 h2 HR
        go_enter Try.func83, Try.ntmps83
        go_upto_region 1 with fail
        rw [HW.out]
        go_upto_region 7 with fail
        refine wp_region_later W.heap.size W (by kernel_rfl) (by kernel_rfl) (bl_drewN (Below.refl _ _) 1) ?_
        repeat (go_big_quiet_step (fail))
        refine wpQuiet_nil ?_
        rintro _ ⟨z, rfl⟩
        go_upto_region 9 with fail
        refine wp_region_later W.heap.size W (by kernel_rfl) (by kernel_rfl) (bl_drewN z.h 1) ?_
        repeat (go_big_quiet_step (fail))
        refine wpQuiet_nil ?_
        rintro _ ⟨z2, rfl⟩
        go_wp2
        go_ret
        exact ⟨by rw [hR.out]; rfl, hB.trans (z2.h.mono hB.size)⟩
      · have h2' : (p == q) = false := by simp [h2]
        have hR := Lib.hid (show topsP o s t = 1 by rw [HR.out, if_neg h1, if_neg h2])
        clear h1 h2 HR
        go_enter Try.func83, Try.ntmps83
        go_upto_region 1 with fail
        rw [HW.out]
        go_upto_region 7 with fail
        refine wp_region_later W.heap.size W (by kernel_rfl) (by kernel_rfl) (bl_drewN (Below.refl _ _) 1) ?_
        repeat (go_big_quiet_step (fail))
        refine wpQuiet_nil ?_
        rintro _ ⟨z, rfl⟩
        go_upto_region 9 with fail
        refine wp_region_later W.heap.size W (by kernel_rfl) (by kernel_rfl) (bl_drewN z.h 1) ?_
        repeat (go_big_quiet_step (fail))
        refine wpQuiet_nil ?_
        rintro _ ⟨z2, rfl⟩
        go_wp2
        go_ret
        exact ⟨by rw [hR.out]; rfl, hB.trans (z2.h.mono hB.size)⟩

set_option maxHeartbeats 1000000 in
theorem tops_any (o : Odr) (s t : Tm) (P Q A A2 : Option Addr) (pc qc c c2 : Nat) (w : World) (hM : OdrM w w.heap.size o P Q) (hsk : s.fn < (o.prec.length : Int)) (htk : t.fn < (o.prec.length : Int)) (hA : Args w w.heap.size A s.args) (hA2 : Args w w.heap.size A2 t.args) :
    Calls Try.prog 83 #[.agg #[.bool o.lpo, .slice P o.prec.length pc, .slice Q o.wts.length qc, .int .i64 o.var], .agg #[.int .i64 s.fn, .slice A s.args.length c], .agg #[.int .i64 t.fn, .slice A2 t.args.length c2]] w fun e w' => e = .returned (.int .i64 (topsR o s t)) ∧ Below w.heap.size w w' := by
  by_cases hs : s.fn < 0
  · have hB : Below w.heap.size w (((w.alloc (.cells #[.bool o.lpo, .slice P o.prec.length pc, .slice Q o.wts.length qc, .int .i64 o.var] 27)).alloc (.cells #[.int .i64 s.fn, .slice A s.args.length c] 39)).alloc (.cells #[.int .i64 t.fn, .slice A2 t.args.length c2] 39)) := (((Below.refl _ _).alloc (Nat.le_refl _) _).alloc (by simp) _).alloc (by simp; omega) _
    by_cases ht : t.fn < 0
    · have hR := Lib.hid (show topsR o s t = 0 by unfold topsR; rw [if_pos hs, if_pos ht])
      clear hA hA2 hM
      go_enter Try.func83, Try.ntmps83
      go_wp2
      go_ret
      exact ⟨by rw [hR.out]; rfl, hB⟩
    · have hR := Lib.hid (show topsR o s t = relT (topsP o t s) by unfold topsR; rw [if_pos hs, if_neg ht])
      obtain ⟨q0, q1, q2⟩ := heap3 w (.cells #[.bool o.lpo, .slice P o.prec.length pc, .slice Q o.wts.length qc, .int .i64 o.var] 27) (.cells #[.int .i64 s.fn, .slice A s.args.length c] 39) (.cells #[.int .i64 t.fn, .slice A2 t.args.length c2] 39)
      obtain ⟨W, hW⟩ : ∃ W, (((w.alloc (.cells #[.bool o.lpo, .slice P o.prec.length pc, .slice Q o.wts.length qc, .int .i64 o.var] 27)).alloc (.cells #[.int .i64 s.fn, .slice A s.args.length c] 39)).alloc (.cells #[.int .i64 t.fn, .slice A2 t.args.length c2] 39)) = W := ⟨_, rfl⟩
      rw [hW] at hB q0 q1 q2
      obtain ⟨x0, x1, _, _⟩ := cells_two q1
      obtain ⟨y0, y1, _, _⟩ := cells_two q2
      obtain ⟨z0, z1, z2, z3⟩ := cells_four q0
      have H1 := Lib.hid (tops_pos o t s P Q A2 A pc qc c2 c W (hM.on hB) ht htk hsk (hA2.on hB))
      have hbd := topsP_bd o t s
      have H2 : ∀ w1 : World, _ := fun w1 => turned_any (topsP o t s) hbd.1 hbd.2 w1
      have H2 := Lib.hid H2
      have HW := Lib.hid hW
      clear hW hA hA2 hM hbd q0 q1 q2
      go_enter Try.func83, Try.ntmps83
      go_upto_region 1 with fail
      rw [HW.out]
      go_wp2_with (first
        | (go_at_call 83; (with_reducible refine H1.out.mono ?_); go_must (rintro e w1 ⟨rfl, hb1⟩))
        | (go_at_call 87; (with_reducible refine (H2.out w1).mono ?_); go_must (rintro e w2 ⟨rfl, rfl⟩))
        | fail)
      go_ret
      exact ⟨by rw [hR.out]; rfl, hB.trans (hb1.mono hB.size)⟩
  · have hR := Lib.hid (show topsR o s t = topsP o s t by unfold topsR; rw [if_neg hs])
    rw [hR.out]
    exact tops_pos o s t P Q A A2 pc qc c c2 w hM hs hsk htk hA

end Go.Proofs.Ytgjmodclgdkodaa

/- walk; Size. -/

namespace Go.Proofs.Ytgjmodclgdkodaa

open Go.RowKit Go.Shelf
attribute [local go_sem] Oper.semAt_some
set_option maxRecDepth 100000

end Go.Proofs.Ytgjmodclgdkodaa

/- Size. -/

namespace Go.Proofs.Ytgjmodclgdkodaa

open Go.RowKit Go.Shelf
attribute [local go_sem] Oper.semAt_some
set_option maxRecDepth 100000

theorem vis_len (t : Tm) : ∀ p, (vis p t).length = t.size := by
  have key : ∀ xs : List Tm, (∀ t ∈ xs, ∀ p, (vis p t).length = t.size) → ∀ (p : List Int) (i : Nat), (visL p i xs).length = sizes xs := by
    intro xs
    induction xs with
    | nil => intro _ p i; simp [visL, sizes]
    | cons x xs ih =>
      intro h p i
      simp only [visL, sizes, List.length_append, h x (by simp), ih (fun t ht => h t (by simp [ht]))]
  refine Tm.ind (P := fun t => ∀ p, (vis p t).length = t.size) (fun f xs ih p => ?_) t
  simp only [vis, Tm.size, List.length_cons, key xs ih]

theorem pre_len {t : Tm} {pre : List Vis} (h : pre.map Vis.key <+: vis [] t) : pre.length ≤ t.size := by
  have := h.length_le
  rw [vis_len, List.length_map] at this
  exact this

/-- What a range's record turns, where a body's cells are asked. -/
theorem put_block {W : World} {l g : Nat} {r : Loop} {o : Obj} {cs : Array Value} {t : TypeId} {z : Nat × Nat} (h : W.heap[g]? = some (.cells cs t z)) (hl : W.heap[l]? = some (.loop r)) : (W.putObj l o).heap[g]? = some (.cells cs t z) :=
  (World.putObj_heap_other (fun e => by subst e; rw [h] at hl; cases hl)).trans h

end Go.Proofs.Ytgjmodclgdkodaa

/- Depth, Ground. Ground. Rising rows of numbers, in plain words: sorted and made single, or put in one after the other. -/

namespace Go.Proofs.Ytgjmodclgdkodaa

open Go.RowKit Go.Shelf

attribute [local go_sem] Oper.semAt_some
set_option maxRecDepth 100000

/-- The longest place of these, and one more. -/
def maxP : List (List Int × Tm) → Nat
  | [] => 0
  | x :: l => max (1 + x.1.length) (maxP l)

theorem maxP_app : ∀ (a b : List (List Int × Tm)), maxP (a ++ b) = max (maxP a) (maxP b)
  | [], b => by simp [maxP]
  | x :: a, b => by simp only [List.cons_append, maxP, maxP_app a b]; omega

theorem maxP_vis (t : Tm) : ∀ p, maxP (vis p t) = p.length + t.depth := by
  have key : ∀ xs : List Tm, (∀ t ∈ xs, ∀ p, maxP (vis p t) = p.length + t.depth) → ∀ (p : List Int) (i : Nat), maxP (visL p i xs) = if xs = [] then 0 else p.length + 1 + depths xs := by
    intro xs
    induction xs with
    | nil => intro _ p i; simp [visL, maxP]
    | cons x xs ih =>
      intro h p i
      have h1 := h x (by simp) (p ++ [(i : Int)])
      have h2 := ih (fun t ht => h t (by simp [ht])) p (i + 1)
      simp only [visL, maxP_app, h1, h2, depths, List.length_append, List.length_cons, List.length_nil]
      rw [if_neg (show ¬ (x :: xs = []) by simp)]
      have := depth_pos x
      by_cases e : xs = []
      · rw [if_pos e, e]; simp only [depths]; omega
      · rw [if_neg e]; omega
  refine Tm.ind (P := fun t => ∀ p, maxP (vis p t) = p.length + t.depth) (fun f xs ih p => ?_) t
  simp only [vis, Tm.depth, maxP, key xs ih]
  by_cases e : xs = []
  · rw [if_pos e, e]; simp only [depths]; omega
  · rw [if_neg e]; omega

theorem maxP_mem {l : List (List Int × Tm)} {x : List Int × Tm} (h : x ∈ l) : 1 + x.1.length ≤ maxP l := by
  induction l with
  | nil => simp at h
  | cons y l ih =>
    simp only [List.mem_cons] at h
    simp only [maxP]
    rcases h with rfl | h
    · omega
    · have := ih h; omega

theorem maxP_pre {t : Tm} {pre : List Vis} (h : pre.map Vis.key <+: vis [] t) : maxP (pre.map Vis.key) ≤ maxP (vis [] t) := by
  obtain ⟨r, hr⟩ := h
  rw [← hr, maxP_app]; omega

theorem pre_mem {t : Tm} {pre : List Vis} {x : Vis} (h : (pre ++ [x]).map Vis.key <+: vis [] t) : x.key ∈ vis [] t := h.subset (by simp)

end Go.Proofs.Ytgjmodclgdkodaa

namespace Go.Proofs.Ytgjmodclgdkodaa

open Go.RowKit Go.Shelf

attribute [local go_sem] Oper.semAt_some
set_option maxRecDepth 100000

/-- The variables' numbers that stand in these, in order. -/
def vnums : List (List Int × Tm) → List Int
  | [] => []
  | x :: l => if x.2.fn < 0 then (-1 - x.2.fn) :: vnums l else vnums l

theorem vnums_app : ∀ (a b : List (List Int × Tm)), vnums (a ++ b) = vnums a ++ vnums b
  | [], b => by simp [vnums]
  | x :: a, b => by
    simp only [List.cons_append, vnums, vnums_app a b]
    split <;> simp

theorem vnums_snoc_neg {pre : List Vis} {x : Vis} (h : x.t.fn < 0) : vnums ((pre ++ [x]).map Vis.key) = vnums (pre.map Vis.key) ++ [-1 - x.t.fn] := by
  rw [List.map_append, vnums_app]
  simp only [List.map_cons, List.map_nil, vnums, Vis.key, if_pos h]

theorem vnums_snoc_pos {pre : List Vis} {x : Vis} (h : ¬ x.t.fn < 0) : vnums ((pre ++ [x]).map Vis.key) = vnums (pre.map Vis.key) := by
  rw [List.map_append, vnums_app]
  simp only [List.map_cons, List.map_nil, vnums, Vis.key, if_neg h, List.append_nil]

theorem vnums_pre {t : Tm} {pre : List Vis} (h : pre.map Vis.key <+: vis [] t) : vnums (pre.map Vis.key) <+: vnums (vis [] t) := by
  obtain ⟨r, hr⟩ := h
  rw [← hr, vnums_app]
  exact List.prefix_append _ _

theorem stp_alloc {N P : Nat → Prop} (W : World) (o : Obj) (hN : ∀ g, N g → g < W.heap.size) : Stp N (fun _ => P) W (W.alloc o) :=
  ⟨(Keeps.alloc W o).mono fun g hg => hg.elim (hN g) (fun e => e.1), fun _ e => .inl e⟩

end Go.Proofs.Ytgjmodclgdkodaa

namespace Go.Proofs.Ytgjmodclgdkodaa

open Go.RowKit

mutual
/-- The variables' numbers in a term, in order. -/
def vn : Tm → List Int
  | .node f xs => (if f < 0 then [-1 - f] else []) ++ vnL xs
def vnL : List Tm → List Int
  | [] => []
  | t :: ts => vn t ++ vnL ts
end

theorem vnums_vis (t : Tm) : ∀ p, vnums (vis p t) = vn t := by
  have key : ∀ xs : List Tm, (∀ t ∈ xs, ∀ p, vnums (vis p t) = vn t) → ∀ (p : List Int) (i : Nat), vnums (visL p i xs) = vnL xs := by
    intro xs
    induction xs with
    | nil => intro _ p i; simp [visL, vnums, vnL]
    | cons x xs ih =>
      intro h p i
      simp only [visL, vnL, vnums_app, h x (by simp), ih (fun t ht => h t (by simp [ht]))]
  refine Tm.ind (P := fun t => ∀ p, vnums (vis p t) = vn t) (fun f xs ih p => ?_) t
  simp only [vis, vn, vnums, key xs ih, Tm.fn]
  split <;> simp

theorem vnL_app : ∀ (a b : List Tm), vnL (a ++ b) = vnL a ++ vnL b
  | [], b => by simp [vnL]
  | x :: a, b => by simp only [List.cons_append, vnL, vnL_app a b, List.append_assoc]

theorem vnL_take {xs : List Tm} {k : Nat} {u : Tm} (h : xs[k]? = some u) : vnL (xs.take (k + 1)) = vnL (xs.take k) ++ vn u := by
  rw [List.take_add_one, h, vnL_app]
  simp [vnL]

theorem vn_len (t : Tm) : (vn t).length ≤ t.size := by
  have key : ∀ xs : List Tm, (∀ t ∈ xs, (vn t).length ≤ t.size) → (vnL xs).length ≤ sizes xs := by
    intro xs
    induction xs with
    | nil => intro _; simp [vnL]
    | cons x xs ih =>
      intro h
      have h1 := h x (by simp)
      have h2 := ih fun t ht => h t (by simp [ht])
      simp only [vnL, sizes, List.length_append]
      omega
  refine Tm.ind (P := fun t => (vn t).length ≤ t.size) (fun f xs ih => ?_) t
  have := key xs ih
  simp only [vn, Tm.size, List.length_append]
  split <;> simp <;> omega

/-- One number put into a row, from a place on: none, if it stands there. -/
def insGo (v : Int) : List Int → Bool → List Int → Option (List Int)
  | [], done, out => some (if done then out else out ++ [v])
  | x :: r, done, out => if x = v then none else if v < x ∧ done = false then insGo v r true (out ++ [v] ++ [x]) else insGo v r done (out ++ [x])

def insI (l : List Int) (v : Int) : List Int := (insGo v l false []).getD l

theorem insGo_true (v : Int) : ∀ (r out : List Int), v ∉ r → insGo v r true out = some (out ++ r)
  | [], out, _ => by simp [insGo]
  | x :: r, out, h => by
    simp only [List.mem_cons, not_or] at h
    simp only [insGo, if_neg (show ¬ x = v from fun e => h.1 e.symm)]
    rw [if_neg (by simp), insGo_true v r _ h.2]
    simp

theorem insGo_mem (v : Int) : ∀ (r : List Int) (d : Bool) (out : List Int), v ∈ r → insGo v r d out = none
  | x :: r, d, out, h => by
    simp only [insGo]
    by_cases e : x = v
    · rw [if_pos e]
    · rw [if_neg e]
      have h2 : v ∈ r := by
        rcases List.mem_cons.1 h with h | h
        · exact absurd h.symm e
        · exact h
      split
      · exact insGo_mem v r _ _ h2
      · exact insGo_mem v r _ _ h2

theorem insGo_false (v : Int) : ∀ (r out : List Int), r.Pairwise (· < ·) → v ∉ r → ∃ a b, r = a ++ b ∧ insGo v r false out = some (out ++ a ++ v :: b) ∧ (∀ x ∈ a, x < v) ∧ ∀ x ∈ b, v < x
  | [], out, _, _ => ⟨[], [], rfl, by simp [insGo], by simp, by simp⟩
  | x :: r, out, hp, h => by
    simp only [List.mem_cons, not_or] at h
    rw [List.pairwise_cons] at hp
    have hne : ¬ x = v := fun e => h.1 e.symm
    by_cases hx : v < x
    · refine ⟨[], x :: r, rfl, ?_, by simp, fun y hy => ?_⟩
      · simp only [insGo, if_neg hne]
        rw [if_pos ⟨hx, by trivial⟩, insGo_true v r _ h.2]
        simp
      · rcases List.mem_cons.1 hy with rfl | hy
        · exact hx
        · have := hp.1 y hy; omega
    · obtain ⟨a, b, e1, e2, e3, e4⟩ := insGo_false v r (out ++ [x]) hp.2 h.2
      refine ⟨x :: a, b, by rw [e1]; rfl, ?_, fun y hy => ?_, e4⟩
      · simp only [insGo, if_neg hne]
        rw [if_neg (by omega), e2]
        simp
      · rcases List.mem_cons.1 hy with rfl | hy
        · omega
        · exact e3 y hy

theorem insI_rise {l : List Int} (v : Int) (h : l.Pairwise (· < ·)) : (insI l v).Pairwise (· < ·) ∧ ∀ x, x ∈ insI l v ↔ x ∈ l ∨ x = v := by
  unfold insI
  by_cases hv : v ∈ l
  · rw [insGo_mem v l _ _ hv]
    refine ⟨h, fun x => ⟨.inl, fun e => e.elim id fun e => by rw [e]; exact hv⟩⟩
  · obtain ⟨a, b, e1, e2, e3, e4⟩ := insGo_false v l [] h hv
    rw [e2]
    simp only [Option.getD_some, List.nil_append]
    rw [e1] at h
    obtain ⟨ha, hb, hab⟩ := List.pairwise_append.1 h
    refine ⟨List.pairwise_append.2 ⟨ha, List.pairwise_cons.2 ⟨e4, hb⟩, fun x hx y hy => ?_⟩, fun x => ?_⟩
    · rcases List.mem_cons.1 hy with rfl | hy
      · exact e3 x hx
      · exact hab x hx y hy
    · rw [e1]
      simp only [List.mem_append, List.mem_cons]
      constructor
      · rintro (h | h | h)
        · exact .inl (.inl h)
        · exact .inr h
        · exact .inl (.inr h)
      · rintro ((h | h) | h)
        · exact .inl h
        · exact .inr (.inr h)
        · exact .inr (.inl h)

theorem insI_fold : ∀ (r l : List Int), l.Pairwise (· < ·) → (r.foldl insI l).Pairwise (· < ·) ∧ ∀ x, x ∈ r.foldl insI l ↔ x ∈ l ∨ x ∈ r
  | [], l, h => ⟨h, fun x => by simp⟩
  | v :: r, l, h => by
    obtain ⟨h1, h2⟩ := insI_rise v h
    obtain ⟨h3, h4⟩ := insI_fold r (insI l v) h1
    refine ⟨h3, fun x => ?_⟩
    rw [List.foldl_cons, h4, h2]
    simp only [List.mem_cons]
    constructor
    · rintro ((h | h) | h)
      · exact .inl h
      · exact .inr (.inl h)
      · exact .inr (.inr h)
    · rintro (h | h | h)
      · exact .inl (.inl h)
      · exact .inl (.inr h)
      · exact .inr h

/-- Rising rows of the same numbers are the same. -/
theorem rise_eq : ∀ {a b : List Int}, a.Pairwise (· < ·) → b.Pairwise (· < ·) → (∀ x, x ∈ a ↔ x ∈ b) → a = b
  | [], [], _, _, _ => rfl
  | [], y :: b, _, _, h => absurd ((h y).2 (by simp)) (by simp)
  | x :: a, [], _, _, h => absurd ((h x).1 (by simp)) (by simp)
  | x :: a, y :: b, ha, hb, h => by
    rw [List.pairwise_cons] at ha hb
    have e : x = y := by
      have h1 := (h x).1 (by simp)
      have h2 := (h y).2 (by simp)
      rcases List.mem_cons.1 h1 with h1 | h1
      · exact h1
      · rcases List.mem_cons.1 h2 with h2 | h2
        · exact h2.symm
        · have := hb.1 x h1; have := ha.1 y h2; omega
    subst e
    rw [rise_eq ha.2 hb.2 fun z => ?_]
    constructor
    · intro hz
      rcases List.mem_cons.1 ((h z).1 (by simp [hz])) with e | e
      · have := ha.1 z hz; omega
      · exact e
    · intro hz
      rcases List.mem_cons.1 ((h z).2 (by simp [hz])) with e | e
      · have := hb.1 z hz; omega
      · exact e

open Go.Lib in

theorem comp_rise (d : Array Int) (hs : ∀ i j, i ≤ j → j < d.size → d[i]! ≤ d[j]!) : ∀ m, m ≤ d.size → (compactUpTo d m).Pairwise (· < ·) ∧ ∀ x, x ∈ compactUpTo d m ↔ ∃ j, j < m ∧ d[j]! = x
  | 0, _ => by simp [compactUpTo]
  | m + 1, hm => by
    obtain ⟨h1, h2⟩ := comp_rise d hs m (by omega)
    rw [compactUpTo_succ]
    by_cases hk : keeps d m = true
    · rw [if_pos hk]
      refine ⟨List.pairwise_append.2 ⟨h1, by simp, fun x hx y hy => ?_⟩, fun x => ?_⟩
      · simp only [List.mem_cons, List.not_mem_nil, or_false] at hy
        subst hy
        obtain ⟨j, hj, rfl⟩ := (h2 x).1 hx
        have h3 := hs j (m - 1) (by omega) (by omega)
        have h4 := hs (m - 1) m (by omega) (by omega)
        simp only [keeps, decide_eq_true_eq] at hk
        rcases hk with hk | hk
        · omega
        · omega
      · rw [List.mem_append, h2]
        simp only [List.mem_cons, List.not_mem_nil, or_false]
        constructor
        · rintro (⟨j, hj, e⟩ | rfl)
          · exact ⟨j, by omega, e⟩
          · exact ⟨m, by omega, rfl⟩
        · rintro ⟨j, hj, e⟩
          by_cases e2 : j = m
          · subst e2; exact .inr e.symm
          · exact .inl ⟨j, by omega, e⟩
    · rw [if_neg hk, List.append_nil]
      simp only [keeps, decide_eq_true_eq, not_or, ne_eq, Classical.not_not] at hk
      refine ⟨h1, fun x => ?_⟩
      rw [h2]
      constructor
      · rintro ⟨j, hj, e⟩; exact ⟨j, by omega, e⟩
      · rintro ⟨j, hj, e⟩
        by_cases e2 : j = m
        · subst e2; exact ⟨j - 1, by omega, by rw [← hk.2]; exact e⟩
        · exact ⟨j, by omega, e⟩

open Go.Lib in

/-- Sorted and made single, or put in one after the other: the same row. -/
theorem sort_ins (r : List Int) : compact (r.mergeSort fun x y => decide (x ≤ y)) = r.foldl insI [] := by
  have hp : (r.mergeSort fun x y => decide (x ≤ y)).Pairwise (fun x y => decide (x ≤ y) = true) := List.pairwise_mergeSort (fun a b c h1 h2 => by simp at *; omega) (fun a b => by simp; omega) r
  have hmem : ∀ x, x ∈ r.mergeSort (fun x y => decide (x ≤ y)) ↔ x ∈ r := fun x => List.mem_mergeSort
  generalize r.mergeSort (fun x y => decide (x ≤ y)) = z at hp hmem
  obtain ⟨h1, h2⟩ := insI_fold r [] List.Pairwise.nil
  obtain ⟨h3, h4⟩ := comp_rise z.toArray (fun i j hij hj => by
    have hj' : j < z.length := by simpa using hj
    have ei : z.toArray[i]! = z[i]'(by omega) := by rw [getElem!_pos _ i (by simpa using (by omega : i < z.length))]; simp
    have ej : z.toArray[j]! = z[j]'hj' := by rw [getElem!_pos _ j (by simpa using hj')]; simp
    rw [ei, ej]
    by_cases e : i = j
    · subst e; omega
    · have := List.pairwise_iff_getElem.1 hp i j (by omega) hj' (by omega)
      simpa using this) z.length (by simp)
  refine rise_eq h3 h1 fun x => ?_
  rw [show (x ∈ compact z ↔ x ∈ compactUpTo z.toArray z.length) from Iff.rfl, h4, h2, ← hmem]
  simp only [List.not_mem_nil, false_or]
  constructor
  · rintro ⟨j, hj, e⟩
    rw [getElem!_pos _ j (by simpa using hj)] at e
    rw [← e]
    simp
  · intro hx
    obtain ⟨j, hj, e⟩ := List.mem_iff_getElem.1 hx
    exact ⟨j, hj, by rw [getElem!_pos _ j (by simpa using hj)]; simpa using e⟩

end Go.Proofs.Ytgjmodclgdkodaa

/- The document's own answer: order (of variables). rename, again: the function that tells the numbers is asked for those of some variables alone. A map from variables to places, of the call's own: the function that numbers variables in the order in which they are met. -/

namespace Go.Proofs.Ytgjmodclgdkodaa

open Go.RowKit Go.Shelf
set_option maxRecDepth 100000

/-- A number is put behind those that are there, if it is not. -/
def ordI (l : List Int) (v : Int) : List Int := if v ∈ l then l else l ++ [v]

theorem ordI_len (l : List Int) (v : Int) : (ordI l v).length ≤ l.length + 1 := by
  unfold ordI
  split
  · omega
  · simp

theorem ord_len : ∀ (r l : List Int), (r.foldl ordI l).length ≤ l.length + r.length
  | [], l => by simp
  | v :: r, l => by
    have h1 := ord_len r (ordI l v)
    have h2 := ordI_len l v
    simp only [List.foldl_cons, List.length_cons]
    omega

theorem vnL_le' (xs : List Tm) (k : Nat) : (vnL (xs.take k)).length ≤ (vnL xs).length := by
  have := congrArg List.length (vnL_app (xs.take k) (xs.drop k))
  rw [List.take_append_drop, List.length_append] at this
  omega

theorem OrdW.refl {base : Nat} {v : Value} {w : World} {l : List Int} (h : IntsR w base v l) : OrdW base v w v l w := ⟨h, World.grownBy.refl w _, fun _ e => .inl e⟩

theorem OrdW.old {base : Nat} {v v' : Value} {w w' : World} {l : List Int} (h : OrdW base v w v' l w') {g : Nat} (hg : g < w.heap.size) (hn : v.ownBlock ≠ some g) : w'.heap[g]? = w.heap[g]? := h.gr.block g hg fun e => hn e.symm

theorem OrdW.step {base : Nat} {v v1 v2 : Value} {w w1 w2 : World} {l1 l2 : List Int} (h : OrdW base v w v1 l1 w1) (h2 : OrdW base v1 w1 v2 l2 w2) : OrdW base v w v2 l2 w2 := by
  have hs := h.gr.size
  refine ⟨h2.row, ⟨h2.gr.os.trans h.gr.os, h2.gr.tape.trans h.gr.tape, h2.gr.output.trans h.gr.output, Nat.le_trans hs h2.gr.size, fun g hg hn => ?_⟩, fun g e => ?_⟩
  · refine (h2.gr.block g (Nat.lt_of_lt_of_le hg hs) fun e => ?_).trans (h.gr.block g hg hn)
    rcases h.own g e.symm with h' | h'
    · exact hn h'.symm
    · omega
  · rcases h2.own g e with h' | h'
    · exact h.own g h'
    · exact .inr (by omega)

theorem OrdW.below {base : Nat} {v : Value} {w w1 : World} {l : List Int} (h : IntsR w base v l) (hb : Below w.heap.size w w1) : OrdW base v w v l w1 :=
  ⟨⟨row_keep h.row fun g e => hb.block g (row_lt h.row g e).2, h.i64⟩, ⟨hb.os, hb.tape, hb.output, hb.size, fun k hk _ => hb.block k hk⟩, fun _ e => .inl e⟩

def OrdPost (base : Nat) (v : Value) (l : List Int) (w : World) (e : Ending) (w' : World) : Prop := ∃ v', e = .returned v' ∧ OrdW base v w v' l w'

end Go.Proofs.Ytgjmodclgdkodaa

namespace Go.Proofs.Ytgjmodclgdkodaa

open Go.RowKit Go.Shelf
set_option maxRecDepth 100000

mutual
/-- Each variable in the term is one of V's. -/
def VT (V : Int → Prop) : Tm → Prop
  | .node f xs => (f < 0 → V (-1 - f)) ∧ VL V xs
def VL (V : Int → Prop) : List Tm → Prop
  | [] => True
  | t :: ts => VT V t ∧ VL V ts
end

theorem VL_mem {V : Int → Prop} : ∀ {xs : List Tm} {t : Tm}, VL V xs → t ∈ xs → VT V t
  | [], _, _, h => by simp at h
  | x :: xs, t, hv, h => by
    simp only [VL] at hv
    rcases List.mem_cons.1 h with rfl | h
    · exact hv.1
    · exact VL_mem hv.2 h

/-- What is asked of the function that tells the numbers. -/
structure NumV {σ : Type} (V : Int → Prop) (nx : σ → Int → σ × Int) (kn : FuncId) (nc : Array Value) (C D N : Nat → Prop) (I : σ → World → Prop) (B0 : Nat) : Prop where
  ent : ∀ (args : Array Value) (w : World), (callFunc kn args).run Try.prog w = .ok (.enter kn args) w
  call : ∀ (s : σ) (v : Int) (W : World), B0 ≤ W.heap.size → I s W → 0 ≤ v → v ≤ 9223372036854775807 → V v → Calls Try.prog kn (#[.int .i64 v] ++ nc) W fun e W' => e = .returned (.int .i64 (nx s v).2) ∧ I64 (nx s v).2 ∧ I (nx s v).1 W' ∧ KeepsC C W W'
  stay : ∀ s W W', I s W → Keeps D W W' → I s W'
  cb : ∀ g, C g → g < B0
  db : ∀ g, D g → g < B0
  nb : ∀ g, N g → g < B0
  nc : ∀ g, N g → ¬ C g

section

variable {σ : Type} {V : Int → Prop} {nx : σ → Int → σ × Int} {kn : FuncId} {nc : Array Value} {C D N : Nat → Prop} {I : σ → World → Prop} {B0 : Nat}

theorem renV_fin (hN : NumV V nx kn nc C D N I B0) {s s1 : σ} {f f' : Int} {xs : List Tm} {A3 : Option Addr} {c3 : Nat} {w W w1 w3 : World} (hB0 : B0 ≤ w.heap.size) (hB : Below w.heap.size w W) (hk1 : KeepsC C W w1) (hk3 : KeepsC C w1 w3)
    (hO3 : OwnT w3 w1.heap.size w3.heap.size A3 (renL nx s1 xs).2) (hI3 : I (renL nx s1 xs).1 w3) (hF : renF nx s f = (s1, f')) (h64 : I64 f') (hW : w.heap.size + 2 < W.heap.size) :
    RenPost C I (renT nx s (.node f xs)) w (.returned (.agg #[.int .i64 f', .slice A3 (renL nx s1 xs).2.length c3])) ((w3.setCell ⟨w.heap.size + 1 + 1, 0, none⟩ (.int .i64 f')).setCell ⟨w.heap.size + 1 + 1, 1, none⟩ (.slice A3 (renL nx s1 xs).2.length c3)) := by
  have hr : renT nx s (.node f xs) = ((renL nx s1 xs).1, .node f' (renL nx s1 xs).2) := by simp only [renT, hF]
  have hz1 := hk1.size
  have hoth : ∀ g, g ≠ w.heap.size + 1 + 1 → ((w3.setCell ⟨w.heap.size + 1 + 1, 0, none⟩ (.int .i64 f')).setCell ⟨w.heap.size + 1 + 1, 1, none⟩ (.slice A3 (renL nx s1 xs).2.length c3)).heap[g]? = w3.heap[g]? := fun g e => (heap_setCell_other _ _ _ _ e).trans (heap_setCell_other _ _ _ _ e)
  rw [hr]
  refine ⟨A3, c3, rfl, h64, ?_, ?_, ?_⟩
  · exact OwnT.wide (lo := w1.heap.size) (hi := w3.heap.size) (hO3.keep fun g h1 _ => hoth g (by omega)) (by omega) (by simp)
  · exact hN.stay _ _ _ hI3 ⟨rfl, rfl, rfl, by simp, fun g e => hoth g (by have := hN.db g e; omega)⟩
  · exact ((((KeepsC.of_below hB).trans hk1).trans hk3).set (by show _ ≤ w.heap.size + 1 + 1; omega) _).set (by show _ ≤ w.heap.size + 1 + 1; omega) _

end

end Go.Proofs.Ytgjmodclgdkodaa

namespace Go.Proofs.Ytgjmodclgdkodaa

open Go.RowKit Go.Shelf Go.Maps
set_option maxRecDepth 100000

theorem intLaw : Keyed Try.prog 3 := int_keyed Try.underlying3

theorem zeroIntV (w : World) : (zeroValue 3).run Try.prog w = .ok (.int .i64 0) w := by kernel_rfl

theorem keyOf_v {x : Int} (hx : I64 x) : keyOf Try.prog 3 (.int .i64 x) = some (.int .i64 x) :=
  keyOf_int_mk Try.underlying3 (WalkArith.wf_i64 ⟨by have := hx.1; omega, by have := hx.2; omega⟩)

theorem nodup_le : ∀ {l U : List Int}, l.Nodup → (∀ x ∈ l, x ∈ U) → l.length ≤ U.length
  | [], _, _, _ => by simp
  | x :: l, U, hn, hs => by
    have hx := hs x (by simp)
    have h1 := List.length_erase_of_mem hx
    have h2 := List.length_pos_of_mem hx
    rw [List.nodup_cons] at hn
    have ih := nodup_le (l := l) (U := U.erase x) hn.2 fun y hy => (List.mem_erase_of_ne (fun (e : y = x) => hn.1 (by rw [← e]; exact hy))).2 (hs y (by simp [hy]))
    simp only [List.length_cons]
    omega

/-- Block b of w is a map that holds, for each of l, its place there; and nothing else. -/
def IMap (w : World) (b : Nat) (l : List Int) : Prop :=
  ∃ D : DataW Unit, w.ownsMap Try.prog 3 (plainElem Try.prog 3) b l.length D ∧ Maps.size D = l.length ∧ ∀ x, I64 x → ∀ z, D.atKey (.int .i64 x) z = if x ∈ l then .lit (.int .i64 (l.idxOf x : Nat)) else z

theorem IMap.made (w : World) : IMap (w.alloc (.map #[] 0)) w.heap.size [] :=
  ⟨_, World.ownsMap_made w _ _ _, rfl, fun _ _ _ => rfl⟩

theorem IMap.lt {w : World} {b : Nat} {l : List Int} (h : IMap w b l) : b < w.heap.size := h.elim fun _ h => h.1.lt

theorem IMap.kept {w w' : World} {b : Nat} {l : List Int} (h : IMap w b l) (hk : w'.heap[b]? = w.heap[b]?) : IMap w' b l := by
  obtain ⟨D, ⟨es, clock, hb, F, hs, hD⟩, hat⟩ := h
  exact ⟨D, ⟨es, clock, hk.trans hb, F, hs, hD⟩, hat⟩

theorem IMap.look {w : World} {b : Nat} {l : List Int} (h : IMap w b l) {x : Int} (hx : I64 x) :
    (Instr.lookup 99 (.map (some b)) (.int .i64 x) true).run Try.prog w = .ok (.tuple #[.int .i64 (if x ∈ l then (l.idxOf x : Int) else 0), .bool (decide (x ∈ l))]) w := by
  obtain ⟨D, hown, _, hat⟩ := h
  obtain ⟨v, ps, hrun, hv⟩ := hown.look_ok intLaw Try.underlying99 (zeroIntV w) (plainElem_int Try.underlying3 (by decide)) (keyOf_v hx)
  obtain ⟨c, rfl, hc, _⟩ := plainElem_int_inv Try.underlying3 hv
  have e := hat x hx
  have e0 := e (.lit (.int .i64 0))
  have hc' := congrArg Prod.fst hc
  simp only at hc'
  rw [hc'] at e0
  by_cases hm : x ∈ l
  · simp only [hm, if_true, decide_true] at e e0 ⊢
    injection e0 with e0; injection e0 with _ e0; subst e0
    rw [has_true_of_atKey (fun z => e z)] at hrun
    exact hrun
  · simp only [hm, if_false, decide_false] at e e0 ⊢
    injection e0 with e0; injection e0 with _ e0; subst e0
    rw [has_false_of_atKey (fun z => e z)] at hrun
    simpa using hrun

theorem IMap.put {w w0 : World} {b n0 : Nat} {D : DataW Unit} {l : List Int} {v : Int} (hv : I64 v) (hn : v ∉ l) (h0 : w0.ownsMap Try.prog 3 (plainElem Try.prog 3) b n0 D) (hs : Maps.size D = l.length)
    (hat : ∀ x, I64 x → ∀ z, D.atKey (.int .i64 x) z = if x ∈ l then .lit (.int .i64 (l.idxOf x : Nat)) else z)
    (h : w.ownsMap Try.prog 3 (plainElem Try.prog 3) b (l.length + 1) (D.put (.int .i64 v) (.lit (.int .i64 (l.length : Nat))))) : IMap w b (l ++ [v]) := by
  have hno : Maps.has D (.int .i64 v) = false := has_false_of_atKey fun z => by rw [hat v hv z, if_neg hn]
  refine ⟨_, by simpa using h, ?_, fun x hx z => ?_⟩
  · rw [size_put (h0.tidy intLaw), hno, hs]
    simp
  · by_cases e : x = v
    · subst e
      rw [atKey_put_same h0.isMap (intLaw.key (keyOf_v hx)), if_pos (by simp), List.idxOf_append, if_neg hn]
      simp
    · rw [atKey_put_other (fun h => e (by simpa using h)), hat x hx z]
      by_cases hm : x ∈ l
      · rw [if_pos hm, if_pos (by simp [hm]), List.idxOf_append, if_pos hm]
      · rw [if_neg hm, if_neg (by simp [hm, e])]

/-- A variable's number is its place among those that were met. -/
def nxI (l : List Int) (v : Int) : List Int × Int := (ordI l v, ((ordI l v).idxOf v : Nat))

/-- What the function knows. -/
structure NumI (U : List Int) (bx b : Nat) (l : List Int) (w : World) : Prop where
  box : Boxed w bx 99 (.map (some b))
  map : IMap w b l
  nd : l.Nodup
  sub : ∀ x ∈ l, x ∈ U

theorem nxI_in {l : List Int} {v : Int} (h : v ∈ l) : nxI l v = (l, ((l.idxOf v : Nat) : Int)) := by unfold nxI ordI; rw [if_pos h]

theorem nxI_out {l : List Int} {v : Int} (h : v ∉ l) : nxI l v = (l ++ [v], ((l.length : Nat) : Int)) := by
  unfold nxI ordI
  rw [if_neg h, List.idxOf_append, if_neg h]
  simp

end Go.Proofs.Ytgjmodclgdkodaa

/- kbo: the balance; a top laid on it. -/

namespace Go.Proofs.Ytgjmodclgdkodaa

open Go.RowKit Go.Shelf Go.Maps
set_option maxRecDepth 100000

/-- A balance: weights, how many variables lie alone, how much more often each lies on the left; n: how many tops were laid. -/
structure Bal where
  w0 : Int
  w1 : Int
  a0 : Int
  a1 : Int
  V : Int → Int
  n : Nat

/-- Block b of w is a map that tells the numbers of V. -/
def VMap (w : World) (b n : Nat) (V : Int → Int) : Prop :=
  ∃ D : DataW Unit, w.ownsMap Try.prog 3 (plainElem Try.prog 3) b n D ∧ ∀ x, I64 x → D.atKey (.int .i64 x) (.lit (.int .i64 0)) = .lit (.int .i64 (V x))

theorem VMap.lt {w : World} {b n : Nat} {V : Int → Int} (h : VMap w b n V) : b < w.heap.size := h.elim fun _ h => h.1.lt

theorem VMap.kept {w w' : World} {b n : Nat} {V : Int → Int} (h : VMap w b n V) (hk : w'.heap[b]? = w.heap[b]?) : VMap w' b n V := by
  obtain ⟨D, ⟨es, clock, hb, F, hs, hD⟩, hat⟩ := h
  exact ⟨D, ⟨es, clock, hk.trans hb, F, hs, hD⟩, hat⟩

theorem VMap.made (w : World) : VMap (w.alloc (.map #[] 0)) w.heap.size 0 fun _ => 0 :=
  ⟨_, World.ownsMap_made w _ _ _, fun _ _ => rfl⟩

theorem VMap.look {w : World} {b n : Nat} {V : Int → Int} (h : VMap w b n V) {x : Int} (hx : I64 x) :
    (Instr.lookup 99 (.map (some b)) (.int .i64 x) false).run Try.prog w = .ok (.int .i64 (V x)) w := by
  obtain ⟨D, hown, hat⟩ := h
  obtain ⟨c, hrun, hc, _⟩ := hown.lookup_int intLaw Try.underlying99 Try.underlying3 (zeroIntV w) (keyOf_v hx)
  have e0 := hat x hx
  rw [hc] at e0
  injection e0 with e0; injection e0 with _ e0; subst e0
  exact hrun

theorem VMap.put {w : World} {b n : Nat} {V : Int → Int} (h : VMap w b n V) (hn : n < 9223372036854775807) {x v : Int} (hx : I64 x) (hv : I64 v) :
    ∃ w', (Instr.mapUpdate 99 (.map (some b)) (.int .i64 x) (.int .i64 v)).run Try.prog w = .ok () w' ∧ VMap w' b (n + 1) (fun y => if y = x then v else V y) ∧ w.grownBy w' (some b) := by
  obtain ⟨D, hown, hat⟩ := h
  obtain ⟨w', hrun, hown', hgr⟩ := hown.update intLaw Try.underlying99 (by unfold maxLen; omega) (keyOf_v hx) (plainElem_int Try.underlying3 (WalkArith.wf_i64 ⟨by have := hv.1; omega, by have := hv.2; omega⟩))
  refine ⟨w', hrun, ⟨_, hown', fun y hy => ?_⟩, hgr⟩
  by_cases e : y = x
  · subst e
    rw [atKey_put_same (hown.tidy intLaw).isMap (intLaw.key (keyOf_v hx))]
    simp
  · rw [atKey_put_other (fun h => e (by simpa using h)), hat y hy]
    simp [e]

/-- The balance's block and its map's. -/
structure BalM (w : World) (bx bm : Nat) (o : Odr) (P : Option Addr) (pc : Nat) (Q : Option Addr) (qc : Nat) (b : Bal) : Prop where
  box : w.heap[bx]? = some (.cells #[.bool o.lpo, .slice P o.prec.length pc, .slice Q o.wts.length qc, .int .i64 o.var, .map (some bm), .int .i64 b.a0, .int .i64 b.a1, .int .i64 b.w0, .int .i64 b.w1] 103)
  map : VMap w bm b.n b.V
  ne : bx ≠ bm

theorem BalM.keep {w w' : World} {bx bm : Nat} {o : Odr} {P Q : Option Addr} {pc qc : Nat} {b : Bal} (h : BalM w bx bm o P pc Q qc b) (h1 : w'.heap[bx]? = w.heap[bx]?) (h2 : w'.heap[bm]? = w.heap[bm]?) : BalM w' bx bm o P pc Q qc b := ⟨h1.trans h.box, h.map.kept h2, h.ne⟩

theorem cells_9 {W : World} {b : Nat} {v0 v1 v2 v3 v4 v5 v6 v7 v8 : Value} {t : TypeId} (h : W.heap[b]? = some (.cells #[v0, v1, v2, v3, v4, v5, v6, v7, v8] t)) :
    W.cell? ⟨b, 0, none⟩ = some v0 ∧ W.cell? ⟨b, 1, none⟩ = some v1 ∧ W.cell? ⟨b, 2, none⟩ = some v2 ∧ W.cell? ⟨b, 3, none⟩ = some v3 ∧ W.cell? ⟨b, 4, none⟩ = some v4 ∧ W.cell? ⟨b, 5, none⟩ = some v5 ∧ W.cell? ⟨b, 6, none⟩ = some v6 ∧ W.cell? ⟨b, 7, none⟩ = some v7 ∧ W.cell? ⟨b, 8, none⟩ = some v8 := by
  refine ⟨?_, ?_, ?_, ?_, ?_, ?_, ?_, ?_, ?_⟩ <;> simp [World.cell?, h]

/-- A top laid on a side. -/
def sgn (at_ : Int) : Int := if at_ = 0 then 1 else -1

def cntB (o : Odr) (at_ : Int) (b : Bal) (f : Int) : Bal :=
  { w0 := if at_ = 0 then b.w0 + wtI o f else b.w0
    w1 := if at_ = 0 then b.w1 else b.w1 + wtI o f
    a0 := if f < 0 then (if 0 ≤ b.V f * sgn at_ then (if at_ = 0 then b.a0 + 1 else b.a0) else (if at_ = 0 then b.a0 else b.a0 - 1)) else b.a0
    a1 := if f < 0 then (if 0 ≤ b.V f * sgn at_ then (if at_ = 0 then b.a1 else b.a1 + 1) else (if at_ = 0 then b.a1 - 1 else b.a1)) else b.a1
    V := if f < 0 then (fun x => if x = f then b.V f + sgn at_ else b.V x) else b.V
    n := b.n + 1 }

/-- Its numbers are no greater than so many tops can make them. -/
structure BalOK (b : Bal) : Prop where
  n : b.n ≤ 1073741824
  w0 : 0 ≤ b.w0 ∧ b.w0 ≤ 2147483647 * (b.n : Int)
  w1 : 0 ≤ b.w1 ∧ b.w1 ≤ 2147483647 * (b.n : Int)
  a0 : -(b.n : Int) ≤ b.a0 ∧ b.a0 ≤ (b.n : Int)
  a1 : -(b.n : Int) ≤ b.a1 ∧ b.a1 ≤ (b.n : Int)
  V : ∀ x, -(b.n : Int) ≤ b.V x ∧ b.V x ≤ (b.n : Int)

theorem BalOK.next {o : Odr} {at_ : Int} {b : Bal} (h : BalOK b) (hn : b.n + 1 ≤ 1073741824) (f : Int) : BalOK (cntB o at_ b f) := by
  obtain ⟨h1, h2⟩ := wtI_bd o f
  have hs : sgn at_ = 1 ∨ sgn at_ = -1 := by unfold sgn; split <;> simp
  obtain ⟨k0, k1⟩ := h.w0
  obtain ⟨k2, k3⟩ := h.w1
  obtain ⟨k4, k5⟩ := h.a0
  obtain ⟨k6, k7⟩ := h.a1
  refine ⟨hn, ?_, ?_, ?_, ?_, fun x => ?_⟩
  · show 0 ≤ (if at_ = 0 then b.w0 + wtI o f else b.w0) ∧ (if at_ = 0 then b.w0 + wtI o f else b.w0) ≤ 2147483647 * ((b.n + 1 : Nat) : Int)
    split <;> omega
  · show 0 ≤ (if at_ = 0 then b.w1 else b.w1 + wtI o f) ∧ (if at_ = 0 then b.w1 else b.w1 + wtI o f) ≤ 2147483647 * ((b.n + 1 : Nat) : Int)
    split <;> omega
  · show -((b.n + 1 : Nat) : Int) ≤ (cntB o at_ b f).a0 ∧ (cntB o at_ b f).a0 ≤ ((b.n + 1 : Nat) : Int)
    unfold cntB
    simp only
    split
    · split <;> split <;> omega
    · omega
  · show -((b.n + 1 : Nat) : Int) ≤ (cntB o at_ b f).a1 ∧ (cntB o at_ b f).a1 ≤ ((b.n + 1 : Nat) : Int)
    unfold cntB
    simp only
    split
    · split <;> split <;> omega
    · omega
  · show -((b.n + 1 : Nat) : Int) ≤ (cntB o at_ b f).V x ∧ (cntB o at_ b f).V x ≤ ((b.n + 1 : Nat) : Int)
    obtain ⟨k8, k9⟩ := h.V x
    obtain ⟨k10, k11⟩ := h.V f
    unfold cntB
    simp only
    split
    · show -((b.n + 1 : Nat) : Int) ≤ (if x = f then b.V f + sgn at_ else b.V x) ∧ (if x = f then b.V f + sgn at_ else b.V x) ≤ ((b.n + 1 : Nat) : Int)
      split <;> omega
    · omega

end Go.Proofs.Ytgjmodclgdkodaa

