import Derived.Test.YthgglobfkkcdgaaGreatDoorP48S2
import Derived.Test.YthgglobfkkcdgaaGreatDoorP48S3
import Derived.Test.YthgglobfkkcdgaaGreatDoorP48S1
import Derived.Test.YthgglobfkkcdgaaGreatDoorP48S4
import Derived.Deep.LoopGhost
import Derived.Deep.DeepCutAuto
import Derived.RangeFuncBox
import Derived.Laws.EntriesVeiled
namespace Go.Proofs.YthgglobfkkcdgaaGreatDoor
open Go.RowKit
set_option maxRecDepth 100000
mutual
def lowT : Tm → Bool
  | .node f xs => if f < 0 then decide (-48 ≤ f ∧ xs.length = 0) else lowL xs
def lowL : List Tm → Bool
  | [] => true
  | t :: ts => lowT t && lowL ts
end
theorem low_drop {xs : List Tm} {k : Nat} {u : Tm} (h : xs[k]? = some u) : lowL (xs.drop k) = (lowT u && lowL (xs.drop (k + 1))) := by
  have hlt := (List.getElem?_eq_some_iff.1 h).1
  rw [List.drop_eq_getElem_cons hlt]
  rw [List.getElem?_eq_getElem hlt] at h
  injection h with h
  rw [h]
  simp only [lowL]
def RLow (t : Tm) : Prop := ∀ (A : Option Addr) (c : Nat) (w : World), I64 t.fn → Args w w.heap.size A t.args →
  Calls Tryz.prog 71 #[.agg #[.int .i64 t.fn, .slice A t.args.length c], .int .i64 48] w fun e w' => e = .returned (.bool (lowT t)) ∧ Below w.heap.size w w'
set_option maxHeartbeats 1000000 in
theorem refLow_any (t : Tm) : RLow t := by
  refine Tm.ind (P := RLow) (fun f xs ih => ?_) t
  intro A c w hf hA
  simp only [Tm.fn, Tm.args] at hf hA ⊢
  have hlen := hA.len
  obtain ⟨W, hW⟩ : ∃ W, w.alloc (.cells #[.int .i64 f, .slice A xs.length c] 32) = W := ⟨_, rfl⟩
  obtain ⟨hB, hlt, hS⟩ := box_term hW
  have HW := Lib.hid hW
  obtain ⟨x0, x1⟩ := hS W (Below.refl _ _)
  clear hW
  by_cases hf0 : f < 0
  · have hl := Lib.hid (show lowT (.node f xs) = decide (-48 ≤ f ∧ xs.length = 0) by simp only [lowT, if_pos hf0])
    by_cases h48 : -48 ≤ f
    · go_enter Tryz.func71, Tryz.ntmps71
      go_upto_region 1 with fail
      rw [HW.out]
      go_wp2
      go_ret
      exact ⟨ret_bool (by rw [hl.out]; simp only [h48, true_and]; cases xs <;> simp; omega), hB⟩
    · go_enter Tryz.func71, Tryz.ntmps71
      go_upto_region 1 with fail
      rw [HW.out]
      go_wp2
      go_ret
      exact ⟨ret_bool (by rw [hl.out]; exact (decide_eq_false fun h => by have := h.1; omega).symm), hB⟩
  · have hl := Lib.hid (show lowT (.node f xs) = lowL xs by simp only [lowT, if_neg hf0])
    go_enter Tryz.func71, Tryz.ntmps71
    go_upto_region 1 with fail
    rw [HW.out]
    go_wp2
    clear x0 x1
    go_loopw [5] (fun i wr => ∃ k : Nat, k ≤ xs.length ∧ i = .int .i64 (k : Int) ∧ Below W.heap.size W wr ∧ Hid (lowL xs = lowL (xs.drop k))) (fun i _ => xs.length - (intOf i).toNat)
    case atStart => exact ⟨0, Nat.zero_le _, rfl, Below.refl _ _, rfl⟩
    case round =>
      obtain ⟨k, hk, rfl, hBr, H⟩ := hrel
      obtain ⟨_, x1⟩ := hS _ hBr
      by_cases hkl : k < xs.length
      · obtain ⟨u, hu⟩ : ∃ u, xs[k]? = some u := ⟨_, List.getElem?_eq_getElem hkl⟩
        obtain ⟨bb, off, A1, c1, rfl, ha⟩ := (hA.on (hB.trans (hBr.mono hB.size))).get hu
        have e0 := ha.c0
        have e1 := ha.c1
        have hmem := List.mem_of_getElem? hu
        have hd := low_drop hu
        have hsub := Lib.hid ha.sub
        have hu64 := ha.hi
        clear hu ha
        cases hb : lowT u with
        | true =>
          have H2 : Hid (lowL xs = lowL (xs.drop (k + 1))) := by rw [show lowL xs = _ from H.out, hd, hb, Bool.true_and]; rfl
          clear H hd
          go_wp2_with (first
            | (go_at_call 71
               go_must (
               refine (ih u hmem A1 c1 wr hu64 hsub.out).mono ?_
               rintro e w2 ⟨rfl, hb2⟩
               rw [hb]))
            | fail)
          exact ⟨⟨k + 1, by omega, by go_num, hBr.trans (hb2.mono hBr.size), H2⟩, by simp [intOf]; omega⟩
        | false =>
          have H2 : Hid (lowT (.node f xs) = false) := by rw [hl.out, show lowL xs = _ from H.out, hd, hb, Bool.false_and]; rfl
          clear H hd
          go_wp2_with (first
            | (go_at_call 71
               go_must (
               refine (ih u hmem A1 c1 wr hu64 hsub.out).mono ?_
               rintro e w2 ⟨rfl, hb2⟩
               rw [hb]))
            | fail)
          go_ret
          exact ⟨ret_bool H2.out.symm, (hB.trans (hBr.mono hB.size)).trans (hb2.mono (by have := hBr.size; omega))⟩
      · obtain rfl : k = xs.length := by omega
        have H2 : lowT (.node f xs) = true := by rw [hl.out, show lowL xs = _ from H.out]; simp [lowL]
        have H2 := Lib.hid H2
        go_wp2
        go_ret
        exact ⟨ret_bool H2.out.symm, hB.trans (hBr.mono hB.size)⟩
def smallT (t : Tm) : Bool := decide (t.size ≤ 300) && decide (t.depth ≤ 30) && lowT t
set_option maxHeartbeats 1000000 in
theorem refSmall_any (t : Tm) (A : Option Addr) (c : Nat) (w : World) (hsz : t.size ≤ 4611686018427387904) (hf : I64 t.fn) (hA : Args w w.heap.size A t.args) :
    Calls Tryz.prog 38 #[.agg #[.int .i64 t.fn, .slice A t.args.length c], .int .i64 48] w fun e w' => e = .returned (.bool (smallT t)) ∧ Below w.heap.size w w' := by
  have hdz := depth_le_size t
  obtain ⟨W, hW⟩ : ∃ W, w.alloc (.cells #[.int .i64 t.fn, .slice A t.args.length c] 32) = W := ⟨_, rfl⟩
  obtain ⟨hB, hlt, hS⟩ := box_term hW
  have HW := Lib.hid hW
  have HA := Lib.hid (hA.on hB)
  clear hW hA
  by_cases h1 : t.size ≤ 300
  · by_cases h2 : t.depth ≤ 30
    · have hs := Lib.hid (show smallT t = lowT t by simp [smallT, h1, h2])
      go_enter Tryz.func38, Tryz.ntmps38
      go_wp2_with (first
        | (go_at_call 20; go_must (rw [HW.out]; refine (refSize_any t hsz A c W hf HA.out).mono ?_; rintro e w1 ⟨rfl, hb1⟩; obtain ⟨x0, x1⟩ := hS _ hb1))
        | (go_at_call 70; go_must (refine (refDepth_any t (by omega) A c w1 hf (HA.out.on hb1)).mono ?_; rintro e w2 ⟨rfl, hb2⟩; have hB2 := bl_step hb1 hb2; obtain ⟨x2, x3⟩ := hS _ hB2))
        | (go_at_call 71; go_must (refine (refLow_any t A c w2 hf (HA.out.on hB2)).mono ?_; rintro e w3 ⟨rfl, hb3⟩; have hB3 := bl_step hB2 hb3))
        | fail)
      go_ret
      exact ⟨ret_bool hs.out.symm, hB.trans (hB3.mono hB.size)⟩
    · have hs := Lib.hid (show smallT t = false by simp [smallT, h2])
      go_enter Tryz.func38, Tryz.ntmps38
      go_wp2_with (first
        | (go_at_call 20; go_must (rw [HW.out]; refine (refSize_any t hsz A c W hf HA.out).mono ?_; rintro e w1 ⟨rfl, hb1⟩; obtain ⟨x0, x1⟩ := hS _ hb1))
        | (go_at_call 70; go_must (refine (refDepth_any t (by omega) A c w1 hf (HA.out.on hb1)).mono ?_; rintro e w2 ⟨rfl, hb2⟩; have hB2 := bl_step hb1 hb2))
        | fail)
      go_ret
      exact ⟨ret_bool hs.out.symm, hB.trans (hB2.mono hB.size)⟩
  · have hs := Lib.hid (show smallT t = false by simp [smallT, h1])
    go_enter Tryz.func38, Tryz.ntmps38
    go_wp2_with (first
      | (go_at_call 20; go_must (rw [HW.out]; refine (refSize_any t hsz A c W hf HA.out).mono ?_; rintro e w1 ⟨rfl, hb1⟩))
      | fail)
    go_ret
    exact ⟨ret_bool hs.out.symm, hB.trans (hb1.mono hB.size)⟩
end Go.Proofs.YthgglobfkkcdgaaGreatDoor
namespace Go.Proofs.YthgglobfkkcdgaaGreatDoor
open Go.RowKit
set_option maxRecDepth 100000
mutual
def overT (l : List Sm) : Tm → Bool → Bool
  | .node f xs, top => if f < 0 then true else match l[f.toNat]? with
    | none => false
    | some s => if s.arity ≠ xs.length ∨ (s.pred = true ∧ top = false) then false else overL l xs
def overL (l : List Sm) : List Tm → Bool
  | [] => true
  | t :: ts => overT l t false && overL l ts
end
theorem over_drop {l : List Sm} {xs : List Tm} {k : Nat} {u : Tm} (h : xs[k]? = some u) : overL l (xs.drop k) = (overT l u false && overL l (xs.drop (k + 1))) := by
  have hlt := (List.getElem?_eq_some_iff.1 h).1
  rw [List.drop_eq_getElem_cons hlt]
  rw [List.getElem?_eq_getElem hlt] at h
  injection h with h
  rw [h]
  simp only [overL]
section
variable {l : List Sm} {f : Int} {xs : List Tm} {top : Bool} {s : Sm}
theorem over_var (hf : f < 0) : overT l (.node f xs) top = true := by simp only [overT, if_pos hf]
theorem over_out (hf : ¬ f < 0) (h : (l.length : Int) ≤ f) : overT l (.node f xs) top = false := by
  simp only [overT, if_neg hf, List.getElem?_eq_none (show l.length ≤ f.toNat by omega)]
theorem over_bad (hf : ¬ f < 0) (hs : l[f.toNat]? = some s) (hb : s.arity ≠ xs.length ∨ (s.pred = true ∧ top = false)) : overT l (.node f xs) top = false := by
  simp only [overT, if_neg hf, hs, if_pos hb]
theorem over_in (hf : ¬ f < 0) (hs : l[f.toNat]? = some s) (hb : ¬ (s.arity ≠ xs.length ∨ (s.pred = true ∧ top = false))) : overT l (.node f xs) top = overL l xs := by
  simp only [overT, if_neg hf, hs, if_neg hb]
end
def ROver (l : List Sm) (t : Tm) : Prop := ∀ (As A : Option Addr) (cs c : Nat) (top : Bool) (w : World), I64 t.fn → Syms w w.heap.size As l.length l → Args w w.heap.size A t.args →
  Calls Tryz.prog 39 #[.agg #[.slice As l.length cs], .agg #[.int .i64 t.fn, .slice A t.args.length c], .bool top] w fun e w' => e = .returned (.bool (overT l t top)) ∧ Below w.heap.size w w'
set_option maxHeartbeats 2000000 in
theorem refOver_any (l : List Sm) (hl : l.length ≤ 9223372036854775807) (t : Tm) : ROver l t := by
  refine Tm.ind (P := ROver l) (fun f xs ih => ?_) t
  intro As A cs c top w hf hS hA
  simp only [Tm.fn, Tm.args] at hf hA ⊢
  have hlen := hA.len
  obtain ⟨p0, p1⟩ := heap2 w (.cells #[.slice As l.length cs] 24) (.cells #[.int .i64 f, .slice A xs.length c] 32)
  obtain ⟨W, hW⟩ : ∃ W, ((w.alloc (.cells #[.slice As l.length cs] 24)).alloc (.cells #[.int .i64 f, .slice A xs.length c] 32)) = W := ⟨_, rfl⟩
  have hB : Below w.heap.size w W := by rw [← hW]; exact ((Below.refl _ _).alloc (Nat.le_refl _) _).alloc (by simp) _
  rw [hW] at p0 p1
  have hWs : w.heap.size + 1 < W.heap.size := (Array.getElem?_eq_some_iff.1 p1).1
  have HW := Lib.hid hW
  have hSS : ∀ w', Below W.heap.size W w' → w'.cell? ⟨w.heap.size, 0, none⟩ = some (.slice As l.length cs) ∧ w'.cell? ⟨w.heap.size + 1, 1, none⟩ = some (.slice A xs.length c) := fun w' h =>
    ⟨(cells_one ((h.block _ (by omega)).trans p0)).1, (cells_two ((h.block _ hWs).trans p1)).2.1⟩
  obtain ⟨a0, _⟩ := cells_one p0
  obtain ⟨b0, b1, _, _⟩ := cells_two p1
  have hSW := hS.on hB
  have HS := Lib.hid hS
  clear hW p0 p1
  by_cases hf0 : f < 0
  · have ho := Lib.hid (over_var (l := l) (xs := xs) (top := top) hf0)
    go_enter Tryz.func39, Tryz.ntmps39
    go_upto_region 1 with fail
    rw [HW.out]
    go_wp2
    go_ret
    exact ⟨ret_bool ho.out.symm, hB⟩
  · by_cases hout : (l.length : Int) ≤ f
    · have ho := Lib.hid (over_out (xs := xs) (top := top) hf0 hout)
      go_enter Tryz.func39, Tryz.ntmps39
      go_upto_region 1 with fail
      rw [HW.out]
      go_wp2
      go_ret
      exact ⟨ret_bool ho.out.symm, hB⟩
    · obtain ⟨k0, rfl⟩ : ∃ k0 : Nat, f = (k0 : Int) := ⟨f.toNat, by omega⟩
      obtain ⟨s, hs⟩ : ∃ s, l[k0]? = some s := ⟨_, List.getElem?_eq_getElem (by omega)⟩
      obtain ⟨sb, so, rfl, hsb, hsc⟩ := hSW.ad (by omega)
      obtain ⟨y0, y1, y2⟩ := hsc _ _ hs
      have hs' : l[((k0 : Int)).toNat]? = some s := by simpa using hs
      have hlt' : (k0 : Int) < l.length := by omega
      have hge' : (k0 : Int) ≥ 0 := by omega
      have hB5 : Below W.heap.size W (W.alloc (.cells #[.string s.name, .int .i64 s.arity, .bool s.pred] 67)) := (Below.refl _ _).alloc (Nat.le_refl _) _
      by_cases hb : s.arity ≠ xs.length ∨ (s.pred = true ∧ top = false)
      · have ho := Lib.hid (over_bad (xs := xs) hf0 hs' hb)
        by_cases hb1 : s.arity = xs.length
        · obtain ⟨hb3, rfl⟩ := hb.resolve_left (fun h => h hb1)
          clear hs hs' hsc
          go_enter Tryz.func39, Tryz.ntmps39
          go_upto_region 1 with fail
          rw [HW.out]
          go_wp2
          go_ret
          exact ⟨ret_bool ho.out.symm, hB.trans (hB5.mono hB.size) |>.mono (Nat.le_refl _) |> fun h => by simpa [hb1, hb3] using h⟩
        · clear hs hs' hsc
          go_enter Tryz.func39, Tryz.ntmps39
          go_upto_region 1 with fail
          rw [HW.out]
          go_wp2
          go_ret
          exact ⟨ret_bool ho.out.symm, hB.trans (hB5.mono hB.size)⟩
      · have hol := Lib.hid (over_in (xs := xs) hf0 hs' hb)
        have hb1 : s.arity = xs.length := Classical.not_not.1 (fun h => hb (.inl h))
        have hb2 : s.pred = true → top = true := fun h => by
          cases htop : top with
          | true => rfl
          | false => exact absurd (.inr ⟨h, htop⟩) hb
        clear hs hs' hsc hb
        go_enter Tryz.func39, Tryz.ntmps39
        go_upto_region 1 with fail
        rw [HW.out]
        go_upto_region 6 with fail
        go_cut [37] (fun s37 wx => s37 = .bool false ∧ wx = W.alloc (.cells #[.string s.name, .int .i64 s.arity, .bool s.pred] 67))
        case first =>
          by_cases hp : s.pred = true
          · have htop := hb2 hp
            subst htop
            go_wp2
            go_meet
            case rel => exact ⟨rfl, by rw [hb1, hp]⟩
          · have hp' : s.pred = false := by simpa using hp
            go_wp2
            go_meet
            case rel => exact ⟨rfl, by rw [hb1, hp']⟩
        case rest =>
          obtain ⟨rfl, rfl⟩ := hcut
          clear a0 b0 b1 y0 y1 y2
          go_wp2
          go_loopw [8] (fun i wr => ∃ k : Nat, k ≤ xs.length ∧ i = .int .i64 (k : Int) ∧ Below W.heap.size W wr ∧ Hid (overL l xs = overL l (xs.drop k))) (fun i _ => xs.length - (intOf i).toNat)
          case atStart => exact ⟨0, Nat.zero_le _, rfl, by rw [← hb1]; exact hB5, rfl⟩
          case round =>
            obtain ⟨k, hk, rfl, hBr, H⟩ := hrel
            obtain ⟨x0, x1⟩ := hSS _ hBr
            have hBw := hB.trans (hBr.mono hB.size)
            have hBrs := hBr.size
            by_cases hkl : k < xs.length
            · obtain ⟨u, hu⟩ : ∃ u, xs[k]? = some u := ⟨_, List.getElem?_eq_getElem hkl⟩
              obtain ⟨bb, off, A1, c1, rfl, ha⟩ := (hA.on hBw).get hu
              have e0 := ha.c0
              have e1 := ha.c1
              have hbb := ha.hb
              have hmem := List.mem_of_getElem? hu
              have hd := over_drop (l := l) hu
              have hsub : Hid (Args wr.drew wr.drew.heap.size A1 u.args) := ha.sub.drewN 1
              have hsy : Hid (Syms wr.drew wr.drew.heap.size (some ⟨sb, so, none⟩) l.length l) := (HS.out.on hBw).drewN 1
              have hu64 := ha.hi
              have hkeep : ∀ w2, Below wr.drew.heap.size wr.drew w2 → w2.cell? ⟨w.heap.size, 0, none⟩ = some (.slice (some ⟨sb, so, none⟩) l.length cs) ∧ w2.cell? ⟨w.heap.size + 1, 1, none⟩ = some (.slice (some ⟨bb, off, none⟩) xs.length c) ∧ w2.cell? ⟨bb, off + k * 2, none⟩ = some (.int .i64 u.fn) ∧ w2.cell? ⟨bb, off + k * 2 + 1, none⟩ = some (.slice A1 u.args.length c1) := fun w2 h => by
                have h' : Below wr.heap.size wr w2 := ⟨h.os, h.tape, h.output, h.size, h.block⟩
                exact ⟨cell_on h' (by omega) x0, cell_on h' (by omega) x1, cell_on h' hbb e0, cell_on h' hbb e1⟩
              clear hu ha
              cases hb : overT l u false with
              | true =>
                have H2 : Hid (overL l xs = overL l (xs.drop (k + 1))) := by rw [show overL l xs = _ from H.out, hd, hb, Bool.true_and]; rfl
                clear H hd
                go_wp2
                go_region_held3 (fun w' => w'.cell? ⟨w.heap.size, 0, none⟩ = some (.slice (some ⟨sb, so, none⟩) l.length cs) ∧ w'.cell? ⟨w.heap.size + 1, 1, none⟩ = some (.slice (some ⟨bb, off, none⟩) xs.length c) ∧ w'.cell? ⟨bb, off + k * 2, none⟩ = some (.int .i64 u.fn) ∧ w'.cell? ⟨bb, off + k * 2 + 1, none⟩ = some (.slice A1 u.args.length c1))
                  (first | exact ⟨x0, x1, e0, e1⟩ | exact hkeep _ hb2 | fail)
                  (first | (go_at_call 39; refine (ih u hmem (some ⟨sb, so, none⟩) A1 cs c1 false wr.drew hu64 hsy.out hsub.out).mono ?_; rintro e w2 ⟨rfl, hb2⟩; rw [hb]) | fail)
                go_wp2
                exact ⟨⟨k + 1, by omega, by go_num, hBr.trans (Below.mono (B := wr.heap.size) ⟨hb2.os, hb2.tape, hb2.output, hb2.size, hb2.block⟩ hBrs), H2⟩, by simp [intOf]; omega⟩
              | false =>
                have H2 : Hid (overT l (.node (k0 : Int) xs) top = false) := by rw [hol.out, show overL l xs = _ from H.out, hd, hb, Bool.false_and]; rfl
                clear H hd
                go_wp2
                go_region_held3 (fun w' => w'.cell? ⟨w.heap.size, 0, none⟩ = some (.slice (some ⟨sb, so, none⟩) l.length cs) ∧ w'.cell? ⟨w.heap.size + 1, 1, none⟩ = some (.slice (some ⟨bb, off, none⟩) xs.length c) ∧ w'.cell? ⟨bb, off + k * 2, none⟩ = some (.int .i64 u.fn) ∧ w'.cell? ⟨bb, off + k * 2 + 1, none⟩ = some (.slice A1 u.args.length c1))
                  (first | exact ⟨x0, x1, e0, e1⟩ | exact hkeep _ hb2 | fail)
                  (first | (go_at_call 39; refine (ih u hmem (some ⟨sb, so, none⟩) A1 cs c1 false wr.drew hu64 hsy.out hsub.out).mono ?_; rintro e w2 ⟨rfl, hb2⟩; rw [hb]) | fail)
                go_wp2
                go_ret
                exact ⟨ret_bool H2.out.symm, hBw.trans (Below.mono (B := wr.heap.size) ⟨hb2.os, hb2.tape, hb2.output, hb2.size, hb2.block⟩ (by omega))⟩
            · obtain rfl : k = xs.length := by omega
              have H2 : overT l (.node (k0 : Int) xs) top = true := by rw [hol.out, show overL l xs = _ from H.out]; simp [overL]
              have H2 := Lib.hid H2
              go_wp2
              go_ret
              exact ⟨ret_bool H2.out.symm, hBw⟩
def chkP (l : List Sm) (t : Tm) : Int := if checkI l = 0 then (if smallT t = true then (if overT l t true = true then 0 else 2) else 2) else 2
set_option maxHeartbeats 2000000 in
theorem ref2ChkP_any (l : List Sm) (t : Tm) (As A : Option Addr) (n cs c : Nat) (w : World) (hsz : t.size ≤ 4611686018427387904) (hS : Syms w w.heap.size As n l) (hn : n * 32 ≤ 140737488351232) (hf : I64 t.fn) (hA : Args w w.heap.size A t.args) :
    Calls Tryz.prog 19 #[.agg #[.slice As n cs], .agg #[.int .i64 t.fn, .slice A t.args.length c]] w fun e w' => e = .returned (.int .i64 (chkP l t)) ∧ Below w.heap.size w w' := by
  obtain rfl := hS.len
  have hl64 : l.length ≤ 9223372036854775807 := by omega
  obtain ⟨p0, p1⟩ := heap2 w (.cells #[.slice As l.length cs] 24) (.cells #[.int .i64 t.fn, .slice A t.args.length c] 32)
  obtain ⟨W, hW⟩ : ∃ W, ((w.alloc (.cells #[.slice As l.length cs] 24)).alloc (.cells #[.int .i64 t.fn, .slice A t.args.length c] 32)) = W := ⟨_, rfl⟩
  have hB : Below w.heap.size w W := by rw [← hW]; exact ((Below.refl _ _).alloc (Nat.le_refl _) _).alloc (by simp) _
  rw [hW] at p0 p1
  have hWs : w.heap.size + 1 < W.heap.size := (Array.getElem?_eq_some_iff.1 p1).1
  have HW := Lib.hid hW
  have hS' := Lib.hid (hS.on hB)
  have hA' := Lib.hid (hA.on hB)
  have hSS : ∀ w', Below W.heap.size W w' → w'.cell? ⟨w.heap.size, 0, none⟩ = some (.slice As l.length cs) ∧ w'.cell? ⟨w.heap.size + 1, 0, none⟩ = some (.int .i64 t.fn) ∧ w'.cell? ⟨w.heap.size + 1, 1, none⟩ = some (.slice A t.args.length c) := fun w' h =>
    ⟨(cells_one ((h.block _ (by omega)).trans p0)).1, (cells_two ((h.block _ hWs).trans p1)).1, (cells_two ((h.block _ hWs).trans p1)).2.1⟩
  have hc : chkP l t = if checkI l = 0 then (if smallT t = true then (if overT l t true = true then 0 else 2) else 2) else 2 := rfl
  clear hW hS hA
  by_cases h0 : checkI l = 0
  · rw [if_pos h0] at hc
    cases hs : smallT t with
    | true =>
      rw [if_pos hs] at hc
      cases ho : overT l t true with
      | true =>
        rw [if_pos ho] at hc
        have Hc := Lib.hid hc
        clear hc
        go_enter Tryz.func19, Tryz.ntmps19
        go_wp2_with (first
          | (go_at_call 37; go_must (rw [HW.out]; refine (refCheck_any As l.length cs l W hS'.out hn).mono ?_; rintro e w1 ⟨rfl, hb1⟩; rw [h0]; obtain ⟨x0, x1, x2⟩ := hSS _ hb1))
          | (go_at_call 38; go_must (refine (refSmall_any t A c w1 hsz hf (hA'.out.on hb1)).mono ?_; rintro e w2 ⟨rfl, hb2⟩; rw [hs]; have hB2 := bl_step hb1 hb2; obtain ⟨y0, y1, y2⟩ := hSS _ hB2))
          | (go_at_call 39; go_must (refine (refOver_any l hl64 t As A cs c true w2 hf (hS'.out.on hB2) (hA'.out.on hB2)).mono ?_; rintro e w3 ⟨rfl, hb3⟩; rw [ho]; have hB3 := bl_step hB2 hb3))
          | fail)
        go_ret
        exact ⟨ret_int Hc.out.symm, hB.trans (hB3.mono hB.size)⟩
      | false =>
        rw [if_neg (by rw [ho]; decide)] at hc
        have Hc := Lib.hid hc
        clear hc
        go_enter Tryz.func19, Tryz.ntmps19
        go_wp2_with (first
          | (go_at_call 37; go_must (rw [HW.out]; refine (refCheck_any As l.length cs l W hS'.out hn).mono ?_; rintro e w1 ⟨rfl, hb1⟩; rw [h0]; obtain ⟨x0, x1, x2⟩ := hSS _ hb1))
          | (go_at_call 38; go_must (refine (refSmall_any t A c w1 hsz hf (hA'.out.on hb1)).mono ?_; rintro e w2 ⟨rfl, hb2⟩; rw [hs]; have hB2 := bl_step hb1 hb2; obtain ⟨y0, y1, y2⟩ := hSS _ hB2))
          | (go_at_call 39; go_must (refine (refOver_any l hl64 t As A cs c true w2 hf (hS'.out.on hB2) (hA'.out.on hB2)).mono ?_; rintro e w3 ⟨rfl, hb3⟩; rw [ho]; have hB3 := bl_step hB2 hb3))
          | fail)
        go_ret
        exact ⟨ret_int Hc.out.symm, hB.trans (hB3.mono hB.size)⟩
    | false =>
      rw [if_neg (by rw [hs]; decide)] at hc
      have Hc := Lib.hid hc
      clear hc
      go_enter Tryz.func19, Tryz.ntmps19
      go_wp2_with (first
        | (go_at_call 37; go_must (rw [HW.out]; refine (refCheck_any As l.length cs l W hS'.out hn).mono ?_; rintro e w1 ⟨rfl, hb1⟩; rw [h0]; obtain ⟨x0, x1, x2⟩ := hSS _ hb1))
        | (go_at_call 38; go_must (refine (refSmall_any t A c w1 hsz hf (hA'.out.on hb1)).mono ?_; rintro e w2 ⟨rfl, hb2⟩; rw [hs]; have hB2 := bl_step hb1 hb2; obtain ⟨y0, y1, y2⟩ := hSS _ hB2))
        | fail)
      go_ret
      exact ⟨ret_int Hc.out.symm, hB.trans (hB2.mono hB.size)⟩
  · rw [if_neg h0] at hc
    have Hc := Lib.hid hc
    clear hc
    go_enter Tryz.func19, Tryz.ntmps19
    go_wp2_with (first
      | (go_at_call 37; go_must (rw [HW.out]; refine (refCheck_any As l.length cs l W hS'.out hn).mono ?_; rintro e w1 ⟨rfl, hb1⟩))
      | fail)
    go_ret
    exact ⟨ret_int Hc.out.symm, hB.trans (hb1.mono hB.size)⟩
end Go.Proofs.YthgglobfkkcdgaaGreatDoor
namespace Go.Proofs.YthgglobfkkcdgaaGreatDoor
open Go.RowKit
set_option maxRecDepth 100000
set_option maxRecDepth 100000
mutual
def ofT (v : Int) : Tm → Nat
  | .node f xs => (if f = v then 1 else 0) + ofL v xs
def ofL (v : Int) : List Tm → Nat
  | [] => 0
  | t :: ts => ofT v t + ofL v ts
end
end Go.Proofs.YthgglobfkkcdgaaGreatDoor
namespace Go.Proofs.YthgglobfkkcdgaaGreatDoor
def cmpX : List Tm → List Tm → Int
  | [], [] => 0
  | [], _ :: _ => -1
  | _ :: _, [] => 1
  | x :: xs, y :: ys => if cmpT x y ≠ 0 then cmpT x y else cmpX xs ys
theorem cmpX_eq : ∀ xs ys : List Tm, cmpX xs ys = if cmpL xs ys ≠ 0 then cmpL xs ys else numI xs.length ys.length
  | [], [] => by simp [cmpX, cmpL, numI]
  | [], y :: ys => by simp [cmpX, cmpL, numI]
  | x :: xs, [] => by simp [cmpX, cmpL, numI]; omega
  | x :: xs, y :: ys => by
    by_cases h : cmpT x y = 0
    · simp only [cmpX, cmpL, h, ne_eq, not_true_eq_false, if_false]
      rw [cmpX_eq xs ys]
      have : numI (x :: xs).length (y :: ys).length = numI xs.length ys.length := by
        unfold numI
        simp only [List.length_cons]
        by_cases h1 : (xs.length : Int) < ys.length
        · rw [if_pos h1, if_pos (by omega)]
        · rw [if_neg h1, if_neg (by omega)]
          by_cases h2 : (ys.length : Int) < xs.length
          · rw [if_pos h2, if_pos (by omega)]
          · rw [if_neg h2, if_neg (by omega)]
      rw [this]
    · simp only [cmpX, cmpL, ne_eq, h, not_false_eq_true, if_true]
theorem cmpT_x (f g : Int) (xs ys : List Tm) : cmpT (.node f xs) (.node g ys) = if headI f g ≠ 0 then headI f g else cmpX xs ys := by
  rw [cmpX_eq]
  exact cmpT_eq _ _
theorem head_anti (f g : Int) : headI g f = - headI f g := by
  unfold headI
  by_cases h : f = g
  · subst h; simp
  · rw [if_neg h, if_neg (fun e => h e.symm)]
    by_cases h1 : f < 0 ∧ g < 0
    · rw [if_pos h1, if_pos ⟨h1.2, h1.1⟩]
      by_cases h2 : g < f
      · rw [if_pos h2, if_neg (by omega)]; rfl
      · rw [if_neg h2, if_pos (by omega)]
    · rw [if_neg h1, if_neg (fun e => h1 ⟨e.2, e.1⟩)]
      by_cases h2 : f < g
      · rw [if_pos h2, if_neg (by omega)]; rfl
      · rw [if_neg h2, if_pos (by omega)]
theorem head_zero {f g : Int} (h : headI f g = 0) : f = g := by
  unfold headI at h
  split at h
  · assumption
  · split at h
    · split at h <;> omega
    · split at h <;> omega
theorem cmp_anti (t : Tm) : ∀ u, cmpT u t = - cmpT t u := by
  refine Tm.ind (P := fun t => ∀ u, cmpT u t = - cmpT t u) (fun f xs ih u => ?_) t
  obtain ⟨g, ys⟩ := u
  rw [cmpT_x, cmpT_x, head_anti f g]
  have key : ∀ xs : List Tm, (∀ t ∈ xs, ∀ u, cmpT u t = - cmpT t u) → ∀ ys, cmpX ys xs = - cmpX xs ys := by
    intro xs
    induction xs with
    | nil => intro _ ys; cases ys <;> simp [cmpX]
    | cons x xs ihx =>
      intro h ys
      cases ys with
      | nil => simp [cmpX]
      | cons y ys =>
        simp only [cmpX]
        rw [h x (by simp) y, ihx (fun t ht => h t (by simp [ht])) ys]
        by_cases e : cmpT x y = 0
        · simp [e]
        · rw [if_pos (by omega), if_pos e]
  by_cases e : headI f g = 0
  · rw [if_neg (by simp [e]), if_neg (by simp [e]), key xs ih ys]
  · rw [if_pos (by omega), if_pos e]
theorem cmp_zero (t : Tm) : ∀ u, cmpT t u = 0 → t = u := by
  refine Tm.ind (P := fun t => ∀ u, cmpT t u = 0 → t = u) (fun f xs ih u h => ?_) t
  obtain ⟨g, ys⟩ := u
  rw [cmpT_x] at h
  have key : ∀ xs : List Tm, (∀ t ∈ xs, ∀ u, cmpT t u = 0 → t = u) → ∀ ys, cmpX xs ys = 0 → xs = ys := by
    intro xs
    induction xs with
    | nil => intro _ ys h; cases ys <;> simp [cmpX] at h ⊢
    | cons x xs ihx =>
      intro hh ys h
      cases ys with
      | nil => simp [cmpX] at h
      | cons y ys =>
        simp only [cmpX] at h
        by_cases e : cmpT x y = 0
        · rw [if_neg (by simp [e])] at h
          rw [hh x (by simp) y e, ihx (fun t ht => hh t (by simp [ht])) ys h]
        · rw [if_pos e] at h; exact absurd h e
  by_cases e : headI f g = 0
  · rw [if_neg (by simp [e])] at h
    rw [head_zero e, key xs ih ys h]
  · rw [if_pos e] at h; exact absurd h e
theorem cmp_refl (t : Tm) : cmpT t t = 0 := by have := cmp_anti t t; omega
theorem cmp_zero_iff {t u : Tm} : cmpT t u = 0 ↔ t = u := ⟨cmp_zero t u, fun h => by subst h; exact cmp_refl t⟩
end Go.Proofs.YthgglobfkkcdgaaGreatDoor
namespace Go.Proofs.YthgglobfkkcdgaaGreatDoor
open Go.RowKit
set_option maxRecDepth 20000
set_option maxRecDepth 20000
section
variable {ar : List Nat}
def wfTop (ar : List Nat) (f : Int) (n : Nat) : Bool := if f < 0 then decide (n = 0) else decide (f < (ar.length : Int)) && decide (n = ar.getD f.toNat 0)
mutual
def wfT (ar : List Nat) : Tm → Bool
  | .node f xs => wfTop ar f xs.length && wfL ar xs
def wfL (ar : List Nat) : List Tm → Bool
  | [] => true
  | t :: ts => wfT ar t && wfL ar ts
end
theorem wfL_mem {ar : List Nat} : ∀ {xs : List Tm} {t : Tm}, wfL ar xs = true → t ∈ xs → wfT ar t = true
  | [], _, _, h => by simp at h
  | x :: xs, t, h, ht => by
    simp only [wfL, Bool.and_eq_true] at h
    rcases List.mem_cons.1 ht with rfl | ht
    · exact h.1
    · exact wfL_mem h.2 ht
theorem wf_var {ar : List Nat} {f : Int} {xs : List Tm} (h : wfT ar (.node f xs) = true) (hf : f < 0) : xs = [] := by
  rw [wfT, wfTop, if_pos hf, Bool.and_eq_true, decide_eq_true_eq] at h
  exact List.eq_nil_of_length_eq_zero h.1
theorem wf_sym {ar : List Nat} {f : Int} {xs : List Tm} (h : wfT ar (.node f xs) = true) (hf : ¬ f < 0) : f < (ar.length : Int) ∧ xs.length = ar.getD f.toNat 0 := by
  rw [wfT, wfTop, if_neg hf] at h
  simp only [Bool.and_eq_true, decide_eq_true_eq] at h
  exact h.1
theorem wf_args {ar : List Nat} {f : Int} {xs : List Tm} (h : wfT ar (.node f xs) = true) : wfL ar xs = true := by
  rw [wfT, Bool.and_eq_true] at h; exact h.2
structure Gd (ar : List Nat) (t : Tm) : Prop where
  wf : wfT ar t = true
  sz : t.size ≤ 2147483
theorem Gd.arg {f : Int} {xs : List Tm} {x : Tm} (h : Gd ar (.node f xs)) (hx : x ∈ xs) : Gd ar x := by
  refine ⟨wfL_mem (wf_args h.wf) hx, ?_⟩
  have := size_mem hx
  have := h.sz
  rw [Tm.size] at this; omega
theorem of_arg {v f : Int} {xs : List Tm} {x : Tm} (hx : x ∈ xs) : ofT v x ≤ ofT v (.node f xs) := by
  rw [ofT]
  have : ∀ ys : List Tm, x ∈ ys → ofT v x ≤ ofL v ys := by
    intro ys
    induction ys with
    | nil => intro h; simp at h
    | cons y ys ih =>
      intro h
      rw [ofL]
      rcases List.mem_cons.1 h with rfl | h
      · omega
      · have := ih h; omega
  have := this xs hx
  omega
theorem var_of {ar : List Nat} {t : Tm} (hw : wfT ar t = true) (hv : t.fn < 0) : t = .node t.fn [] := by
  obtain ⟨f, xs⟩ := t
  rw [wf_var hw hv]; rfl
theorem of_var {t : Tm} (hw : wfT ar t = true) (hv : t.fn < 0) : ofT t.fn t = 1 := by
  rw [var_of hw hv]
  change ofT t.fn (.node t.fn []) = 1
  rw [ofT, ofL, if_pos rfl]
theorem gd_args {f : Int} {xs : List Tm} (h : Gd ar (.node f xs)) : ∀ x ∈ xs, Gd ar x := fun _ hx => h.arg hx
def grd (t : Tm) : Prop := ∀ v, v < 0 → ofT v t = 0
theorem grd_arg {f : Int} {xs : List Tm} {x : Tm} (h : grd (.node f xs)) (hx : x ∈ xs) : grd x := fun v hv => by
  have := h v hv; have := of_arg (v := v) (f := f) hx; omega
theorem grd_top {f : Int} {xs : List Tm} (h : grd (.node f xs)) : ¬ f < 0 := fun hf => by
  have := h f hf; rw [ofT, if_pos rfl] at this; omega
theorem ofL_app (v : Int) : ∀ xs ys : List Tm, ofL v (xs ++ ys) = ofL v xs + ofL v ys
  | [], ys => by rw [List.nil_append, ofL]; omega
  | x :: xs, ys => by rw [List.cons_append, ofL, ofL, ofL_app v xs ys]; omega
end
end Go.Proofs.YthgglobfkkcdgaaGreatDoor
namespace Go.Proofs.YthgglobfkkcdgaaGreatDoor
open Go.RowKit Go.Shelf Go.Maps
set_option maxRecDepth 100000
set_option maxRecDepth 100000
def arN (a : Int) : Nat := if a < 0 then 2 else a.toNat
def arL (l : List Sm) : List Nat := l.map fun s => arN s.arity
theorem arN_nat (n : Nat) : arN (n : Int) = n := by unfold arN; rw [if_neg (by omega)]; omega
theorem arN_zero {a : Int} (h : arN a = 0) : a = 0 := by
  unfold arN at h
  by_cases ha : a < 0
  · rw [if_pos ha] at h; omega
  · rw [if_neg ha] at h; omega
theorem arN_one {a : Int} (h : arN a = 1) : a = 1 := by
  unfold arN at h
  by_cases ha : a < 0
  · rw [if_pos ha] at h; omega
  · rw [if_neg ha] at h; omega
theorem arL_at {l : List Sm} {i : Nat} {s : Sm} (h : l[i]? = some s) : (arL l).getD i 0 = arN s.arity := by
  unfold arL; rw [List.getD_eq_getElem?_getD, List.getElem?_map, h]; rfl
theorem arL_len (l : List Sm) : (arL l).length = l.length := by unfold arL; simp
mutual
theorem wf_of {l : List Sm} : ∀ (t : Tm) (top : Bool), lowT t = true → overT l t top = true → wfT (arL l) t = true
  | .node f xs, top, h1, h2 => by
    rw [lowT] at h1
    rw [overT] at h2
    rw [wfT, wfTop]
    by_cases hf : f < 0
    · rw [if_pos hf, decide_eq_true_eq] at h1
      rw [if_pos hf]
      have : xs = [] := List.eq_nil_of_length_eq_zero h1.2
      subst this
      rfl
    · rw [if_neg hf] at h1 h2
      rw [if_neg hf]
      cases hs : l[f.toNat]? with
      | none => rw [hs] at h2; cases h2
      | some s =>
        rw [hs] at h2
        by_cases hb : s.arity ≠ xs.length ∨ (s.pred = true ∧ top = false)
        · simp only [if_pos hb] at h2; cases h2
        · simp only [if_neg hb] at h2
          rw [wfL_of xs h1 h2, arL_len, arL_at hs]
          have hlt := (List.getElem?_eq_some_iff.1 hs).1
          have ha : s.arity = xs.length := Decidable.byContradiction fun e => hb (.inl e)
          rw [ha, arN_nat]
          simp only [Bool.and_true, Bool.and_eq_true, decide_eq_true_eq]
          exact ⟨by omega, trivial⟩
theorem wfL_of {l : List Sm} : ∀ (xs : List Tm), lowL xs = true → overL l xs = true → wfL (arL l) xs = true
  | [], _, _ => rfl
  | x :: xs, h1, h2 => by
    rw [lowL, Bool.and_eq_true] at h1
    rw [overL, Bool.and_eq_true] at h2
    rw [wfL, wf_of x false h1.1 h2.1, wfL_of xs h1.2 h2.2]; rfl
end
theorem chkP_gd {l : List Sm} {t : Tm} (h : chkP l t = 0) : Gd (arL l) t := by
  unfold chkP at h
  by_cases h0 : checkI l = 0
  · rw [if_pos h0] at h
    by_cases h1 : smallT t = true
    · rw [if_pos h1] at h
      by_cases h2 : overT l t true = true
      · have h1' := h1
        unfold smallT at h1'
        simp only [Bool.and_eq_true, decide_eq_true_eq] at h1'
        exact ⟨wf_of t true h1'.2 h2, by omega⟩
      · rw [if_neg h2] at h; cases h
    · rw [if_neg h1] at h; cases h
  · rw [if_neg h0] at h; cases h
end Go.Proofs.YthgglobfkkcdgaaGreatDoor
namespace Go.Proofs.YthgglobfkkcdgaaGreatDoor
open Go.RowKit Go.Shelf Go.Maps
set_option maxRecDepth 100000
set_option maxRecDepth 100000
theorem heap5 (w : World) (o0 o1 o2 o3 o4 : Obj) : (((((w.alloc o0).alloc o1).alloc o2).alloc o3).alloc o4).heap[w.heap.size]? = some o0 ∧ (((((w.alloc o0).alloc o1).alloc o2).alloc o3).alloc o4).heap[w.heap.size + 1]? = some o1 ∧ (((((w.alloc o0).alloc o1).alloc o2).alloc o3).alloc o4).heap[w.heap.size + 2]? = some o2 ∧
    (((((w.alloc o0).alloc o1).alloc o2).alloc o3).alloc o4).heap[w.heap.size + 3]? = some o3 ∧ (((((w.alloc o0).alloc o1).alloc o2).alloc o3).alloc o4).heap[w.heap.size + 4]? = some o4 := by
  have e0 := heap_alloc_new w o0
  have e1 := heap_alloc_new (w.alloc o0) o1
  have e2 := heap_alloc_new ((w.alloc o0).alloc o1) o2
  have e3 := heap_alloc_new (((w.alloc o0).alloc o1).alloc o2) o3
  have e4 := heap_alloc_new ((((w.alloc o0).alloc o1).alloc o2).alloc o3) o4
  have s : ∀ (v : World) (o : Obj), (v.alloc o).heap.size = v.heap.size + 1 := fun v o => by simp
  rw [s] at e1
  rw [s, s] at e2
  rw [s, s, s] at e3
  rw [s, s, s, s] at e4
  refine ⟨?_, ?_, ?_, ?_, e4⟩
  · rw [Below.heap_alloc _ _ _ (by simp only [s]; omega), Below.heap_alloc _ _ _ (by simp only [s]; omega), Below.heap_alloc _ _ _ (by simp only [s]; omega), Below.heap_alloc _ _ _ (by simp only [s]; omega)]
    exact e0
  · rw [Below.heap_alloc _ _ _ (by simp only [s]; omega), Below.heap_alloc _ _ _ (by simp only [s]; omega), Below.heap_alloc _ _ _ (by simp only [s]; omega)]
    exact e1
  · rw [Below.heap_alloc _ _ _ (by simp only [s]; omega), Below.heap_alloc _ _ _ (by simp only [s]; omega)]
    exact e2
  · rw [Below.heap_alloc _ _ _ (by simp only [s]; omega)]
    exact e3
theorem below5 (w : World) (o0 o1 o2 o3 o4 : Obj) : Below w.heap.size w (((((w.alloc o0).alloc o1).alloc o2).alloc o3).alloc o4) :=
  (((((Below.refl _ _).alloc (Nat.le_refl _) _).alloc (by simp) _).alloc (by simp; omega) _).alloc (by simp; omega) _).alloc (by simp; omega) _
structure TmK (w : World) (t : Tm) (A : Option Addr) (c : Nat) : Prop where
  i64 : I64 t.fn
  args : ArgsK w (· < w.heap.size) A c t.args
theorem TmK.on {w w' : World} {t : Tm} {A : Option Addr} {c : Nat} (h : TmK w t A c) (hb : Below w.heap.size w w') : TmK w' t A c := ⟨h.i64, h.args.on hb⟩
def turnI (r : Int) : Int := if r = 1 then 3 else if r = 3 then 1 else r
end Go.Proofs.YthgglobfkkcdgaaGreatDoor
namespace Go.Proofs.YthgglobfkkcdgaaGreatDoor
open Go.RowKit Go.Shelf Go.Maps
set_option maxRecDepth 100000
set_option maxRecDepth 100000
end Go.Proofs.YthgglobfkkcdgaaGreatDoor
namespace Go.Proofs.YthgglobfkkcdgaaGreatDoor
open Go.RowKit Go.Shelf
set_option maxRecDepth 100000
def arndEnd (top : Int) : Tm → Tm
  | .node f [x] => if f = top then arndEnd top x else .node f [x]
  | t => t
theorem arnd_step {top f : Int} {x : Tm} (h : f = top) : arndEnd top (.node f [x]) = arndEnd top x := by rw [arndEnd, if_pos h]
theorem arnd_stop {top : Int} {t : Tm} (h : ¬ (t.fn = top ∧ t.args.length = 1)) : arndEnd top t = t := by
  obtain ⟨f, xs⟩ := t
  simp only [Tm.fn, Tm.args] at h
  match xs with
  | [] => rw [arndEnd]; intro _ _ e; cases e
  | [x] =>
    rw [arndEnd, if_neg]
    intro e
    exact h ⟨e, rfl⟩
  | x :: y :: ys => rw [arndEnd]; intro _ _ e; cases e
set_option maxHeartbeats 1000000 in
theorem around_any (s v : Tm) (A A2 : Option Addr) (c c2 : Nat) (w : World) (hA : Args w w.heap.size A s.args) :
    Calls Tryz.prog 132 #[.agg #[.int .i64 s.fn, .slice A s.args.length c], .agg #[.int .i64 v.fn, .slice A2 v.args.length c2]] w fun e w' => e = .returned (.bool (decide ((arndEnd s.fn s).fn = v.fn))) ∧ Below w.heap.size w w' := by
  obtain ⟨q0, q1⟩ := heap2 w (.cells #[.int .i64 s.fn, .slice A s.args.length c] 32) (.cells #[.int .i64 v.fn, .slice A2 v.args.length c2] 32)
  obtain ⟨W, hW⟩ : ∃ W, ((w.alloc (.cells #[.int .i64 s.fn, .slice A s.args.length c] 32)).alloc (.cells #[.int .i64 v.fn, .slice A2 v.args.length c2] 32)) = W := ⟨_, rfl⟩
  have hB : Below w.heap.size w W := by rw [← hW]; exact ((Below.refl _ _).alloc (Nat.le_refl _) _).alloc (by simp) _
  rw [hW] at q0 q1
  have hWs : w.heap.size + 1 < W.heap.size := (Array.getElem?_eq_some_iff.1 q1).1
  obtain ⟨x0, x1, _, _⟩ := cells_two q0
  have HW := Lib.hid hW
  have HA := Lib.hid hA
  obtain ⟨top, ht⟩ : ∃ top, s.fn = top := ⟨_, rfl⟩
  have H0 : Hid (∃ (u : Tm) (A1 : Option Addr) (c1 : Nat), arndEnd top s = arndEnd top u ∧ W.heap[w.heap.size]? = some (.cells #[.int .i64 u.fn, .slice A1 u.args.length c1] 32) ∧ W.heap[w.heap.size + 1]? = some (.cells #[.int .i64 v.fn, .slice A2 v.args.length c2] 32) ∧ Args w w.heap.size A1 u.args ∧ u.size ≤ s.size) := Lib.hid ⟨s, A, c, rfl, q0, q1, hA, Nat.le_refl _⟩
  rw [ht] at HW x0
  rw [ht]
  clear hW hA q0 q1 ht
  go_enter Tryz.func132, Tryz.ntmps132
  go_upto_region 1 with fail
  rw [HW.out]
  go_wp2
  clear x0 x1
  go_loopg [] s.size (fun gk wr => Below w.heap.size w wr ∧ Hid (∃ (u : Tm) (A1 : Option Addr) (c1 : Nat), arndEnd top s = arndEnd top u ∧ wr.heap[w.heap.size]? = some (.cells #[.int .i64 u.fn, .slice A1 u.args.length c1] 32) ∧ wr.heap[w.heap.size + 1]? = some (.cells #[.int .i64 v.fn, .slice A2 v.args.length c2] 32) ∧ Args w w.heap.size A1 u.args ∧ u.size ≤ gk))
  case atStart => exact ⟨hB, H0⟩
  case round =>
    obtain ⟨hBr, H⟩ := hrel
    obtain ⟨u, A1, c1, hev, r0, r1, hA1, hsz⟩ := H.out
    obtain ⟨y0, y1, z0, z1⟩ := cells_two r0
    obtain ⟨y2, y3, _, _⟩ := cells_two r1
    have Hev := Lib.hid hev
    have Hr0 := Lib.hid r0
    have Hr1 := Lib.hid r1
    clear hev r0 r1 H
    by_cases h : u.fn = top ∧ u.args.length = 1
    · obtain ⟨h1, h2⟩ := h
      obtain ⟨f, xs⟩ := u
      simp only [Tm.fn, Tm.args] at h1 h2 hA1 y0 y1 Hr0
      obtain ⟨x, rfl⟩ : ∃ x, xs = [x] := by
        match xs, h2 with
        | [x], _ => exact ⟨x, rfl⟩
      subst h1
      obtain ⟨bb, off, A3, c3, rfl, ha⟩ := hA1.get (i := 0) rfl
      have e0 := cell_on hBr ha.hb ha.c0
      have e1 := cell_on hBr ha.hb ha.c1
      rw [Nat.zero_mul, Nat.add_zero] at e0 e1
      have hev2 := Lib.hid (Hev.out.trans (arnd_step rfl))
      have hsub := Lib.hid ha.sub
      have hlt : x.size < gk := by simp only [Tm.size, sizes] at hsz; omega
      have hne : bb ≠ w.heap.size := by have := ha.hb; omega
      clear ha h2 hsz
      go_wp2
      have hst : ∀ W2 : World, W2 = (wr.setCell ⟨w.heap.size, 0, none⟩ (.int .i64 x.fn)).setCell ⟨w.heap.size, 1, none⟩ (.slice A3 x.args.length c3) → W2.heap[w.heap.size]? = some (.cells #[.int .i64 x.fn, .slice A3 x.args.length c3] 32) ∧ W2.heap[w.heap.size + 1]? = some (.cells #[.int .i64 v.fn, .slice A2 v.args.length c2] 32) := fun W2 e => by
        subst e
        exact ⟨(set2_two Hr0.out).2, (heap_setCell_other _ _ _ _ (show w.heap.size + 1 ≠ w.heap.size by omega)).trans ((heap_setCell_other _ _ _ _ (show w.heap.size + 1 ≠ w.heap.size by omega)).trans Hr1.out)⟩
      go_roundg x.size
      case measure => exact hlt
      case rel => exact ⟨(hBr.setCell (Nat.le_refl _) _).setCell (Nat.le_refl _) _, x, A3, c3, hev2.out, (hst _ rfl).1, (hst _ rfl).2, hsub.out, Nat.le_refl _⟩
    · have hend := Lib.hid (Hev.out.trans (arnd_stop h))
      by_cases h1 : u.fn = top
      · have h1' : (u.fn == top) = true := by simp [h1]
        have h2 : ¬ u.args.length = 1 := fun e => h ⟨h1, e⟩
        have h2' : ((u.args.length : Int) == 1) = false := by simp; omega
        clear h h1 h2
        go_wp2
        go_ret
        exact ⟨ret_bool (by rw [hend.out, Bool.eq_iff_iff, beq_iff_eq, decide_eq_true_eq]), hBr⟩
      · have h1' : (u.fn == top) = false := by simp [h1]
        clear h h1
        go_wp2
        go_ret
        exact ⟨ret_bool (by rw [hend.out, Bool.eq_iff_iff, beq_iff_eq, decide_eq_true_eq]), hBr⟩
def topsP (o : Odr) (s t : Tm) : Int := if t.fn < 0 then (if (arndEnd s.fn s).fn = t.fn then 3 else 0) else
  if o.prec.getD t.fn.toNat 0 < o.prec.getD s.fn.toNat 0 then 3 else if o.prec.getD s.fn.toNat 0 = o.prec.getD t.fn.toNat 0 then 0 else 1
def topsR (o : Odr) (s t : Tm) : Int := if s.fn < 0 then (if t.fn < 0 then 0 else relT (topsP o t s)) else topsP o s t
theorem topsP_bd (o : Odr) (s t : Tm) : 0 ≤ topsP o s t ∧ topsP o s t ≤ 3 := by
  unfold topsP
  split
  · split <;> omega
  · split
    · omega
    · split <;> omega
set_option maxHeartbeats 4000000 in
theorem tops_pos (o : Odr) (s t : Tm) (P Q A A2 : Option Addr) (pc qc c c2 : Nat) (w : World) (hM : OdrM w w.heap.size o P Q) (hs : ¬ s.fn < 0) (hsk : s.fn < (o.prec.length : Int)) (htk : t.fn < (o.prec.length : Int)) (hA : Args w w.heap.size A s.args) :
    Calls Tryz.prog 108 #[.agg #[.bool o.lpo, .slice P o.prec.length pc, .slice Q o.wts.length qc, .int .i64 o.var], .agg #[.int .i64 s.fn, .slice A s.args.length c], .agg #[.int .i64 t.fn, .slice A2 t.args.length c2]] w fun e w' => e = .returned (.int .i64 (topsP o s t)) ∧ Below w.heap.size w w' := by
  obtain ⟨q0, q1, q2⟩ := heap3 w (.cells #[.bool o.lpo, .slice P o.prec.length pc, .slice Q o.wts.length qc, .int .i64 o.var] 38) (.cells #[.int .i64 s.fn, .slice A s.args.length c] 32) (.cells #[.int .i64 t.fn, .slice A2 t.args.length c2] 32)
  obtain ⟨W, hW⟩ : ∃ W, (((w.alloc (.cells #[.bool o.lpo, .slice P o.prec.length pc, .slice Q o.wts.length qc, .int .i64 o.var] 38)).alloc (.cells #[.int .i64 s.fn, .slice A s.args.length c] 32)).alloc (.cells #[.int .i64 t.fn, .slice A2 t.args.length c2] 32)) = W := ⟨_, rfl⟩
  have hB : Below w.heap.size w W := by rw [← hW]; exact (((Below.refl _ _).alloc (Nat.le_refl _) _).alloc (by simp) _).alloc (by simp; omega) _
  rw [hW] at q0 q1 q2
  have hWs : w.heap.size + 1 + 1 < W.heap.size := (Array.getElem?_eq_some_iff.1 q2).1
  have HW := Lib.hid hW
  have Har := Lib.hid (around_any s t A A2 c c2 W (hA.on hB))
  have HP := Lib.hid (hM.p.on hB)
  have H0 := Lib.hid q0
  obtain ⟨x0, x1, _, _⟩ := cells_two q1
  obtain ⟨y0, y1, _, _⟩ := cells_two q2
  have hlater : ∀ x : Later W.heap.size W, x.w.cell? ⟨w.heap.size, 1, none⟩ = some (.slice P o.prec.length pc) ∧ x.w.cell? ⟨w.heap.size + 1, 0, none⟩ = some (.int .i64 s.fn) ∧ x.w.cell? ⟨w.heap.size + 1 + 1, 0, none⟩ = some (.int .i64 t.fn) := fun x =>
    ⟨(cells_four ((x.h.block _ (by omega)).trans q0)).2.1, (cells_two ((x.h.block _ (by omega)).trans q1)).1, (cells_two ((x.h.block _ hWs).trans q2)).1⟩
  have Hl := Lib.hid hlater
  clear hW hA hM q0 q1 q2 hlater
  by_cases ht : t.fn < 0
  · have hR := Lib.hid (show topsP o s t = if (arndEnd s.fn s).fn = t.fn then 3 else 0 by unfold topsP; rw [if_pos ht])
    by_cases ha : (arndEnd s.fn s).fn = t.fn
    · have ha' := Lib.hid (decide_eq_true ha)
      have hR := Lib.hid (show topsP o s t = 3 by rw [hR.out, if_pos ha])
      have l0 : ∀ x : Later W.heap.size W, x.w.cell? ⟨w.heap.size + 1 + 1, 0, none⟩ = some (.int .i64 t.fn) := fun x => (Hl.out x).2.2
      clear ha
      go_enter Tryz.func108, Tryz.ntmps108
      go_upto_region 1 with fail
      rw [HW.out]
      go_upto_region 7 with (first
        | (go_at_call 132; (with_reducible refine Har.out.mono ?_); go_must (rintro e w1 ⟨rfl, hb1⟩; rw [ha'.out]))
        | fail)
      have ht' := decide_eq_true ht
      refine wp_region_later W.heap.size W (by kernel_rfl) (by kernel_rfl) (bl_drewN hb1 1) ?_
      repeat (go_big_quiet_step (fail))
      refine wpQuiet_nil ?_
      rintro _ ⟨z, rfl⟩
      go_wp2
      go_ret
      exact ⟨by rw [hR.out]; rfl, hB.trans (z.h.mono hB.size)⟩
    · have ha' := Lib.hid (decide_eq_false ha)
      have hR := Lib.hid (show topsP o s t = 0 by rw [hR.out, if_neg ha])
      clear ha
      go_enter Tryz.func108, Tryz.ntmps108
      go_upto_region 1 with fail
      rw [HW.out]
      go_wp2_with (first
        | (go_at_call 132; (with_reducible refine Har.out.mono ?_); go_must (rintro e w1 ⟨rfl, hb1⟩; rw [ha'.out]))
        | fail)
      go_ret
      exact ⟨by rw [hR.out]; rfl, hB.trans (hb1.mono hB.size)⟩
  · obtain ⟨k, hk⟩ : ∃ k : Nat, s.fn = (k : Int) := ⟨s.fn.toNat, by omega⟩
    obtain ⟨j, hj⟩ : ∃ j : Nat, t.fn = (j : Int) := ⟨t.fn.toNat, by omega⟩
    obtain ⟨p, hp⟩ : ∃ p, o.prec[k]? = some p := ⟨_, List.getElem?_eq_getElem (by omega)⟩
    obtain ⟨q, hq⟩ : ∃ q, o.prec[j]? = some q := ⟨_, List.getElem?_eq_getElem (by omega)⟩
    obtain ⟨b, off, hPa, hb, hc⟩ := HP.out.get hp
    obtain ⟨b', off', hPa', hb', hc'⟩ := HP.out.get hq
    rw [hPa] at hPa'
    injection hPa' with e
    injection e with e1 e2 _
    subst e1; subst e2; subst hPa
    have hR : topsP o s t = if q < p then 3 else if p = q then 0 else 1 := by
      unfold topsP
      rw [if_neg ht, hk, hj, List.getD_eq_getElem?_getD, List.getD_eq_getElem?_getD, show ((k : Int).toNat) = k from rfl, show ((j : Int).toNat) = j from rfl, hp, hq]
      rfl
    have HR := Lib.hid hR
    have l0 : ∀ x : Later W.heap.size W, x.w.cell? ⟨w.heap.size + 1 + 1, 0, none⟩ = some (.int .i64 (j : Int)) := fun x => by rw [← hj]; exact (Hl.out x).2.2
    have l1 : ∀ x : Later W.heap.size W, x.w.cell? ⟨w.heap.size + 1, 0, none⟩ = some (.int .i64 (k : Int)) := fun x => by rw [← hk]; exact (Hl.out x).2.1
    have l2 : ∀ x : Later W.heap.size W, x.w.cell? ⟨w.heap.size, 1, none⟩ = some (.slice (some ⟨b, off, none⟩) o.prec.length pc) := fun x => (Hl.out x).1
    have l3 : ∀ x : Later W.heap.size W, x.w.cell? ⟨b, off + k, none⟩ = some (.int .i64 p) := fun x => cell_on x.h hb hc
    have l4 : ∀ x : Later W.heap.size W, x.w.cell? ⟨b, off + j, none⟩ = some (.int .i64 q) := fun x => cell_on x.h hb' hc'
    rw [hk] at hs hsk x0 HW ⊢
    rw [hj] at ht htk y0 HW ⊢
    have ht' := decide_eq_false ht
    clear hR hk hj hp hq hc hc' H0 Hl
    by_cases h1 : q < p
    · have h1' : decide (p > q) = true := decide_eq_true h1
      have hR := Lib.hid (show topsP o s t = 3 by rw [HR.out, if_pos h1])
      clear h1 HR
      go_enter Tryz.func108, Tryz.ntmps108
      go_upto_region 1 with fail
      rw [HW.out]
      go_upto_region 7 with fail
      refine wp_region_later W.heap.size W (by kernel_rfl) (by kernel_rfl) (bl_drewN (Below.refl _ _) 1) ?_
      repeat (go_big_quiet_step (fail))
      refine wpQuiet_nil ?_
      rintro _ ⟨z, rfl⟩
      go_wp2
      go_ret
      exact ⟨by rw [hR.out]; rfl, hB.trans (z.h.mono hB.size)⟩
    · have h1' : decide (p > q) = false := decide_eq_false h1
      by_cases h2 : p = q
      · have h2' : (p == q) = true := by simp [h2]
        have hR := Lib.hid (show topsP o s t = 0 by rw [HR.out, if_neg h1, if_pos h2])
        clear h1 h2 HR
        go_enter Tryz.func108, Tryz.ntmps108
        go_upto_region 1 with fail
        rw [HW.out]
        go_upto_region 7 with fail
        refine wp_region_later W.heap.size W (by kernel_rfl) (by kernel_rfl) (bl_drewN (Below.refl _ _) 1) ?_
        repeat (go_big_quiet_step (fail))
        refine wpQuiet_nil ?_
        rintro _ ⟨z, rfl⟩
        go_upto_region 9 with fail
        refine wp_region_later W.heap.size W (by kernel_rfl) (by kernel_rfl) (bl_drewN z.h 1) ?_
        repeat (go_big_quiet_step (fail))
        refine wpQuiet_nil ?_
        rintro _ ⟨z2, rfl⟩
        go_wp2
        go_ret
        exact ⟨by rw [hR.out]; rfl, hB.trans (z2.h.mono hB.size)⟩
      · have h2' : (p == q) = false := by simp [h2]
        have hR := Lib.hid (show topsP o s t = 1 by rw [HR.out, if_neg h1, if_neg h2])
        clear h1 h2 HR
        go_enter Tryz.func108, Tryz.ntmps108
        go_upto_region 1 with fail
        rw [HW.out]
        go_upto_region 7 with fail
        refine wp_region_later W.heap.size W (by kernel_rfl) (by kernel_rfl) (bl_drewN (Below.refl _ _) 1) ?_
        repeat (go_big_quiet_step (fail))
        refine wpQuiet_nil ?_
        rintro _ ⟨z, rfl⟩
        go_upto_region 9 with fail
        refine wp_region_later W.heap.size W (by kernel_rfl) (by kernel_rfl) (bl_drewN z.h 1) ?_
        repeat (go_big_quiet_step (fail))
        refine wpQuiet_nil ?_
        rintro _ ⟨z2, rfl⟩
        go_wp2
        go_ret
        exact ⟨by rw [hR.out]; rfl, hB.trans (z2.h.mono hB.size)⟩
set_option maxHeartbeats 1000000 in
theorem tops_any (o : Odr) (s t : Tm) (P Q A A2 : Option Addr) (pc qc c c2 : Nat) (w : World) (hM : OdrM w w.heap.size o P Q) (hsk : s.fn < (o.prec.length : Int)) (htk : t.fn < (o.prec.length : Int)) (hA : Args w w.heap.size A s.args) (hA2 : Args w w.heap.size A2 t.args) :
    Calls Tryz.prog 108 #[.agg #[.bool o.lpo, .slice P o.prec.length pc, .slice Q o.wts.length qc, .int .i64 o.var], .agg #[.int .i64 s.fn, .slice A s.args.length c], .agg #[.int .i64 t.fn, .slice A2 t.args.length c2]] w fun e w' => e = .returned (.int .i64 (topsR o s t)) ∧ Below w.heap.size w w' := by
  by_cases hs : s.fn < 0
  · have hB : Below w.heap.size w (((w.alloc (.cells #[.bool o.lpo, .slice P o.prec.length pc, .slice Q o.wts.length qc, .int .i64 o.var] 38)).alloc (.cells #[.int .i64 s.fn, .slice A s.args.length c] 32)).alloc (.cells #[.int .i64 t.fn, .slice A2 t.args.length c2] 32)) := (((Below.refl _ _).alloc (Nat.le_refl _) _).alloc (by simp) _).alloc (by simp; omega) _
    by_cases ht : t.fn < 0
    · have hR := Lib.hid (show topsR o s t = 0 by unfold topsR; rw [if_pos hs, if_pos ht])
      clear hA hA2 hM
      go_enter Tryz.func108, Tryz.ntmps108
      go_wp2
      go_ret
      exact ⟨by rw [hR.out]; rfl, hB⟩
    · have hR := Lib.hid (show topsR o s t = relT (topsP o t s) by unfold topsR; rw [if_pos hs, if_neg ht])
      obtain ⟨q0, q1, q2⟩ := heap3 w (.cells #[.bool o.lpo, .slice P o.prec.length pc, .slice Q o.wts.length qc, .int .i64 o.var] 38) (.cells #[.int .i64 s.fn, .slice A s.args.length c] 32) (.cells #[.int .i64 t.fn, .slice A2 t.args.length c2] 32)
      obtain ⟨W, hW⟩ : ∃ W, (((w.alloc (.cells #[.bool o.lpo, .slice P o.prec.length pc, .slice Q o.wts.length qc, .int .i64 o.var] 38)).alloc (.cells #[.int .i64 s.fn, .slice A s.args.length c] 32)).alloc (.cells #[.int .i64 t.fn, .slice A2 t.args.length c2] 32)) = W := ⟨_, rfl⟩
      rw [hW] at hB q0 q1 q2
      obtain ⟨x0, x1, _, _⟩ := cells_two q1
      obtain ⟨y0, y1, _, _⟩ := cells_two q2
      obtain ⟨z0, z1, z2, z3⟩ := cells_four q0
      have H1 := Lib.hid (tops_pos o t s P Q A2 A pc qc c2 c W (hM.on hB) ht htk hsk (hA2.on hB))
      have hbd := topsP_bd o t s
      have H2 : ∀ w1 : World, _ := fun w1 => turned_any (topsP o t s) hbd.1 hbd.2 w1
      have H2 := Lib.hid H2
      have HW := Lib.hid hW
      clear hW hA hA2 hM hbd q0 q1 q2
      go_enter Tryz.func108, Tryz.ntmps108
      go_upto_region 1 with fail
      rw [HW.out]
      go_wp2_with (first
        | (go_at_call 108; (with_reducible refine H1.out.mono ?_); go_must (rintro e w1 ⟨rfl, hb1⟩))
        | (go_at_call 112; (with_reducible refine (H2.out w1).mono ?_); go_must (rintro e w2 ⟨rfl, rfl⟩))
        | fail)
      go_ret
      exact ⟨by rw [hR.out]; rfl, hB.trans (hb1.mono hB.size)⟩
  · have hR := Lib.hid (show topsR o s t = topsP o s t by unfold topsR; rw [if_neg hs])
    rw [hR.out]
    exact tops_pos o s t P Q A A2 pc qc c c2 w hM hs hsk htk hA
end Go.Proofs.YthgglobfkkcdgaaGreatDoor
namespace Go.Proofs.YthgglobfkkcdgaaGreatDoor
open Go.RowKit Go.Shelf
attribute [local go_sem] Oper.semAt_some
set_option maxRecDepth 100000
theorem walk_any (t : Tm) (A : Option Addr) (c : Nat) (w : World) :
    Calls Tryz.prog 53 #[.agg #[.int .i64 t.fn, .slice A t.args.length c]] w fun e w' => e = .returned (.func (.func 85) #[] #[.pointer (some ⟨w.heap.size, 0, none⟩)]) ∧ w' = w.alloc (.cells #[.int .i64 t.fn, .slice A t.args.length c] 32) := by
  go_enter Tryz.func53, Tryz.ntmps53
  go_wp2
  go_ret
  exact ⟨rfl, rfl⟩
set_option maxHeartbeats 1000000 in
theorem walk1_seq (F : Fence) (hd : F.depth = none) (h64 : F.fn 85) (h65 : F.fn 86) (hro : F.round = none) (m : Nat) (B : Nat) (t : Tm) (A : Option Addr) (c : Nat) (N : Nat → Prop) (w0 : World)
    (hb : w0.heap[B]? = some (.cells #[.int .i64 t.fn, .slice A t.args.length c] 32)) (hf : I64 t.fn) (hA : ArgsN w0 N A t.args) (hN : ∀ g, N g → g < w0.heap.size) (hdp : t.depth ≤ 1099511627776) :
    SeqC F m Tryz.prog 85 #[.pointer (some ⟨B, 0, none⟩)] visEnc VisFx N (fun xs => xs.map Vis.key = vis [] t) (fun pre => pre.map Vis.key <+: vis [] t) w0 := by
  intro l C J Jx W hW hJ hB hY h0
  have hdd : ∀ k : Nat, (F.depth.isSome = true → 1 ≤ k) := fun k h => by rw [hd] at h; cases h
  have hBl : B < w0.heap.size := (Array.getElem?_eq_some_iff.1 hb).1
  have hbW : W.heap[B]? = some (.cells #[.int .i64 t.fn, .slice A t.args.length c] 32) := (hW.block B hBl).trans hb
  obtain ⟨b0, b1, _, _⟩ := cells_two hbW
  have hWs := hW.size
  have hAW : ArgsN W N A t.args := hA.keep fun g e => hW.block g (hN g e)
  have hvis := visit_in F hd h65 hro l W.heap.size 1099511627776 (Nat.le_refl _) N C J Jx (vis [] t) hJ hB (fun g e => by have := hN g e; omega) hY t
  refine callsIn_of_wp Tryz.func85 rfl h64 ?_ hro
  simp only [Tryz.ntmps85, List.size_toArray, List.length_cons, List.length_nil, Nat.reduceAdd, Nat.reduceSub, Array.replicate_succ, Array.replicate_zero, List.push_toArray, List.append_toArray, List.nil_append, List.cons_append]
  have hK0 : Keeps (· < W.heap.size) W (((W.alloc (.cells #[.func (.yield l) #[] #[]] 113)).alloc (.cells #[.slice none 0 0] 54)).alloc (.cells #[.func (.func 86) #[] #[.pointer (some ⟨W.heap.size, 0, none⟩), .pointer (some ⟨W.heap.size + 1, 0, none⟩), .pointer (some ⟨W.heap.size + 1 + 1, 0, none⟩)]] 106)) := Keeps.of_below ((((Below.refl _ _).alloc (Nat.le_refl _) _).alloc (by simp) _).alloc (by simp; omega) _)
  obtain ⟨q0, q1, _, _⟩ := cells_two ((hK0.block B (by show B < W.heap.size; omega)).trans hbW)
  gi_wp2
  obtain ⟨W3, hW3⟩ : ∃ W3, (((W.alloc (.cells #[.func (.yield l) #[] #[]] 113)).alloc (.cells #[.slice none 0 0] 54)).alloc (.cells #[.func (.func 86) #[] #[.pointer (some ⟨W.heap.size, 0, none⟩), .pointer (some ⟨W.heap.size + 1, 0, none⟩), .pointer (some ⟨W.heap.size + 1 + 1, 0, none⟩)]] 106)) = W3 := ⟨_, rfl⟩
  have hK3 : Keeps (· < W.heap.size) W W3 := by rw [← hW3]; exact Keeps.of_below ((((Below.refl _ _).alloc (Nat.le_refl _) _).alloc (by simp) _).alloc (by simp; omega) _)
  obtain ⟨p0, p1, p2⟩ := heap3 W (.cells #[.func (.yield l) #[] #[]] 113) (.cells #[.slice none 0 0] 54) (.cells #[.func (.func 86) #[] #[.pointer (some ⟨W.heap.size, 0, none⟩), .pointer (some ⟨W.heap.size + 1, 0, none⟩), .pointer (some ⟨W.heap.size + 1 + 1, 0, none⟩)]] 106)
  rw [hW3] at p0 p1 p2 ⊢
  obtain ⟨hJ3, hC3⟩ := hJ [] W W3 h0 (hK3.mono fun g e => hB [] W h0 g e)
  have hCb : ∀ g, W.heap.size ≤ g → ¬ C W3 g := fun g h e => by have := hB [] W h0 g (hC3 g e); omega
  have hI : ItSt W3 C l W.heap.size [] := ⟨p0, ⟨none, 0, p1, ⟨rfl, .inl ⟨rfl, rfl⟩⟩, fun g e => by cases e⟩, p2, hCb _ (Nat.le_refl _), hCb _ (by omega), hCb _ (by omega)⟩
  refine (hvis (m - 1) [] [] A c W3 hf (hAW.keep fun g e => hK3.block g (by have := hN g e; show g < W.heap.size; omega)) hJ3 hI (by simp) (by simpa using hdp) (by simp)).mono ?_
  rintro e W' (⟨rfl, q, hq, hJq, _, _⟩ | ⟨rfl, q, hq, hJx⟩)
  · gi_wp2
    go_end0
    exact ⟨⟨_, rfl⟩, .inl ⟨q, hq, by simpa using hJq⟩⟩
  · gi_wp2
    go_end0
    exact ⟨⟨_, rfl⟩, .inr ⟨q, by simpa using hq, by simpa using hJx⟩⟩
end Go.Proofs.YthgglobfkkcdgaaGreatDoor
namespace Go.Proofs.YthgglobfkkcdgaaGreatDoor
open Go.RowKit Go.Shelf
attribute [local go_sem] Oper.semAt_some
set_option maxRecDepth 100000
theorem vis_len (t : Tm) : ∀ p, (vis p t).length = t.size := by
  have key : ∀ xs : List Tm, (∀ t ∈ xs, ∀ p, (vis p t).length = t.size) → ∀ (p : List Int) (i : Nat), (visL p i xs).length = sizes xs := by
    intro xs
    induction xs with
    | nil => intro _ p i; simp [visL, sizes]
    | cons x xs ih =>
      intro h p i
      simp only [visL, sizes, List.length_append, h x (by simp), ih (fun t ht => h t (by simp [ht]))]
  refine Tm.ind (P := fun t => ∀ p, (vis p t).length = t.size) (fun f xs ih p => ?_) t
  simp only [vis, Tm.size, List.length_cons, key xs ih]
theorem pre_len {t : Tm} {pre : List Vis} (h : pre.map Vis.key <+: vis [] t) : pre.length ≤ t.size := by
  have := h.length_le
  rw [vis_len, List.length_map] at this
  exact this
theorem put_block {W : World} {l g : Nat} {r : Loop} {o : Obj} {cs : Array Value} {t : TypeId} {z : Nat × Nat} (h : W.heap[g]? = some (.cells cs t z)) (hl : W.heap[l]? = some (.loop r)) : (W.putObj l o).heap[g]? = some (.cells cs t z) :=
  (World.putObj_heap_other (fun e => by subst e; rw [h] at hl; cases hl)).trans h
end Go.Proofs.YthgglobfkkcdgaaGreatDoor
