/- The document's own answers: over, Small, Check. -/
import Derived.Test.YtkgikjjngbifjaaDoorD2
namespace Go.Proofs.YtkgikjjngbifjaaDoor
open Go.RowKit
set_option maxRecDepth 100000

section
variable {l : List Sm} {f : Int} {xs : List Tm} {top : Bool} {s : Sm}
theorem over_var (hf : f < 0) : overT l (.node f xs) top = true := by simp only [overT, if_pos hf]
theorem over_out (hf : ¬ f < 0) (h : (l.length : Int) ≤ f) : overT l (.node f xs) top = false := by
  simp only [overT, if_neg hf, List.getElem?_eq_none (show l.length ≤ f.toNat by omega)]
theorem over_bad (hf : ¬ f < 0) (hs : l[f.toNat]? = some s) (hb : s.arity ≠ xs.length ∨ (s.pred = true ∧ top = false)) : overT l (.node f xs) top = false := by
  simp only [overT, if_neg hf, hs, if_pos hb]
theorem over_in (hf : ¬ f < 0) (hs : l[f.toNat]? = some s) (hb : ¬ (s.arity ≠ xs.length ∨ (s.pred = true ∧ top = false))) : overT l (.node f xs) top = overL l xs := by
  simp only [overT, if_neg hf, hs, if_neg hb]
end

def ROver (l : List Sm) (t : Tm) : Prop := ∀ (As A : Option Addr) (cs c : Nat) (top : Bool) (w : World), I64 t.fn → Syms w w.heap.size As l.length l → Args w w.heap.size A t.args →
  Calls Tryd.prog 39 #[.agg #[.slice As l.length cs], .agg #[.int .i64 t.fn, .slice A t.args.length c], .bool top] w fun e w' => e = .returned (.bool (overT l t top)) ∧ Below w.heap.size w w'
set_option maxHeartbeats 2000000 in
theorem refOver_any (l : List Sm) (hl : l.length ≤ 9223372036854775807) (t : Tm) : ROver l t := by
  refine Tm.ind (P := ROver l) (fun f xs ih => ?_) t
  intro As A cs c top w hf hS hA
  simp only [Tm.fn, Tm.args] at hf hA ⊢
  have hlen := hA.len
  obtain ⟨p0, p1⟩ := heap2 w (.cells #[.slice As l.length cs] 24) (.cells #[.int .i64 f, .slice A xs.length c] 27)
  obtain ⟨W, hW⟩ : ∃ W, ((w.alloc (.cells #[.slice As l.length cs] 24)).alloc (.cells #[.int .i64 f, .slice A xs.length c] 27)) = W := ⟨_, rfl⟩
  have hB : Below w.heap.size w W := by rw [← hW]; exact ((Below.refl _ _).alloc (Nat.le_refl _) _).alloc (by simp) _
  rw [hW] at p0 p1
  have hWs : w.heap.size + 1 < W.heap.size := (Array.getElem?_eq_some_iff.1 p1).1
  have HW := Lib.hid hW
  have hSS : ∀ w', Below W.heap.size W w' → w'.cell? ⟨w.heap.size, 0, none⟩ = some (.slice As l.length cs) ∧ w'.cell? ⟨w.heap.size + 1, 1, none⟩ = some (.slice A xs.length c) := fun w' h =>
    ⟨(cells_one ((h.block _ (by omega)).trans p0)).1, (cells_two ((h.block _ hWs).trans p1)).2.1⟩
  obtain ⟨a0, _⟩ := cells_one p0
  obtain ⟨b0, b1, _, _⟩ := cells_two p1
  have hSW := hS.on hB
  have HS := Lib.hid hS
  clear hW p0 p1
  by_cases hf0 : f < 0
  · have ho := Lib.hid (over_var (l := l) (xs := xs) (top := top) hf0)
    go_enter Tryd.func39, Tryd.ntmps39
    go_upto_region 1 with fail
    rw [HW.out]
    go_wp2
    go_ret
    exact ⟨ret_bool ho.out.symm, hB⟩
  · by_cases hout : (l.length : Int) ≤ f
    · have ho := Lib.hid (over_out (xs := xs) (top := top) hf0 hout)
      go_enter Tryd.func39, Tryd.ntmps39
      go_upto_region 1 with fail
      rw [HW.out]
      go_wp2
      go_ret
      exact ⟨ret_bool ho.out.symm, hB⟩
    · obtain ⟨k0, rfl⟩ : ∃ k0 : Nat, f = (k0 : Int) := ⟨f.toNat, by omega⟩
      obtain ⟨s, hs⟩ : ∃ s, l[k0]? = some s := ⟨_, List.getElem?_eq_getElem (by omega)⟩
      obtain ⟨sb, so, rfl, hsb, hsc⟩ := hSW.ad (by omega)
      obtain ⟨y0, y1, y2⟩ := hsc _ _ hs
      have hs' : l[((k0 : Int)).toNat]? = some s := by simpa using hs
      have hlt' : (k0 : Int) < l.length := by omega
      have hge' : (k0 : Int) ≥ 0 := by omega
      have hB5 : Below W.heap.size W (W.alloc (.cells #[.string s.name, .int .i64 s.arity, .bool s.pred] 55)) := (Below.refl _ _).alloc (Nat.le_refl _) _
      by_cases hb : s.arity ≠ xs.length ∨ (s.pred = true ∧ top = false)
      · have ho := Lib.hid (over_bad (xs := xs) hf0 hs' hb)
        by_cases hb1 : s.arity = xs.length
        · obtain ⟨hb3, rfl⟩ := hb.resolve_left (fun h => h hb1)
          clear hs hs' hsc
          go_enter Tryd.func39, Tryd.ntmps39
          go_upto_region 1 with fail
          rw [HW.out]
          go_wp2
          go_ret
          exact ⟨ret_bool ho.out.symm, hB.trans (hB5.mono hB.size) |>.mono (Nat.le_refl _) |> fun h => by simpa [hb1, hb3] using h⟩
        · clear hs hs' hsc
          go_enter Tryd.func39, Tryd.ntmps39
          go_upto_region 1 with fail
          rw [HW.out]
          go_wp2
          go_ret
          exact ⟨ret_bool ho.out.symm, hB.trans (hB5.mono hB.size)⟩
      · have hol := Lib.hid (over_in (xs := xs) hf0 hs' hb)
        have hb1 : s.arity = xs.length := Classical.not_not.1 (fun h => hb (.inl h))
        have hb2 : s.pred = true → top = true := fun h => by
          cases htop : top with
          | true => rfl
          | false => exact absurd (.inr ⟨h, htop⟩) hb
        clear hs hs' hsc hb
        go_enter Tryd.func39, Tryd.ntmps39
        go_upto_region 1 with fail
        rw [HW.out]
        go_upto_region 6 with fail
        go_cut [37] (fun s37 wx => s37 = .bool false ∧ wx = W.alloc (.cells #[.string s.name, .int .i64 s.arity, .bool s.pred] 55))
        case first =>
          by_cases hp : s.pred = true
          · have htop := hb2 hp
            subst htop
            go_wp2
            go_meet
            case rel => exact ⟨rfl, by rw [hb1, hp]⟩
          · have hp' : s.pred = false := by simpa using hp
            go_wp2
            go_meet
            case rel => exact ⟨rfl, by rw [hb1, hp']⟩
        case rest =>
          obtain ⟨rfl, rfl⟩ := hcut
          clear a0 b0 b1 y0 y1 y2
          go_wp2
          go_loopw [8] (fun i wr => ∃ k : Nat, k ≤ xs.length ∧ i = .int .i64 (k : Int) ∧ Below W.heap.size W wr ∧ Hid (overL l xs = overL l (xs.drop k))) (fun i _ => xs.length - (intOf i).toNat)
          case atStart => exact ⟨0, Nat.zero_le _, rfl, by rw [← hb1]; exact hB5, rfl⟩
          case round =>
            obtain ⟨k, hk, rfl, hBr, H⟩ := hrel
            obtain ⟨x0, x1⟩ := hSS _ hBr
            have hBw := hB.trans (hBr.mono hB.size)
            have hBrs := hBr.size
            by_cases hkl : k < xs.length
            · obtain ⟨u, hu⟩ : ∃ u, xs[k]? = some u := ⟨_, List.getElem?_eq_getElem hkl⟩
              obtain ⟨bb, off, A1, c1, rfl, ha⟩ := (hA.on hBw).get hu
              have e0 := ha.c0
              have e1 := ha.c1
              have hbb := ha.hb
              have hmem := List.mem_of_getElem? hu
              have hd := over_drop (l := l) hu
              have hsub : Hid (Args wr.drew wr.drew.heap.size A1 u.args) := ha.sub.drewN 1
              have hsy : Hid (Syms wr.drew wr.drew.heap.size (some ⟨sb, so, none⟩) l.length l) := (HS.out.on hBw).drewN 1
              have hu64 := ha.hi
              have hkeep : ∀ w2, Below wr.drew.heap.size wr.drew w2 → w2.cell? ⟨w.heap.size, 0, none⟩ = some (.slice (some ⟨sb, so, none⟩) l.length cs) ∧ w2.cell? ⟨w.heap.size + 1, 1, none⟩ = some (.slice (some ⟨bb, off, none⟩) xs.length c) ∧ w2.cell? ⟨bb, off + k * 2, none⟩ = some (.int .i64 u.fn) ∧ w2.cell? ⟨bb, off + k * 2 + 1, none⟩ = some (.slice A1 u.args.length c1) := fun w2 h => by
                have h' : Below wr.heap.size wr w2 := ⟨h.os, h.tape, h.output, h.size, h.block⟩
                exact ⟨cell_on h' (by omega) x0, cell_on h' (by omega) x1, cell_on h' hbb e0, cell_on h' hbb e1⟩
              clear hu ha
              cases hb : overT l u false with
              | true =>
                have H2 : Hid (overL l xs = overL l (xs.drop (k + 1))) := by rw [show overL l xs = _ from H.out, hd, hb, Bool.true_and]; rfl
                clear H hd
                go_wp2
                go_region_held3 (fun w' => w'.cell? ⟨w.heap.size, 0, none⟩ = some (.slice (some ⟨sb, so, none⟩) l.length cs) ∧ w'.cell? ⟨w.heap.size + 1, 1, none⟩ = some (.slice (some ⟨bb, off, none⟩) xs.length c) ∧ w'.cell? ⟨bb, off + k * 2, none⟩ = some (.int .i64 u.fn) ∧ w'.cell? ⟨bb, off + k * 2 + 1, none⟩ = some (.slice A1 u.args.length c1))
                  (first | exact ⟨x0, x1, e0, e1⟩ | exact hkeep _ hb2 | fail)
                  (first | (go_at_call 39; refine (ih u hmem (some ⟨sb, so, none⟩) A1 cs c1 false wr.drew hu64 hsy.out hsub.out).mono ?_; rintro e w2 ⟨rfl, hb2⟩; rw [hb]) | fail)
                go_wp2
                exact ⟨⟨k + 1, by omega, by go_num, hBr.trans (Below.mono (B := wr.heap.size) ⟨hb2.os, hb2.tape, hb2.output, hb2.size, hb2.block⟩ hBrs), H2⟩, by simp [intOf]; omega⟩
              | false =>
                have H2 : Hid (overT l (.node (k0 : Int) xs) top = false) := by rw [hol.out, show overL l xs = _ from H.out, hd, hb, Bool.false_and]; rfl
                clear H hd
                go_wp2
                go_region_held3 (fun w' => w'.cell? ⟨w.heap.size, 0, none⟩ = some (.slice (some ⟨sb, so, none⟩) l.length cs) ∧ w'.cell? ⟨w.heap.size + 1, 1, none⟩ = some (.slice (some ⟨bb, off, none⟩) xs.length c) ∧ w'.cell? ⟨bb, off + k * 2, none⟩ = some (.int .i64 u.fn) ∧ w'.cell? ⟨bb, off + k * 2 + 1, none⟩ = some (.slice A1 u.args.length c1))
                  (first | exact ⟨x0, x1, e0, e1⟩ | exact hkeep _ hb2 | fail)
                  (first | (go_at_call 39; refine (ih u hmem (some ⟨sb, so, none⟩) A1 cs c1 false wr.drew hu64 hsy.out hsub.out).mono ?_; rintro e w2 ⟨rfl, hb2⟩; rw [hb]) | fail)
                go_wp2
                go_ret
                exact ⟨ret_bool H2.out.symm, hBw.trans (Below.mono (B := wr.heap.size) ⟨hb2.os, hb2.tape, hb2.output, hb2.size, hb2.block⟩ (by omega))⟩
            · obtain rfl : k = xs.length := by omega
              have H2 : overT l (.node (k0 : Int) xs) top = true := by rw [hol.out, show overL l xs = _ from H.out]; simp [overL]
              have H2 := Lib.hid H2
              go_wp2
              go_ret
              exact ⟨ret_bool H2.out.symm, hBw⟩

def smallT (t : Tm) : Bool := decide (t.size ≤ 300) && decide (t.depth ≤ 30) && lowT t
set_option maxHeartbeats 1000000 in
theorem refSmall_any (t : Tm) (A : Option Addr) (c : Nat) (w : World) (hsz : t.size ≤ 4611686018427387904) (hf : I64 t.fn) (hA : Args w w.heap.size A t.args) :
    Calls Tryd.prog 38 #[.agg #[.int .i64 t.fn, .slice A t.args.length c], .int .i64 48] w fun e w' => e = .returned (.bool (smallT t)) ∧ Below w.heap.size w w' := by
  have hdz := depth_le_size t
  obtain ⟨W, hW⟩ : ∃ W, w.alloc (.cells #[.int .i64 t.fn, .slice A t.args.length c] 27) = W := ⟨_, rfl⟩
  obtain ⟨hB, hlt, hS⟩ := box_term hW
  have HW := Lib.hid hW
  have HA := Lib.hid (hA.on hB)
  clear hW hA
  by_cases h1 : t.size ≤ 300
  · by_cases h2 : t.depth ≤ 30
    · have hs := Lib.hid (show smallT t = lowT t by simp [smallT, h1, h2])
      go_enter Tryd.func38, Tryd.ntmps38
      go_wp2_with (first
        | (go_at_call 20; go_must (rw [HW.out]; refine (refSize_any t hsz A c W hf HA.out).mono ?_; rintro e w1 ⟨rfl, hb1⟩; obtain ⟨x0, x1⟩ := hS _ hb1))
        | (go_at_call 22; go_must (refine (refDepth_any t (by omega) A c w1 hf (HA.out.on hb1)).mono ?_; rintro e w2 ⟨rfl, hb2⟩; have hB2 := bl_step hb1 hb2; obtain ⟨x2, x3⟩ := hS _ hB2))
        | (go_at_call 63; go_must (refine (refLow_any t A c w2 hf (HA.out.on hB2)).mono ?_; rintro e w3 ⟨rfl, hb3⟩; have hB3 := bl_step hB2 hb3))
        | fail)
      go_ret
      exact ⟨ret_bool hs.out.symm, hB.trans (hB3.mono hB.size)⟩
    · have hs := Lib.hid (show smallT t = false by simp [smallT, h2])
      go_enter Tryd.func38, Tryd.ntmps38
      go_wp2_with (first
        | (go_at_call 20; go_must (rw [HW.out]; refine (refSize_any t hsz A c W hf HA.out).mono ?_; rintro e w1 ⟨rfl, hb1⟩; obtain ⟨x0, x1⟩ := hS _ hb1))
        | (go_at_call 22; go_must (refine (refDepth_any t (by omega) A c w1 hf (HA.out.on hb1)).mono ?_; rintro e w2 ⟨rfl, hb2⟩; have hB2 := bl_step hb1 hb2))
        | fail)
      go_ret
      exact ⟨ret_bool hs.out.symm, hB.trans (hB2.mono hB.size)⟩
  · have hs := Lib.hid (show smallT t = false by simp [smallT, h1])
    go_enter Tryd.func38, Tryd.ntmps38
    go_wp2_with (first
      | (go_at_call 20; go_must (rw [HW.out]; refine (refSize_any t hsz A c W hf HA.out).mono ?_; rintro e w1 ⟨rfl, hb1⟩))
      | fail)
    go_ret
    exact ⟨ret_bool hs.out.symm, hB.trans (hb1.mono hB.size)⟩
end Go.Proofs.YtkgikjjngbifjaaDoor
