import Derived.Test.YtfnncphkidhbpaaGreatDoorP45Z2
/- The document's own Check of an order. -/

namespace Go.Proofs.YtfnncphkidhbpaaGreatDoor

open Go.RowKit
set_option maxRecDepth 100000

/-- Is something wrong with the weight of symbol i? -/
def badX (s : Sm) (x v : Int) (h : Bool) : Bool := decide (x < 0) || decide (1000 < x) || (decide (s.arity = 0) && decide (x < v)) || (decide (s.arity = 1) && decide (x = 0) && !h)

def badW (l : List Sm) (o : Odr) (i : Nat) : Bool := match l[i]? with
  | none => false
  | some s => badX s (o.wts.getD i 0) o.var (highB o.prec i)

def chkW (l : List Sm) (o : Odr) : Bool := (List.range l.length).all fun i => !badW l o i

def chkO (l : List Sm) (o : Odr) : Int := if checkI l = 0 ∧ rankB o.prec l.length = true ∧ (o.lpo = true ∨ (o.wts.length = l.length ∧ 1 ≤ o.var ∧ o.var ≤ 1000 ∧ o.wts.getD 0 0 = o.var ∧ chkW l o = true)) then 0 else 2

theorem chkW_no {l : List Sm} {o : Odr} {i : Nat} (hi : i < l.length) (h : badW l o i = true) : chkW l o = false := by
  unfold chkW
  rw [List.all_eq_false]
  exact ⟨i, List.mem_range.2 hi, by rw [h]; decide⟩

theorem chkW_yes {l : List Sm} {o : Odr} (h : ∀ j, j < l.length → badW l o j = false) : chkW l o = true := by
  unfold chkW
  rw [List.all_eq_true]
  intro j hj
  rw [h j (List.mem_range.1 hj)]; rfl

theorem badW_at {l : List Sm} {o : Odr} {i : Nat} {s : Sm} {x : Int} (hs : l[i]? = some s) (hx : o.wts[i]? = some x) : badW l o i = badX s x o.var (highB o.prec i) := by
  unfold badW; rw [hs]; show badX s (o.wts.getD i 0) o.var _ = _; rw [getD_of hx]

theorem chk_some {l : List Sm} (h : checkI l = 0) : 0 < l.length := by
  rcases Nat.eq_zero_or_pos l.length with h0 | h0
  · have : l = [] := List.eq_nil_of_length_eq_zero h0
    subst this; exact absurd h (by decide)
  · exact h0

theorem box_so {w W : World} {o : Odr} {As P Q : Option Addr} {n cs pc qc : Nat} (hW : (w.alloc (.cells #[.slice As n cs] 24)).alloc (.cells #[.bool o.lpo, .slice P o.prec.length pc, .slice Q o.wts.length qc, .int .i64 o.var] 27) = W) :
    Below w.heap.size w W ∧ W.heap.size = w.heap.size + 2 ∧ ∀ w', Below W.heap.size W w' → w'.cell? ⟨w.heap.size, 0, none⟩ = some (.slice As n cs) ∧ w'.cell? ⟨w.heap.size + 1, 0, none⟩ = some (.bool o.lpo) ∧ w'.cell? ⟨w.heap.size + 1, 1, none⟩ = some (.slice P o.prec.length pc) ∧ w'.cell? ⟨w.heap.size + 1, 2, none⟩ = some (.slice Q o.wts.length qc) ∧ w'.cell? ⟨w.heap.size + 1, 3, none⟩ = some (.int .i64 o.var) := by
  obtain ⟨q0, q1⟩ := heap2 w (.cells #[.slice As n cs] 24) (.cells #[.bool o.lpo, .slice P o.prec.length pc, .slice Q o.wts.length qc, .int .i64 o.var] 27)
  rw [hW] at q0 q1
  have hz : W.heap.size = w.heap.size + 2 := by rw [← hW]; simp
  refine ⟨by rw [← hW]; exact ((Below.refl _ _).alloc (Nat.le_refl _) _).alloc (by simp) _, hz, fun w' hb => ?_⟩
  obtain ⟨a0, _⟩ := cells_one ((hb.block _ (by omega)).trans q0)
  obtain ⟨b0, b1, b2, b3⟩ := cells_four ((hb.block _ (by omega)).trans q1)
  exact ⟨a0, b0, b1, b2, b3⟩

set_option maxHeartbeats 4000000 in
theorem refOrderCheck_any (l : List Sm) (o : Odr) (As P Q : Option Addr) (n cs pc qc : Nat) (w : World) (hS : Syms w w.heap.size As n l) (hn : n * 32 ≤ 140737488351232) (hM : OdrM w w.heap.size o P Q) :
    Calls Tryz.prog 7 #[.agg #[.slice As n cs], .agg #[.bool o.lpo, .slice P o.prec.length pc, .slice Q o.wts.length qc, .int .i64 o.var]] w fun e w' => e = .returned (.int .i64 (chkO l o)) ∧ Below w.heap.size w w' := by
  obtain rfl := hS.len
  obtain ⟨W, hW⟩ : ∃ W, (w.alloc (.cells #[.slice As l.length cs] 24)).alloc (.cells #[.bool o.lpo, .slice P o.prec.length pc, .slice Q o.wts.length qc, .int .i64 o.var] 27) = W := ⟨_, rfl⟩
  obtain ⟨hB, hz, hBx⟩ := box_so hW
  have HW := Lib.hid hW
  have HC := Lib.hid (refCheck_any As l.length cs l W (hS.on hB) hn)
  have HR : Hid (∀ w1, Below W.heap.size W w1 → Calls Tryz.prog 19 #[.slice P o.prec.length pc, .int .i64 (l.length : Int)] w1 fun e w' => e = .returned (.bool (rankB o.prec l.length)) ∧ Below w1.heap.size w1 w') := Lib.hid fun w1 hb => refRanks_any o.prec l.length P pc w1 ((hM.on (hB.trans (hb.mono hB.size))).p)
  have HH : Hid (∀ w1, Below W.heap.size W w1 → ∀ i : Nat, i < o.prec.length → Calls Tryz.prog 20 #[.slice P o.prec.length pc, .int .i64 (i : Int)] w1 fun e w' => e = .returned (.bool (highB o.prec i)) ∧ Below w1.heap.size w1 w') := Lib.hid fun w1 hb i hi => refHighest_any o.prec i hi P pc w1 ((hM.on (hB.trans (hb.mono hB.size))).p)
  have HS : Hid (∀ w1, Below W.heap.size W w1 → Syms w1 w1.heap.size As l.length l) := Lib.hid fun w1 hb => (hS.on (hB.trans (hb.mono hB.size)))
  have HM : Hid (∀ w1, Below W.heap.size W w1 → OdrM w1 w1.heap.size o P Q) := Lib.hid fun w1 hb => hM.on (hB.trans (hb.mono hB.size))
  have HX := Lib.hid hBx
  have hq64 := hM.q.len
  have hl64 : l.length ≤ 9223372036854775807 := by omega
  obtain ⟨x0, x1, x2, x3, x4⟩ := hBx W (Below.refl _ _)
  clear hW hS hM hBx hz
  by_cases h0 : ¬ checkI l = 0
  · have hfin := Lib.hid (show chkO l o = 2 by unfold chkO; rw [if_neg (fun h => h0 h.1)])
    have g1 : (checkI l != 0) = true := by simpa using h0
    go_enter Tryz.func7, Tryz.ntmps7
    go_wp2_with (first
      | (go_at_call 18; go_must (rw [HW.out]; (with_reducible refine HC.out.mono ?_); rintro e w1 ⟨rfl, hb1⟩;  obtain ⟨y0, y1, y2, y3, y4⟩ := HX.out w1 hb1))
      | (go_at_call 19; go_must ((with_reducible refine (HR.out w1 hb1).mono ?_); rintro e w2 ⟨rfl, hb2⟩;  have hB2 := hb1.trans (hb2.mono hb1.size); obtain ⟨z0, z1, z2, z3, z4⟩ := HX.out w2 hB2))
      | fail)
    go_ret
    exact ⟨ret_int hfin.out.symm, hB.trans (hb1.mono hB.size)⟩
  · replace h0 := Decidable.not_not.1 h0
    have hpos := chk_some h0
    have H0 := Lib.hid h0
    cases hr : rankB o.prec l.length with
    | false =>
      have hfin := Lib.hid (show chkO l o = 2 by unfold chkO; rw [if_neg (fun h => by rw [hr] at h; cases h.2.1)])
      have Hr := Lib.hid hr
      clear hr h0
      go_enter Tryz.func7, Tryz.ntmps7
      go_wp2_with (first
        | (go_at_call 18; go_must (rw [HW.out]; (with_reducible refine HC.out.mono ?_); rintro e w1 ⟨rfl, hb1⟩; rw [H0.out]; obtain ⟨y0, y1, y2, y3, y4⟩ := HX.out w1 hb1))
        | (go_at_call 19; go_must ((with_reducible refine (HR.out w1 hb1).mono ?_); rintro e w2 ⟨rfl, hb2⟩; rw [Hr.out]; have hB2 := hb1.trans (hb2.mono hb1.size); obtain ⟨z0, z1, z2, z3, z4⟩ := HX.out w2 hB2))
        | fail)
      go_ret
      exact ⟨ret_int hfin.out.symm, hB.trans (hB2.mono hB.size)⟩
    | true =>
      have hpl : o.prec.length = l.length := by
        have h := hr
        unfold rankB at h
        rw [Bool.and_eq_true, decide_eq_true_eq] at h
        exact h.1
      have Hpl := Lib.hid hpl
      have Hr := Lib.hid hr
      clear hr h0 hpl
      cases hlpo : o.lpo with
      | true =>
        have hfin := Lib.hid (show chkO l o = 0 by unfold chkO; rw [if_pos ⟨H0.out, Hr.out, .inl hlpo⟩])
        rw [hlpo] at x1 HX HW
        go_enter Tryz.func7, Tryz.ntmps7
        go_wp2_with (first
          | (go_at_call 18; go_must (rw [HW.out]; (with_reducible refine HC.out.mono ?_); rintro e w1 ⟨rfl, hb1⟩; rw [H0.out]; obtain ⟨y0, y1, y2, y3, y4⟩ := HX.out w1 hb1))
          | (go_at_call 19; go_must ((with_reducible refine (HR.out w1 hb1).mono ?_); rintro e w2 ⟨rfl, hb2⟩; rw [Hr.out]; have hB2 := hb1.trans (hb2.mono hb1.size); obtain ⟨z0, z1, z2, z3, z4⟩ := HX.out w2 hB2))
          | fail)
        go_ret
        exact ⟨ret_int hfin.out.symm, hB.trans (hB2.mono hB.size)⟩
      | false =>
        have Hlpo := Lib.hid hlpo
        rw [hlpo] at x1 HX HW
        clear hlpo
        by_cases hwl : ¬ o.wts.length = l.length
        · have hfin : Hid (chkO l o = 2) := Lib.hid (by
            unfold chkO
            rw [if_neg]
            rintro ⟨_, _, h | h⟩
            · rw [Hlpo.out] at h; cases h
            · exact hwl h.1)
          have g1 : ((o.wts.length : Int) != (l.length : Int)) = true := by simp; omega
          have g2 : (o.wts.length != l.length) = true := by simpa using hwl
          go_enter Tryz.func7, Tryz.ntmps7
          go_upto_region 5 with (first
            | (go_at_call 18; go_must (rw [HW.out]; (with_reducible refine HC.out.mono ?_); rintro e w1 ⟨rfl, hb1⟩; rw [H0.out]; obtain ⟨y0, y1, y2, y3, y4⟩ := HX.out w1 hb1))
            | (go_at_call 19; go_must ((with_reducible refine (HR.out w1 hb1).mono ?_); rintro e w2 ⟨rfl, hb2⟩; rw [Hr.out]; have hB2 := hb1.trans (hb2.mono hb1.size); obtain ⟨z0, z1, z2, z3, z4⟩ := HX.out w2 hB2))
            | fail)
          go_quiet (fail)
          go_wp2
          go_ret
          exact ⟨ret_int hfin.out.symm, bl_drewN (hB.trans (hB2.mono hB.size)) _⟩
        · replace hwl := Decidable.not_not.1 hwl
          have g1 : ((o.wts.length : Int) != (l.length : Int)) = false := by simp; omega
          have g2 : (o.wts.length != l.length) = false := by simpa using hwl
          have Hwl := Lib.hid hwl
          have hwp : 0 < o.wts.length := by rw [hwl]; exact hpos
          obtain ⟨x, hx⟩ : ∃ x, o.wts[0]? = some x := ⟨_, List.getElem?_eq_getElem (by omega)⟩
          clear hwl
          by_cases hv1 : o.var < 1
          · have hfin : Hid (chkO l o = 2) := Lib.hid (by
              unfold chkO
              rw [if_neg]
              rintro ⟨_, _, h | h⟩
              · rw [Hlpo.out] at h; cases h
              · exact by have := h.2.1; omega)
            go_enter Tryz.func7, Tryz.ntmps7
            go_upto_region 5 with (first
              | (go_at_call 18; go_must (rw [HW.out]; (with_reducible refine HC.out.mono ?_); rintro e w1 ⟨rfl, hb1⟩; rw [H0.out]; obtain ⟨y0, y1, y2, y3, y4⟩ := HX.out w1 hb1))
              | (go_at_call 19; go_must ((with_reducible refine (HR.out w1 hb1).mono ?_); rintro e w2 ⟨rfl, hb2⟩; rw [Hr.out]; have hB2 := hb1.trans (hb2.mono hb1.size); obtain ⟨z0, z1, z2, z3, z4⟩ := HX.out w2 hB2))
              | fail)
            go_quiet (fail)
            go_wp2
            go_ret
            exact ⟨ret_int hfin.out.symm, bl_drewN (hB.trans (hB2.mono hB.size)) _⟩
          · by_cases hv2 : 1000 < o.var
            · have hfin : Hid (chkO l o = 2) := Lib.hid (by
                unfold chkO
                rw [if_neg]
                rintro ⟨_, _, h | h⟩
                · rw [Hlpo.out] at h; cases h
                · exact by have := h.2.2.1; omega)
              go_enter Tryz.func7, Tryz.ntmps7
              go_upto_region 5 with (first
                | (go_at_call 18; go_must (rw [HW.out]; (with_reducible refine HC.out.mono ?_); rintro e w1 ⟨rfl, hb1⟩; rw [H0.out]; obtain ⟨y0, y1, y2, y3, y4⟩ := HX.out w1 hb1))
                | (go_at_call 19; go_must ((with_reducible refine (HR.out w1 hb1).mono ?_); rintro e w2 ⟨rfl, hb2⟩; rw [Hr.out]; have hB2 := hb1.trans (hb2.mono hb1.size); obtain ⟨z0, z1, z2, z3, z4⟩ := HX.out w2 hB2))
                | fail)
              go_quiet (fail)
              go_wp2
              go_ret
              exact ⟨ret_int hfin.out.symm, bl_drewN (hB.trans (hB2.mono hB.size)) _⟩
            · obtain ⟨bq, oq, rfl, hbq, hcq⟩ := (HM.out W (Below.refl _ _)).q.get hx
              rw [Nat.add_zero] at hcq
              have Hx := Lib.hid hx
              clear hx
              by_cases hxv : ¬ x = o.var
              · have hfin : Hid (chkO l o = 2) := Lib.hid (by
                  unfold chkO
                  rw [if_neg]
                  rintro ⟨_, _, h | h⟩
                  · rw [Hlpo.out] at h; cases h
                  · exact by rw [getD_of Hx.out] at h; exact hxv h.2.2.2.1)
                have g3 : (x != o.var) = true := by simpa using hxv
                have hcW := hcq
                go_enter Tryz.func7, Tryz.ntmps7
                go_upto_region 5 with (first
                  | (go_at_call 18; go_must (rw [HW.out]; (with_reducible refine HC.out.mono ?_); rintro e w1 ⟨rfl, hb1⟩; rw [H0.out]; obtain ⟨y0, y1, y2, y3, y4⟩ := HX.out w1 hb1))
                  | (go_at_call 19; go_must ((with_reducible refine (HR.out w1 hb1).mono ?_); rintro e w2 ⟨rfl, hb2⟩; rw [Hr.out]; have hB2 := hb1.trans (hb2.mono hb1.size); obtain ⟨z0, z1, z2, z3, z4⟩ := HX.out w2 hB2))
                  | fail)
                have hc2 := cell_on hB2 hbq hcq
                go_quiet (fail)
                go_wp2
                go_ret
                exact ⟨ret_int hfin.out.symm, bl_drewN (hB.trans (hB2.mono hB.size)) _⟩
              · replace hxv := Decidable.not_not.1 hxv
                have g3 : (x != o.var) = false := by simpa using hxv
                have Hxv := Lib.hid hxv
                clear hxv
                go_enter Tryz.func7, Tryz.ntmps7
                go_upto_region 5 with (first
                  | (go_at_call 18; go_must (rw [HW.out]; (with_reducible refine HC.out.mono ?_); rintro e w1 ⟨rfl, hb1⟩; rw [H0.out]; obtain ⟨y0, y1, y2, y3, y4⟩ := HX.out w1 hb1))
                  | (go_at_call 19; go_must ((with_reducible refine (HR.out w1 hb1).mono ?_); rintro e w2 ⟨rfl, hb2⟩; rw [Hr.out]; have hB2 := hb1.trans (hb2.mono hb1.size); obtain ⟨z0, z1, z2, z3, z4⟩ := HX.out w2 hB2))
                  | fail)
                have hc2 := cell_on hB2 hbq hcq
                go_quiet (fail)
                have hB3 := bl_drewN hB2 nq
                clear hc2 z0 z1 z2 z3 z4 y0 y1 y2 y3 y4 x0 x1 x2 x3 x4 g1 g2 g3
                go_wp2
                go_loopw [5] (fun i' wr => ∃ k : Nat, k ≤ l.length ∧ i' = .int .i64 (k : Int) ∧ Below W.heap.size W wr ∧ Hid (∀ j, j < k → badW l o j = false)) (fun i' _ => l.length - (intOf i').toNat)
                case atStart => exact ⟨0, Nat.zero_le _, rfl, hB3, Lib.hid fun j h0 => absurd h0 (Nat.not_lt_zero _)⟩
                case round =>
                  obtain ⟨k, hk, rfl, hBr, HD⟩ := hrel
                  clear hB3 hb1 hb2 hB2
                  obtain ⟨x0, x1, x2, x3, x4⟩ := HX.out wr hBr
                  by_cases hkl : k < l.length
                  · have hkw : k < o.wts.length := by rw [Hwl.out]; exact hkl
                    obtain ⟨s, hs⟩ : ∃ s, l[k]? = some s := ⟨_, List.getElem?_eq_getElem hkl⟩
                    obtain ⟨x', hx'⟩ : ∃ x, o.wts[k]? = some x := ⟨_, List.getElem?_eq_getElem hkw⟩
                    obtain ⟨bs, os, rfl, hbs, hcs⟩ := (HS.out wr hBr).ad hpos
                    obtain ⟨_, c1, _⟩ := hcs k s hs
                    obtain ⟨b', o', hAA, hbq', hcq'⟩ := (HM.out wr hBr).q.get hx'
                    simp only [Option.some.injEq, Addr.mk.injEq, and_true] at hAA
                    obtain ⟨hA1, hA2⟩ := hAA
                    rw [← hA1, ← hA2] at hcq'
                    rw [← hA1] at hbq'
                    have Hat := Lib.hid (badW_at hs hx')
                    obtain ⟨av, hav⟩ : ∃ av, s.arity = av := ⟨_, rfl⟩
                    rw [hav] at c1
                    have Hav := Lib.hid hav
                    clear hs hx' hcs hA1 hA2 hcq hav
                    have hkp : k < o.prec.length := by rw [Hpl.out]; exact hkl
                    by_cases p1 : x' < 0
                    · have hfin : Hid (chkO l o = 2) := Lib.hid (by
                        unfold chkO
                        rw [if_neg]
                        rintro ⟨_, _, h | h⟩
                        · rw [Hlpo.out] at h; cases h
                        · have := chkW_no hkl (Hat.out.trans (show badX s x' o.var (highB o.prec k) = true by unfold badX; rw [Hav.out]; simp [p1]))
                          rw [this] at h; cases h.2.2.2.2)
                      go_wp2
                      go_ret
                      exact ⟨ret_int hfin.out.symm, hB.trans (hBr.mono hB.size)⟩
                    · by_cases p2 : 1000 < x'
                      · have hfin : Hid (chkO l o = 2) := Lib.hid (by
                          unfold chkO
                          rw [if_neg]
                          rintro ⟨_, _, h | h⟩
                          · rw [Hlpo.out] at h; cases h
                          · have := chkW_no hkl (Hat.out.trans (show badX s x' o.var (highB o.prec k) = true by unfold badX; rw [Hav.out]; simp [p2]))
                            rw [this] at h; cases h.2.2.2.2)
                        go_wp2
                        go_ret
                        exact ⟨ret_int hfin.out.symm, hB.trans (hBr.mono hB.size)⟩
                      · by_cases p3 : av = 0
                        · have q3 : (av == 0) = true := by simpa using p3
                          have q4 : (av == 1) = false := by simp; omega
                          by_cases p4 : x' < o.var
                          · have hfin : Hid (chkO l o = 2) := Lib.hid (by
                              unfold chkO
                              rw [if_neg]
                              rintro ⟨_, _, h | h⟩
                              · rw [Hlpo.out] at h; cases h
                              · have := chkW_no hkl (Hat.out.trans (show badX s x' o.var (highB o.prec k) = true by unfold badX; rw [Hav.out]; simp [p3, p4]))
                                rw [this] at h; cases h.2.2.2.2)
                            clear p3
                            go_wp2
                            go_ret
                            exact ⟨ret_int hfin.out.symm, hB.trans (hBr.mono hB.size)⟩
                          · have hgd := Lib.hid (Hat.out.trans (show badX s x' o.var (highB o.prec k) = false by unfold badX; rw [Hav.out]; simp [p1, p2, p3, p4]))
                            clear p3
                            go_wp2
                            go_roundw
                            case rel => exact ⟨k + 1, by omega, by go_num, hBr, Lib.hid (all_next HD.out hgd.out)⟩
                            case measure => simp [intOf]; omega
                        · have q3 : (av == 0) = false := by simpa using p3
                          by_cases p5 : av = 1
                          · have q4 : (av == 1) = true := by simpa using p5
                            by_cases p6 : x' = 0
                            · have q5 : (x' == 0) = true := by simpa using p6
                              cases p7 : highB o.prec k with
                              | true =>
                                have hgd := Lib.hid (Hat.out.trans (show badX s x' o.var (highB o.prec k) = false by unfold badX; rw [Hav.out]; simp [p5, p6, p7]))
                                have H7 := Lib.hid p7
                                clear p7 p6 p5 p3 p1 p2
                                have p1 : ¬ x' < 0 := by have := of_decide_eq_true q5; omega
                                have p2 : ¬ 1000 < x' := by have := of_decide_eq_true q5; omega
                                go_wp2_with (first | (go_at_call 20; (with_reducible refine (HH.out _ hBr k hkp).mono ?_); go_must (rintro e w5 ⟨rfl, hb5⟩; rw [H7.out])) | fail)
                                go_roundw
                                case rel => exact ⟨k + 1, by omega, by go_num, hBr.trans (hb5.mono hBr.size), Lib.hid (all_next HD.out hgd.out)⟩
                                case measure => simp [intOf]; omega
                              | false =>
                                have hfin : Hid (chkO l o = 2) := Lib.hid (by
                                  unfold chkO
                                  rw [if_neg]
                                  rintro ⟨_, _, h | h⟩
                                  · rw [Hlpo.out] at h; cases h
                                  · have := chkW_no hkl (Hat.out.trans (show badX s x' o.var (highB o.prec k) = true by unfold badX; rw [Hav.out]; simp [p5, p6, p7]))
                                    rw [this] at h; cases h.2.2.2.2)
                                have H7 := Lib.hid p7
                                clear p7 p6 p5 p3 p1 p2
                                have p1 : ¬ x' < 0 := by have := of_decide_eq_true q5; omega
                                have p2 : ¬ 1000 < x' := by have := of_decide_eq_true q5; omega
                                go_wp2_with (first | (go_at_call 20; (with_reducible refine (HH.out _ hBr k hkp).mono ?_); go_must (rintro e w5 ⟨rfl, hb5⟩; rw [H7.out])) | fail)
                                go_ret
                                exact ⟨ret_int hfin.out.symm, hB.trans ((hBr.trans (hb5.mono hBr.size)).mono hB.size)⟩
                            · have q5 : (x' == 0) = false := by simpa using p6
                              have hgd := Lib.hid (Hat.out.trans (show badX s x' o.var (highB o.prec k) = false by unfold badX; rw [Hav.out]; simp [p1, p2, p5, p6]))
                              clear p6 p5 p3
                              go_wp2
                              go_roundw
                              case rel => exact ⟨k + 1, by omega, by go_num, hBr, Lib.hid (all_next HD.out hgd.out)⟩
                              case measure => simp [intOf]; omega
                          · have q4 : (av == 1) = false := by simpa using p5
                            have hgd := Lib.hid (Hat.out.trans (show badX s x' o.var (highB o.prec k) = false by unfold badX; rw [Hav.out]; simp [p1, p2, p3, p5]))
                            clear p5 p3
                            go_wp2
                            go_roundw
                            case rel => exact ⟨k + 1, by omega, by go_num, hBr, Lib.hid (all_next HD.out hgd.out)⟩
                            case measure => simp [intOf]; omega
                  · obtain rfl : k = l.length := by omega
                    have hfin : Hid (chkO l o = 0) := Lib.hid (by
                      unfold chkO
                      rw [if_pos ⟨H0.out, Hr.out, .inr ⟨Hwl.out, by omega, by omega, (getD_of Hx.out).trans Hxv.out, chkW_yes HD.out⟩⟩])
                    go_wp2
                    go_ret
                    exact ⟨ret_int hfin.out.symm, hB.trans (hBr.mono hB.size)⟩

end Go.Proofs.YtfnncphkidhbpaaGreatDoor

