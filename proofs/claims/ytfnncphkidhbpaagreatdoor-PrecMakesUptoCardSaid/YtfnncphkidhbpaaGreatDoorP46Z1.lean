import Derived.Test.YtfnncphkidhbpaaGreatDoorP45Z6
import Derived.Test.YtfnncphkidhbpaaGreatDoorP45Z5
import Derived.Test.YtfnncphkidhbpaaGreatDoorP45Z4
import Derived.Deep.CutBlock
import Derived.Test.YtfnncphkidhbpaaGreatDoorRows
import Derived.ChangeSlices
/- The document's own count of a term's symbols. -/

namespace Go.Proofs.YtfnncphkidhbpaaGreatDoor

open Go Go.RowKit Go.Shelf
set_option maxRecDepth 100000

/-- count, of a term whose rows lie in N's blocks, into block g. -/
def RCnt (N : Nat → Prop) (g : Nat) (t : Tm) : Prop := ∀ (n : List Int) (B : Int) (A : Option Addr) (c cc : Nat) (w : World), w.heap[g]? = some (.cells (iC n) 3) → ¬ N g → (∀ k, N k → k < w.heap.size) → I64 t.fn → ArgsN w N A t.args → (∀ f ∈ hdsT t, f < (n.length : Int)) → (∀ x ∈ n, 0 ≤ x ∧ x ≤ B) → 0 ≤ B → B + t.size ≤ 4611686018427387904 → n.length ≤ 1000 →
  Calls Tryz.prog 30 #[.agg #[.int .i64 t.fn, .slice A t.args.length c], .slice (some ⟨g, 0, none⟩) n.length cc] w fun e w' => e = .returned (.tuple #[]) ∧ w'.heap[g]? = some (.cells (iC (cntC n (hdsT t))) 3) ∧ Keeps (fun k => k < w.heap.size ∧ k ≠ g) w w'

set_option maxHeartbeats 4000000 in
theorem refCount_any (N : Nat → Prop) (g : Nat) (t : Tm) : RCnt N g t := by
  refine Tm.ind (P := RCnt N g) (fun f xs ih => ?_) t
  intro n B A c cc w hg hNg hNs hf hA hds hn hB0 hB62 hn9
  simp only [Tm.fn, Tm.args] at hf hA ⊢
  have hlen := hA.len
  have hgl := (Array.getElem?_eq_some_iff.1 hg).1
  obtain ⟨W, hW⟩ : ∃ W, w.alloc (.cells #[.int .i64 f, .slice A xs.length c] 53) = W := ⟨_, rfl⟩
  have q0 : W.heap[w.heap.size]? = some (.cells #[.int .i64 f, .slice A xs.length c] 53) := by rw [← hW]; exact heap_alloc_new _ _
  have hB : Below w.heap.size w W := by rw [← hW]; exact (Below.refl _ _).alloc (Nat.le_refl _) _
  have hz : W.heap.size = w.heap.size + 1 := by rw [← hW]; simp
  have hgW := (hB.block g hgl).trans hg
  have HW := Lib.hid hW
  have hsz : (hdsL xs).length + 1 = (Tm.node f xs).size := by rw [hdsL_len, Tm.size]
  have hds' : hdsT (.node f xs) = f :: hdsL xs := by rw [hdsT]
  have HD := Lib.hid hds'
  rw [hds'] at hds
  have Hds := Lib.hid hds
  have hadd : ∀ x ∈ addC n f, 0 ≤ x ∧ x ≤ B + 1 := addC_le hn hB0 f
  clear hW
  obtain ⟨a0, a1, _, _⟩ := cells_two q0
  have hNW : ∀ k, N k → k < W.heap.size ∧ k ≠ g := fun k e => ⟨by have := hNs k e; omega, fun e' => hNg (e' ▸ e)⟩
  have HAW := Lib.hid (hA.keep (w' := W) fun k e => hB.block k (hNs k e))
  have Hadd := Lib.hid hadd
  have Hq0 := Lib.hid q0
  have Hsz := Lib.hid hsz
  have Hn := Lib.hid hn
  have hKe : Keeps (fun k => k < w.heap.size ∧ k ≠ g) w W := (Keeps.of_below hB).mono fun k e => e.1
  clear hA hds hds' q0 hsz hadd hn hg
  by_cases hf0 : f < 0
  · have HF : Hid (addC n f = n) := Lib.hid (if_pos hf0)
    have hf1 : ¬ 0 ≤ f := by omega
    clear hf0
    go_enter Tryz.func30, Tryz.ntmps30
    go_upto_region 1 with fail
    rw [HW.out]
    go_wp2
    clear a0 a1
    go_loopw [4] (fun i wr => ∃ k : Nat, k ≤ xs.length ∧ i = .int .i64 (k : Int) ∧ Hid (wr.heap[g]? = some (.cells (iC (cntC (addC n f) (hdsL (xs.take k)))) 3)) ∧ Keeps (fun k => k < W.heap.size ∧ k ≠ g) W wr) (fun i _ => xs.length - (intOf i).toNat)
    case atStart => exact ⟨0, Nat.zero_le _, rfl, Lib.hid (by rw [HF.out]; exact hgW), Keeps.refl _ _⟩
    case round =>
      obtain ⟨k, hk, rfl, HG, hKr⟩ := hrel
      obtain ⟨b0, b1, _, _⟩ := cells_two ((hKr.block w.heap.size ⟨by omega, by omega⟩).trans Hq0.out)
      by_cases hlt : k < xs.length
      · obtain ⟨u, hu⟩ : ∃ u, xs[k]? = some u := ⟨_, List.getElem?_eq_getElem hlt⟩
        obtain ⟨bb, off, A1, c1, rfl, ha⟩ := (HAW.out.keep fun q e => hKr.block q (hNW q e)).get hu
        have e0 := ha.c0
        have e1 := ha.c1
        have hmem := List.mem_of_getElem? hu
        obtain ⟨nk, hnk⟩ : ∃ nk, cntC (addC n f) (hdsL (xs.take k)) = nk := ⟨_, rfl⟩
        rw [hnk] at HG
        have hnkl : nk.length = n.length := by rw [← hnk, cntC_len, addC_len]
        have hpre : hdsL (xs.take (k + 1)) = hdsL (xs.take k) ++ hdsT u := by rw [List.take_add_one, hu, hdsL_append]; simp [hdsL]
        have htot : (hdsL (xs.take k)).length + u.size ≤ (hdsL xs).length := by
          have h9 : hdsL xs = hdsL (xs.take (k + 1)) ++ hdsL (xs.drop (k + 1)) := by rw [← hdsL_append, List.take_append_drop]
          rw [h9, hpre, List.length_append, List.length_append, hdsT_len]; omega
        have hsub : ∀ q ∈ hdsT u, q < (nk.length : Int) := fun q hq => by
          rw [hnkl]
          refine Hds.out q (List.mem_cons_of_mem _ ?_)
          have h9 : hdsL xs = hdsL (xs.take (k + 1)) ++ hdsL (xs.drop (k + 1)) := by rw [← hdsL_append, List.take_append_drop]
          rw [h9, hpre]
          exact List.mem_append_left _ (List.mem_append_right _ hq)
        have hcall := ih u hmem nk (B + 1 + (hdsL (xs.take k)).length) A1 c1 cc wr HG.out hNg (fun q e => Nat.lt_of_lt_of_le (hNW q e).1 hKr.size) ha.hi ha.sub hsub (fun x hx => by rw [← hnk] at hx; exact cntC_le _ Hadd.out (by omega) x hx) (by omega) (by have := Hsz.out; omega) (by omega)
        rw [hnkl] at hcall
        have HCall := Lib.hid hcall
        have HNx := Lib.hid (show cntC (addC n f) (hdsL (xs.take (k + 1))) = cntC nk (hdsT u) by rw [hpre, cntC_append, hnk])
        have hks := hKr.size
        clear hu ha hnk hnkl hpre htot hsub hcall
        go_wp2_with (first
          | ((with_reducible refine HCall.out.mono ?_); go_must (rintro e w2 ⟨rfl, hg2, hk2⟩))
          | fail)
        go_roundw
        case rel =>
          refine ⟨k + 1, by omega, by go_num, Lib.hid (by rw [HNx.out]; exact hg2), hKr.trans (hk2.mono fun q e => ⟨by omega, e.2⟩)⟩
        case measure => simp [intOf]; omega
      · obtain rfl : k = xs.length := by omega
        have hG := HG.out
        rw [List.take_length] at hG
        have HG2 := Lib.hid hG
        clear hG HG
        go_wp2
        go_end0
        refine ⟨rfl, ?_, hKe.trans (hKr.mono fun q e => ⟨by omega, e.2⟩)⟩
        rw [HD.out]
        exact HG2.out
  · obtain ⟨m, hm⟩ : ∃ m : Nat, f = (m : Int) := ⟨f.toNat, by omega⟩
    have hml : m < n.length := by have := Hds.out f List.mem_cons_self; omega
    obtain ⟨y, hy⟩ : ∃ y, n[m]? = some y := ⟨_, List.getElem?_eq_getElem hml⟩
    have hyb := Hn.out y (List.mem_of_getElem? hy)
    have hsz1 := Hsz.out
    have hy0 : 0 ≤ y := hyb.1
    have hy1 : y ≤ 4611686018427387904 := by omega
    have HF : Hid (addC n f = n.set m (y + 1)) := Lib.hid (by unfold addC; rw [if_neg hf0, hm, Int.toNat_natCast, List.getD_eq_getElem?_getD, hy]; rfl)
    obtain ⟨d0, d1⟩ := iC_cell hgW hy
    have hst : (W.setCell ⟨g, m, none⟩ (.int .i64 (y + 1))).heap[g]? = some (.cells (iC (addC n f)) 3) := by rw [HF.out]; exact iC_set hgW m (y + 1)
    have HSt := Lib.hid hst
    have hgne : w.heap.size ≠ g := by omega
    have a0' : (W.setCell ⟨g, m, none⟩ (.int .i64 (y + 1))).cell? ⟨w.heap.size, 1, none⟩ = some (.slice A xs.length c) := (cell_of_heap (heap_setCell_other _ _ _ _ hgne)).trans a1
    subst hm
    clear hf0 hy hyb hst hsz1
    go_enter Tryz.func30, Tryz.ntmps30
    go_upto_region 1 with fail
    rw [HW.out]
    go_wp2
    clear d0 d1 a0'
    clear a0 a1
    go_loopw [4] (fun i wr => ∃ k : Nat, k ≤ xs.length ∧ i = .int .i64 (k : Int) ∧ Hid (wr.heap[g]? = some (.cells (iC (cntC (addC n (m : Int)) (hdsL (xs.take k)))) 3)) ∧ Keeps (fun k => k < W.heap.size ∧ k ≠ g) W wr) (fun i _ => xs.length - (intOf i).toNat)
    case atStart => exact ⟨0, Nat.zero_le _, rfl, HSt, (Keeps.set W ⟨g, m, none⟩ _).mono fun q e => e.2⟩
    case round =>
      obtain ⟨k, hk, rfl, HG, hKr⟩ := hrel
      obtain ⟨b0, b1, _, _⟩ := cells_two ((hKr.block w.heap.size ⟨by omega, by omega⟩).trans Hq0.out)
      by_cases hlt : k < xs.length
      · obtain ⟨u, hu⟩ : ∃ u, xs[k]? = some u := ⟨_, List.getElem?_eq_getElem hlt⟩
        obtain ⟨bb, off, A1, c1, rfl, ha⟩ := (HAW.out.keep fun q e => hKr.block q (hNW q e)).get hu
        have e0 := ha.c0
        have e1 := ha.c1
        have hmem := List.mem_of_getElem? hu
        obtain ⟨nk, hnk⟩ : ∃ nk, cntC (addC n (m : Int)) (hdsL (xs.take k)) = nk := ⟨_, rfl⟩
        rw [hnk] at HG
        have hnkl : nk.length = n.length := by rw [← hnk, cntC_len, addC_len]
        have hpre : hdsL (xs.take (k + 1)) = hdsL (xs.take k) ++ hdsT u := by rw [List.take_add_one, hu, hdsL_append]; simp [hdsL]
        have htot : (hdsL (xs.take k)).length + u.size ≤ (hdsL xs).length := by
          have h9 : hdsL xs = hdsL (xs.take (k + 1)) ++ hdsL (xs.drop (k + 1)) := by rw [← hdsL_append, List.take_append_drop]
          rw [h9, hpre, List.length_append, List.length_append, hdsT_len]; omega
        have hsub : ∀ q ∈ hdsT u, q < (nk.length : Int) := fun q hq => by
          rw [hnkl]
          refine Hds.out q (List.mem_cons_of_mem _ ?_)
          have h9 : hdsL xs = hdsL (xs.take (k + 1)) ++ hdsL (xs.drop (k + 1)) := by rw [← hdsL_append, List.take_append_drop]
          rw [h9, hpre]
          exact List.mem_append_left _ (List.mem_append_right _ hq)
        have hcall := ih u hmem nk (B + 1 + (hdsL (xs.take k)).length) A1 c1 cc wr HG.out hNg (fun q e => Nat.lt_of_lt_of_le (hNW q e).1 hKr.size) ha.hi ha.sub hsub (fun x hx => by rw [← hnk] at hx; exact cntC_le _ Hadd.out (by omega) x hx) (by omega) (by have := Hsz.out; omega) (by omega)
        rw [hnkl] at hcall
        have HCall := Lib.hid hcall
        have HNx := Lib.hid (show cntC (addC n (m : Int)) (hdsL (xs.take (k + 1))) = cntC nk (hdsT u) by rw [hpre, cntC_append, hnk])
        have hks := hKr.size
        clear hu ha hnk hnkl hpre htot hsub hcall
        go_wp2_with (first
          | ((with_reducible refine HCall.out.mono ?_); go_must (rintro e w2 ⟨rfl, hg2, hk2⟩))
          | fail)
        go_roundw
        case rel =>
          refine ⟨k + 1, by omega, by go_num, Lib.hid (by rw [HNx.out]; exact hg2), hKr.trans (hk2.mono fun q e => ⟨by omega, e.2⟩)⟩
        case measure => simp [intOf]; omega
      · obtain rfl : k = xs.length := by omega
        have hG := HG.out
        rw [List.take_length] at hG
        have HG2 := Lib.hid hG
        clear hG HG
        go_wp2
        go_end0
        refine ⟨rfl, ?_, hKe.trans (hKr.mono fun q e => ⟨by omega, e.2⟩)⟩
        rw [HD.out]
        exact HG2.out

end Go.Proofs.YtfnncphkidhbpaaGreatDoor

/- The document's own Counts. -/

namespace Go.Proofs.YtfnncphkidhbpaaGreatDoor

open Go Go.RowKit Go.Shelf
set_option maxRecDepth 100000

theorem tm_true {t : Tm} (h : trueB t = true) : t = .node 0 [] := by
  cases t with
  | node f xs =>
    have h := of_decide_eq_true h
    simp only [Tm.fn, Tm.args] at h
    rw [h.1, List.eq_nil_of_length_eq_zero h.2]

theorem chk_truth {l : List Sm} (h0 : checkI l = 0) : chkT l (.node 0 []) = 0 := by
  rw [chk_same]
  unfold chkP
  have hs := (chk_one h0).2.1
  have ho : overT l (.node 0 []) true = true := by
    rw [over_in (by decide) (show l[(0 : Int).toNat]? = some truthSm from hs) (by simp [truthSm])]
    rfl
  rw [if_pos h0, if_pos (by decide +kernel), if_pos ho]

/-- Both sides of a literal may be just if what is counted of it may be. -/
theorem lit_ok {l : List Sm} {x : Lp} (h0 : checkI l = 0) : okI l (itm x) = (decide (chkP l x.l = 0) && decide (chkP l x.r = 0)) := by
  rw [← chk_same, ← chk_same]
  cases hT : trueB x.r with
  | true => rw [itm_yes hT, tm_true hT, chk_truth h0]; simp [okI]
  | false => rw [itm_no hT]; simp [okI]

theorem lit_hds {l : List Sm} {x : Lp} (h : chkP l x.r = 0) : hdsL (itm x) = hdsT x.l ++ (if x.r.fn = 0 then [] else hdsT x.r) := by
  cases hT : trueB x.r with
  | true =>
    rw [itm_yes hT, if_pos (by rw [tm_true hT]; rfl)]
    simp [hdsL]
  | false =>
    rw [itm_no hT, if_neg]
    · simp [hdsL]
    · intro hf
      rw [← chk_same] at h
      obtain ⟨h1, h2⟩ := chk_zero' h
      obtain ⟨_, _, _, ho⟩ := (fitp_iff l x.r 1 300 (by decide)).1 h2
      have hs := (chk_one h1).2.1
      cases hx : x.r with
      | node f ys =>
        rw [hx] at hf ho
        simp only [Tm.fn] at hf
        subst hf
        by_cases hb : truthSm.arity ≠ ys.length ∨ (truthSm.pred = true ∧ decide ((1 : Int) ≤ 1) = false)
        · rw [over_bad (by decide) (show l[(0 : Int).toNat]? = some truthSm from hs) hb] at ho; cases ho
        · have hy : (ys.length : Int) = 0 := by
            apply Classical.byContradiction
            intro hc
            exact hb (.inl (fun e => hc (by rw [← e]; rfl)))
          have : trueB x.r = true := by rw [hx]; exact decide_eq_true ⟨rfl, by simp only [Tm.args]; omega⟩
          rw [this] at hT; cases hT

theorem ref2Chk_yes {l : List Sm} {t : Tm} (hk : chkP l t = 0) (As A : Option Addr) (cs c : Nat) (w : World) (hsz : t.size ≤ 4611686018427387904) (hS : Syms w w.heap.size As l.length l) (hn : l.length * 32 ≤ 140737488351232) (hf : I64 t.fn) (hA : Args w w.heap.size A t.args) :
    Calls Tryz.prog 29 #[.agg #[.slice As l.length cs], .agg #[.int .i64 t.fn, .slice A t.args.length c]] w fun e w' => e = .returned (.int .i64 0) ∧ Below w.heap.size w w' := by
  have h := ref2ChkP_any l t As A l.length cs c w hsz hS hn hf hA
  rwa [hk] at h

theorem chkP_two {l : List Sm} {t : Tm} (h : ¬ chkP l t = 0) : chkP l t = 2 := by
  rw [← chk_same] at h ⊢
  unfold chkT at h ⊢
  split
  · rfl
  · rename_i h1; rw [if_neg h1] at h
    split
    · rename_i h2; rw [if_pos h2] at h; exact absurd rfl h
    · rfl

theorem ref2Chk_no {l : List Sm} {t : Tm} (hk : ¬ chkP l t = 0) (As A : Option Addr) (cs c : Nat) (w : World) (hsz : t.size ≤ 4611686018427387904) (hS : Syms w w.heap.size As l.length l) (hn : l.length * 32 ≤ 140737488351232) (hf : I64 t.fn) (hA : Args w w.heap.size A t.args) :
    Calls Tryz.prog 29 #[.agg #[.slice As l.length cs], .agg #[.int .i64 t.fn, .slice A t.args.length c]] w fun e w' => e = .returned (.int .i64 2) ∧ Below w.heap.size w w' := by
  have h := ref2ChkP_any l t As A l.length cs c w hsz hS hn hf hA
  rwa [chkP_two hk] at h

end Go.Proofs.YtfnncphkidhbpaaGreatDoor

/- The document's own Counts, walked. -/

namespace Go.Proofs.YtfnncphkidhbpaaGreatDoor

open Go Go.RowKit Go.Shelf
set_option maxRecDepth 100000

theorem upTo_zeroR (m : Nat) : upTo 0 m = List.replicate m 0 := by
  apply List.ext_getElem?
  intro i
  unfold upTo
  rw [List.getElem?_map, List.getElem?_replicate]
  by_cases h : i < m
  · rw [List.getElem?_range h, if_pos h]; rfl
  · rw [List.getElem?_eq_none (by simpa using h), if_neg h]; rfl

theorem cells5r {W : World} {b : Nat} {x y z u v : Value} {t : TypeId} (h : W.heap[b]? = some (.cells #[x, y, z, u, v] t)) : W.cell? ⟨b, 0, none⟩ = some x ∧ W.cell? ⟨b, 1, none⟩ = some y ∧ W.cell? ⟨b, 2, none⟩ = some z ∧ W.cell? ⟨b, 3, none⟩ = some u ∧ W.cell? ⟨b, 4, none⟩ = some v := by
  refine ⟨?_, ?_, ?_, ?_, ?_⟩ <;> simp [World.cell?, h]

/-- The terms of the clauses are of a size that a number tells. -/
def SmallC (cl : List (List Lp)) : Prop := ∀ lc ∈ cl, ∀ x ∈ lc, x.l.size ≤ 1073741824 ∧ x.r.size ≤ 1073741824

theorem itms_le_mid {cl : List (List Lp)} {lc : List Lp} {x : Lp} {i j : Nat} (hi : cl[i]? = some lc) (hj : lc[j]? = some x) : (itms (cl.take i)).length + (itmL (lc.take j)).length + (itm x).length ≤ (itms cl).length := by
  have := (itms_mid hi hj).length_le
  simp only [List.length_append] at this
  omega

set_option maxHeartbeats 8000000 in
theorem refCounts_any (l : List Sm) (cl : List (List Lp)) (As Aq : Option Addr) (cs cq : Nat) (w : World) (hS : Syms w w.heap.size As l.length l) (hn : l.length * 32 ≤ 140737488351232) (hC : ClRow w (· < w.heap.size) Aq cl) (hz : (itms cl).length ≤ 1099511627776) (hsm : SmallC cl) :
    Calls Tryz.prog 12 #[.agg #[.slice As l.length cs], .slice Aq cl.length cq] w (CountsPost l (cntNo l cl) (cntN l cl) w) := by
  obtain ⟨W, hW⟩ : ∃ W, w.alloc (.cells #[.slice As l.length cs] 24) = W := ⟨_, rfl⟩
  have q0 : W.heap[w.heap.size]? = some (.cells #[.slice As l.length cs] 24) := by rw [← hW]; exact heap_alloc_new _ _
  have hB : Below w.heap.size w W := by rw [← hW]; exact (Below.refl _ _).alloc (Nat.le_refl _) _
  have hWz : W.heap.size = w.heap.size + 1 := by rw [← hW]; simp
  have HW := Lib.hid hW
  have HB := Lib.hid hB
  have HS := Lib.hid (hS.on hB)
  have HC := Lib.hid hC
  have hcl := hC.len
  obtain ⟨a0, _⟩ := cells_one q0
  have HCk := Lib.hid (refCheck_any As l.length cs l W HS.out hn)
  clear hW hS hC
  by_cases h0 : checkI l = 0
  · have hm : 1 ≤ l.length := by have := chk_some h0; omega
    have h96 := (chk_one h0).1
    have HNo := Lib.hid (show cntNo l cl = !(okI l (itms cl)) by unfold cntNo; rw [decide_eq_true h0]; rfl)
    obtain ⟨i0, hi1, hz0, hz1, hz2⟩ := info_parts infoI
    have hmk : ∀ w : World, (Instr.makeSlice 25 (.int .i64 (l.length : Int)) (.int .i64 (l.length : Int))).run Tryz.prog w = .ok (.slice (some ⟨w.heap.size, 0, none⟩) l.length l.length) (w.alloc (.cells (iC (upTo 0 l.length)) 3)) := fun w => by
      rw [← made_iC]; exact run_make_row _ _ i0 _ Tryz.underlying25 hi1 hz0 hz1 rfl _ _ l.length (by rw [hz2]; omega) (by omega) w
    rw [h0] at HCk
    clear hi1 hz0 hz1 hz2
    go_enter Tryz.func12, Tryz.ntmps12
    go_upto_region 1 with fail
    rw [HW.out]
    go_upto_region 4 with (first
      | ((with_reducible refine HCk.out.mono ?_); go_must (rintro e w1 ⟨rfl, hb1⟩; obtain ⟨a1, _⟩ := cells_one ((hb1.block _ (by omega)).trans q0)))
      | fail)
    obtain ⟨W2, hW2⟩ : ∃ W2, w1.alloc (.cells (iC (upTo 0 l.length)) 3) = W2 := ⟨_, rfl⟩
    have hg2 : W2.heap[w1.heap.size]? = some (.cells (iC (upTo 0 l.length)) 3) := by rw [← hW2]; exact heap_alloc_new _ _
    have hb2 : Below w1.heap.size w1 W2 := by rw [← hW2]; exact (Below.refl _ _).alloc (Nat.le_refl _) _
    have hz2 : W2.heap.size = w1.heap.size + 1 := by rw [← hW2]; simp
    have hz1 := hb1.size
    have hBw2 : Below w.heap.size w W2 := hB.trans ((bl_step hb1 hb2).mono (by omega))
    have hq2 := ((bl_step hb1 hb2).block _ (by omega)).trans q0
    have HBW2 := Lib.hid hBw2
    have HBWW := Lib.hid (bl_step hb1 hb2)
    have HQ2 := Lib.hid hq2
    have HG2 : Hid (W2.heap[w1.heap.size]? = some (.cells (iC (cntC (List.replicate l.length 0) (hdsL (itms (cl.take 0))))) 3)) := Lib.hid (by rw [hg2, upTo_zeroR]; rfl)
    have HC2 := Lib.hid (HC.out.to (w' := W2) (M := (· < w.heap.size)) (fun g e => hBw2.block g e) fun _ e => e)
    have HS2 := Lib.hid (HS.out.on (bl_step hb1 hb2))
    have HW2 := Lib.hid hW2
    have hgw : w.heap.size + 1 ≤ w1.heap.size := by omega
    clear hW2 hg2 hb2 hBw2 hq2 a0 a1 hmk hb1
    rw [HW2.out]
    go_wp2
    go_loopw [7] (fun i wr => ∃ k : Nat, k ≤ cl.length ∧ i = .int .i64 (k : Int) ∧ Hid (wr.heap[w1.heap.size]? = some (.cells (iC (cntC (List.replicate l.length 0) (hdsL (itms (cl.take k))))) 3)) ∧ Hid (okI l (itms (cl.take k)) = true) ∧ Keeps (fun g => g < W2.heap.size ∧ g ≠ w1.heap.size) W2 wr) (fun i _ => cl.length - (intOf i).toNat)
    case atStart => exact ⟨0, Nat.zero_le _, rfl, HG2, Lib.hid rfl, Keeps.refl _ _⟩
    case round =>
      obtain ⟨k, hk, rfl, HG, HOk, hKr⟩ := hrel
      by_cases hlt : k < cl.length
      · obtain ⟨lc, hlc⟩ : ∃ lc, cl[k]? = some lc := ⟨_, List.getElem?_eq_getElem hlt⟩
        obtain ⟨b, off, A1, c1, rfl, hNb, e0, hRow⟩ := HC2.out.get hlc
        have hNb' : b < w.heap.size := hNb
        have hll := hRow.len
        have HLc := Lib.hid hlc
        have HRow := Lib.hid hRow
        have HE0 := Lib.hid e0
        clear hlc hRow e0 hNb
        go_wp2
        go_loopw [8] (fun i wr => ∃ j : Nat, j ≤ lc.length ∧ i = .int .i64 (j : Int) ∧ Hid (wr.heap[w1.heap.size]? = some (.cells (iC (cntC (List.replicate l.length 0) (hdsL (itms (cl.take k) ++ itmL (lc.take j))))) 3)) ∧ Hid (okI l (itms (cl.take k) ++ itmL (lc.take j)) = true) ∧ Keeps (fun g => g < W2.heap.size ∧ g ≠ w1.heap.size) W2 wr) (fun i _ => lc.length - (intOf i).toNat)
        case atStart => exact ⟨0, Nat.zero_le _, rfl, Lib.hid (by have := HG.out; simpa [itmL] using this), Lib.hid (by have := HOk.out; simpa [itmL] using this), hKr⟩
        case round =>
          obtain ⟨j, hj, rfl, HG3, HOk3, hK3⟩ := hrel
          have e1 := (cell_of_heap (hK3.block b ⟨by omega, by omega⟩)).trans HE0.out
          by_cases hjl : j < lc.length
          · obtain ⟨x, hx⟩ : ∃ x, lc[j]? = some x := ⟨_, List.getElem?_eq_getElem hjl⟩
            obtain ⟨b2, off2, B1, d1, B2, d2, rfl, hNb2, hAt⟩ := HRow.out.get hx
            have hNb2' : b2 < w.heap.size := hNb2
            have kk := fun o v (h : W2.cell? ⟨b2, o, none⟩ = some v) => (cell_of_heap (hK3.block b2 ⟨by omega, by omega⟩)).trans h
            have a0 := kk _ _ hAt.v0
            have a1 := kk _ _ hAt.v1
            have a2 := kk _ _ hAt.v2
            have a3 := kk _ _ hAt.v3
            have a4 := kk _ _ hAt.v4
            obtain ⟨W5, hW5⟩ : ∃ W5, wr.alloc (.cells #[.bool x.neg, .int .i64 x.l.fn, .slice B1 x.l.args.length d1, .int .i64 x.r.fn, .slice B2 x.r.args.length d2] 55) = W5 := ⟨_, rfl⟩
            have p5 : W5.heap[wr.heap.size]? = some (.cells #[.bool x.neg, .int .i64 x.l.fn, .slice B1 x.l.args.length d1, .int .i64 x.r.fn, .slice B2 x.r.args.length d2] 55) := by rw [← hW5]; exact heap_alloc_new _ _
            have hb5 : Below wr.heap.size wr W5 := by rw [← hW5]; exact (Below.refl _ _).alloc (Nat.le_refl _) _
            have hz5 := (Array.getElem?_eq_some_iff.1 p5).1
            have hzr := hK3.size
            have hBWr : Below W.heap.size W wr := HBWW.out.trans (hK3.below fun g e => ⟨by have := HBWW.out.size; omega, by omega⟩)
            have hBW5 : Below W.heap.size W W5 := hBWr.trans (hb5.mono hBWr.size)
            have hk5 : ∀ g, g < w.heap.size → W5.heap[g]? = W2.heap[g]? := fun g e => (hb5.block g (by omega)).trans (hK3.block g ⟨by omega, by omega⟩)
            have hl5 : ArgsN W5 (· < w.heap.size) B1 x.l.args := hAt.sl.keep hk5
            have hr5 : ArgsN W5 (· < w.heap.size) B2 x.r.args := hAt.sr.keep hk5
            have hil := hAt.il
            have hir := hAt.ir
            obtain ⟨hsl, hsr⟩ := hsm lc (List.mem_of_getElem? HLc.out) x (List.mem_of_getElem? hx)
            have hq5 : W5.cell? ⟨w.heap.size, 0, none⟩ = some (.slice As l.length cs) := (cells_one ((hBW5.block _ (by omega)).trans ((by have := HQ2.out; rw [HBWW.out.block _ (by omega)] at this; exact this)))).1
            obtain ⟨f0, f1, f2, f3, f4⟩ := cells5r p5
            have hnx := itmL_take hx
            have Hmid := Lib.hid (itms_mid HLc.out hx)
            have Hmidl := Lib.hid (itms_le_mid HLc.out hx)
            have HBr : Hid (Below w.heap.size w W5) := Lib.hid (HB.out.trans (hBW5.mono HB.out.size))
            have Hl5 := Lib.hid hl5
            have Hr5 := Lib.hid hr5
            have HW5 := Lib.hid hW5
            have HP5 := Lib.hid p5
            have HBW5 := Lib.hid hBW5
            have Hnx := Lib.hid hnx
            have HB5 := Lib.hid hb5
            have hbadp : okI l (itm x) = false → cntNo l cl = true := fun h => by
              rw [HNo.out]
              have h9 := okI_pre Hmid.out (by rw [okI_append, h, Bool.and_false])
              rw [h9]; rfl
            have HBadp := Lib.hid hbadp
            have hfits : Args W5 W5.heap.size B1 x.l.args ∧ Args W5 W5.heap.size B2 x.r.args := ⟨hl5.args (fun g e => by have e' : g < w.heap.size := e; omega), hr5.args (fun g e => by have e' : g < w.heap.size := e; omega)⟩
            have HF := Lib.hid hfits
            have HS5 := Lib.hid (HS.out.on hBW5)
            clear hW5 hl5 hr5 hx hAt kk p5 hBWr hBW5 hnx hbadp hfits hb5 hk5
            go_upto_region 11 with fail
            rw [HW5.out]
            clear a0 a1 a2 a3 a4 e1
            by_cases hkl : chkP l x.l = 0
            · by_cases hkr : chkP l x.r = 0
              · have HK1 := Lib.hid (ref2Chk_yes hkl As B1 cs d1 W5 (by omega) HS5.out hn hil HF.out.1)
                have hokx : okI l (itm x) = true := by rw [lit_ok h0, decide_eq_true hkl, decide_eq_true hkr]; rfl
                have hhd := lit_hds hkr
                have hL := (chk_like (show chkT l x.l = 0 by rw [chk_same]; exact hkl)).2.2
                have hR := (chk_like (show chkT l x.r = 0 by rw [chk_same]; exact hkr)).2.2
                obtain ⟨ts, hts⟩ : ∃ ts, itms (cl.take k) ++ itmL (lc.take j) = ts := ⟨_, rfl⟩
                rw [hts] at HG3 HOk3
                obtain ⟨n, hnn⟩ : ∃ n, cntC (List.replicate l.length 0) (hdsL ts) = n := ⟨_, rfl⟩
                rw [hnn] at HG3
                have hnl : n.length = l.length := by rw [← hnn, cntC_len, List.length_replicate]
                have htl : ts.length ≤ 1099511627776 := by have := Hmidl.out; rw [← hts, List.length_append]; omega
                have hnb : ∀ y ∈ n, 0 ≤ y ∧ y ≤ (300 * ts.length : Int) := fun y hy => by
                  rw [← hnn] at hy
                  have := cnt_small HOk3.out l.length [] y (by rw [List.append_nil]; exact hy)
                  simpa using this
                have Hnn := Lib.hid hnn
                have Hts := Lib.hid hts
                have Hokx := Lib.hid hokx
                have Hhd := Lib.hid hhd
                have HKr := Lib.hid hkr
                have hgne : wr.heap.size ≠ w1.heap.size := by omega
                have HNL := Lib.hid (And.intro hnl hnb)
                clear hkl hkr hokx hhd hts hnn hnl hnb
                have HCL : Hid (∀ w7, Below W5.heap.size W5 w7 → Calls Tryz.prog 30 #[.agg #[.int .i64 x.l.fn, .slice B1 x.l.args.length d1], .slice (some ⟨w1.heap.size, 0, none⟩) l.length l.length] w7 fun e w' => e = .returned (.tuple #[]) ∧ w'.heap[w1.heap.size]? = some (.cells (iC (cntC n (hdsT x.l))) 3) ∧ Keeps (fun q => q < w7.heap.size ∧ q ≠ w1.heap.size) w7 w') := Lib.hid fun w7 h7 => by
                  have hg7 : w7.heap[w1.heap.size]? = some (.cells (iC n) 3) := (h7.block _ (by omega)).trans ((HB5.out.block _ (by omega)).trans HG3.out)
                  have := refCount_any (· < w.heap.size) w1.heap.size x.l n (300 * ts.length) B1 d1 l.length w7 hg7 (fun e => by have e' : w1.heap.size < w.heap.size := e; omega) (fun q e => by have e' : q < w.heap.size := e; have := h7.size; omega) hil (Hl5.out.keep fun q e => h7.block q (by have e' : q < w.heap.size := e; omega)) (fun f hf => by rw [HNL.out.1]; exact hL f hf) HNL.out.2 (by omega) (by omega) (by rw [HNL.out.1]; omega)
                  rwa [HNL.out.1] at this
                have HCR : Hid (∀ w7 w8, Below W5.heap.size W5 w7 → w8.heap[w1.heap.size]? = some (.cells (iC (cntC n (hdsT x.l))) 3) → Keeps (fun q => q < w7.heap.size ∧ q ≠ w1.heap.size) w7 w8 → Calls Tryz.prog 30 #[.agg #[.int .i64 x.r.fn, .slice B2 x.r.args.length d2], .slice (some ⟨w1.heap.size, 0, none⟩) l.length l.length] w8 fun e w' => e = .returned (.tuple #[]) ∧ w'.heap[w1.heap.size]? = some (.cells (iC (cntC (cntC n (hdsT x.l)) (hdsT x.r))) 3) ∧ Keeps (fun q => q < w8.heap.size ∧ q ≠ w1.heap.size) w8 w') := Lib.hid fun w7 w8 h7 hg8 hk8 => by
                  have hnl' : (cntC n (hdsT x.l)).length = l.length := by rw [cntC_len, HNL.out.1]
                  have hsz8 := hk8.size
                  have := refCount_any (· < w.heap.size) w1.heap.size x.r (cntC n (hdsT x.l)) (300 * ts.length + x.l.size) B2 d2 l.length w8 hg8 (fun e => by have e' : w1.heap.size < w.heap.size := e; omega) (fun q e => by have e' : q < w.heap.size := e; have := h7.size; omega) hir (Hr5.out.keep fun q e => by have e' : q < w.heap.size := e; have := h7.size; exact (hk8.block q ⟨by omega, by omega⟩).trans (h7.block q (by omega))) (fun f hf => by rw [hnl']; exact hR f hf) (fun y hy => by have := cntC_le (hdsT x.l) HNL.out.2 (by omega) y hy; rw [hdsT_len] at this; exact this) (by omega) (by omega) (by rw [hnl']; omega)
                  rwa [hnl'] at this
                go_upto_region 13 with (first
                  | ((with_reducible refine HK1.out.mono ?_); go_must (rintro e w6 ⟨rfl, hb6⟩; have HB6 := Lib.hid hb6; have hq6 := cell_on hb6 (b := w.heap.size) (by omega) hq5; obtain ⟨f0', f1', f2', f3', f4'⟩ := cells5r ((hb6.block _ hz5).trans HP5.out); have HK2 := Lib.hid (ref2Chk_yes HKr.out As B2 cs d2 w6 (by omega) (HS5.out.on hb6) hn hir (HF.out.2.on hb6)); clear hb6))
                  | ((with_reducible refine HK2.out.mono ?_); go_must (rintro e w7 ⟨rfl, hb7⟩; have HB7 := Lib.hid (bl_step HB6.out hb7); clear hb7))
                  | fail)
                clear f0 f1 f2 f3 f4 hq5
                try clear hq6
                try clear f0' f1' f2' f3' f4'
                obtain ⟨f0, f1, f2, f3, f4⟩ := cells5r ((HB7.out.block _ hz5).trans HP5.out)
                have HCL7 := Lib.hid (HCL.out w7 HB7.out)
                have HOk9 := Lib.hid (okI_append l ts (itm x))
                by_cases hr0 : x.r.fn = 0
                · have hg9 : (x.r.fn != 0) = false := by simpa using hr0
                  have HHd : Hid (hdsL (itm x) = hdsT x.l) := Lib.hid (by rw [Hhd.out, if_pos hr0, List.append_nil])
                  clear hr0
                  go_wp2_with (first
                    | ((with_reducible refine HCL7.out.mono ?_); go_must (rintro e w8 ⟨rfl, hg8, hk8⟩; have hz7 := HB7.out.size; obtain ⟨f0', f1', f2', f3', f4'⟩ := cells5r ((hk8.block _ ⟨by omega, hgne⟩).trans ((HB7.out.block _ hz5).trans HP5.out)); have HG8 := Lib.hid hg8; have HK8 := Lib.hid hk8; clear hg8 hk8))
                    | fail)
                  go_roundw
                  case rel =>
                    refine ⟨j + 1, by omega, by go_num, Lib.hid ?_, Lib.hid ?_, ?_⟩
                    · rw [Hnx.out, ← List.append_assoc, Hts.out, hdsL_append, cntC_append, Hnn.out, HHd.out]; exact HG8.out
                    · rw [Hnx.out, ← List.append_assoc, Hts.out, HOk9.out, HOk3.out, Hokx.out]; rfl
                    · exact hK3.trans (((Keeps.of_below HB5.out).mono fun g e => by have := e.1; show g < wr.heap.size; omega).trans (((Keeps.of_below HB7.out).mono fun g e => by have := e.1; show g < W5.heap.size; omega).trans (HK8.out.mono fun g e => ⟨by have := e.1; omega, e.2⟩)))
                  case measure => simp [intOf]; omega
                · have hg9 : (x.r.fn != 0) = true := by simpa using hr0
                  have HHd : Hid (hdsL (itm x) = hdsT x.l ++ hdsT x.r) := Lib.hid (by rw [Hhd.out, if_neg hr0])
                  clear hr0
                  go_wp2_with (first
                    | ((with_reducible refine HCL7.out.mono ?_); go_must (rintro e w8 ⟨rfl, hg8, hk8⟩; have hz7 := HB7.out.size; have HCR8 := Lib.hid (HCR.out w7 w8 HB7.out hg8 hk8); clear f0 f1 f2 f3 f4; obtain ⟨f0, f1, f2, f3, f4⟩ := cells5r ((hk8.block _ ⟨by omega, hgne⟩).trans ((HB7.out.block _ hz5).trans HP5.out)); have HK8 := Lib.hid hk8; clear hg8 hk8))
                    | ((with_reducible refine HCR8.out.mono ?_); go_must (rintro e w9 ⟨rfl, hg9', hk9⟩; have HG9 := Lib.hid hg9'; have HK9 := Lib.hid hk9; clear hg9' hk9))
                    | fail)
                  have hz8 := HK8.out.size
                  go_roundw
                  case rel =>
                    refine ⟨j + 1, by omega, by go_num, Lib.hid ?_, Lib.hid ?_, ?_⟩
                    · rw [Hnx.out, ← List.append_assoc, Hts.out, hdsL_append, cntC_append, Hnn.out, HHd.out, cntC_append]; exact HG9.out
                    · rw [Hnx.out, ← List.append_assoc, Hts.out, HOk9.out, HOk3.out, Hokx.out]; rfl
                    · exact hK3.trans (((Keeps.of_below HB5.out).mono fun g e => by have := e.1; show g < wr.heap.size; omega).trans (((Keeps.of_below HB7.out).mono fun g e => by have := e.1; show g < W5.heap.size; omega).trans ((HK8.out.mono fun g e => ⟨by have := e.1; omega, e.2⟩).trans (HK9.out.mono fun g e => ⟨by have := e.1; omega, e.2⟩))))
                  case measure => simp [intOf]; omega
              · have HK1 := Lib.hid (ref2Chk_yes hkl As B1 cs d1 W5 (by omega) HS5.out hn hil HF.out.1)
                have HFin := Lib.hid (HBadp.out (by rw [lit_ok h0, decide_eq_false hkr, Bool.and_false]))
                have HKr := Lib.hid hkr
                clear hkl hkr
                go_wp2_with (first
                  | ((with_reducible refine HK1.out.mono ?_); go_must (rintro e w6 ⟨rfl, hb6⟩; have HB6 := Lib.hid hb6; have hq6 := cell_on hb6 (b := w.heap.size) (by omega) hq5; obtain ⟨f0', f1', f2', f3', f4'⟩ := cells5r ((hb6.block _ hz5).trans HP5.out); have HK2 := Lib.hid (ref2Chk_no HKr.out As B2 cs d2 w6 (by omega) (HS5.out.on hb6) hn hir (HF.out.2.on hb6)); clear hb6))
                  | ((with_reducible refine HK2.out.mono ?_); go_must (rintro e w7 ⟨rfl, hb7⟩; have HB7 := Lib.hid (bl_step HB6.out hb7); clear hb7))
                  | fail)
                refine bodyPost_ret (v := .tuple #[.slice none 0 0, .int .i64 2]) (by simp [results, Tryz.results12, go_sem]) rfl ⟨HBr.out.trans (HB7.out.mono HBr.out.size), ?_⟩
                rw [HFin.out, if_pos rfl]
            · have HK1 := Lib.hid (ref2Chk_no hkl As B1 cs d1 W5 (by omega) HS5.out hn hil HF.out.1)
              have HFin := Lib.hid (HBadp.out (by rw [lit_ok h0, decide_eq_false hkl, Bool.false_and]))
              clear hkl
              go_wp2_with (first
                | ((with_reducible refine HK1.out.mono ?_); go_must (rintro e w6 ⟨rfl, hb6⟩; have HB6 := Lib.hid hb6; clear hb6))
                | fail)
              refine bodyPost_ret (v := .tuple #[.slice none 0 0, .int .i64 2]) (by simp [results, Tryz.results12, go_sem]) rfl ⟨HBr.out.trans (HB6.out.mono HBr.out.size), ?_⟩
              rw [HFin.out, if_pos rfl]
          · obtain rfl : j = lc.length := by omega
            have HG4 : Hid (wr.heap[w1.heap.size]? = some (.cells (iC (cntC (List.replicate l.length 0) (hdsL (itms (cl.take (k + 1)))))) 3)) := Lib.hid (by rw [itms_take HLc.out]; have := HG3.out; rwa [List.take_length] at this)
            have HOk4 : Hid (okI l (itms (cl.take (k + 1))) = true) := Lib.hid (by rw [itms_take HLc.out]; have := HOk3.out; rwa [List.take_length] at this)
            go_wp2
            go_roundw
            case rel => exact ⟨k + 1, by omega, by go_num, HG4, HOk4, hK3⟩
            case measure => simp [intOf]; omega
      · obtain rfl : k = cl.length := by omega
        have hfin : cntNo l cl = false := by
          rw [HNo.out]
          have := HOk.out
          rw [List.take_length] at this
          rw [this]; rfl
        have HFin := Lib.hid hfin
        clear hfin
        go_wp2
        refine bodyPost_ret (v := .tuple #[.slice (some ⟨w1.heap.size, 0, none⟩) l.length l.length, .int .i64 0]) (by simp [results, Tryz.results12, go_sem]) rfl ⟨HBW2.out.trans (hKr.below fun g e => ⟨by omega, by omega⟩), ?_⟩
        rw [HFin.out, if_neg (by decide)]
        refine ⟨w1.heap.size, rfl, by omega, ?_⟩
        have := HG.out
        rwa [List.take_length] at this
  · have HNo := Lib.hid (show cntNo l cl = true by unfold cntNo; rw [decide_eq_false h0]; rfl)
    have hne : (checkI l != 0) = true := by simpa using h0
    go_enter Tryz.func12, Tryz.ntmps12
    go_upto_region 1 with fail
    rw [HW.out]
    go_wp2_with (first
      | ((with_reducible refine HCk.out.mono ?_); go_must (rintro e w1 ⟨rfl, hb1⟩; have HB1 := Lib.hid hb1))
      | fail)
    refine bodyPost_ret (v := .tuple #[.slice none 0 0, .int .i64 2]) (by simp [results, Tryz.results12, go_sem]) rfl ⟨HB.out.trans (HB1.out.mono HB.out.size), ?_⟩
    rw [HNo.out, if_pos rfl]

end Go.Proofs.YtfnncphkidhbpaaGreatDoor

/- The document's own above: does a symbol rank above another one, by a way? -/

namespace Go.Proofs.YtfnncphkidhbpaaGreatDoor

open Go Go.RowKit Go.Shelf
set_option maxRecDepth 100000

theorem abv_gt {l : List Sm} {n : List Int} {b : Int} {i k : Nat} {x y : Int} (hx : kyR l n b i = x) (hy : kyR l n b k = y) (h : y < x) : abvR l n b i k = true := by
  unfold abvR; rw [hx, hy]; exact decide_eq_true (.inl h)

theorem abv_eq {l : List Sm} {n : List Int} {b : Int} {i k : Nat} {x y : Int} (hx : kyR l n b i = x) (hy : kyR l n b k = y) (h : x = y) (hk : k < i) : abvR l n b i k = true := by
  unfold abvR; rw [hx, hy]; exact decide_eq_true (.inr ⟨h, hk⟩)

theorem abv_eqn {l : List Sm} {n : List Int} {b : Int} {i k : Nat} {x y : Int} (hx : kyR l n b i = x) (hy : kyR l n b k = y) (h : x = y) (hk : ¬ k < i) : abvR l n b i k = false := by
  unfold abvR; rw [hx, hy]; exact decide_eq_false (by omega)

theorem abv_lt {l : List Sm} {n : List Int} {b : Int} {i k : Nat} {x y : Int} (hx : kyR l n b i = x) (hy : kyR l n b k = y) (h : x < y) : abvR l n b i k = false := by
  unfold abvR; rw [hx, hy]; exact decide_eq_false (by omega)

set_option maxHeartbeats 8000000 in
theorem refAbv_any (l : List Sm) (n : List Int) (b : Int) (i k : Nat) (As An : Option Addr) (cs cn : Nat) (w : World) (hS : Syms w w.heap.size As l.length l) (hN : Ints w w.heap.size An n) (hlen : n.length = l.length) (h9 : l.length ≤ 1000) (hi : i < l.length) (hk : k < l.length) (har : ∀ f, 0 ≤ arP l f ∧ arP l f ≤ 99) (hcn : ∀ f, 0 ≤ cnP n f ∧ cnP n f ≤ 1152921504606846976) (hb0 : 0 ≤ b) (hb4 : b ≤ 4) :
    Calls Tryz.prog 25 #[.agg #[.slice As l.length cs], .int .i64 b, .slice An n.length cn, .int .i64 (i : Int), .int .i64 (k : Int)] w fun e w' => e = .returned (.bool (abvR l n b i k)) ∧ Below w.heap.size w w' := by
  obtain ⟨W, hW⟩ : ∃ W, w.alloc (.cells #[.slice As l.length cs] 24) = W := ⟨_, rfl⟩
  have q0 : W.heap[w.heap.size]? = some (.cells #[.slice As l.length cs] 24) := by rw [← hW]; exact heap_alloc_new _ _
  have hB : Below w.heap.size w W := by rw [← hW]; exact (Below.refl _ _).alloc (Nat.le_refl _) _
  obtain ⟨a0, _⟩ := cells_one q0
  obtain ⟨s, hs⟩ : ∃ s, l[i]? = some s := ⟨_, List.getElem?_eq_getElem hi⟩
  obtain ⟨t, ht⟩ : ∃ t, l[k]? = some t := ⟨_, List.getElem?_eq_getElem hk⟩
  obtain ⟨p, hp⟩ : ∃ p, n[i]? = some p := ⟨_, List.getElem?_eq_getElem (by omega)⟩
  obtain ⟨q, hq⟩ : ∃ q, n[k]? = some q := ⟨_, List.getElem?_eq_getElem (by omega)⟩
  have eA : arP l i = s.arity := by unfold arP; rw [hs]; rfl
  have eB : arP l k = t.arity := by unfold arP; rw [ht]; rfl
  have eP : cnP n i = p := by unfold cnP; exact getD_of hp
  have eQ : cnP n k = q := by unfold cnP; exact getD_of hq
  have bA := har i
  have bB := har k
  have bP := hcn i
  have bQ := hcn k
  rw [eA] at bA
  rw [eB] at bB
  rw [eP] at bP
  rw [eQ] at bQ
  have hSW := hS.on hB
  have hNW := hN.on hB
  obtain ⟨sb, so, rfl, _, hsc⟩ := hSW.ad (by omega)
  obtain ⟨nb, no, rfl, _, hnc⟩ := hNW.ad (by omega)
  obtain ⟨_, x1, _⟩ := hsc i s hs
  obtain ⟨_, x2, _⟩ := hsc k t ht
  have y1 := hnc i p hp
  have y2 := hnc k q hq
  obtain ⟨va, hva⟩ : ∃ va, s.arity = va := ⟨_, rfl⟩
  obtain ⟨vb, hvb⟩ : ∃ vb, t.arity = vb := ⟨_, rfl⟩
  rw [hva] at x1 eA bA
  rw [hvb] at x2 eB bB
  have hin : i < n.length := by omega
  have hkn : k < n.length := by omega
  obtain ⟨bA0, bA1⟩ := bA
  obtain ⟨bB0, bB1⟩ := bB
  obtain ⟨bP0, bP1⟩ := bP
  obtain ⟨bQ0, bQ1⟩ := bQ
  have HW := Lib.hid hW
  have HB := Lib.hid hB
  have HL := Lib.hid hlen
  have EA := Lib.hid eA
  have EB := Lib.hid eB
  have EP := Lib.hid eP
  have EQ := Lib.hid eQ
  clear hW hB hS hN hSW hNW hsc hnc hs ht hp hq hva hvb eA eB eP eQ har hcn q0 hlen
  have hb : b = 0 ∨ b = 1 ∨ b = 2 ∨ b = 3 ∨ b = 4 := by omega
  clear hb0 hb4
  rcases hb with rfl | rfl | rfl | rfl | rfl
  · by_cases hki : k < i
    · have HFin := Lib.hid (abv_eq (l := l) (n := n) (b := 0) (x := 0) (y := 0) (by simp [kyR]) (by simp [kyR]) rfl hki)
      go_enter Tryz.func25, Tryz.ntmps25
      go_upto_region 1 with fail
      rw [HW.out]
      go_quiet (fail)
      go_wp2
      go_ret
      exact ⟨ret_bool (by first | exact HFin.out.symm | (rw [HFin.out]; simp; omega) | (rw [HFin.out]; simp)), HB.out.trans (Below.mono (bl_drewN (Below.refl _ _) _) HB.out.size)⟩
    · have HFin := Lib.hid (abv_eqn (l := l) (n := n) (b := 0) (x := 0) (y := 0) (by simp [kyR]) (by simp [kyR]) rfl hki)
      have hki' : i ≤ k := by omega
      go_enter Tryz.func25, Tryz.ntmps25
      go_upto_region 1 with fail
      rw [HW.out]
      go_quiet (fail)
      go_wp2
      go_ret
      exact ⟨ret_bool (by first | exact HFin.out.symm | (rw [HFin.out]; simp; omega) | (rw [HFin.out]; simp)), HB.out.trans (Below.mono (bl_drewN (Below.refl _ _) _) HB.out.size)⟩
  · rcases Int.lt_trichotomy (va) (vb) with hlt | heq | hgt
    · have HFin := Lib.hid (abv_lt (l := l) (n := n) (b := 1) (x := va) (y := vb) (by simp [kyR]; exact EA.out) (by simp [kyR]; exact EB.out) hlt)
      have g1 : ¬ (vb) < (va) := by omega
      have g2 : ((va) == (vb)) = false := by simp; omega
      clear hlt
      go_enter Tryz.func25, Tryz.ntmps25
      go_upto_region 1 with fail
      rw [HW.out]
      go_quiet (fail)
      go_wp2
      go_ret
      exact ⟨ret_bool (by first | exact HFin.out.symm | (rw [HFin.out]; simp; omega) | (rw [HFin.out]; simp)), HB.out.trans (Below.mono (bl_drewN (Below.refl _ _) _) HB.out.size)⟩
    · have g1 : ¬ (vb) < (va) := by omega
      have g2 : ((va) == (vb)) = true := by simp; omega
      by_cases hki : k < i
      · have HFin := Lib.hid (abv_eq (l := l) (n := n) (b := 1) (x := va) (y := vb) (by simp [kyR]; exact EA.out) (by simp [kyR]; exact EB.out) heq hki)
        clear heq
        go_enter Tryz.func25, Tryz.ntmps25
        go_upto_region 1 with fail
        rw [HW.out]
        go_quiet (fail)
        go_wp2
        go_ret
        exact ⟨ret_bool (by first | exact HFin.out.symm | (rw [HFin.out]; simp; omega) | (rw [HFin.out]; simp)), HB.out.trans (Below.mono (bl_drewN (Below.refl _ _) _) HB.out.size)⟩
      · have HFin := Lib.hid (abv_eqn (l := l) (n := n) (b := 1) (x := va) (y := vb) (by simp [kyR]; exact EA.out) (by simp [kyR]; exact EB.out) heq hki)
        have hki' : i ≤ k := by omega
        clear heq
        go_enter Tryz.func25, Tryz.ntmps25
        go_upto_region 1 with fail
        rw [HW.out]
        go_quiet (fail)
        go_wp2
        go_ret
        exact ⟨ret_bool (by first | exact HFin.out.symm | (rw [HFin.out]; simp; omega) | (rw [HFin.out]; simp)), HB.out.trans (Below.mono (bl_drewN (Below.refl _ _) _) HB.out.size)⟩
    · have HFin := Lib.hid (abv_gt (l := l) (n := n) (b := 1) (x := va) (y := vb) (by simp [kyR]; exact EA.out) (by simp [kyR]; exact EB.out) hgt)
      go_enter Tryz.func25, Tryz.ntmps25
      go_upto_region 1 with fail
      rw [HW.out]
      go_quiet (fail)
      go_wp2
      go_ret
      exact ⟨ret_bool (by first | exact HFin.out.symm | (rw [HFin.out]; simp; omega) | (rw [HFin.out]; simp)), HB.out.trans (Below.mono (bl_drewN (Below.refl _ _) _) HB.out.size)⟩
  · by_cases h1 : va = 1
    · subst h1
      by_cases h2 : vb = 1
      · subst h2
        by_cases hki : k < i
        · have HFin := Lib.hid (abv_eq (l := l) (n := n) (b := 2) (x := 100) (y := 100) (by simp only [kyR]; rw [if_neg (by decide), if_pos (by decide), EA.out]; rw [if_pos rfl]) (by simp only [kyR]; rw [if_neg (by decide), if_pos (by decide), EB.out]; rw [if_pos rfl]) rfl hki)
          go_enter Tryz.func25, Tryz.ntmps25
          go_upto_region 1 with fail
          rw [HW.out]
          go_quiet (fail)
          go_wp2
          go_ret
          exact ⟨ret_bool (by first | exact HFin.out.symm | (rw [HFin.out]; simp; omega) | (rw [HFin.out]; simp)), HB.out.trans (Below.mono (bl_drewN (Below.refl _ _) _) HB.out.size)⟩
        · have HFin := Lib.hid (abv_eqn (l := l) (n := n) (b := 2) (x := 100) (y := 100) (by simp only [kyR]; rw [if_neg (by decide), if_pos (by decide), EA.out]; rw [if_pos rfl]) (by simp only [kyR]; rw [if_neg (by decide), if_pos (by decide), EB.out]; rw [if_pos rfl]) rfl hki)
          have hki' : i ≤ k := by omega
          go_enter Tryz.func25, Tryz.ntmps25
          go_upto_region 1 with fail
          rw [HW.out]
          go_quiet (fail)
          go_wp2
          go_ret
          exact ⟨ret_bool (by first | exact HFin.out.symm | (rw [HFin.out]; simp; omega) | (rw [HFin.out]; simp)), HB.out.trans (Below.mono (bl_drewN (Below.refl _ _) _) HB.out.size)⟩
      · have HFin := Lib.hid (abv_gt (l := l) (n := n) (b := 2) (x := 100) (y := vb) (by simp only [kyR]; rw [if_neg (by decide), if_pos (by decide), EA.out]; rw [if_pos rfl]) (by simp only [kyR]; rw [if_neg (by decide), if_pos (by decide), EB.out]; rw [if_neg h2]) (by omega : vb < 100))
        have g1 : vb < 100 := by omega
        have g3 : (vb == 1) = false := by simpa using h2
        have H2 := Lib.hid h2
        clear h2
        go_enter Tryz.func25, Tryz.ntmps25
        go_upto_region 1 with fail
        rw [HW.out]
        go_quiet (fail)
        go_wp2
        go_ret
        exact ⟨ret_bool (by first | exact HFin.out.symm | (rw [HFin.out]; simp; omega) | (rw [HFin.out]; simp)), HB.out.trans (Below.mono (bl_drewN (Below.refl _ _) _) HB.out.size)⟩
    · by_cases h2 : vb = 1
      · subst h2
        have HFin := Lib.hid (abv_lt (l := l) (n := n) (b := 2) (x := va) (y := 100) (by simp only [kyR]; rw [if_neg (by decide), if_pos (by decide), EA.out]; rw [if_neg h1]) (by simp only [kyR]; rw [if_neg (by decide), if_pos (by decide), EB.out]; rw [if_pos rfl]) (by omega : va < 100))
        have g1 : ¬ (100 : Int) < va := by omega
        have g2 : (va == 100) = false := by simp; omega
        have g3 : (va == 1) = false := by simpa using h1
        have H1 := Lib.hid h1
        clear h1
        go_enter Tryz.func25, Tryz.ntmps25
        go_upto_region 1 with fail
        rw [HW.out]
        go_quiet (fail)
        go_wp2
        go_ret
        exact ⟨ret_bool (by first | exact HFin.out.symm | (rw [HFin.out]; simp; omega) | (rw [HFin.out]; simp)), HB.out.trans (Below.mono (bl_drewN (Below.refl _ _) _) HB.out.size)⟩
      · have g3 : (va == 1) = false := by simpa using h1
        have g4 : (vb == 1) = false := by simpa using h2
        have H1 := Lib.hid h1
        have H2 := Lib.hid h2
        clear h1 h2
        rcases Int.lt_trichotomy (va) (vb) with hlt | heq | hgt
        · have HFin := Lib.hid (abv_lt (l := l) (n := n) (b := 2) (x := va) (y := vb) (by simp only [kyR]; rw [if_neg (by decide), if_pos (by decide), EA.out]; rw [if_neg H1.out]) (by simp only [kyR]; rw [if_neg (by decide), if_pos (by decide), EB.out]; rw [if_neg H2.out]) hlt)
          have g1 : ¬ (vb) < (va) := by omega
          have g2 : ((va) == (vb)) = false := by simp; omega
          clear hlt
          go_enter Tryz.func25, Tryz.ntmps25
          go_upto_region 1 with fail
          rw [HW.out]
          go_quiet (fail)
          go_wp2
          go_ret
          exact ⟨ret_bool (by first | exact HFin.out.symm | (rw [HFin.out]; simp; omega) | (rw [HFin.out]; simp)), HB.out.trans (Below.mono (bl_drewN (Below.refl _ _) _) HB.out.size)⟩
        · have g1 : ¬ (vb) < (va) := by omega
          have g2 : ((va) == (vb)) = true := by simp; omega
          by_cases hki : k < i
          · have HFin := Lib.hid (abv_eq (l := l) (n := n) (b := 2) (x := va) (y := vb) (by simp only [kyR]; rw [if_neg (by decide), if_pos (by decide), EA.out]; rw [if_neg H1.out]) (by simp only [kyR]; rw [if_neg (by decide), if_pos (by decide), EB.out]; rw [if_neg H2.out]) heq hki)
            clear heq
            go_enter Tryz.func25, Tryz.ntmps25
            go_upto_region 1 with fail
            rw [HW.out]
            go_quiet (fail)
            go_wp2
            go_ret
            exact ⟨ret_bool (by first | exact HFin.out.symm | (rw [HFin.out]; simp; omega) | (rw [HFin.out]; simp)), HB.out.trans (Below.mono (bl_drewN (Below.refl _ _) _) HB.out.size)⟩
          · have HFin := Lib.hid (abv_eqn (l := l) (n := n) (b := 2) (x := va) (y := vb) (by simp only [kyR]; rw [if_neg (by decide), if_pos (by decide), EA.out]; rw [if_neg H1.out]) (by simp only [kyR]; rw [if_neg (by decide), if_pos (by decide), EB.out]; rw [if_neg H2.out]) heq hki)
            have hki' : i ≤ k := by omega
            clear heq
            go_enter Tryz.func25, Tryz.ntmps25
            go_upto_region 1 with fail
            rw [HW.out]
            go_quiet (fail)
            go_wp2
            go_ret
            exact ⟨ret_bool (by first | exact HFin.out.symm | (rw [HFin.out]; simp; omega) | (rw [HFin.out]; simp)), HB.out.trans (Below.mono (bl_drewN (Below.refl _ _) _) HB.out.size)⟩
        · have HFin := Lib.hid (abv_gt (l := l) (n := n) (b := 2) (x := va) (y := vb) (by simp only [kyR]; rw [if_neg (by decide), if_pos (by decide), EA.out]; rw [if_neg H1.out]) (by simp only [kyR]; rw [if_neg (by decide), if_pos (by decide), EB.out]; rw [if_neg H2.out]) hgt)
          go_enter Tryz.func25, Tryz.ntmps25
          go_upto_region 1 with fail
          rw [HW.out]
          go_quiet (fail)
          go_wp2
          go_ret
          exact ⟨ret_bool (by first | exact HFin.out.symm | (rw [HFin.out]; simp; omega) | (rw [HFin.out]; simp)), HB.out.trans (Below.mono (bl_drewN (Below.refl _ _) _) HB.out.size)⟩
  · rcases Int.lt_trichotomy (p) (q) with hlt | heq | hgt
    · have HFin := Lib.hid (abv_lt (l := l) (n := n) (b := 3) (x := p) (y := q) (by simp [kyR]; exact EP.out) (by simp [kyR]; exact EQ.out) hlt)
      have g1 : ¬ (q) < (p) := by omega
      have g2 : ((p) == (q)) = false := by simp; omega
      clear hlt
      go_enter Tryz.func25, Tryz.ntmps25
      go_upto_region 1 with fail
      rw [HW.out]
      go_quiet (fail)
      go_wp2
      go_quiet (fail)
      go_wp2
      go_ret
      exact ⟨ret_bool (by first | exact HFin.out.symm | (rw [HFin.out]; simp; omega) | (rw [HFin.out]; simp)), HB.out.trans (Below.mono (bl_drewN (Below.refl _ _) _) HB.out.size)⟩
    · have g1 : ¬ (q) < (p) := by omega
      have g2 : ((p) == (q)) = true := by simp; omega
      by_cases hki : k < i
      · have HFin := Lib.hid (abv_eq (l := l) (n := n) (b := 3) (x := p) (y := q) (by simp [kyR]; exact EP.out) (by simp [kyR]; exact EQ.out) heq hki)
        clear heq
        go_enter Tryz.func25, Tryz.ntmps25
        go_upto_region 1 with fail
        rw [HW.out]
        go_quiet (fail)
        go_wp2
        go_quiet (fail)
        go_wp2
        go_ret
        exact ⟨ret_bool (by first | exact HFin.out.symm | (rw [HFin.out]; simp; omega) | (rw [HFin.out]; simp)), HB.out.trans (Below.mono (bl_drewN (Below.refl _ _) _) HB.out.size)⟩
      · have HFin := Lib.hid (abv_eqn (l := l) (n := n) (b := 3) (x := p) (y := q) (by simp [kyR]; exact EP.out) (by simp [kyR]; exact EQ.out) heq hki)
        have hki' : i ≤ k := by omega
        clear heq
        go_enter Tryz.func25, Tryz.ntmps25
        go_upto_region 1 with fail
        rw [HW.out]
        go_quiet (fail)
        go_wp2
        go_quiet (fail)
        go_wp2
        go_ret
        exact ⟨ret_bool (by first | exact HFin.out.symm | (rw [HFin.out]; simp; omega) | (rw [HFin.out]; simp)), HB.out.trans (Below.mono (bl_drewN (Below.refl _ _) _) HB.out.size)⟩
    · have HFin := Lib.hid (abv_gt (l := l) (n := n) (b := 3) (x := p) (y := q) (by simp [kyR]; exact EP.out) (by simp [kyR]; exact EQ.out) hgt)
      go_enter Tryz.func25, Tryz.ntmps25
      go_upto_region 1 with fail
      rw [HW.out]
      go_quiet (fail)
      go_wp2
      go_quiet (fail)
      go_wp2
      go_ret
      exact ⟨ret_bool (by first | exact HFin.out.symm | (rw [HFin.out]; simp; omega) | (rw [HFin.out]; simp)), HB.out.trans (Below.mono (bl_drewN (Below.refl _ _) _) HB.out.size)⟩
  · rcases Int.lt_trichotomy (-p) (-q) with hlt | heq | hgt
    · have HFin := Lib.hid (abv_lt (l := l) (n := n) (b := 4) (x := -p) (y := -q) (by simp [kyR]; exact EP.out) (by simp [kyR]; exact EQ.out) hlt)
      have g1 : ¬ (-q) < (-p) := by omega
      have g2 : ((-p) == (-q)) = false := by simp; omega
      clear hlt
      go_enter Tryz.func25, Tryz.ntmps25
      go_upto_region 1 with fail
      rw [HW.out]
      go_quiet (fail)
      go_wp2
      go_quiet (fail)
      go_wp2
      go_ret
      exact ⟨ret_bool (by first | exact HFin.out.symm | (rw [HFin.out]; simp; omega) | (rw [HFin.out]; simp)), HB.out.trans (Below.mono (bl_drewN (Below.refl _ _) _) HB.out.size)⟩
    · have g1 : ¬ (-q) < (-p) := by omega
      have g2 : ((-p) == (-q)) = true := by simp; omega
      by_cases hki : k < i
      · have HFin := Lib.hid (abv_eq (l := l) (n := n) (b := 4) (x := -p) (y := -q) (by simp [kyR]; exact EP.out) (by simp [kyR]; exact EQ.out) heq hki)
        clear heq
        go_enter Tryz.func25, Tryz.ntmps25
        go_upto_region 1 with fail
        rw [HW.out]
        go_quiet (fail)
        go_wp2
        go_quiet (fail)
        go_wp2
        go_ret
        exact ⟨ret_bool (by first | exact HFin.out.symm | (rw [HFin.out]; simp; omega) | (rw [HFin.out]; simp)), HB.out.trans (Below.mono (bl_drewN (Below.refl _ _) _) HB.out.size)⟩
      · have HFin := Lib.hid (abv_eqn (l := l) (n := n) (b := 4) (x := -p) (y := -q) (by simp [kyR]; exact EP.out) (by simp [kyR]; exact EQ.out) heq hki)
        have hki' : i ≤ k := by omega
        clear heq
        go_enter Tryz.func25, Tryz.ntmps25
        go_upto_region 1 with fail
        rw [HW.out]
        go_quiet (fail)
        go_wp2
        go_quiet (fail)
        go_wp2
        go_ret
        exact ⟨ret_bool (by first | exact HFin.out.symm | (rw [HFin.out]; simp; omega) | (rw [HFin.out]; simp)), HB.out.trans (Below.mono (bl_drewN (Below.refl _ _) _) HB.out.size)⟩
    · have HFin := Lib.hid (abv_gt (l := l) (n := n) (b := 4) (x := -p) (y := -q) (by simp [kyR]; exact EP.out) (by simp [kyR]; exact EQ.out) hgt)
      go_enter Tryz.func25, Tryz.ntmps25
      go_upto_region 1 with fail
      rw [HW.out]
      go_quiet (fail)
      go_wp2
      go_quiet (fail)
      go_wp2
      go_ret
      exact ⟨ret_bool (by first | exact HFin.out.symm | (rw [HFin.out]; simp; omega) | (rw [HFin.out]; simp)), HB.out.trans (Below.mono (bl_drewN (Below.refl _ _) _) HB.out.size)⟩

end Go.Proofs.YtfnncphkidhbpaaGreatDoor

/- prec: what Make tells, as an order; it may be, and hangs on no order of the clauses. -/

namespace Go.Proofs.YtfnncphkidhbpaaGreatDoor

open Go Go.RowKit Go.Shelf
set_option maxRecDepth 100000

-- the order of the clauses

theorem addC_comm (n : List Int) (f g : Int) : addC (addC n f) g = addC (addC n g) f := by
  unfold addC
  by_cases hf : f < 0
  · simp only [if_pos hf]
  · by_cases hg : g < 0
    · simp only [if_pos hg]
    · simp only [if_neg hf, if_neg hg]
      by_cases he : f.toNat = g.toNat
      · rw [he]
      · have e1 : ∀ (a : Int), (n.set f.toNat a).getD g.toNat 0 = n.getD g.toNat 0 := fun a => by
          rw [List.getD_eq_getElem?_getD, List.getD_eq_getElem?_getD, List.getElem?_set_ne he]
        have e2 : ∀ (a : Int), (n.set g.toNat a).getD f.toNat 0 = n.getD f.toNat 0 := fun a => by
          rw [List.getD_eq_getElem?_getD, List.getD_eq_getElem?_getD, List.getElem?_set_ne (fun e => he e.symm)]
        rw [e1, e2]
        exact List.set_comm _ _ he

theorem cntC_perm {hs ks : List Int} (h : hs.Perm ks) : ∀ n, cntC n hs = cntC n ks := by
  induction h with
  | nil => intro n; rfl
  | cons x _ ih => intro n; exact ih (addC n x)
  | swap x y l => intro n; show cntC (addC (addC n y) x) l = cntC (addC (addC n x) y) l; rw [addC_comm]
  | trans _ _ i1 i2 => intro n; rw [i1, i2]

theorem hdsL_flat : ∀ ts : List Tm, hdsL ts = ts.flatMap hdsT
  | [] => by simp [hdsL]
  | t :: ts => by rw [hdsL, List.flatMap_cons, hdsL_flat ts]

theorem itms_rev (cs : List (List Lp)) : (itms cs.reverse).Perm (itms cs) := (List.reverse_perm cs).flatMap_right itmL

theorem cntN_rev (l : List Sm) (cs : List (List Lp)) : cntN l cs.reverse = cntN l cs := by
  unfold cntN
  refine cntC_perm ?_ _
  rw [hdsL_flat, hdsL_flat]
  exact (itms_rev cs).flatMap_right hdsT

theorem cntNo_rev (l : List Sm) (cs : List (List Lp)) : cntNo l cs.reverse = cntNo l cs := by
  unfold cntNo
  have : okI l (itms cs.reverse) = okI l (itms cs) := by
    unfold okI
    rw [Bool.eq_iff_iff, List.all_eq_true, List.all_eq_true]
    exact ⟨fun h x hx => h x ((itms_rev cs).mem_iff.2 hx), fun h x hx => h x ((itms_rev cs).mem_iff.1 hx)⟩
  rw [this]

/-- What Make makes, as an order. -/
def mkO (l : List Sm) (n : List Int) (lpo top : Bool) (b wb : Int) : Odr :=
  if lpo = true then ⟨true, rkL l n b l.length, [], 0⟩ else ⟨false, rkL l n b l.length, wtL l n wb top (rkL l n b l.length), 1⟩

theorem mkO_prec (l : List Sm) (n : List Int) (lpo top : Bool) (b wb : Int) : (mkO l n lpo top b wb).prec = rkL l n b l.length := by
  unfold mkO; split <;> rfl

theorem rkL_ranked (l : List Sm) (n : List Int) (b : Int) {m : Nat} (hm : 0 < m) : rankB (rkL l n b m) m = true := by
  have h := (rankB_iff (p := rkL l n b m)).2 ⟨fun i h0 hi => ?_, ?_⟩
  · rwa [rkL_len] at h
  · rw [rkL_len] at hi
    rw [rkL_getD hm, rkL_getD hi, show rnkR l n b m 0 = 0 from rfl, rnkR_eq l n b m (by omega)]
    omega
  · unfold List.Nodup
    rw [List.pairwise_iff_getElem]
    intro i j hi hj hij he
    rw [rkL_len] at hi hj
    have e1 := rkL_getD (l := l) (n := n) (b := b) hi
    have e2 := rkL_getD (l := l) (n := n) (b := b) hj
    rw [getD_el (by rw [rkL_len]; exact hi)] at e1
    rw [getD_el (by rw [rkL_len]; exact hj)] at e2
    rw [e1, e2] at he
    have := rnkR_inj hi hj (by omega : rnkR l n b m i = rnkR l n b m j)
    omega

theorem wgX_pos {l : List Sm} {n rk : List Int} {wb : Int} {i : Nat} (ha : 0 ≤ arP l i) (hc : 0 ≤ cnP n i) (hr : 0 ≤ rk.getD i 0) : 1 ≤ wgX l n wb rk i := by
  unfold wgX
  repeat' split
  all_goals omega

theorem mkO_may {l : List Sm} {n : List Int} {lpo top : Bool} {b wb : Int} (h0 : checkI l = 0) (hn : ∀ f, 0 ≤ cnP n f) : chkO l (mkO l n lpo top b wb) = 0 := by
  have hl0 := chk_some h0
  have har := chk_ar h0
  have hrk := rkL_ranked l n b hl0
  have hpos : ∀ i, 0 ≤ (rkL l n b l.length).getD i 0 := fun i => by
    rcases Nat.lt_or_ge i l.length with hi | hi
    · rw [rkL_getD hi]; omega
    · rw [List.getD_eq_getElem?_getD, List.getElem?_eq_none (by rw [rkL_len]; exact hi)]; simp
  rw [chkO_eq]
  refine if_pos ⟨h0, by rw [mkO_prec]; exact hrk, ?_⟩
  unfold mkO
  cases lpo with
  | true => exact .inl rfl
  | false =>
    right
    rw [if_neg (by decide)]
    refine decide_eq_true ⟨by show (wtL _ _ _ _ _).length = _; rw [wtL_len, rkL_len], (by show (1 : Int) ≤ 1; decide), (by show (1 : Int) ≤ 1000; decide), ?_, chkW_yes fun i hi => ?_⟩
    · show (wtL l n wb top (rkL l n b l.length)).getD 0 0 = 1
      rw [getD_of (wtL_get (by rw [rkL_len]; exact hl0))]
      unfold wtR
      have h00 : arP l 0 = 0 := by
        have := (chk_one h0).2.1
        unfold arP; rw [this]; rfl
      rw [if_neg (fun e => by rw [h00] at e; exact absurd e.2.1 (by decide)), if_pos rfl]
      decide
    · obtain ⟨s, hs⟩ : ∃ s, l[i]? = some s := ⟨_, List.getElem?_eq_getElem hi⟩
      have hx := wtL_get (l := l) (n := n) (w := wb) (top := top) (rk := rkL l n b l.length) (i := i) (by rw [rkL_len]; exact hi)
      rw [badW_at hs hx]
      have ha : arP l i = s.arity := by unfold arP; rw [hs]; rfl
      have hw := wgX_pos (wb := wb) (har i).1 (hn i) (hpos i)
      show badX s (wtR l n wb top (rkL l n b l.length) i) 1 (highB (rkL l n b l.length) i) = false
      unfold badX wtR
      rw [ha]
      by_cases ht : top = true ∧ s.arity = 1 ∧ highB (rkL l n b l.length) i = true
      · rw [if_pos ht, ht.2.1, ht.2.2]; decide
      · rw [if_neg ht]
        have h1 : 1 ≤ (if i = 0 then 1 else wgX l n wb (rkL l n b l.length) i) := by split <;> omega
        obtain ⟨y, hy⟩ : ∃ y, (if i = 0 then (1 : Int) else wgX l n wb (rkL l n b l.length) i) = y := ⟨_, rfl⟩
        rw [hy] at h1 ⊢
        have h2 : 1 ≤ min y 1000 := by omega
        have h3 : min y 1000 ≤ 1000 := by omega
        obtain ⟨z, hz⟩ : ∃ z, min y 1000 = z := ⟨_, rfl⟩
        rw [hz] at h2 h3 ⊢
        rw [decide_eq_false (by omega : ¬ z < 0), decide_eq_false (by omega : ¬ 1000 < z), decide_eq_false (by omega : ¬ z < 1), decide_eq_false (by omega : ¬ z = 0)]
        simp

/-- Make, where it makes an order; where it makes none. -/
theorem mk_yes (l : List Sm) (cl : List (List Lp)) (b wb : Int) (lpo top : Bool) (As Aq : Option Addr) (cs cq : Nat) (w : World) (hno : cntNo l cl = false) (hnm : nameB b wb = true) (hS : Syms w w.heap.size As l.length l) (hn : l.length * 32 ≤ 140737488351232) (ht : tru w) (hC : ClRow w (· < w.heap.size) Aq cl) (hz : (itms cl).length ≤ 1099511627776) :
    Calls Tryz.prog 9 #[.agg #[.slice As l.length cs], .slice Aq cl.length cq, .agg #[.bool lpo, .int .i64 b, .int .i64 wb, .bool top]] w fun e w' => ∃ P Q, e = .returned (.tuple #[.agg #[.bool (mkO l (cntN l cl) lpo top b wb).lpo, .slice P (mkO l (cntN l cl) lpo top b wb).prec.length (mkO l (cntN l cl) lpo top b wb).prec.length, .slice Q (mkO l (cntN l cl) lpo top b wb).wts.length (mkO l (cntN l cl) lpo top b wb).wts.length, .int .i64 (mkO l (cntN l cl) lpo top b wb).var], .int .i64 0]) ∧
      Below w.heap.size w w' ∧ OdrM w' w'.heap.size (mkO l (cntN l cl) lpo top b wb) P Q := by
  refine (make_any l cl b wb lpo top As Aq cs cq w hS hn ht hC hz).mono ?_
  rintro e w' ⟨hbl, hp⟩
  have hb : checkI l = 0 ∧ okI l (itms cl) = true := by unfold cntNo at hno; simpa using hno
  have h96 := (chk_one hb.1).1
  have hr64 : ∀ x ∈ rkL l (cntN l cl) b l.length, I64 x := by
    intro x hx
    obtain ⟨i, hi, rfl⟩ := List.getElem_of_mem hx
    rw [rkL_len] at hi
    have := rkL_getD (l := l) (n := cntN l cl) (b := b) hi
    rw [getD_el (by rw [rkL_len]; exact hi)] at this
    rw [this]
    have := rnkR_less l (cntN l cl) b hi
    exact ⟨by omega, by omega⟩
  rw [hno, hnm] at hp
  simp only [Bool.false_eq_true, Bool.true_eq_false, or_self, if_false] at hp
  cases lpo with
  | true =>
    rw [if_pos rfl] at hp
    obtain ⟨g, rfl, hg, h1⟩ := hp
    have he : mkO l (cntN l cl) true top b wb = ⟨true, rkL l (cntN l cl) b l.length, [], 0⟩ := if_pos rfl
    rw [he]
    refine ⟨some ⟨g, 0, none⟩, none, by simp [rkL_len], hbl, ⟨(ints_of h1 (by rw [rkL_len]; omega) hr64).more (Array.getElem?_eq_some_iff.1 h1).1, ⟨by simp, by simp, fun h => by simp at h⟩, ⟨(by show (-9223372036854775808 : Int) ≤ 0; decide), (by show (0 : Int) ≤ 9223372036854775807; decide)⟩⟩⟩
  | false =>
    rw [if_neg (by decide)] at hp
    obtain ⟨g, g2, rfl, hg, hg2, h1, h2⟩ := hp
    have he : mkO l (cntN l cl) false top b wb = ⟨false, rkL l (cntN l cl) b l.length, wtL l (cntN l cl) wb top (rkL l (cntN l cl) b l.length), 1⟩ := if_neg (by decide)
    rw [he]
    have hw64 : ∀ x ∈ wtL l (cntN l cl) wb top (rkL l (cntN l cl) b l.length), I64 x := by
      intro x hx
      obtain ⟨i, hi, rfl⟩ := List.getElem_of_mem hx
      rw [wtL_len] at hi
      have h9 := wtL_get (l := l) (n := cntN l cl) (w := wb) (top := top) hi
      rw [List.getElem?_eq_getElem (by rw [wtL_len]; exact hi)] at h9
      rw [Option.some.inj h9]
      rw [rkL_len] at hi
      have hw := wgX_pos (wb := wb) (rk := rkL l (cntN l cl) b l.length) (chk_ar hb.1 i).1 (cntN_le hz hb.2 i).1 (by rw [rkL_getD hi]; omega)
      unfold wtR
      split
      · exact ⟨by decide, by decide⟩
      · split <;> exact ⟨by omega, by omega⟩
    refine ⟨some ⟨g, 0, none⟩, some ⟨g2, 0, none⟩, by simp [rkL_len, wtL_len], hbl, ⟨(ints_of h1 (by rw [rkL_len]; omega) hr64).more (Array.getElem?_eq_some_iff.1 h1).1, (ints_of h2 (by rw [wtL_len, rkL_len]; omega) hw64).more (Array.getElem?_eq_some_iff.1 h2).1, ⟨(by show (-9223372036854775808 : Int) ≤ 1; decide), (by show (1 : Int) ≤ 9223372036854775807; decide)⟩⟩⟩

theorem mk_no (l : List Sm) (cl : List (List Lp)) (b wb : Int) (lpo top : Bool) (As Aq : Option Addr) (cs cq : Nat) (w : World) (hno : cntNo l cl = true ∨ nameB b wb = false) (hS : Syms w w.heap.size As l.length l) (hn : l.length * 32 ≤ 140737488351232) (ht : tru w) (hC : ClRow w (· < w.heap.size) Aq cl) (hz : (itms cl).length ≤ 1099511627776) :
    Calls Tryz.prog 9 #[.agg #[.slice As l.length cs], .slice Aq cl.length cq, .agg #[.bool lpo, .int .i64 b, .int .i64 wb, .bool top]] w fun e w' => e = .returned (.tuple #[.agg #[.bool false, .slice none 0 0, .slice none 0 0, .int .i64 0], .int .i64 2]) ∧ Below w.heap.size w w' := by
  refine (make_any l cl b wb lpo top As Aq cs cq w hS hn ht hC hz).mono ?_
  rintro e w' ⟨hbl, hp⟩
  rw [if_pos hno] at hp
  exact ⟨hp, hbl⟩

set_option maxHeartbeats 2000000 in
/-- Two orders of the same numbers are the same. -/
theorem sameO_self (o : Odr) (P Q P2 Q2 : Option Addr) (pc qc pc2 qc2 : Nat) (w : World) (hM : OdrM w w.heap.size o P Q) (hM2 : OdrM w w.heap.size o P2 Q2) :
    Calls Tryz.prog 13 #[.agg #[.bool o.lpo, .slice P o.prec.length pc, .slice Q o.wts.length qc, .int .i64 o.var], .agg #[.bool o.lpo, .slice P2 o.prec.length pc2, .slice Q2 o.wts.length qc2, .int .i64 o.var]] w fun e w' => e = .returned (.bool true) ∧ Below w.heap.size w w' := by
  obtain ⟨W, hW⟩ : ∃ W, (w.alloc (.cells #[.bool o.lpo, .slice P o.prec.length pc, .slice Q o.wts.length qc, .int .i64 o.var] 27)).alloc (.cells #[.bool o.lpo, .slice P2 o.prec.length pc2, .slice Q2 o.wts.length qc2, .int .i64 o.var] 27) = W := ⟨_, rfl⟩
  obtain ⟨q0, q1⟩ := heap2p w (.cells #[.bool o.lpo, .slice P o.prec.length pc, .slice Q o.wts.length qc, .int .i64 o.var] 27) (.cells #[.bool o.lpo, .slice P2 o.prec.length pc2, .slice Q2 o.wts.length qc2, .int .i64 o.var] 27)
  have hB : Below w.heap.size w W := by rw [← hW]; exact ((Below.refl _ _).alloc (Nat.le_refl _) _).alloc (by simp) _
  rw [hW] at q0 q1
  have HW := Lib.hid hW
  have HB := Lib.hid hB
  have HM := Lib.hid (hM.on hB)
  have HM2 := Lib.hid (hM2.on hB)
  obtain ⟨⟨a0, a1, a2, a3⟩, _⟩ := four_cells q0
  obtain ⟨⟨b0, b1, b2, b3⟩, _⟩ := four_cells q1
  have HR := Lib.hid (by have := lawRow_any o.prec o.prec P P2 pc pc2 W HM.out.p HM2.out.p; rwa [show rowE o.prec o.prec = true from decide_eq_true rfl] at this : Calls Tryz.prog 14 #[.slice P o.prec.length pc, .slice P2 o.prec.length pc2] W fun e w' => e = .returned (.bool true) ∧ On W w')
  have Hq := Lib.hid (And.intro q0 q1)
  have hz : w.heap.size + 1 < W.heap.size := (Array.getElem?_eq_some_iff.1 q1).1
  clear hW hB hM hM2 q0 q1
  go_enter Tryz.func13, Tryz.ntmps13
  go_upto_region 1 with fail
  rw [HW.out]
  go_wp2_with (first
    | (go_at_call 14; (with_reducible refine HR.out.mono ?_); go_must (rintro e w1 ⟨rfl, hb1⟩; clear a0 a1 a2 a3 b0 b1 b2 b3; obtain ⟨⟨a0, a1, a2, a3⟩, _⟩ := four_cells ((hb1.b.block _ (by omega)).trans Hq.out.1); obtain ⟨⟨b0, b1, b2, b3⟩, _⟩ := four_cells ((hb1.b.block _ hz).trans Hq.out.2); have HB1 := Lib.hid hb1.b; have HR2 := Lib.hid (by have := lawRow_any o.wts o.wts Q Q2 qc qc2 w1 (HM.out.q.on hb1.b) (HM2.out.q.on hb1.b); rwa [show rowE o.wts o.wts = true from decide_eq_true rfl] at this : Calls Tryz.prog 14 #[.slice Q o.wts.length qc, .slice Q2 o.wts.length qc2] w1 fun e w' => e = .returned (.bool true) ∧ On w1 w'); clear hb1))
    | (go_at_call 14; (with_reducible refine HR2.out.mono ?_); go_must (rintro e w2 ⟨rfl, hb2⟩; have HB2 := Lib.hid (bl_step HB1.out hb2.b); clear hb2))
    | fail)
  go_ret
  exact ⟨ret_bool rfl, HB.out.trans (HB2.out.mono HB.out.size)⟩

end Go.Proofs.YtfnncphkidhbpaaGreatDoor

/- The document's own Make. -/

namespace Go.Proofs.YtfnncphkidhbpaaGreatDoor

open Go Go.RowKit Go.Shelf
set_option maxRecDepth 100000

/-- The ranks, up to a symbol. -/
def rk1 (l : List Sm) (n : List Int) (b : Int) (m i : Nat) : List Int := (List.range m).map fun j => if j < i then (rnkR l n b m j : Int) else 0

/-- How many symbols ahead of k rank below i. -/
def cn1 (l : List Sm) (n : List Int) (b : Int) (i k : Nat) : Nat := (List.range' 1 (k - 1)).countP fun k' => decide (k' ≠ i) && abvR l n b i k'

theorem rk1_len (l : List Sm) (n : List Int) (b : Int) (m i : Nat) : (rk1 l n b m i).length = m := by simp [rk1]

theorem rk1_one (l : List Sm) (n : List Int) (b : Int) (m : Nat) : rk1 l n b m 1 = upTo 0 m := by
  unfold rk1 upTo
  refine List.map_congr_left fun j _ => ?_
  by_cases h : j < 1
  · obtain rfl : j = 0 := by omega
    rfl
  · rw [if_neg h, if_neg (by omega)]

theorem rk1_all (l : List Sm) (n : List Int) (b : Int) (m : Nat) : rk1 l n b m m = rkL l n b m := by
  unfold rk1 rkL
  exact List.map_congr_left fun j hj => if_pos (List.mem_range.1 hj)

theorem rk1_set (l : List Sm) (n : List Int) (b : Int) {m i : Nat} (h1 : 1 ≤ i) : (rk1 l n b m i).set i ((1 + cn1 l n b i m : Nat) : Int) = rk1 l n b m (i + 1) := by
  apply List.ext_getElem?
  intro j
  rw [List.getElem?_set]
  unfold rk1
  by_cases hj : i = j
  · subst hj
    rw [if_pos rfl]
    by_cases hm : i < m
    · rw [if_pos (by simpa using hm), List.getElem?_map, List.getElem?_range hm]
      simp only [Option.map_some, Option.some.injEq]
      rw [if_pos (by omega)]
      unfold rnkR cn1
      rw [if_neg (by omega)]
    · rw [if_neg (by simpa using hm), List.getElem?_eq_none (by simp; omega)]
  · rw [if_neg hj]
    by_cases hm : j < m
    · rw [List.getElem?_map, List.getElem?_map, List.getElem?_range hm]
      simp only [Option.map_some]
      by_cases hji : j < i
      · rw [if_pos hji, if_pos (by omega)]
      · rw [if_neg hji, if_neg (by omega)]
    · rw [List.getElem?_eq_none (by simp; omega), List.getElem?_eq_none (by simp; omega)]

theorem cn1_step (l : List Sm) (n : List Int) (b : Int) (i : Nat) {k : Nat} (h1 : 1 ≤ k) : cn1 l n b i (k + 1) = cn1 l n b i k + (if (decide (k ≠ i) && abvR l n b i k) = true then 1 else 0) := by
  unfold cn1
  obtain ⟨j, rfl⟩ : ∃ j, k = j + 1 := ⟨k - 1, by omega⟩
  rw [Nat.add_sub_cancel, Nat.add_sub_cancel, List.range'_1_concat, List.countP_append, List.countP_singleton, Nat.add_comm 1 j]

theorem cn1_le (l : List Sm) (n : List Int) (b : Int) (i k : Nat) : cn1 l n b i k ≤ k := by
  unfold cn1
  have := List.countP_le_length (p := fun k' => decide (k' ≠ i) && abvR l n b i k') (l := List.range' 1 (k - 1))
  rw [List.length_range'] at this
  omega

theorem rk1_get (l : List Sm) (n : List Int) (b : Int) {m i j : Nat} (hj : j < m) : (rk1 l n b m i)[j]? = some (if j < i then (rnkR l n b m j : Int) else 0) := by
  unfold rk1; rw [List.getElem?_map, List.getElem?_range hj]; rfl

theorem rk_i64 {l : List Sm} {n : List Int} {b : Int} {m : Nat} (hm : m ≤ 1000) : ∀ x ∈ rkL l n b m, I64 x := by
  intro x hx
  obtain ⟨i, hi, rfl⟩ := List.getElem_of_mem hx
  rw [rkL_len] at hi
  have := rkL_getD (l := l) (n := n) (b := b) hi
  rw [getD_el (by rw [rkL_len]; exact hi)] at this
  rw [this]
  have := rnkR_less l n b hi
  exact ⟨by omega, by omega⟩

theorem wt_i64 {l : List Sm} {n : List Int} {b wb : Int} {top : Bool} {m : Nat} (har : ∀ f, 0 ≤ arP l f) (hcn : ∀ f, 0 ≤ cnP n f) : ∀ x ∈ wtL l n wb top (rkL l n b m), I64 x := by
  intro x hx
  obtain ⟨i, hi, rfl⟩ := List.getElem_of_mem hx
  rw [wtL_len] at hi
  have h9 := wtL_get (l := l) (n := n) (w := wb) (top := top) hi
  rw [List.getElem?_eq_getElem (by rw [wtL_len]; exact hi)] at h9
  rw [Option.some.inj h9]
  rw [rkL_len] at hi
  have hw := wgX_pos (wb := wb) (rk := rkL l n b m) (har i) (hcn i) (by rw [rkL_getD hi]; omega)
  unfold wtR
  split
  · exact ⟨by decide, by decide⟩
  · split <;> exact ⟨by omega, by omega⟩

theorem wtL_step {l : List Sm} {n : List Int} {w : Int} {top : Bool} {rk : List Int} {k : Nat} (hk : k < rk.length) : (wtL l n w top rk).take (k + 1) = (wtL l n w top rk).take k ++ [wtR l n w top rk k] := by
  rw [List.take_add_one, wtL_get hk]; rfl

theorem own_ints {w : World} {base g c m : Nat} {xs : List Int} (hm : xs.length = m) (h0 : 0 < m) (h : w.ownsRow base 3 1 (.slice (some ⟨g, 0, none⟩) m c) m (xs.map (Value.int .i64))) (hl : xs.length ≤ 9223372036854775807) (hi : ∀ x ∈ xs, I64 x) : Ints w w.heap.size (some ⟨g, 0, none⟩) xs := by
  subst hm
  have hR : IntsR w base (.slice (some ⟨g, 0, none⟩) xs.length c) xs := ⟨h, hi⟩
  have hall : ∀ (i : Nat) (x : Int), xs[i]? = some x → g < w.heap.size ∧ w.cell? ⟨g, i, none⟩ = some (.int .i64 x) := fun i x hx => by
    obtain ⟨g', c', e, hlt, hc⟩ := hR.get hx
    simp only [Value.slice.injEq, Option.some.injEq, Addr.mk.injEq] at e
    obtain ⟨⟨rfl, _⟩, _⟩ := e
    exact ⟨hlt, hc⟩
  refine ⟨hl, hi, fun _ => ⟨g, 0, rfl, (hall 0 xs[0] (List.getElem?_eq_getElem h0)).1, fun i x hx => ?_⟩⟩
  rw [Nat.zero_add]
  exact (hall i x hx).2

theorem set4_row {w : World} {r g : Nat} (h : g ≠ r) (a b c d : Value) : ((((w.setCell ⟨r, 0, none⟩ a).setCell ⟨r, 1, none⟩ b).setCell ⟨r, 2, none⟩ c).setCell ⟨r, 3, none⟩ d).heap[g]? = w.heap[g]? := by
  rw [Below.heap_setCell _ _ _ g h, Below.heap_setCell _ _ _ g h, Below.heap_setCell _ _ _ g h, Below.heap_setCell _ _ _ g h]

theorem box_set3 {w : World} {r : Nat} {a b c d v : Value} {t : TypeId} (h : w.heap[r]? = some (.cells #[a, b, c, d] t)) : (w.setCell ⟨r, 3, none⟩ v).heap[r]? = some (.cells #[a, b, c, v] t) := by
  simp only [World.setCell, Array.getElem?_modify, if_pos, h, Option.map_some]
  simp

theorem box_set2 {w : World} {r : Nat} {a b c d v : Value} {t : TypeId} (h : w.heap[r]? = some (.cells #[a, b, c, d] t)) : (w.setCell ⟨r, 2, none⟩ v).heap[r]? = some (.cells #[a, b, v, d] t) := by
  simp only [World.setCell, Array.getElem?_modify, if_pos, h, Option.map_some]
  simp

/-- The order's box and its row of ranks, new both. -/
structure MkV (w4 wx : World) (lpo : Bool) (m bx g : Nat) : Prop where
  box : wx.heap[bx]? = some (.cells #[.bool lpo, .slice (some ⟨g, 0, none⟩) m m, .slice none 0 0, .int .i64 0] 27)
  row : wx.heap[g]? = some (.cells (iC (upTo 0 m)) 3)
  ne : bx ≠ g
  lb : w4.heap.size ≤ bx
  lg : w4.heap.size ≤ g
  bl : Below w4.heap.size w4 wx

theorem mkV_row (w4 : World) (lpo : Bool) (m : Nat) : MkV w4 ((w4.alloc (.cells (iC (upTo 0 m)) 3)).alloc (.cells #[.bool lpo, .slice (some ⟨w4.heap.size, 0, none⟩) m m, .slice none 0 0, .int .i64 0] 27)).drew lpo m (w4.heap.size + 1) w4.heap.size := by
  obtain ⟨q0, q1⟩ := heap2p w4 (.cells (iC (upTo 0 m)) 3) (.cells #[.bool lpo, .slice (some ⟨w4.heap.size, 0, none⟩) m m, .slice none 0 0, .int .i64 0] 27)
  exact ⟨q1, q0, by omega, by omega, by omega, (((Below.refl _ _).alloc (Nat.le_refl _) _).alloc (by simp) _).drew⟩

theorem mkV_box (w4 : World) (lpo : Bool) (m : Nat) : MkV w4 ((w4.alloc (.cells #[.bool lpo, .slice (some ⟨w4.heap.size + 1, 0, none⟩) m m, .slice none 0 0, .int .i64 0] 27)).alloc (.cells (iC (upTo 0 m)) 3)).drew lpo m w4.heap.size (w4.heap.size + 1) := by
  obtain ⟨q0, q1⟩ := heap2p w4 (.cells #[.bool lpo, .slice (some ⟨w4.heap.size + 1, 0, none⟩) m m, .slice none 0 0, .int .i64 0] 27) (.cells (iC (upTo 0 m)) 3)
  exact ⟨q0, q1, by omega, by omega, by omega, (((Below.refl _ _).alloc (Nat.le_refl _) _).alloc (by simp) _).drew⟩

/-- What the document's Make tells. -/
def RMkPost (l : List Sm) (no lpo top : Bool) (n : List Int) (b wb : Int) (w : World) (e : Ending) (w' : World) : Prop := Below w.heap.size w w' ∧
  if no = true ∨ nameB b wb = false then e = .returned (.tuple #[.agg #[.bool false, .slice none 0 0, .slice none 0 0, .int .i64 0], .int .i64 2])
  else ∃ P Q pc qc, e = .returned (.tuple #[.agg #[.bool (mkO l n lpo top b wb).lpo, .slice P (mkO l n lpo top b wb).prec.length pc, .slice Q (mkO l n lpo top b wb).wts.length qc, .int .i64 (mkO l n lpo top b wb).var], .int .i64 0]) ∧ OdrM w' w'.heap.size (mkO l n lpo top b wb) P Q

set_option maxHeartbeats 8000000 in
theorem refMake_any (l : List Sm) (cl : List (List Lp)) (b wb : Int) (lpo top : Bool) (As Aq : Option Addr) (cs cq : Nat) (w : World) (hS : Syms w w.heap.size As l.length l) (hn : l.length * 32 ≤ 140737488351232) (hC : ClRow w (· < w.heap.size) Aq cl) (hz : (itms cl).length ≤ 1099511627776) (hsm : SmallC cl) :
    Calls Tryz.prog 10 #[.agg #[.slice As l.length cs], .slice Aq cl.length cq, .agg #[.bool lpo, .int .i64 b, .int .i64 wb, .bool top]] w (RMkPost l (cntNo l cl) lpo top (cntN l cl) b wb w) := by
  obtain ⟨W, hW⟩ : ∃ W, ((w.alloc (.cells #[.slice As l.length cs] 24)).alloc (.cells #[.bool lpo, .int .i64 b, .int .i64 wb, .bool top] 37)).alloc (.cells #[.bool false, .slice none 0 0, .slice none 0 0, .int .i64 0] 27) = W := ⟨_, rfl⟩
  obtain ⟨q0, q1, q2⟩ := heap3p w (.cells #[.slice As l.length cs] 24) (.cells #[.bool lpo, .int .i64 b, .int .i64 wb, .bool top] 37) (.cells #[.bool false, .slice none 0 0, .slice none 0 0, .int .i64 0] 27)
  have hB : Below w.heap.size w W := by rw [← hW]; exact (((Below.refl _ _).alloc (Nat.le_refl _) _).alloc (by simp) _).alloc (by simp; omega) _
  rw [hW] at q0 q1 q2
  have hWz : W.heap.size = w.heap.size + 3 := by rw [← hW]; simp
  have HW := Lib.hid hW
  have HB := Lib.hid hB
  have HS := Lib.hid (hS.on hB)
  have HCn := Lib.hid (refCounts_any l cl As Aq cs cq W (hS.on hB) hn (hC.on hB) hz hsm)
  have HQ : Hid (∀ w', Below W.heap.size W w' → w'.cell? ⟨w.heap.size, 0, none⟩ = some (.slice As l.length cs) ∧ (w'.cell? ⟨w.heap.size + 1, 0, none⟩ = some (.bool lpo) ∧ w'.cell? ⟨w.heap.size + 1, 1, none⟩ = some (.int .i64 b) ∧ w'.cell? ⟨w.heap.size + 1, 2, none⟩ = some (.int .i64 wb) ∧ w'.cell? ⟨w.heap.size + 1, 3, none⟩ = some (.bool top)) ∧ w'.heap[w.heap.size + 2]? = some (.cells #[.bool false, .slice none 0 0, .slice none 0 0, .int .i64 0] 27)) := Lib.hid fun w' h =>
    ⟨(cells_one ((h.block _ (by omega)).trans q0)).1, (four_cells ((h.block _ (by omega)).trans q1)).1, (h.block _ (by omega)).trans q2⟩
  obtain ⟨c0, _⟩ := cells_one q0
  clear hW hB hS hC q0 q1 q2
  cases hno : cntNo l cl with
  | true =>
    rw [hno] at HCn
    go_enter Tryz.func10, Tryz.ntmps10
    go_upto_region 1 with fail
    rw [HW.out]
    go_wp2_with (first
      | ((with_reducible refine HCn.out.mono ?_); go_must (rintro e w4 ⟨hb4, hp⟩; rw [if_pos rfl] at hp; subst hp; obtain ⟨c0', ⟨d0, d1, d2, d3⟩, hr⟩ := HQ.out w4 hb4; obtain ⟨⟨x0, x1, x2, x3⟩, y0, y1, y2, y3⟩ := four_cells hr; have HB4 := Lib.hid hb4; clear hb4 hr))
      | fail)
    refine bodyPost_ret (v := .tuple #[.agg #[.bool false, .slice none 0 0, .slice none 0 0, .int .i64 0], .int .i64 2]) (by simp [results, Tryz.results10, go_sem, x0, x1, x2, x3]) rfl ⟨?_, ?_⟩
    · exact ((((HB.out.trans (HB4.out.mono HB.out.size)).setCell (by simp; omega) _).setCell (by simp; omega) _).setCell (by simp; omega) _).setCell (by simp; omega) _
    · rw [if_pos (.inl rfl)]
  | false =>
    rw [hno] at HCn
    by_cases hnm : nameB b wb = false
    · have hbad : b < 0 ∨ (¬ b < 0 ∧ 4 < b) ∨ (¬ b < 0 ∧ ¬ 4 < b ∧ wb < 0) ∨ (¬ b < 0 ∧ ¬ 4 < b ∧ ¬ wb < 0 ∧ 3 < wb) := by
        have h9 := of_decide_eq_false (show decide (0 ≤ b ∧ b ≤ 4 ∧ 0 ≤ wb ∧ wb ≤ 3) = false from hnm)
        omega
      have HNm := Lib.hid hnm
      clear hnm hno
      rcases hbad with h1 | ⟨h1, h2⟩ | ⟨h1, h2, h3⟩ | ⟨h1, h2, h3, h4⟩
      · go_enter Tryz.func10, Tryz.ntmps10
        go_upto_region 1 with fail
        rw [HW.out]
        go_wp2_with (first
          | ((with_reducible refine HCn.out.mono ?_); go_must (rintro e w4 ⟨hb4, hp⟩; rw [if_neg (by decide)] at hp; obtain ⟨g0, rfl, hg0, hrow⟩ := hp; obtain ⟨c0', ⟨d0, d1, d2, d3⟩, hr⟩ := HQ.out w4 hb4; obtain ⟨⟨x0, x1, x2, x3⟩, y0, y1, y2, y3⟩ := four_cells hr; have HB4 := Lib.hid hb4; clear hb4 hr hg0 hrow))
          | fail)
        refine bodyPost_ret (v := .tuple #[.agg #[.bool false, .slice none 0 0, .slice none 0 0, .int .i64 0], .int .i64 2]) (by simp [results, Tryz.results10, go_sem, x0, x1, x2, x3]) rfl ⟨?_, ?_⟩
        · exact ((((HB.out.trans (HB4.out.mono HB.out.size)).setCell (by simp; omega) _).setCell (by simp; omega) _).setCell (by simp; omega) _).setCell (by simp; omega) _
        · rw [if_pos (.inr HNm.out)]
      · go_enter Tryz.func10, Tryz.ntmps10
        go_upto_region 1 with fail
        rw [HW.out]
        go_wp2_with (first
          | ((with_reducible refine HCn.out.mono ?_); go_must (rintro e w4 ⟨hb4, hp⟩; rw [if_neg (by decide)] at hp; obtain ⟨g0, rfl, hg0, hrow⟩ := hp; obtain ⟨c0', ⟨d0, d1, d2, d3⟩, hr⟩ := HQ.out w4 hb4; obtain ⟨⟨x0, x1, x2, x3⟩, y0, y1, y2, y3⟩ := four_cells hr; have HB4 := Lib.hid hb4; clear hb4 hr hg0 hrow))
          | fail)
        refine bodyPost_ret (v := .tuple #[.agg #[.bool false, .slice none 0 0, .slice none 0 0, .int .i64 0], .int .i64 2]) (by simp [results, Tryz.results10, go_sem, x0, x1, x2, x3]) rfl ⟨?_, ?_⟩
        · exact ((((HB.out.trans (HB4.out.mono HB.out.size)).setCell (by simp; omega) _).setCell (by simp; omega) _).setCell (by simp; omega) _).setCell (by simp; omega) _
        · rw [if_pos (.inr HNm.out)]
      · go_enter Tryz.func10, Tryz.ntmps10
        go_upto_region 1 with fail
        rw [HW.out]
        go_wp2_with (first
          | ((with_reducible refine HCn.out.mono ?_); go_must (rintro e w4 ⟨hb4, hp⟩; rw [if_neg (by decide)] at hp; obtain ⟨g0, rfl, hg0, hrow⟩ := hp; obtain ⟨c0', ⟨d0, d1, d2, d3⟩, hr⟩ := HQ.out w4 hb4; obtain ⟨⟨x0, x1, x2, x3⟩, y0, y1, y2, y3⟩ := four_cells hr; have HB4 := Lib.hid hb4; clear hb4 hr hg0 hrow))
          | fail)
        refine bodyPost_ret (v := .tuple #[.agg #[.bool false, .slice none 0 0, .slice none 0 0, .int .i64 0], .int .i64 2]) (by simp [results, Tryz.results10, go_sem, x0, x1, x2, x3]) rfl ⟨?_, ?_⟩
        · exact ((((HB.out.trans (HB4.out.mono HB.out.size)).setCell (by simp; omega) _).setCell (by simp; omega) _).setCell (by simp; omega) _).setCell (by simp; omega) _
        · rw [if_pos (.inr HNm.out)]
      · go_enter Tryz.func10, Tryz.ntmps10
        go_upto_region 1 with fail
        rw [HW.out]
        go_wp2_with (first
          | ((with_reducible refine HCn.out.mono ?_); go_must (rintro e w4 ⟨hb4, hp⟩; rw [if_neg (by decide)] at hp; obtain ⟨g0, rfl, hg0, hrow⟩ := hp; obtain ⟨c0', ⟨d0, d1, d2, d3⟩, hr⟩ := HQ.out w4 hb4; obtain ⟨⟨x0, x1, x2, x3⟩, y0, y1, y2, y3⟩ := four_cells hr; have HB4 := Lib.hid hb4; clear hb4 hr hg0 hrow))
          | fail)
        refine bodyPost_ret (v := .tuple #[.agg #[.bool false, .slice none 0 0, .slice none 0 0, .int .i64 0], .int .i64 2]) (by simp [results, Tryz.results10, go_sem, x0, x1, x2, x3]) rfl ⟨?_, ?_⟩
        · exact ((((HB.out.trans (HB4.out.mono HB.out.size)).setCell (by simp; omega) _).setCell (by simp; omega) _).setCell (by simp; omega) _).setCell (by simp; omega) _
        · rw [if_pos (.inr HNm.out)]
    · have hnm : nameB b wb = true := by simpa using hnm
      obtain ⟨b0, b4, wb0, wb3⟩ := of_decide_eq_true (show decide (0 ≤ b ∧ b ≤ 4 ∧ 0 ≤ wb ∧ wb ≤ 3) = true from hnm)
      have hb0 : checkI l = 0 ∧ okI l (itms cl) = true := by unfold cntNo at hno; simpa using hno
      have har := chk_ar hb0.1
      have hcn := cntN_le hz hb0.2
      have h96 := (chk_one hb0.1).1
      have hl0 := chk_some hb0.1
      have hnl := cntN_len l cl
      obtain ⟨n, hnn⟩ : ∃ n, cntN l cl = n := ⟨_, rfl⟩
      rw [hnn] at hcn hnl HCn ⊢
      have hg1 : ¬ b < 0 := by omega
      have hg2 : ¬ 4 < b := by omega
      have hg3 : ¬ wb < 0 := by omega
      have hg4 : ¬ 3 < wb := by omega
      obtain ⟨i0, hi1, hz0, hz1, hz2⟩ := info_parts infoI
      have hmk : ∀ w : World, (Instr.makeSlice 25 (.int .i64 (l.length : Int)) (.int .i64 (l.length : Int))).run Tryz.prog w = .ok (.slice (some ⟨w.heap.size, 0, none⟩) l.length l.length) (w.alloc (.cells (iC (upTo 0 l.length)) 3)) := fun w => by
        rw [← made_iC]; exact run_make_row _ _ i0 _ Tryz.underlying25 hi1 hz0 hz1 rfl _ _ l.length (by rw [hz2]; omega) (by omega) w
      clear hno hnn
      go_enter Tryz.func10, Tryz.ntmps10
      go_upto_region 1 with fail
      rw [HW.out]
      go_upto_region 4 with (first
        | ((with_reducible refine HCn.out.mono ?_); go_must (rintro e w4 ⟨hb4, hp⟩; rw [if_neg (by decide)] at hp; obtain ⟨g0, rfl, hg0, hrow⟩ := hp; obtain ⟨c0', ⟨d0, d1, d2, d3⟩, hr⟩ := HQ.out w4 hb4; have HB4 := Lib.hid hb4; have HRow := Lib.hid (And.intro hg0 hrow); clear hb4 hr hg0 hrow))
        | fail)
      clear c0 c0'
      go_cut [10] (fun s10 wx => ∃ bx g : Nat, s10 = .pointer (some ⟨bx, 0, none⟩) ∧ Hid (MkV w4 wx lpo l.length bx g))
      case first =>
        go_region_held3 (fun w' => w'.cell? ⟨w.heap.size + 1, 0, none⟩ = some (.bool lpo)) (go_keep) (fail)
        all_goals (go_wp2_with fail; go_meet)
        case rel => exact ⟨_, _, rfl, Lib.hid (mkV_row w4 lpo l.length)⟩
        case rel => exact ⟨_, _, rfl, Lib.hid (mkV_box w4 lpo l.length)⟩
      case rest =>
        obtain ⟨bx, g, rfl, HM⟩ := hcut
        clear d0 d1 d2 d3
        have hz4 := HB4.out.size
        have hne := HM.out.ne
        have hlb := HM.out.lb
        have hlg := HM.out.lg
        have hgz := (Array.getElem?_eq_some_iff.1 HM.out.row).1
        have hbz := (Array.getElem?_eq_some_iff.1 HM.out.box).1
        have hg0z := (Array.getElem?_eq_some_iff.1 HRow.out.2).1
        have hg0w := HRow.out.1
        have hn64 : ∀ x ∈ n, I64 x := fun x hx => by
          obtain ⟨f, hf, rfl⟩ := List.getElem_of_mem hx
          have := hcn f
          unfold cnP at this
          rw [getD_of (List.getElem?_eq_getElem hf)] at this
          unfold I64; omega
        have HWs : Hid (∀ ws, Keeps (fun q => q < wc.heap.size ∧ q ≠ g) wc ws → Below W.heap.size W ws ∧ ws.heap[bx]? = some (.cells #[.bool lpo, .slice (some ⟨g, 0, none⟩) l.length l.length, .slice none 0 0, .int .i64 0] 27) ∧ ws.heap[g0]? = some (.cells (iC n) 3)) := Lib.hid fun ws hk =>
          ⟨(HB4.out.trans (HM.out.bl.mono hz4)).trans (hk.below fun q e => ⟨by omega, by omega⟩), (hk.block bx ⟨hbz, hne⟩).trans HM.out.box, (hk.block g0 ⟨by have := HM.out.bl.size; omega, by omega⟩).trans ((HM.out.bl.block g0 hg0z).trans HRow.out.2)⟩
        have HAbv : Hid (∀ ws, Keeps (fun q => q < wc.heap.size ∧ q ≠ g) wc ws → ∀ i k : Nat, i < l.length → k < l.length → Calls Tryz.prog 25 #[.agg #[.slice As l.length cs], .int .i64 b, .slice (some ⟨g0, 0, none⟩) l.length l.length, .int .i64 (i : Int), .int .i64 (k : Int)] ws fun e w' => e = .returned (.bool (abvR l n b i k)) ∧ Below ws.heap.size ws w') := Lib.hid fun ws hk i k hi hk' => by
          obtain ⟨hbs, _, hr0⟩ := HWs.out ws hk
          have hi0 := ints_of hr0 (by omega) hn64
          have := refAbv_any l n b i k As (some ⟨g0, 0, none⟩) cs n.length ws (HS.out.on hbs) ⟨hi0.len, hi0.i64, fun e => by obtain ⟨q, o, h1, h2, h3⟩ := hi0.ad e; exact ⟨q, o, h1, by have := (Array.getElem?_eq_some_iff.1 hr0).1; omega, h3⟩⟩ hnl (by omega) hi hk' har hcn b0 b4
          rwa [hnl] at this
        go_wp2
        go_loopw [11] (fun i wr => ∃ k : Nat, 1 ≤ k ∧ k ≤ l.length ∧ i = .int .i64 (k : Int) ∧ Hid (wr.heap[g]? = some (.cells (iC (rk1 l n b l.length k)) 3)) ∧ Keeps (fun q => q < wc.heap.size ∧ q ≠ g) wc wr) (fun i _ => l.length - (intOf i).toNat)
        case atStart => exact ⟨1, Nat.le_refl _, hl0, rfl, Lib.hid (by rw [rk1_one]; exact HM.out.row), Keeps.refl _ _⟩
        case round =>
          obtain ⟨k, hk1, hk, rfl, HG, hKr⟩ := hrel
          obtain ⟨hBr, hbox, _⟩ := HWs.out wr hKr
          obtain ⟨⟨x0, x1, x2, x3⟩, y0, y1, y2, y3⟩ := four_cells hbox
          by_cases hlt : k < l.length
          · have hget := iC_cell HG.out (rk1_get l n b (m := l.length) (i := k) hlt)
            obtain ⟨hv, hf⟩ := hget
            rw [if_neg (by omega)] at hv
            have hz8 := hKr.size
            have HG1 : Hid ((wr.setCell ⟨g, k, none⟩ (.int .i64 1)).heap[g]? = some (.cells (iC ((rk1 l n b l.length k).set k ((1 + cn1 l n b k 1 : Nat) : Int))) 3)) := Lib.hid (iC_set HG.out k 1)
            have HK1 : Hid (Keeps (fun q => q < wc.heap.size ∧ q ≠ g) wc (wr.setCell ⟨g, k, none⟩ (.int .i64 1))) := Lib.hid (hKr.trans ((Keeps.set wr ⟨g, k, none⟩ _).mono fun q e => e.2))
            go_wp2
            clear hv hf x0 x1 x2 x3 y0 y1 y2 y3 hbox hBr
            go_loopw [12] (fun i ws => ∃ j : Nat, 1 ≤ j ∧ j ≤ l.length ∧ i = .int .i64 (j : Int) ∧ Hid (ws.heap[g]? = some (.cells (iC ((rk1 l n b l.length k).set k ((1 + cn1 l n b k j : Nat) : Int))) 3)) ∧ Keeps (fun q => q < wc.heap.size ∧ q ≠ g) wc ws) (fun i _ => l.length - (intOf i).toNat)
            case atStart => exact ⟨1, Nat.le_refl _, hl0, rfl, HG1, HK1.out⟩
            case round =>
              obtain ⟨j, hj1, hj, rfl, HGs, hKs⟩ := hrel
              obtain ⟨hBs, hbox, _⟩ := HWs.out wr hKs
              obtain ⟨⟨x0, x1, x2, x3⟩, _⟩ := four_cells hbox
              obtain ⟨c0, ⟨d0, d1, d2, d3⟩, _⟩ := HQ.out wr hBs
              have hzs := hKs.size
              by_cases hjl : j < l.length
              · by_cases hjk : j = k
                · subst hjk
                  have hst : cn1 l n b j (j + 1) = cn1 l n b j j := by rw [cn1_step l n b j hj1, decide_eq_false (by omega), Bool.false_and]; rfl
                  have HSt := Lib.hid hst
                  clear hst
                  go_wp2
                  go_roundw
                  case rel => exact ⟨j + 1, by omega, by omega, by go_num, by rw [HSt.out]; exact HGs, hKs⟩
                  case measure => simp [intOf]; omega
                · have hjk1 : (((j : Nat) : Int) != ((k : Nat) : Int)) = true := by simp; omega
                  have HA1 := Lib.hid (HAbv.out wr hKs k j hlt hjl)
                  cases hab : abvR l n b k j with
                  | false =>
                    rw [hab] at HA1
                    have hst : cn1 l n b k (j + 1) = cn1 l n b k j := by rw [cn1_step l n b k hj1, hab, Bool.and_false]; rfl
                    have HSt := Lib.hid hst
                    clear hst hab
                    go_wp2_with (first
                      | ((with_reducible refine HA1.out.mono ?_); go_must (rintro e w6 ⟨rfl, hb6⟩; have HB6 := Lib.hid hb6; clear hb6))
                      | fail)
                    go_roundw
                    case rel => exact ⟨j + 1, by omega, by omega, by go_num, by rw [HSt.out]; exact Lib.hid ((HB6.out.block _ (by omega)).trans HGs.out), hKs.trans ((Keeps.of_below HB6.out).mono fun q e => by have := e.1; show q < wr.heap.size; omega)⟩
                    case measure => simp [intOf]; omega
                  | true =>
                    rw [hab] at HA1
                    have hst : cn1 l n b k (j + 1) = cn1 l n b k j + 1 := by rw [cn1_step l n b k hj1, hab, decide_eq_true hjk]; rfl
                    have HSt := Lib.hid hst
                    have hcl := cn1_le l n b k j
                    clear hst hab
                    obtain ⟨cv, hcv⟩ : ∃ cv, cn1 l n b k j = cv := ⟨_, rfl⟩
                    rw [hcv] at HGs hcl
                    have hget := iC_cell HGs.out (j := k) (x := ((1 + cv : Nat) : Int)) (by rw [List.getElem?_set_self (by rw [rk1_len]; exact hlt)])
                    have HGt := Lib.hid hget
                    clear hget
                    go_wp2_with (first
                      | ((with_reducible refine HA1.out.mono ?_); go_must (rintro e w6 ⟨rfl, hb6⟩; have HB6 := Lib.hid hb6; obtain ⟨⟨x0', x1', x2', x3'⟩, _⟩ := four_cells ((hb6.block bx (by omega)).trans hbox); have hv := cell_on hb6 (b := g) (by omega) HGt.out.1; have hf := frozen_on hb6 (b := g) (by omega) HGt.out.2; clear hb6))
                      | fail)
                    refine ⟨⟨j + 1, by omega, by omega, by go_num, Lib.hid ?_, ?_⟩, by simp [intOf]; omega⟩
                    · have h9 := iC_set ((HB6.out.block g (by omega)).trans HGs.out) k (1 + (cv : Int) + 1)
                      rw [List.set_set] at h9
                      rw [HSt.out, hcv, show ((1 + (cv + 1) : Nat) : Int) = 1 + (cv : Int) + 1 by omega]
                      exact h9
                    · exact hKs.trans (((Keeps.of_below HB6.out).mono fun q e => by have := e.1; show q < wr.heap.size; omega).trans ((Keeps.set _ _ _).mono fun q e => e.2))
              · obtain rfl : j = l.length := by omega
                have HG9 : Hid (wr.heap[g]? = some (.cells (iC (rk1 l n b l.length (k + 1))) 3)) := Lib.hid (by rw [← rk1_set l n b hk1]; exact HGs.out)
                go_wp2
                go_roundw
                case rel => exact ⟨k + 1, by omega, by omega, by go_num, HG9, hKs⟩
                case measure => simp [intOf]; omega
          · obtain rfl : k = l.length := by omega
            have HGR : Hid (wr.heap[g]? = some (.cells (iC (rkL l n b l.length)) 3)) := Lib.hid (by rw [← rk1_all]; exact HG.out)
            obtain ⟨c0, ⟨d0, d1, d2, d3⟩, hres⟩ := HQ.out wr hBr
            obtain ⟨⟨e0, e1, e2, e3⟩, f0, f1, f2, f3⟩ := four_cells hres
            have Hres := Lib.hid hres
            have hz8 := hKr.size
            clear hres
            cases lpo with
            | true =>
              go_wp2
              refine bodyPost_ret (v := .tuple #[.agg #[.bool true, .slice (some ⟨g, 0, none⟩) l.length l.length, .slice none 0 0, .int .i64 0], .int .i64 0]) (by simp [results, Tryz.results10, go_sem, e0, e1, e2, e3]) rfl ⟨?_, ?_⟩
              · exact ((((HB.out.trans (hBr.mono HB.out.size)).setCell (by simp; omega) _).setCell (by simp; omega) _).setCell (by simp; omega) _).setCell (by simp; omega) _
              · rw [if_neg (by rw [hnm]; simp), show mkO l n true top b wb = ⟨true, rkL l n b l.length, [], 0⟩ from if_pos rfl]
                have h1 := (set4_row (w := wr) (show g ≠ w.heap.size + 1 + 1 by omega) (.bool true) (.slice (some ⟨g, 0, none⟩) l.length l.length) (.slice none 0 0) (.int .i64 0)).trans HGR.out
                exact ⟨some ⟨g, 0, none⟩, none, l.length, 0, by simp [rkL_len], ⟨(ints_of h1 (by rw [rkL_len]; omega) (rk_i64 (by omega))).more (Array.getElem?_eq_some_iff.1 h1).1, ⟨by simp, by simp, fun h => by simp at h⟩, ⟨(by show (-9223372036854775808 : Int) ≤ 0; decide), (by show (0 : Int) ≤ 9223372036854775807; decide)⟩⟩⟩
            | false =>
              obtain ⟨wz, hwz⟩ : ∃ wz, wr.setCell ⟨bx, 3, none⟩ (.int .i64 1) = wz := ⟨_, rfl⟩
              have hbz1 : wz.heap[bx]? = some (.cells #[.bool false, .slice (some ⟨g, 0, none⟩) l.length l.length, .slice none 0 0, .int .i64 1] 27) := by rw [← hwz]; exact box_set3 hbox
              have hrz : wz.heap[g]? = some (.cells (iC (rkL l n b l.length)) 3) := by rw [← hwz, Below.heap_setCell _ _ _ g (show g ≠ bx from fun e => hne e.symm)]; exact HGR.out
              have hnz : wz.heap[g0]? = some (.cells (iC n) 3) := by rw [← hwz, Below.heap_setCell _ _ _ g0 (show g0 ≠ bx by omega)]; exact (HWs.out wr hKr).2.2
              have hBz : Below W.heap.size W wz := by rw [← hwz]; exact hBr.setCell (show W.heap.size ≤ bx by omega) _
              have hzz : wz.heap.size = wr.heap.size := by rw [← hwz]; simp
              have HWz := Lib.hid hwz
              have HBz1 := Lib.hid hbz1
              have HBz := Lib.hid hBz
              clear hwz hbz1
              go_upto_region 17 with fail
              rw [HWz.out]
              clear x0 x1 x2 x3 y0 y1 y2 y3 e0 e1 e2 e3 f0 f1 f2 f3 c0 d0 d1 d2 d3
              have HZ : Hid (∀ wr, Keeps (fun q => q < wz.heap.size ∧ q ≠ bx) wz wr → Below W.heap.size W wr ∧ wr.heap[g]? = some (.cells (iC (rkL l n b l.length)) 3) ∧ wr.heap[g0]? = some (.cells (iC n) 3)) := Lib.hid fun wr hk =>
                ⟨HBz.out.trans (hk.below fun q e => ⟨by have := HBz.out.size; omega, by omega⟩), (hk.block g ⟨by omega, fun e => hne e.symm⟩).trans hrz, (hk.block g0 ⟨by omega, by omega⟩).trans hnz⟩
              clear hrz hnz hBz
              go_wp2
              go_loopw [13] (fun i wr => ∃ k : Nat, k ≤ l.length ∧ i = .int .i64 (k : Int) ∧ ∃ v, Hid (wr.heap[bx]? = some (.cells #[.bool false, .slice (some ⟨g, 0, none⟩) l.length l.length, v, .int .i64 1] 27)) ∧ Hid (wr.ownsRow wz.heap.size 3 1 v k (((wtL l n wb top (rkL l n b l.length)).take k).map (Value.int .i64))) ∧ Keeps (fun q => q < wz.heap.size ∧ q ≠ bx) wz wr) (fun i _ => l.length - (intOf i).toNat)
              case atStart => exact ⟨0, Nat.zero_le _, rfl, _, HBz1, Lib.hid (by simpa using World.ownsRow_nil wz _ _ _), Keeps.refl _ _⟩
              case round =>
                obtain ⟨k, hk, rfl, v, HBx, HOwn, hKz⟩ := hrel
                obtain ⟨hBy, hgy, hny⟩ := HZ.out wr hKz
                obtain ⟨⟨x0, x1, x2, x3⟩, y0, y1, y2, y3⟩ := four_cells HBx.out
                obtain ⟨c0, ⟨d0, d1, d2, d3⟩, hres⟩ := HQ.out wr hBy
                have hzy := hKz.size
                have hzB := hBy.size
                by_cases hlt : k < l.length
                · obtain ⟨sm, hsm1⟩ : ∃ sm, l[k]? = some sm := ⟨_, List.getElem?_eq_getElem hlt⟩
                  obtain ⟨sb, so, hAs, _, hsc⟩ := (HS.out.on hBy).ad (by omega)
                  subst hAs
                  obtain ⟨_, z1, _⟩ := hsc k sm hsm1
                  have eA : arP l k = sm.arity := by unfold arP; rw [hsm1]; rfl
                  have bA := har k
                  rw [eA] at bA
                  obtain ⟨va, hva⟩ : ∃ va, sm.arity = va := ⟨_, rfl⟩
                  rw [hva] at z1 eA bA
                  obtain ⟨nv, hnv⟩ : ∃ nv, n[k]? = some nv := ⟨_, List.getElem?_eq_getElem (by omega)⟩
                  have z2 := (iC_cell hny hnv).1
                  have eN : cnP n k = nv := by unfold cnP; exact getD_of hnv
                  have bN := hcn k
                  rw [eN] at bN
                  obtain ⟨rv, hrv⟩ : ∃ rv, (rkL l n b l.length)[k]? = some rv := ⟨_, List.getElem?_eq_getElem (by rw [rkL_len]; exact hlt)⟩
                  have z3 := (iC_cell hgy hrv).1
                  have eR : (rkL l n b l.length).getD k 0 = rv := getD_of hrv
                  have bR : 0 ≤ rv ∧ rv ≤ 1000 := by
                    rw [← eR, rkL_getD hlt]
                    have := rnkR_less l n b hlt
                    omega
                  have EA := Lib.hid eA
                  have EN := Lib.hid eN
                  have ER := Lib.hid eR
                  obtain ⟨bA0, bA1⟩ := bA
                  obtain ⟨bN0, bN1⟩ := bN
                  obtain ⟨bR0, bR1⟩ := bR
                  clear hres hsc hsm1 hva hnv hrv eA eN eR
                  go_upto_block 6 with fail
                  go_cut [14] (fun u wx => u = .int .i64 (wgX l n wb (rkL l n b l.length) k) ∧ wx = wr)
                  case first =>
                    clear x0 x2 x3
                    have hwb : wb = 0 ∨ wb = 1 ∨ wb = 2 ∨ wb = 3 := by omega
                    clear wb0 wb3 hg3 hg4
                    rcases hwb with rfl | rfl | rfl | rfl
                    · go_wp2_with fail
                      go_meet
                      case rel => exact ⟨by simp [wgX], rfl⟩
                    · go_wp2_with fail
                      go_meet
                      case rel => exact ⟨by simp [wgX, EA.out], rfl⟩
                    · go_wp2_with fail
                      go_meet
                      case rel => exact ⟨by simp only [wgX, ER.out]; rfl, rfl⟩
                    · go_wp2_with fail
                      go_meet
                      case rel => exact ⟨by simp [wgX, EN.out], rfl⟩
                  case rest =>
                    obtain ⟨rfl, hwc⟩ := hcut
                    replace hwc := hwc.symm
                    subst hwc
                    obtain ⟨gx, hgx⟩ : ∃ gx, wgX l n wb (rkL l n b l.length) k = gx := ⟨_, rfl⟩
                    have HGX := Lib.hid hgx
                    rw [hgx]
                    clear hgx
                    go_upto_if 122 with fail
                    go_cut [14] (fun u wx => u = .int .i64 (if k = 0 then 1 else gx) ∧ wx = wr)
                    case first =>
                      by_cases hk0 : k = 0
                      · subst hk0
                        go_wp2_with fail
                        go_meet
                        case rel => exact ⟨by simp, rfl⟩
                      · have hkb : (((k : Nat) : Int) == 0) = false := by simp; omega
                        have HK0 := Lib.hid hk0
                        clear hk0
                        go_wp2_with fail
                        go_meet
                        case rel => exact ⟨by rw [if_neg HK0.out], rfl⟩
                    case rest =>
                      obtain ⟨rfl, hwc⟩ := hcut
                      replace hwc := hwc.symm
                      subst hwc
                      obtain ⟨y, hy⟩ : ∃ y, (if k = 0 then 1 else gx) = y := ⟨_, rfl⟩
                      rw [hy]
                      have HYX : Hid ((if k = 0 then 1 else wgX l n wb (rkL l n b l.length) k) = y) := Lib.hid (by rw [HGX.out]; exact hy)
                      clear hy
                      have hbxz : bx < wz.heap.size := (Array.getElem?_eq_some_iff.1 HBz1.out).1
                      have hIr := ints_of hgy (by rw [rkL_len]; omega) (rk_i64 (by omega))
                      have HHi : Hid (Calls Tryz.prog 20 #[.slice (some ⟨g, 0, none⟩) l.length l.length, .int .i64 (k : Int)] wr fun e w' => e = .returned (.bool (highB (rkL l n b l.length) k)) ∧ Below wr.heap.size wr w') := Lib.hid (by
                        have := refHighest_any (rkL l n b l.length) k (by rw [rkL_len]; exact hlt) (some ⟨g, 0, none⟩) l.length wr (hIr.more (Array.getElem?_eq_some_iff.1 hgy).1)
                        rwa [rkL_len] at this)
                      clear hIr
                      cases top with
                      | false =>
                        have HY : Hid (wtR l n wb false (rkL l n b l.length) k = min y 1000) := Lib.hid (by unfold wtR; rw [if_neg (by simp), HYX.out])
                        have HBx6 := HBx
                        have HOwn6 := HOwn
                        have HK6 := Lib.hid hKz
                        have hz6 : wz.heap.size ≤ wr.heap.size := hzy
                        go_wp2_with (first
                          | (at_builtin
                             go_must (
                             refine wpList_append_own _ rfl _ _ 25 rfl wz.heap.size 3 i0 (.int .i64 0) 1 8 Tryz.underlying25 hi1 hz0 hz1 hz2 rfl (by decide) _ k _ rfl (HOwn6.out.alloc _) ⟨wr.heap.size, 0, none⟩ 1 1 [.int .i64 (min y 1000)] rfl rfl (cell_one_new _ _ _) (by simp [Value.oneCell']) (by unfold maxLen; omega) (by omega) (by simp; omega) ?_
                             intro v1 w3 hown3 hgr3 _
                             obtain ⟨g3, cap3, rfl⟩ := ownsRow_succ hown3
                             have hk3 : Keeps (fun q => q < wz.heap.size) wr w3 := ((Keeps.alloc wr _).mono fun q e => by have e' : q < wz.heap.size := e; show q < wr.heap.size; omega).trans ((Keeps.of_grown hgr3).mono fun q e => ⟨by have e' : q < wz.heap.size := e; simp; omega, fun h => by have := (row_lt HOwn6.out q h.symm).1; have e' : q < wz.heap.size := e; omega⟩)
                             have hbx3 := (hk3.block bx hbxz).trans HBx6.out
                             have HBx3 := Lib.hid hbx3
                             obtain ⟨⟨x0'', x1'', x2'', x3''⟩, y0'', y1'', y2'', y3''⟩ := four_cells hbx3
                             have HK3 := Lib.hid hk3
                             have HOwn3 := Lib.hid hown3
                             clear hbx3 hk3 hown3 hgr3))
                          | fail)
                        refine ⟨⟨k + 1, by omega, by go_num, _, Lib.hid (box_set2 HBx3.out), Lib.hid ?_, ?_⟩, by simp [intOf]; omega⟩
                        · rw [wtL_step (by rw [rkL_len]; exact hlt), List.map_append, HY.out]
                          exact row_keep HOwn3.out (fun q e => Below.heap_setCell _ _ _ q (fun e' : q = bx => by have := (row_lt HOwn3.out q e).1; omega))
                        · exact HK6.out.trans ((HK3.out.mono fun q e => e.1).trans ((Keeps.set _ _ _).mono fun q e => e.2))
                      | true =>
                        by_cases hva1 : va = 1
                        · subst hva1
                          cases hhb : highB (rkL l n b l.length) k with
                          | true =>
                            rw [hhb] at HHi
                            have HH := Lib.hid hhb
                            clear hhb
                            have HY : Hid (wtR l n wb true (rkL l n b l.length) k = min 0 1000) := Lib.hid (by unfold wtR; rw [if_pos ⟨rfl, EA.out, HH.out⟩])
                            go_wp2_with (first
                              | ((with_reducible refine HHi.out.mono ?_)
                                 go_must (
                                 rintro e w6 ⟨rfl, hb6⟩
                                 have hz6 : wz.heap.size ≤ w6.heap.size := by have := hb6.size; omega
                                 have HBx6 : Hid (w6.heap[bx]? = some (.cells #[.bool false, .slice (some ⟨g, 0, none⟩) l.length l.length, v, .int .i64 1] 27)) := Lib.hid ((hb6.block bx (by omega)).trans HBx.out)
                                 have HOwn6 := Lib.hid (row_keep HOwn.out (fun g e => hb6.block g (row_lt HOwn.out g e).2))
                                 have HK6 := Lib.hid (hKz.trans ((Keeps.of_below hb6).mono fun q e => by have := e.1; show q < wr.heap.size; omega))
                                 obtain ⟨⟨x0', x1', x2', x3'⟩, y0', y1', y2', y3'⟩ := four_cells HBx6.out
                                 clear hb6))
                              | (at_builtin
                                 go_must (
                                 refine wpList_append_own _ rfl _ _ 25 rfl wz.heap.size 3 i0 (.int .i64 0) 1 8 Tryz.underlying25 hi1 hz0 hz1 hz2 rfl (by decide) _ k _ rfl (HOwn6.out.alloc _) ⟨w6.heap.size, 0, none⟩ 1 1 [.int .i64 (min 0 1000)] rfl rfl (cell_one_new _ _ _) (by simp [Value.oneCell']) (by unfold maxLen; omega) (by omega) (by simp; omega) ?_
                                 intro v1 w3 hown3 hgr3 _
                                 obtain ⟨g3, cap3, rfl⟩ := ownsRow_succ hown3
                                 have hk3 : Keeps (fun q => q < wz.heap.size) w6 w3 := ((Keeps.alloc w6 _).mono fun q e => by have e' : q < wz.heap.size := e; show q < w6.heap.size; omega).trans ((Keeps.of_grown hgr3).mono fun q e => ⟨by have e' : q < wz.heap.size := e; simp; omega, fun h => by have := (row_lt HOwn6.out q h.symm).1; have e' : q < wz.heap.size := e; omega⟩)
                                 have hbx3 := (hk3.block bx hbxz).trans HBx6.out
                                 have HBx3 := Lib.hid hbx3
                                 obtain ⟨⟨x0'', x1'', x2'', x3''⟩, y0'', y1'', y2'', y3''⟩ := four_cells hbx3
                                 have HK3 := Lib.hid hk3
                                 have HOwn3 := Lib.hid hown3
                                 clear hbx3 hk3 hown3 hgr3))
                              | fail)
                            refine ⟨⟨k + 1, by omega, by go_num, _, Lib.hid (box_set2 HBx3.out), Lib.hid ?_, ?_⟩, by simp [intOf]; omega⟩
                            · rw [wtL_step (by rw [rkL_len]; exact hlt), List.map_append, HY.out]
                              exact row_keep HOwn3.out (fun q e => Below.heap_setCell _ _ _ q (fun e' : q = bx => by have := (row_lt HOwn3.out q e).1; omega))
                            · exact HK6.out.trans ((HK3.out.mono fun q e => e.1).trans ((Keeps.set _ _ _).mono fun q e => e.2))
                          | false =>
                            rw [hhb] at HHi
                            have HH := Lib.hid hhb
                            clear hhb
                            have HY : Hid (wtR l n wb true (rkL l n b l.length) k = min y 1000) := Lib.hid (by unfold wtR; rw [if_neg (fun h => by rw [HH.out] at h; simp at h), HYX.out])
                            go_wp2_with (first
                              | ((with_reducible refine HHi.out.mono ?_)
                                 go_must (
                                 rintro e w6 ⟨rfl, hb6⟩
                                 have hz6 : wz.heap.size ≤ w6.heap.size := by have := hb6.size; omega
                                 have HBx6 : Hid (w6.heap[bx]? = some (.cells #[.bool false, .slice (some ⟨g, 0, none⟩) l.length l.length, v, .int .i64 1] 27)) := Lib.hid ((hb6.block bx (by omega)).trans HBx.out)
                                 have HOwn6 := Lib.hid (row_keep HOwn.out (fun g e => hb6.block g (row_lt HOwn.out g e).2))
                                 have HK6 := Lib.hid (hKz.trans ((Keeps.of_below hb6).mono fun q e => by have := e.1; show q < wr.heap.size; omega))
                                 obtain ⟨⟨x0', x1', x2', x3'⟩, y0', y1', y2', y3'⟩ := four_cells HBx6.out
                                 clear hb6))
                              | (at_builtin
                                 go_must (
                                 refine wpList_append_own _ rfl _ _ 25 rfl wz.heap.size 3 i0 (.int .i64 0) 1 8 Tryz.underlying25 hi1 hz0 hz1 hz2 rfl (by decide) _ k _ rfl (HOwn6.out.alloc _) ⟨w6.heap.size, 0, none⟩ 1 1 [.int .i64 (min y 1000)] rfl rfl (cell_one_new _ _ _) (by simp [Value.oneCell']) (by unfold maxLen; omega) (by omega) (by simp; omega) ?_
                                 intro v1 w3 hown3 hgr3 _
                                 obtain ⟨g3, cap3, rfl⟩ := ownsRow_succ hown3
                                 have hk3 : Keeps (fun q => q < wz.heap.size) w6 w3 := ((Keeps.alloc w6 _).mono fun q e => by have e' : q < wz.heap.size := e; show q < w6.heap.size; omega).trans ((Keeps.of_grown hgr3).mono fun q e => ⟨by have e' : q < wz.heap.size := e; simp; omega, fun h => by have := (row_lt HOwn6.out q h.symm).1; have e' : q < wz.heap.size := e; omega⟩)
                                 have hbx3 := (hk3.block bx hbxz).trans HBx6.out
                                 have HBx3 := Lib.hid hbx3
                                 obtain ⟨⟨x0'', x1'', x2'', x3''⟩, y0'', y1'', y2'', y3''⟩ := four_cells hbx3
                                 have HK3 := Lib.hid hk3
                                 have HOwn3 := Lib.hid hown3
                                 clear hbx3 hk3 hown3 hgr3))
                              | fail)
                            refine ⟨⟨k + 1, by omega, by go_num, _, Lib.hid (box_set2 HBx3.out), Lib.hid ?_, ?_⟩, by simp [intOf]; omega⟩
                            · rw [wtL_step (by rw [rkL_len]; exact hlt), List.map_append, HY.out]
                              exact row_keep HOwn3.out (fun q e => Below.heap_setCell _ _ _ q (fun e' : q = bx => by have := (row_lt HOwn3.out q e).1; omega))
                            · exact HK6.out.trans ((HK3.out.mono fun q e => e.1).trans ((Keeps.set _ _ _).mono fun q e => e.2))
                        · have hvb : (va == 1) = false := by simpa using hva1
                          have HVA := Lib.hid hva1
                          clear hva1
                          have HY : Hid (wtR l n wb true (rkL l n b l.length) k = min y 1000) := Lib.hid (by unfold wtR; rw [if_neg (fun h => HVA.out (EA.out.symm.trans h.2.1)), HYX.out])
                          have HBx6 := HBx
                          have HOwn6 := HOwn
                          have HK6 := Lib.hid hKz
                          have hz6 : wz.heap.size ≤ wr.heap.size := hzy
                          go_wp2_with (first
                            | (at_builtin
                               go_must (
                               refine wpList_append_own _ rfl _ _ 25 rfl wz.heap.size 3 i0 (.int .i64 0) 1 8 Tryz.underlying25 hi1 hz0 hz1 hz2 rfl (by decide) _ k _ rfl (HOwn6.out.alloc _) ⟨wr.heap.size, 0, none⟩ 1 1 [.int .i64 (min y 1000)] rfl rfl (cell_one_new _ _ _) (by simp [Value.oneCell']) (by unfold maxLen; omega) (by omega) (by simp; omega) ?_
                               intro v1 w3 hown3 hgr3 _
                               obtain ⟨g3, cap3, rfl⟩ := ownsRow_succ hown3
                               have hk3 : Keeps (fun q => q < wz.heap.size) wr w3 := ((Keeps.alloc wr _).mono fun q e => by have e' : q < wz.heap.size := e; show q < wr.heap.size; omega).trans ((Keeps.of_grown hgr3).mono fun q e => ⟨by have e' : q < wz.heap.size := e; simp; omega, fun h => by have := (row_lt HOwn6.out q h.symm).1; have e' : q < wz.heap.size := e; omega⟩)
                               have hbx3 := (hk3.block bx hbxz).trans HBx6.out
                               have HBx3 := Lib.hid hbx3
                               obtain ⟨⟨x0'', x1'', x2'', x3''⟩, y0'', y1'', y2'', y3''⟩ := four_cells hbx3
                               have HK3 := Lib.hid hk3
                               have HOwn3 := Lib.hid hown3
                               clear hbx3 hk3 hown3 hgr3))
                            | fail)
                          refine ⟨⟨k + 1, by omega, by go_num, _, Lib.hid (box_set2 HBx3.out), Lib.hid ?_, ?_⟩, by simp [intOf]; omega⟩
                          · rw [wtL_step (by rw [rkL_len]; exact hlt), List.map_append, HY.out]
                            exact row_keep HOwn3.out (fun q e => Below.heap_setCell _ _ _ q (fun e' : q = bx => by have := (row_lt HOwn3.out q e).1; omega))
                          · exact HK6.out.trans ((HK3.out.mono fun q e => e.1).trans ((Keeps.set _ _ _).mono fun q e => e.2))
                · obtain rfl : k = l.length := by omega
                  have HGY := Lib.hid hgy
                  have HBY := Lib.hid hBy
                  obtain ⟨⟨e0, e1, e2, e3⟩, f0, f1, f2, f3⟩ := four_cells hres
                  have HR9 := HOwn
                  rw [List.take_of_length_le (by rw [wtL_len, rkL_len]; exact Nat.le_refl _)] at HR9
                  clear hres hgy hny hBy
                  rcases HOwn.out.2 with ⟨_, h0⟩ | ⟨g5, cap5, cur5, hv5, hb5, hg5, _⟩
                  · omega
                  · subst hv5
                    clear HOwn hg5
                    go_wp2
                    refine bodyPost_ret (v := .tuple #[.agg #[.bool false, .slice (some ⟨g, 0, none⟩) l.length l.length, .slice (some ⟨g5, 0, none⟩) l.length cap5, .int .i64 1], .int .i64 0]) (by simp [results, Tryz.results10, go_sem, e0, e1, e2, e3]) rfl ⟨?_, ?_⟩
                    · exact ((((HB.out.trans (HBY.out.mono HB.out.size)).setCell (by simp; omega) _).setCell (by simp; omega) _).setCell (by simp; omega) _).setCell (by simp; omega) _
                    · rw [if_neg (by rw [hnm]; simp), show mkO l n false top b wb = ⟨false, rkL l n b l.length, wtL l n wb top (rkL l n b l.length), 1⟩ from if_neg (by decide)]
                      have h1 := (set4_row (w := wr) (show g ≠ w.heap.size + 1 + 1 by omega) (.bool false) (.slice (some ⟨g, 0, none⟩) l.length l.length) (.slice (some ⟨g5, 0, none⟩) l.length cap5) (.int .i64 1)).trans HGY.out
                      have h2 := row_keep HR9.out (fun q e => set4_row (w := wr) (r := w.heap.size + 1 + 1) (show q ≠ w.heap.size + 1 + 1 by have := (row_lt HR9.out q e).1; omega) (.bool false) (.slice (some ⟨g, 0, none⟩) l.length l.length) (.slice (some ⟨g5, 0, none⟩) l.length cap5) (.int .i64 1))
                      have hwl : (wtL l n wb top (rkL l n b l.length)).length = l.length := by rw [wtL_len, rkL_len]
                      have hww : ∀ x ∈ wtL l n wb top (rkL l n b l.length), I64 x := wt_i64 (fun f => (har f).1) (fun f => (hcn f).1)
                      exact ⟨some ⟨g, 0, none⟩, some ⟨g5, 0, none⟩, l.length, cap5, by simp [rkL_len, wtL_len], ⟨(ints_of h1 (by rw [rkL_len]; omega) (rk_i64 (by omega))).more (Array.getElem?_eq_some_iff.1 h1).1, own_ints (m := l.length) hwl hl0 h2 (by rw [hwl]; omega) hww, ⟨(by show (-9223372036854775808 : Int) ≤ 1; decide), (by show (1 : Int) ≤ 9223372036854775807; decide)⟩⟩⟩

end Go.Proofs.YtfnncphkidhbpaaGreatDoor

/- prec's law: PrecMakes. -/

namespace Go.Proofs.YtfnncphkidhbpaaGreatDoor

open Go Go.RowKit Go.Shelf
set_option maxRecDepth 100000

/-- An order and a code are returned. -/
def OrdPost (o : Odr) (ec : Int) (w : World) (e : Ending) (w' : World) : Prop := ∃ P Q pc qc, e = .returned (.tuple #[.agg #[.bool o.lpo, .slice P o.prec.length pc, .slice Q o.wts.length qc, .int .i64 o.var], .int .i64 ec]) ∧ Below w.heap.size w w' ∧ OdrM w' w'.heap.size o P Q

/-- A row of numbers and a code are returned. -/
def RowPost (xs : List Int) (ec : Int) (w : World) (e : Ending) (w' : World) : Prop := ∃ A c, e = .returned (.tuple #[.slice A xs.length c, .int .i64 ec]) ∧ Below w.heap.size w w' ∧ Ints w' w'.heap.size A xs

/-- The order that both make. -/
def mkA (l : List Sm) (cl : List (List Lp)) (lpo top : Bool) (b wb : Int) : Odr := if cntNo l cl = true ∨ nameB b wb = false then ⟨false, [], [], 0⟩ else mkO l (cntN l cl) lpo top b wb

def mkE (l : List Sm) (cl : List (List Lp)) (b wb : Int) : Int := if cntNo l cl = true ∨ nameB b wb = false then 2 else 0

/-- The counts that both tell. -/
def cnA (l : List Sm) (cl : List (List Lp)) : List Int := if cntNo l cl = true then [] else cntN l cl

def cnE (l : List Sm) (cl : List (List Lp)) : Int := if cntNo l cl = true then 2 else 0

theorem ints_none (w : World) (B : Nat) : Ints w B none [] := ⟨by simp, by simp, fun h => by simp at h⟩

theorem odrM_zero (w : World) : OdrM w w.heap.size ⟨false, [], [], 0⟩ none none := ⟨ints_none _ _, ints_none _ _, ⟨(by show (-9223372036854775808 : Int) ≤ 0; decide), (by show (0 : Int) ≤ 9223372036854775807; decide)⟩⟩

theorem make_prog (l : List Sm) (cl : List (List Lp)) (b wb : Int) (lpo top : Bool) (As Aq : Option Addr) (cs cq : Nat) (w : World) (hS : Syms w w.heap.size As l.length l) (hn : l.length * 32 ≤ 140737488351232) (ht : tru w) (hC : ClRow w (· < w.heap.size) Aq cl) (hz : (itms cl).length ≤ 1099511627776) :
    Calls Tryz.prog 9 #[.agg #[.slice As l.length cs], .slice Aq cl.length cq, .agg #[.bool lpo, .int .i64 b, .int .i64 wb, .bool top]] w (OrdPost (mkA l cl lpo top b wb) (mkE l cl b wb) w) := by
  unfold mkA mkE
  by_cases hh : cntNo l cl = true ∨ nameB b wb = false
  · rw [if_pos hh, if_pos hh]
    refine (mk_no l cl b wb lpo top As Aq cs cq w hh hS hn ht hC hz).mono ?_
    rintro e w' ⟨rfl, hb⟩
    exact ⟨none, none, 0, 0, rfl, hb, odrM_zero _⟩
  · rw [if_neg hh, if_neg hh]
    have h1 : cntNo l cl = false := by
      cases h : cntNo l cl with
      | true => exact absurd (.inl h) hh
      | false => rfl
    have h2 : nameB b wb = true := by
      cases h : nameB b wb with
      | false => exact absurd (.inr h) hh
      | true => rfl
    refine (mk_yes l cl b wb lpo top As Aq cs cq w h1 h2 hS hn ht hC hz).mono ?_
    rintro e w' ⟨P, Q, rfl, hb, hM⟩
    exact ⟨P, Q, _, _, rfl, hb, hM⟩

theorem make_doc (l : List Sm) (cl : List (List Lp)) (b wb : Int) (lpo top : Bool) (As Aq : Option Addr) (cs cq : Nat) (w : World) (hS : Syms w w.heap.size As l.length l) (hn : l.length * 32 ≤ 140737488351232) (hC : ClRow w (· < w.heap.size) Aq cl) (hz : (itms cl).length ≤ 1099511627776) (hsm : SmallC cl) :
    Calls Tryz.prog 10 #[.agg #[.slice As l.length cs], .slice Aq cl.length cq, .agg #[.bool lpo, .int .i64 b, .int .i64 wb, .bool top]] w (OrdPost (mkA l cl lpo top b wb) (mkE l cl b wb) w) := by
  unfold mkA mkE
  refine (refMake_any l cl b wb lpo top As Aq cs cq w hS hn hC hz hsm).mono ?_
  rintro e w' ⟨hb, hp⟩
  by_cases hh : cntNo l cl = true ∨ nameB b wb = false
  · rw [if_pos hh] at hp
    rw [if_pos hh, if_pos hh]
    exact ⟨none, none, 0, 0, hp, hb, odrM_zero _⟩
  · rw [if_neg hh] at hp
    rw [if_neg hh, if_neg hh]
    obtain ⟨P, Q, pc, qc, he, hM⟩ := hp
    exact ⟨P, Q, pc, qc, he, hb, hM⟩

theorem cnt_post {l : List Sm} {cl : List (List Lp)} {w : World} {e : Ending} {w' : World} (hz : (itms cl).length ≤ 1099511627776) (h : CountsPost l (cntNo l cl) (cntN l cl) w e w') : RowPost (cnA l cl) (cnE l cl) w e w' := by
  obtain ⟨hb, hp⟩ := h
  unfold cnA cnE
  cases hh : cntNo l cl with
  | true =>
    rw [hh, if_pos rfl] at hp
    rw [if_pos rfl, if_pos rfl]
    exact ⟨none, 0, hp, hb, ints_none _ _⟩
  | false =>
    rw [hh, if_neg (by decide)] at hp
    rw [if_neg (by decide), if_neg (by decide)]
    obtain ⟨g, he, hg, hr⟩ := hp
    have hbb : checkI l = 0 ∧ okI l (itms cl) = true := by unfold cntNo at hh; simpa using hh
    have h96 := (chk_one hbb.1).1
    have hcn := cntN_le hz hbb.2
    have hn64 : ∀ x ∈ cntN l cl, I64 x := fun x hx => by
      obtain ⟨f, hf, rfl⟩ := List.getElem_of_mem hx
      have := hcn f
      unfold cnP at this
      rw [getD_of (List.getElem?_eq_getElem hf)] at this
      unfold I64; omega
    exact ⟨some ⟨g, 0, none⟩, l.length, by rw [cntN_len]; exact he, hb, (ints_of hr (by rw [cntN_len]; omega) hn64).more (Array.getElem?_eq_some_iff.1 hr).1⟩

set_option maxHeartbeats 8000000 in
theorem precMakes_of (l : List Sm) (cl : List (List Lp)) (b wb : Int) (lpo top : Bool) (As Aq : Option Addr) (cs cq : Nat) (w : World) (hS : Syms w w.heap.size As l.length l) (hn : l.length * 32 ≤ 140737488351232) (ht : tru w) (hC : ClRow w (· < w.heap.size) Aq cl) (hz : (itms cl).length ≤ 1099511627776) (hsm : SmallC cl) :
    Calls Tryz.prog 4 #[.agg #[.slice As l.length cs], .slice Aq cl.length cq, .agg #[.bool lpo, .int .i64 b, .int .i64 wb, .bool top]] w fun e w' => e = .returned (.bool true) ∧ Below w.heap.size w w' := by
  obtain ⟨W, hW⟩ : ∃ W, (w.alloc (.cells #[.slice As l.length cs] 24)).alloc (.cells #[.bool lpo, .int .i64 b, .int .i64 wb, .bool top] 37) = W := ⟨_, rfl⟩
  obtain ⟨q0, q1⟩ := heap2p w (.cells #[.slice As l.length cs] 24) (.cells #[.bool lpo, .int .i64 b, .int .i64 wb, .bool top] 37)
  have hB : Below w.heap.size w W := by rw [← hW]; exact ((Below.refl _ _).alloc (Nat.le_refl _) _).alloc (by simp) _
  rw [hW] at q0 q1
  have hWz : W.heap.size = w.heap.size + 2 := by rw [← hW]; simp
  have HW := Lib.hid hW
  have HB := Lib.hid hB
  have HQ : Hid (∀ w', Below W.heap.size W w' → w'.cell? ⟨w.heap.size, 0, none⟩ = some (.slice As l.length cs) ∧ (w'.cell? ⟨w.heap.size + 1, 0, none⟩ = some (.bool lpo) ∧ w'.cell? ⟨w.heap.size + 1, 1, none⟩ = some (.int .i64 b) ∧ w'.cell? ⟨w.heap.size + 1, 2, none⟩ = some (.int .i64 wb) ∧ w'.cell? ⟨w.heap.size + 1, 3, none⟩ = some (.bool top))) := Lib.hid fun w' h =>
    ⟨(cells_one ((h.block _ (by omega)).trans q0)).1, (four_cells ((h.block _ (by omega)).trans q1)).1⟩
  have HT := Lib.hid (tru_below ht hB)
  have HK : Hid (∀ w1, Below W.heap.size W w1 → Calls Tryz.prog 8 #[] w1 fun e w' => e = .returned (.bool true) ∧ Below w1.heap.size w1 w') := Lib.hid fun w1 h => pWakes_any w1 (tru_below HT.out h)
  by_cases h100 : 100 < cl.length
  · clear hW hB hS hC q0 q1
    go_enter Tryz.func4, Tryz.ntmps4
    go_upto_region 1 with fail
    rw [HW.out]
    go_wp2_with (first
      | ((with_reducible refine (HK.out _ (Below.refl _ _)).mono ?_); go_must (rintro e w4 ⟨rfl, hb4⟩; have HB4 := Lib.hid hb4; clear hb4))
      | fail)
    go_ret
    exact ⟨ret_bool rfl, HB.out.trans (HB4.out.mono HB.out.size)⟩
  · obtain ⟨o, ho⟩ : ∃ o, mkA l cl lpo top b wb = o := ⟨_, rfl⟩
    obtain ⟨ec, hec⟩ : ∃ ec, mkE l cl b wb = ec := ⟨_, rfl⟩
    obtain ⟨xs, hxs⟩ : ∃ xs, cnA l cl = xs := ⟨_, rfl⟩
    obtain ⟨eg, heg⟩ : ∃ eg, cnE l cl = eg := ⟨_, rfl⟩
    have hst : ∀ {w1 : World}, Below W.heap.size W w1 → Syms w1 w1.heap.size As l.length l ∧ ClRow w1 (· < w1.heap.size) Aq cl := fun h => ⟨(hS.on (hB.trans (h.mono hB.size))), hC.on (hB.trans (h.mono hB.size))⟩
    have HMa : Hid (∀ w1, Below W.heap.size W w1 → Calls Tryz.prog 9 #[.agg #[.slice As l.length cs], .slice Aq cl.length cq, .agg #[.bool lpo, .int .i64 b, .int .i64 wb, .bool top]] w1 (OrdPost o ec w1)) := Lib.hid fun w1 h => by
      have := make_prog l cl b wb lpo top As Aq cs cq w1 (hst h).1 hn (tru_below HT.out h) (hst h).2 hz
      rwa [ho, hec] at this
    have HMb : Hid (∀ w1, Below W.heap.size W w1 → Calls Tryz.prog 10 #[.agg #[.slice As l.length cs], .slice Aq cl.length cq, .agg #[.bool lpo, .int .i64 b, .int .i64 wb, .bool top]] w1 (OrdPost o ec w1)) := Lib.hid fun w1 h => by
      have := make_doc l cl b wb lpo top As Aq cs cq w1 (hst h).1 hn (hst h).2 hz hsm
      rwa [ho, hec] at this
    have HCa : Hid (∀ w1, Below W.heap.size W w1 → Calls Tryz.prog 11 #[.agg #[.slice As l.length cs], .slice Aq cl.length cq] w1 (RowPost xs eg w1)) := Lib.hid fun w1 h => by
      have := (counts_any l cl As Aq cs cq w1 (hst h).1 hn (tru_below HT.out h) (hst h).2 (by omega)).mono fun e w' hp => cnt_post hz hp
      rwa [hxs, heg] at this
    have HCb : Hid (∀ w1, Below W.heap.size W w1 → Calls Tryz.prog 12 #[.agg #[.slice As l.length cs], .slice Aq cl.length cq] w1 (RowPost xs eg w1)) := Lib.hid fun w1 h => by
      have := (refCounts_any l cl As Aq cs cq w1 (hst h).1 hn (hst h).2 hz hsm).mono fun e w' hp => cnt_post hz hp
      rwa [hxs, heg] at this
    clear hW hB hS hC q0 q1 hst ho hec hxs heg hsm
    obtain ⟨c0, d0, d1, d2, d3⟩ := HQ.out W (Below.refl _ _)
    go_enter Tryz.func4, Tryz.ntmps4
    go_upto_region 1 with fail
    rw [HW.out]
    go_upto_region 4 with (first
      | ((with_reducible refine (HMa.out _ (Below.refl _ _)).mono ?_); go_must (rintro e w1 ⟨P1, Q1, p1, k1, rfl, hb1, hm1⟩))
      | fail)
    clear c0 d0 d1 d2 d3
    obtain ⟨W1, hW1⟩ : ∃ W1, w1.alloc (.cells #[.bool o.lpo, .slice P1 o.prec.length p1, .slice Q1 o.wts.length k1, .int .i64 o.var] 27) = W1 := ⟨_, rfl⟩
    have r1 : W1.heap[w1.heap.size]? = some (.cells #[.bool o.lpo, .slice P1 o.prec.length p1, .slice Q1 o.wts.length k1, .int .i64 o.var] 27) := by rw [← hW1]; exact heap_alloc_new _ _
    have hn1 : Below w1.heap.size w1 W1 := by rw [← hW1]; exact (Below.refl _ _).alloc (Nat.le_refl _) _
    have hB1 := bl_step hb1 hn1
    have HM1 := Lib.hid (hm1.on hn1)
    have HW1 := Lib.hid hW1
    have HB1 := Lib.hid hB1
    have HR1 := Lib.hid r1
    obtain ⟨c0, d0, d1, d2, d3⟩ := HQ.out W1 hB1
    clear hW1 r1 hn1 hB1 hb1 hm1
    rw [HW1.out]
    go_upto_region 5 with (first
      | ((with_reducible refine (HMb.out _ HB1.out).mono ?_); go_must (rintro e w2 ⟨P2, Q2, p2, k2, rfl, hb2, hm2⟩))
      | fail)
    clear c0 d0 d1 d2 d3
    obtain ⟨W2, hW2⟩ : ∃ W2, w2.alloc (.cells #[.bool o.lpo, .slice P2 o.prec.length p2, .slice Q2 o.wts.length k2, .int .i64 o.var] 27) = W2 := ⟨_, rfl⟩
    have r2 : W2.heap[w2.heap.size]? = some (.cells #[.bool o.lpo, .slice P2 o.prec.length p2, .slice Q2 o.wts.length k2, .int .i64 o.var] 27) := by rw [← hW2]; exact heap_alloc_new _ _
    have hn2 : Below w2.heap.size w2 W2 := by rw [← hW2]; exact (Below.refl _ _).alloc (Nat.le_refl _) _
    have h12 := bl_step hb2 hn2
    have hB2 := HB1.out.trans (h12.mono HB1.out.size)
    have HM1' := Lib.hid (HM1.out.on h12)
    have HM2 := Lib.hid (hm2.on hn2)
    have HR1' := Lib.hid ((h12.block _ (Array.getElem?_eq_some_iff.1 HR1.out).1).trans HR1.out)
    have HR2 := Lib.hid r2
    have HW2 := Lib.hid hW2
    have HB2 := Lib.hid hB2
    obtain ⟨c0, d0, d1, d2, d3⟩ := HQ.out W2 hB2
    clear hW2 r2 hn2 h12 hB2 hb2 hm2 HM1 HR1
    rw [HW2.out]
    go_upto_region 6 with (first
      | ((with_reducible refine (HCa.out _ HB2.out).mono ?_); go_must (rintro e w3 ⟨A3, c3, rfl, hb3, hi3⟩))
      | fail)
    have hB3 := HB2.out.trans (hb3.mono HB2.out.size)
    have HB3 := Lib.hid hB3
    have HI3 := Lib.hid hi3
    have HM13 := Lib.hid (HM1'.out.on hb3)
    have HM23 := Lib.hid (HM2.out.on hb3)
    have HR13 := Lib.hid ((hb3.block _ (Array.getElem?_eq_some_iff.1 HR1'.out).1).trans HR1'.out)
    have HR23 := Lib.hid ((hb3.block _ (Array.getElem?_eq_some_iff.1 HR2.out).1).trans HR2.out)
    clear c0 d0 d1 d2 d3
    obtain ⟨c0, d0, d1, d2, d3⟩ := HQ.out w3 hB3
    clear hB3 hi3 hb3 HM1' HM2 HR1' HR2
    go_upto_region 7 with (first
      | ((with_reducible refine (HCb.out _ HB3.out).mono ?_); go_must (rintro e w4 ⟨A4, c4, rfl, hb4, hi4⟩))
      | fail)
    have hB4 := HB3.out.trans (hb4.mono HB3.out.size)
    have HB4 := Lib.hid hB4
    have HI4 := Lib.hid hi4
    have HI34 := Lib.hid (HI3.out.on hb4)
    have HSm := Lib.hid (sameO_self o P1 Q1 P2 Q2 p1 k1 p2 k2 w4 (HM13.out.on hb4) (HM23.out.on hb4))
    obtain ⟨⟨x0, x1, x2, x3⟩, _⟩ := four_cells ((hb4.block _ (Array.getElem?_eq_some_iff.1 HR13.out).1).trans HR13.out)
    obtain ⟨⟨y0, y1, y2, y3⟩, _⟩ := four_cells ((hb4.block _ (Array.getElem?_eq_some_iff.1 HR23.out).1).trans HR23.out)
    have HRw : Hid (∀ w5, Below w4.heap.size w4 w5 → Calls Tryz.prog 14 #[.slice A3 xs.length c3, .slice A4 xs.length c4] w5 fun e w' => e = .returned (.bool true) ∧ On w5 w') := Lib.hid fun w5 h => by
      have := lawRow_any xs xs A3 A4 c3 c4 w5 (HI34.out.on h) (HI4.out.on h)
      rwa [show rowE xs xs = true from decide_eq_true rfl] at this
    clear c0 d0 d1 d2 d3 hB4 hi4 hb4
    go_wp2_with (first
      | (go_at_call 13; (with_reducible refine HSm.out.mono ?_); go_must (rintro e w5 ⟨rfl, hb5⟩; have HB5 := Lib.hid hb5; clear hb5))
      | (go_at_call 14; (with_reducible refine (HRw.out _ HB5.out).mono ?_); go_must (rintro e w6 ⟨rfl, hb6⟩; have HB6 := Lib.hid (bl_step HB5.out hb6.b); clear hb6))
      | (go_at_call 8; (with_reducible refine (HK.out _ (HB4.out.trans (HB6.out.mono HB4.out.size))).mono ?_); go_must (rintro e w7 ⟨rfl, hb7⟩; have HB7 := Lib.hid (bl_step HB6.out hb7); clear hb7))
      | fail)
    go_ret
    exact ⟨ret_bool rfl, HB.out.trans ((HB4.out.trans (HB7.out.mono HB4.out.size)).mono HB.out.size)⟩

end Go.Proofs.YtfnncphkidhbpaaGreatDoor

/- A signature that is an argument: its length is bounded by what the arguments hold together. -/

namespace Go.Proofs.YtfnncphkidhbpaaGreatDoor

open Go.ChangeShapes Go.WideShapes Go.ChangeAt Go.RowKit
set_option maxRecDepth 20000

theorem bulk_pos {H : Type} (d : DataW H) : 1 ≤ Rows.uptoBulk d := by
  cases d with
  | lit l => cases l <;> simp [Rows.uptoBulk]
  | _ => simp [Rows.uptoBulk]

theorem bulk_length {H : Type} : ∀ ds : List (DataW H), ds.length ≤ Rows.uptoBulkAll ds
  | [] => by simp
  | d :: ds => by
    have h1 := bulk_pos d
    have h2 := bulk_length ds
    simp only [Rows.uptoBulkAll, List.length_cons]; omega

theorem sig_bulk {H : Type} {d : DataW H} {len : Nat} (hl : len = 0 ∨ ∃ elems spare, d = .agg [.slice elems spare] ∧ elems.length = len) : len ≤ Rows.uptoBulk d := by
  rcases hl with rfl | ⟨elems, spare, rfl, rfl⟩
  · omega
  · have := bulk_length elems
    simp only [Rows.uptoBulk, Rows.uptoBulkAll]; omega

theorem trodAll_five {H : Type} {enc : TypeId × Value → H} {P : Program} {w : World} {base : Nat} {spare : Nat → Bool} {held : Bool} {t0 t1 t2 t3 t4 : TypeId} {args : Array Value} {ds : List (DataW H)} {ps : List MemPlace} (h : DataW.TrodAll enc P w base spare held [t0, t1, t2, t3, t4] args.toList ds ps) :
    ∃ v0 v1 v2 v3 v4 d0 d1 d2 d3 d4 p0 p1 p2 p3 p4, args = #[v0, v1, v2, v3, v4] ∧ ds = [d0, d1, d2, d3, d4] ∧ ps = p0 ++ (p1 ++ (p2 ++ (p3 ++ (p4)))) ∧ DataW.Trod enc P w base spare held t0 v0 d0 p0 ∧ DataW.Trod enc P w base spare held t1 v1 d1 p1 ∧ DataW.Trod enc P w base spare held t2 v2 d2 p2 ∧ DataW.Trod enc P w base spare held t3 v3 d3 p3 ∧ DataW.Trod enc P w base spare held t4 v4 d4 p4 := by
  obtain ⟨v0, w0, d0, e0, p0, q0, hargs, rfl, rfl, k0, r0⟩ := trodAll_cons h
  obtain ⟨v1, w1, d1, e1, p1, q1, rfl, rfl, rfl, k1, r1⟩ := trodAll_cons r0
  obtain ⟨v2, w2, d2, e2, p2, q2, rfl, rfl, rfl, k2, r2⟩ := trodAll_cons r1
  obtain ⟨v3, w3, d3, e3, p3, q3, rfl, rfl, rfl, k3, r3⟩ := trodAll_cons r2
  obtain ⟨v4, w4, d4, e4, p4, q4, rfl, rfl, rfl, k4, r4⟩ := trodAll_cons r3
  obtain ⟨rfl, rfl, rfl⟩ := trodAll_nil r4
  exact ⟨v0, v1, v2, v3, v4, d0, d1, d2, d3, d4, p0, p1, p2, p3, p4, by cases args; simp_all, rfl, by simp, k0, k1, k2, k3, k4⟩

theorem trodAll_six {H : Type} {enc : TypeId × Value → H} {P : Program} {w : World} {base : Nat} {spare : Nat → Bool} {held : Bool} {t0 t1 t2 t3 t4 t5 : TypeId} {args : Array Value} {ds : List (DataW H)} {ps : List MemPlace} (h : DataW.TrodAll enc P w base spare held [t0, t1, t2, t3, t4, t5] args.toList ds ps) :
    ∃ v0 v1 v2 v3 v4 v5 d0 d1 d2 d3 d4 d5 p0 p1 p2 p3 p4 p5, args = #[v0, v1, v2, v3, v4, v5] ∧ ds = [d0, d1, d2, d3, d4, d5] ∧ ps = p0 ++ (p1 ++ (p2 ++ (p3 ++ (p4 ++ (p5))))) ∧ DataW.Trod enc P w base spare held t0 v0 d0 p0 ∧ DataW.Trod enc P w base spare held t1 v1 d1 p1 ∧ DataW.Trod enc P w base spare held t2 v2 d2 p2 ∧ DataW.Trod enc P w base spare held t3 v3 d3 p3 ∧ DataW.Trod enc P w base spare held t4 v4 d4 p4 ∧ DataW.Trod enc P w base spare held t5 v5 d5 p5 := by
  obtain ⟨v0, w0, d0, e0, p0, q0, hargs, rfl, rfl, k0, r0⟩ := trodAll_cons h
  obtain ⟨v1, w1, d1, e1, p1, q1, rfl, rfl, rfl, k1, r1⟩ := trodAll_cons r0
  obtain ⟨v2, w2, d2, e2, p2, q2, rfl, rfl, rfl, k2, r2⟩ := trodAll_cons r1
  obtain ⟨v3, w3, d3, e3, p3, q3, rfl, rfl, rfl, k3, r3⟩ := trodAll_cons r2
  obtain ⟨v4, w4, d4, e4, p4, q4, rfl, rfl, rfl, k4, r4⟩ := trodAll_cons r3
  obtain ⟨v5, w5, d5, e5, p5, q5, rfl, rfl, rfl, k5, r5⟩ := trodAll_cons r4
  obtain ⟨rfl, rfl, rfl⟩ := trodAll_nil r5
  exact ⟨v0, v1, v2, v3, v4, v5, d0, d1, d2, d3, d4, d5, p0, p1, p2, p3, p4, p5, by cases args; simp_all, rfl, by simp, k0, k1, k2, k3, k4, k5⟩

end Go.Proofs.YtfnncphkidhbpaaGreatDoor

/- Clauses that are an argument, opened; a way. -/

namespace Go.Proofs.YtfnncphkidhbpaaGreatDoor

open Go.ChangeShapes Go.WideShapes Go.ChangeAt Go.RowKit
set_option maxRecDepth 20000

section

variable {H : Type} {enc : TypeId × Value → H} {W : World} {base : Nat} {held : Bool}

theorem cellsLitP : Tryz.prog.cellsOf 55 = 5 := by kernel_rfl

theorem cellsClauseP : Tryz.prog.cellsOf 57 = 1 := by kernel_rfl

theorem cellsBoolP : Tryz.prog.cellsOf 4 = 1 := by kernel_rfl

theorem cellsPrecByP : Tryz.prog.cellsOf 34 = 1 := by kernel_rfl

theorem cellsWeightByP : Tryz.prog.cellsOf 35 = 1 := by kernel_rfl

theorem trodP_lit (n : Nat) (cs : List Value) (x : DataW H × List MemPlace) (h : DataW.trod enc Tryz.prog W base (fun _ => true) held n 55 cs = some x) :
    ∃ (y : Lp) (A1 : Option Addr) (c1 : Nat) (A2 : Option Addr) (c2 : Nat), cs = [.bool y.neg, .int .i64 y.l.fn, .slice A1 y.l.args.length c1, .int .i64 y.r.fn, .slice A2 y.r.args.length c2] ∧ I64 y.l.fn ∧ I64 y.r.fn ∧ Args W W.heap.size A1 y.l.args ∧ Args W W.heap.size A2 y.r.args := by
  obtain ⟨xs, n', rfl, hx, hlen, hxs, hf⟩ := DataW.trod_struct Tryz.underlying55 h
  rw [cellsLitP] at hlen
  match cs, hlen with
  | [c0, c1, c2, c3, c4], _ =>
    have hx2 : xs.length = 3 := by rw [hxs]; rfl
    match xs, hx2 with
    | [x0, x1, x2], _ =>
      have g0 := hf 0 _ rfl
      have g1 := hf 1 _ rfl
      have g2 := hf 2 _ rfl
      simp [cellsBoolP] at g0
      simp [cellsTerm] at g1
      simp [cellsTerm] at g2
      obtain ⟨b, hbv, eb⟩ := DataW.trod_bool Tryz.underlying4 g0
      injection hbv with hbv
      subst hbv
      obtain ⟨t, A, c, hcs, ht64, hA, _⟩ := trod_term _ _ _ g1
      injection hcs with e1 hcs
      injection hcs with e2 _
      subst e1; subst e2
      obtain ⟨t2, A2, c2, hcs2, ht642, hA2, _⟩ := trod_term _ _ _ g2
      injection hcs2 with e3 hcs2
      injection hcs2 with e4 _
      subst e3; subst e4
      exact ⟨⟨b, t, t2⟩, A, c, A2, c2, rfl, ht64, ht642, hA, hA2⟩

theorem bulkP_length : ∀ ds : List (DataW H), ds.length ≤ Rows.uptoBulkAll ds := fun ds => bulk_length ds

theorem trodP_clause (n : Nat) (cs : List Value) (x : DataW H × List MemPlace) (h : DataW.trod enc Tryz.prog W base (fun _ => true) held n 57 cs = some x) :
    ∃ (l : List Lp) (A : Option Addr) (c : Nat), cs = [.slice A l.length c] ∧ LpRow W (· < W.heap.size) A l ∧ l.length ≤ Rows.uptoBulk x.1 := by
  rcases DataW.trod_slice Tryz.underlying57 h with ⟨hv, e1⟩ | ⟨a, len0, cap0, elems, rest, m, hm, hv, e1, _, hl, hmax, hlenE, hel, _, _⟩
  · exact ⟨[], none, 0, hv, ⟨by simp, fun h => by simp at h⟩, Nat.zero_le _⟩
  · have hb : len0 ≤ Rows.uptoBulk x.1 := by
      rw [e1]
      have h1 := bulkP_length (elems.map (·.1))
      rw [List.length_map] at h1
      simp only [Rows.uptoBulk]
      omega
    have each : ∀ i, i < len0 → ∃ q : Lp × (Option Addr × Nat) × (Option Addr × Nat), W.cell? (a.add (i * 5)) = some (.bool q.1.neg) ∧ W.cell? ((a.add (i * 5)).add 1) = some (.int .i64 q.1.l.fn) ∧ W.cell? ((a.add (i * 5)).add 2) = some (.slice q.2.1.1 q.1.l.args.length q.2.1.2) ∧ W.cell? ((a.add (i * 5)).add 3) = some (.int .i64 q.1.r.fn) ∧ W.cell? ((a.add (i * 5)).add 4) = some (.slice q.2.2.1 q.1.r.args.length q.2.2.2) ∧ I64 q.1.l.fn ∧ I64 q.1.r.fn ∧ Args W W.heap.size q.2.1.1 q.1.l.args ∧ Args W W.heap.size q.2.2.1 q.1.r.args := by
      intro i hi
      have h1 := hel i hi
      rw [cellsLitP] at h1
      rw [List.getElem?_eq_getElem (by omega)] at h1
      cases hc : W.cells? base (a.add (i * 5)) 5 with
      | none => rw [hc] at h1; cases h1
      | some cs' =>
        rw [hc] at h1
        simp only [Option.bind_some] at h1
        obtain ⟨y, A1, c1, A2, c2, rfl, h64, h64', hA1, hA2⟩ := trodP_lit _ cs' _ h1
        obtain ⟨_, _, hat⟩ := World.cells?_some hc
        refine ⟨(y, (A1, c1), (A2, c2)), ?_, hat 1 (by omega), hat 2 (by omega), hat 3 (by omega), hat 4 (by omega), h64, h64', hA1, hA2⟩
        have := hat 0 (by omega)
        simpa [Addr.add] using this
    haveI : Inhabited (Lp × (Option Addr × Nat) × (Option Addr × Nat)) := ⟨(⟨false, .node 0 [], .node 0 []⟩, (none, 0), (none, 0))⟩
    obtain ⟨q, hq⟩ := Go.Deep.choose_lt each
    have hget : ∀ (i : Nat) (t : Lp), ((List.range len0).map fun i => (q i).1)[i]? = some t → i < len0 ∧ t = (q i).1 := by
      intro i t e
      have hi : i < len0 := by have := (List.getElem?_eq_some_iff.1 e).1; simpa using this
      rw [List.getElem?_map, List.getElem?_range hi] at e
      simp at e
      exact ⟨hi, e.symm⟩
    refine ⟨(List.range len0).map fun i => (q i).1, some a, cap0, by rw [hv]; simp, ⟨by unfold maxLen at hmax; simp; omega, fun hp => ?_⟩, by simpa using hb⟩
    have h0 : 0 < len0 := by simpa using hp
    have c00 := (hq 0 h0).1
    simp only [Nat.zero_mul, Addr.add, if_true] at c00
    obtain ⟨blk, off, spot⟩ := a
    obtain rfl : spot = none := cell_spot c00
    refine ⟨blk, off, rfl, World.block_lt_of_cell? W _ c00, fun i t e => ?_⟩
    obtain ⟨hi, rfl⟩ := hget i t e
    obtain ⟨h3, h4, h5, h6, h7, h1, h2, h8, h9⟩ := hq i hi
    rw [Addr.add_lit] at h3
    rw [Addr.add_lit, Addr.add_lit] at h4 h5 h6 h7
    exact ⟨(q i).2.1.1, (q i).2.1.2, (q i).2.2.1, (q i).2.2.2, h3, h4, h5, h6, h7, h1, h2, h8.toN, h9.toN⟩

theorem itmL_two : ∀ l : List Lp, (itmL l).length ≤ 2 * l.length
  | [] => by simp [itmL]
  | x :: l => by
    have := itmL_two l
    unfold itmL at *
    rw [List.flatMap_cons, List.length_append, List.length_cons]
    have : (itm x).length ≤ 2 := by unfold itm; split <;> simp
    omega

theorem itms_two : ∀ (cl : List (List Lp)) (ds : List (DataW H)), cl.length = ds.length → (∀ (i : Nat) (l : List Lp) (d : DataW H), cl[i]? = some l → ds[i]? = some d → l.length ≤ Rows.uptoBulk d) → (itms cl).length ≤ 2 * Rows.uptoBulkAll ds
  | [], [], _, _ => by simp [itms]
  | [], _ :: _, h, _ => by simp at h
  | _ :: _, [], h, _ => by simp at h
  | l :: cl, d :: ds, h, hh => by
    have h1 := hh 0 l d rfl rfl
    have h2 := itms_two cl ds (by simpa using h) fun i t' d' e1 e2 => hh (i + 1) t' d' (by simpa using e1) (by simpa using e2)
    have h3 := itmL_two l
    unfold itms at *
    rw [List.flatMap_cons, List.length_append]
    simp only [Rows.uptoBulkAll]
    omega

/-- Clauses that are an argument. -/
theorem open_clauses {r : Reach} {b0 : Nat} {v : Value} {d : DataW H} {ps : List MemPlace} (hv : Value.okWide Tryz.prog W r b0 33 v) (h : DataW.Trod enc Tryz.prog W base (fun _ => true) held 33 v d ps) :
    ∃ (cl : List (List Lp)) (A : Option Addr) (c : Nat), v = .slice A cl.length c ∧ ClRow W (· < W.heap.size) A cl ∧ (itms cl).length ≤ 2 * Rows.uptoBulk d := by
  obtain ⟨a0, len0, cap0, rfl⟩ := okWide_slice Tryz.underlying33 hv
  obtain ⟨fuel, hf⟩ := h
  have hf' : DataW.trod enc Tryz.prog W base (fun _ => true) held fuel 33 [.slice a0 len0 cap0] = some (d, ps) := hf
  rcases DataW.trod_slice Tryz.underlying33 hf' with ⟨hv, e1⟩ | ⟨a, len, cap, elems, rest, m, hm, hv, e1, _, hl, hmax, hlenE, hel, _, _⟩
  · injection hv with hv
    injection hv with e2 e3 e4
    subst e2; subst e3; subst e4
    exact ⟨[], none, 0, rfl, ⟨by simp, fun h => by simp at h⟩, by simp [itms]⟩
  · injection hv with hv
    injection hv with e2 e3 e4
    subst e2; subst e3; subst e4
    have each : ∀ i, i < len0 → ∃ q : List Lp × Option Addr × Nat, W.cell? (a.add i) = some (.slice q.2.1 q.1.length q.2.2) ∧ LpRow W (· < W.heap.size) q.2.1 q.1 ∧ ∀ z, elems[i]? = some z → q.1.length ≤ Rows.uptoBulk z.1 := by
      intro i hi
      have h1 := hel i hi
      rw [cellsClauseP, Nat.mul_one] at h1
      rw [List.getElem?_eq_getElem (by omega)] at h1
      cases hc : W.cells? base (a.add i) 1 with
      | none => rw [hc] at h1; cases h1
      | some cs' =>
        rw [hc] at h1
        simp only [Option.bind_some] at h1
        obtain ⟨l, A1, c1, rfl, hL, hb⟩ := trodP_clause _ cs' _ h1
        obtain ⟨_, _, hat⟩ := World.cells?_some hc
        refine ⟨(l, A1, c1), ?_, hL, fun z hz => ?_⟩
        · have := hat 0 (by omega)
          simpa [Addr.add] using this
        · rw [List.getElem?_eq_getElem (by omega)] at hz
          obtain rfl := Option.some.inj hz
          exact hb
    haveI : Inhabited (List Lp × Option Addr × Nat) := ⟨([], none, 0)⟩
    obtain ⟨q, hq⟩ := Go.Deep.choose_lt each
    have hget : ∀ (i : Nat) (t : List Lp), ((List.range len0).map fun i => (q i).1)[i]? = some t → i < len0 ∧ t = (q i).1 := by
      intro i t e
      have hi : i < len0 := by have := (List.getElem?_eq_some_iff.1 e).1; simpa using this
      rw [List.getElem?_map, List.getElem?_range hi] at e
      simp at e
      exact ⟨hi, e.symm⟩
    refine ⟨(List.range len0).map fun i => (q i).1, some a, cap0, by simp, ⟨by unfold maxLen at hmax; simp; omega, fun hp => ?_⟩, ?_⟩
    · have h0 : 0 < len0 := by simpa using hp
      have c00 := (hq 0 h0).1
      simp only [Addr.add, if_true] at c00
      obtain ⟨blk, off, spot⟩ := a
      obtain rfl : spot = none := cell_spot c00
      refine ⟨blk, off, rfl, World.block_lt_of_cell? W _ c00, fun i t e => ?_⟩
      obtain ⟨hi, rfl⟩ := hget i t e
      obtain ⟨h3, h4, _⟩ := hq i hi
      rw [Addr.add_lit] at h3
      exact ⟨(q i).2.1, (q i).2.2, h3, h4⟩
    · have h9 := itms_two ((List.range len0).map fun i => (q i).1) (elems.map (·.1)) (by simp; omega) fun i l z e1 e2 => by
        obtain ⟨hi, rfl⟩ := hget i l e1
        rw [List.getElem?_map] at e2
        cases he : elems[i]? with
        | none => rw [he] at e2; cases e2
        | some y =>
          rw [he] at e2
          simp only [Option.map_some] at e2
          obtain rfl := Option.some.inj e2
          exact (hq i hi).2.2 y he
      have e5 := congrArg (fun z => Rows.uptoBulk z.1) e1
      simp only [Rows.uptoBulk] at e5
      omega

/-- A way that is an argument. -/
theorem open_way {r : Reach} {b0 : Nat} {v : Value} {d : DataW H} {ps : List MemPlace} (hv : Value.okWide Tryz.prog W r b0 37 v) (h : DataW.Trod enc Tryz.prog W base (fun _ => true) held 37 v d ps) :
    ∃ (lpo top : Bool) (b wb : Int), v = .agg #[.bool lpo, .int .i64 b, .int .i64 wb, .bool top] := by
  obtain ⟨cs, rfl, _⟩ := okWide_struct Tryz.underlying37 hv
  obtain ⟨fuel, hf⟩ := h
  have hf' : DataW.trod enc Tryz.prog W base (fun _ => true) held fuel 37 cs.toList = some (d, ps) := hf
  obtain ⟨xs, n', _, hx, hlen, hxs, hg⟩ := DataW.trod_struct Tryz.underlying37 hf'
  have cw : Tryz.prog.cellsOf 37 = 4 := by kernel_rfl
  rw [cw] at hlen
  obtain ⟨l, hl⟩ : ∃ l, cs.toList = l := ⟨_, rfl⟩
  rw [hl] at hlen hg
  match l, hlen, hl with
  | [c0, c1, c2, c3], _, hl =>
    have hx2 : xs.length = 4 := by rw [hxs]; rfl
    match xs, hx2 with
    | [x0, x1, x2, x3], _ =>
      have g0 := hg 0 _ rfl
      have g1 := hg 1 _ rfl
      have g2 := hg 2 _ rfl
      have g3 := hg 3 _ rfl
      simp [cellsBoolP] at g0
      simp [cellsPrecByP] at g1
      simp [cellsWeightByP] at g2
      simp [cellsBoolP] at g3
      obtain ⟨b, hbv, _⟩ := DataW.trod_bool Tryz.underlying4 g0
      injection hbv with hbv
      subst hbv
      obtain ⟨f, hfv, _, hw⟩ := DataW.trod_int Tryz.underlying34 g1
      injection hfv with hfv
      subst hfv
      obtain ⟨g, hgv, _, hw2⟩ := DataW.trod_int Tryz.underlying35 g2
      injection hgv with hgv
      subst hgv
      obtain ⟨b3, hbv3, _⟩ := DataW.trod_bool Tryz.underlying4 g3
      injection hbv3 with hbv3
      subst hbv3
      exact ⟨b, b3, f, g, by rw [show cs = #[.bool b, .int .i64 f, .int .i64 g, .bool b3] from Array.toList_inj.1 (by rw [hl])]⟩

end

end Go.Proofs.YtfnncphkidhbpaaGreatDoor

/- Clauses that are an argument, opened, with their terms' sizes. -/

namespace Go.Proofs.YtfnncphkidhbpaaGreatDoor

open Go.ChangeShapes Go.WideShapes Go.ChangeAt Go.RowKit
set_option maxRecDepth 20000

section

variable {H : Type} {enc : TypeId × Value → H} {W : World} {base : Nat} {held : Bool}

theorem bulk_in : ∀ {ds : List (DataW H)} {d : DataW H}, d ∈ ds → Rows.uptoBulk d ≤ Rows.uptoBulkAll ds
  | [], _, h => by cases h
  | x :: r, d, h => by
    simp only [Rows.uptoBulkAll]
    rcases List.mem_cons.1 h with rfl | h'
    · omega
    · have := bulk_in h'
      omega

theorem trodS_lit (n : Nat) (cs : List Value) (x : DataW H × List MemPlace) (h : DataW.trod enc Tryz.prog W base (fun _ => true) held n 55 cs = some x) :
    ∃ (y : Lp) (A1 : Option Addr) (c1 : Nat) (A2 : Option Addr) (c2 : Nat), cs = [.bool y.neg, .int .i64 y.l.fn, .slice A1 y.l.args.length c1, .int .i64 y.r.fn, .slice A2 y.r.args.length c2] ∧ I64 y.l.fn ∧ I64 y.r.fn ∧ Args W W.heap.size A1 y.l.args ∧ Args W W.heap.size A2 y.r.args ∧ y.l.size ≤ Rows.uptoBulk x.1 ∧ y.r.size ≤ Rows.uptoBulk x.1 := by
  obtain ⟨xs, n', rfl, hx, hlen, hxs, hf⟩ := DataW.trod_struct Tryz.underlying55 h
  rw [cellsLitP] at hlen
  match cs, hlen with
  | [c0, c1, c2, c3, c4], _ =>
    have hx2 : xs.length = 3 := by rw [hxs]; rfl
    match xs, hx2 with
    | [x0, x1, x2], _ =>
      have g0 := hf 0 _ rfl
      have g1 := hf 1 _ rfl
      have g2 := hf 2 _ rfl
      simp [cellsBoolP] at g0
      simp [cellsTerm] at g1
      simp [cellsTerm] at g2
      obtain ⟨b, hbv, eb⟩ := DataW.trod_bool Tryz.underlying4 g0
      injection hbv with hbv
      subst hbv
      obtain ⟨t, A, c, hcs, ht64, hA, hb⟩ := trod_term _ _ _ g1
      injection hcs with e1 hcs
      injection hcs with e2 _
      subst e1; subst e2
      obtain ⟨t2, A2, c2, hcs2, ht642, hA2, hb2⟩ := trod_term _ _ _ g2
      injection hcs2 with e3 hcs2
      injection hcs2 with e4 _
      subst e3; subst e4
      exact ⟨⟨b, t, t2⟩, A, c, A2, c2, rfl, ht64, ht642, hA, hA2, by subst hx; simp only [List.map_cons, List.map_nil, Rows.uptoBulk, Rows.uptoBulkAll]; show t.size ≤ _; omega, by subst hx; simp only [List.map_cons, List.map_nil, Rows.uptoBulk, Rows.uptoBulkAll]; show t2.size ≤ _; omega⟩

theorem trodS_clause (n : Nat) (cs : List Value) (x : DataW H × List MemPlace) (h : DataW.trod enc Tryz.prog W base (fun _ => true) held n 57 cs = some x) :
    ∃ (l : List Lp) (A : Option Addr) (c : Nat), cs = [.slice A l.length c] ∧ LpRow W (· < W.heap.size) A l ∧ l.length ≤ Rows.uptoBulk x.1 ∧ ∀ y ∈ l, y.l.size ≤ Rows.uptoBulk x.1 ∧ y.r.size ≤ Rows.uptoBulk x.1 := by
  rcases DataW.trod_slice Tryz.underlying57 h with ⟨hv, e1⟩ | ⟨a, len0, cap0, elems, rest, m, hm, hv, e1, _, hl, hmax, hlenE, hel, _, _⟩
  · exact ⟨[], none, 0, hv, ⟨by simp, fun h => by simp at h⟩, Nat.zero_le _, fun y hy => by cases hy⟩
  · have hb : len0 ≤ Rows.uptoBulk x.1 := by
      rw [e1]
      have h1 := bulkP_length (elems.map (·.1))
      rw [List.length_map] at h1
      simp only [Rows.uptoBulk]
      omega
    have each : ∀ i, i < len0 → ∃ q : Lp × (Option Addr × Nat) × (Option Addr × Nat), W.cell? (a.add (i * 5)) = some (.bool q.1.neg) ∧ W.cell? ((a.add (i * 5)).add 1) = some (.int .i64 q.1.l.fn) ∧ W.cell? ((a.add (i * 5)).add 2) = some (.slice q.2.1.1 q.1.l.args.length q.2.1.2) ∧ W.cell? ((a.add (i * 5)).add 3) = some (.int .i64 q.1.r.fn) ∧ W.cell? ((a.add (i * 5)).add 4) = some (.slice q.2.2.1 q.1.r.args.length q.2.2.2) ∧ I64 q.1.l.fn ∧ I64 q.1.r.fn ∧ Args W W.heap.size q.2.1.1 q.1.l.args ∧ Args W W.heap.size q.2.2.1 q.1.r.args ∧ ∀ z, elems[i]? = some z → q.1.l.size ≤ Rows.uptoBulk z.1 ∧ q.1.r.size ≤ Rows.uptoBulk z.1 := by
      intro i hi
      have h1 := hel i hi
      rw [cellsLitP] at h1
      rw [List.getElem?_eq_getElem (by omega)] at h1
      cases hc : W.cells? base (a.add (i * 5)) 5 with
      | none => rw [hc] at h1; cases h1
      | some cs' =>
        rw [hc] at h1
        simp only [Option.bind_some] at h1
        obtain ⟨y, A1, c1, A2, c2, rfl, h64, h64', hA1, hA2, hs1, hs2⟩ := trodS_lit _ cs' _ h1
        obtain ⟨_, _, hat⟩ := World.cells?_some hc
        refine ⟨(y, (A1, c1), (A2, c2)), ?_, hat 1 (by omega), hat 2 (by omega), hat 3 (by omega), hat 4 (by omega), h64, h64', hA1, hA2, fun z hz => ?_⟩
        · have := hat 0 (by omega)
          simpa [Addr.add] using this
        · rw [List.getElem?_eq_getElem (by omega)] at hz
          obtain rfl := Option.some.inj hz
          exact ⟨hs1, hs2⟩
    haveI : Inhabited (Lp × (Option Addr × Nat) × (Option Addr × Nat)) := ⟨(⟨false, .node 0 [], .node 0 []⟩, (none, 0), (none, 0))⟩
    obtain ⟨q, hq⟩ := Go.Deep.choose_lt each
    have hget : ∀ (i : Nat) (t : Lp), ((List.range len0).map fun i => (q i).1)[i]? = some t → i < len0 ∧ t = (q i).1 := by
      intro i t e
      have hi : i < len0 := by have := (List.getElem?_eq_some_iff.1 e).1; simpa using this
      rw [List.getElem?_map, List.getElem?_range hi] at e
      simp at e
      exact ⟨hi, e.symm⟩
    refine ⟨(List.range len0).map fun i => (q i).1, some a, cap0, by rw [hv]; simp, ⟨by unfold maxLen at hmax; simp; omega, fun hp => ?_⟩, by simpa using hb, fun y hy => ?_⟩
    · have h0 : 0 < len0 := by simpa using hp
      have c00 := (hq 0 h0).1
      simp only [Nat.zero_mul, Addr.add, if_true] at c00
      obtain ⟨blk, off, spot⟩ := a
      obtain rfl : spot = none := cell_spot c00
      refine ⟨blk, off, rfl, World.block_lt_of_cell? W _ c00, fun i t e => ?_⟩
      obtain ⟨hi, rfl⟩ := hget i t e
      obtain ⟨h3, h4, h5, h6, h7, h1, h2, h8, h9, _⟩ := hq i hi
      rw [Addr.add_lit] at h3
      rw [Addr.add_lit, Addr.add_lit] at h4 h5 h6 h7
      exact ⟨(q i).2.1.1, (q i).2.1.2, (q i).2.2.1, (q i).2.2.2, h3, h4, h5, h6, h7, h1, h2, h8.toN, h9.toN⟩
    · obtain ⟨i, hi, rfl⟩ := List.getElem_of_mem hy
      obtain ⟨hi2, e2⟩ := hget i _ (List.getElem?_eq_getElem hi)
      rw [e2]
      have hz := List.getElem?_eq_getElem (l := elems) (i := i) (by omega)
      obtain ⟨_, _, _, _, _, _, _, _, _, h10⟩ := hq i hi2
      have h11 := h10 _ hz
      have h12 : Rows.uptoBulk (elems[i]'(by omega)).1 ≤ Rows.uptoBulkAll (elems.map (·.1)) := bulk_in (List.mem_map.2 ⟨_, List.mem_of_getElem? hz, rfl⟩)
      rw [e1]
      simp only [Rows.uptoBulk]
      omega

/-- Clauses that are an argument. -/
theorem open_clausesS {r : Reach} {b0 : Nat} {v : Value} {d : DataW H} {ps : List MemPlace} (hv : Value.okWide Tryz.prog W r b0 33 v) (h : DataW.Trod enc Tryz.prog W base (fun _ => true) held 33 v d ps) :
    ∃ (cl : List (List Lp)) (A : Option Addr) (c : Nat), v = .slice A cl.length c ∧ ClRow W (· < W.heap.size) A cl ∧ (itms cl).length ≤ 2 * Rows.uptoBulk d ∧ ∀ lc ∈ cl, ∀ x ∈ lc, x.l.size ≤ Rows.uptoBulk d ∧ x.r.size ≤ Rows.uptoBulk d := by
  obtain ⟨a0, len0, cap0, rfl⟩ := okWide_slice Tryz.underlying33 hv
  obtain ⟨fuel, hf⟩ := h
  have hf' : DataW.trod enc Tryz.prog W base (fun _ => true) held fuel 33 [.slice a0 len0 cap0] = some (d, ps) := hf
  rcases DataW.trod_slice Tryz.underlying33 hf' with ⟨hv, e1⟩ | ⟨a, len, cap, elems, rest, m, hm, hv, e1, _, hl, hmax, hlenE, hel, _, _⟩
  · injection hv with hv
    injection hv with e2 e3 e4
    subst e2; subst e3; subst e4
    exact ⟨[], none, 0, rfl, ⟨by simp, fun h => by simp at h⟩, by simp [itms], fun lc hlc => by cases hlc⟩
  · injection hv with hv
    injection hv with e2 e3 e4
    subst e2; subst e3; subst e4
    have each : ∀ i, i < len0 → ∃ q : List Lp × Option Addr × Nat, W.cell? (a.add i) = some (.slice q.2.1 q.1.length q.2.2) ∧ LpRow W (· < W.heap.size) q.2.1 q.1 ∧ ∀ z, elems[i]? = some z → q.1.length ≤ Rows.uptoBulk z.1 ∧ ∀ y ∈ q.1, y.l.size ≤ Rows.uptoBulk z.1 ∧ y.r.size ≤ Rows.uptoBulk z.1 := by
      intro i hi
      have h1 := hel i hi
      rw [cellsClauseP, Nat.mul_one] at h1
      rw [List.getElem?_eq_getElem (by omega)] at h1
      cases hc : W.cells? base (a.add i) 1 with
      | none => rw [hc] at h1; cases h1
      | some cs' =>
        rw [hc] at h1
        simp only [Option.bind_some] at h1
        obtain ⟨l, A1, c1, rfl, hL, hb, hs⟩ := trodS_clause _ cs' _ h1
        obtain ⟨_, _, hat⟩ := World.cells?_some hc
        refine ⟨(l, A1, c1), ?_, hL, fun z hz => ?_⟩
        · have := hat 0 (by omega)
          simpa [Addr.add] using this
        · rw [List.getElem?_eq_getElem (by omega)] at hz
          obtain rfl := Option.some.inj hz
          exact ⟨hb, hs⟩
    haveI : Inhabited (List Lp × Option Addr × Nat) := ⟨([], none, 0)⟩
    obtain ⟨q, hq⟩ := Go.Deep.choose_lt each
    have hget : ∀ (i : Nat) (t : List Lp), ((List.range len0).map fun i => (q i).1)[i]? = some t → i < len0 ∧ t = (q i).1 := by
      intro i t e
      have hi : i < len0 := by have := (List.getElem?_eq_some_iff.1 e).1; simpa using this
      rw [List.getElem?_map, List.getElem?_range hi] at e
      simp at e
      exact ⟨hi, e.symm⟩
    refine ⟨(List.range len0).map fun i => (q i).1, some a, cap0, by simp, ⟨by unfold maxLen at hmax; simp; omega, fun hp => ?_⟩, ?_, ?_⟩
    · have h0 : 0 < len0 := by simpa using hp
      have c00 := (hq 0 h0).1
      simp only [Addr.add, if_true] at c00
      obtain ⟨blk, off, spot⟩ := a
      obtain rfl : spot = none := cell_spot c00
      refine ⟨blk, off, rfl, World.block_lt_of_cell? W _ c00, fun i t e => ?_⟩
      obtain ⟨hi, rfl⟩ := hget i t e
      obtain ⟨h3, h4, _⟩ := hq i hi
      rw [Addr.add_lit] at h3
      exact ⟨(q i).2.1, (q i).2.2, h3, h4⟩
    · have h9 := itms_two ((List.range len0).map fun i => (q i).1) (elems.map (·.1)) (by simp; omega) fun i l z e1 e2 => by
        obtain ⟨hi, rfl⟩ := hget i l e1
        rw [List.getElem?_map] at e2
        cases he : elems[i]? with
        | none => rw [he] at e2; cases e2
        | some y =>
          rw [he] at e2
          simp only [Option.map_some] at e2
          obtain rfl := Option.some.inj e2
          exact ((hq i hi).2.2 y he).1
      have e5 := congrArg (fun z => Rows.uptoBulk z.1) e1
      simp only [Rows.uptoBulk] at e5
      omega
    · intro lc hlc y hy
      obtain ⟨i, hi, rfl⟩ := List.getElem_of_mem hlc
      obtain ⟨hi2, e2⟩ := hget i _ (List.getElem?_eq_getElem hi)
      rw [e2] at hy
      have hz := List.getElem?_eq_getElem (l := elems) (i := i) (by omega)
      have h11 := ((hq i hi2).2.2 _ hz).2 y hy
      have h12 : Rows.uptoBulk (elems[i]'(by omega)).1 ≤ Rows.uptoBulkAll (elems.map (·.1)) := bulk_in (List.mem_map.2 ⟨_, List.mem_of_getElem? hz, rfl⟩)
      have e5 := congrArg (fun z => Rows.uptoBulk z.1) e1
      simp only [Rows.uptoBulk] at e5
      omega

end

end Go.Proofs.YtfnncphkidhbpaaGreatDoor

