import Derived.Test.YtfnncphkidhbpaaDoorP43Z4
import Derived.Test.YtfnncphkidhbpaaDoorP43Z1
import Derived.Deep.DeepCutAuto
import Derived.Lib.BufferMore
import Derived.OwnWalk
import Derived.Lib.SlicesCompact
import Derived.Test.YtfnncphkidhbpaaDoorP43Z2
import Derived.Deep.RegionHeld3
/- prec: named; Make out of Counts. -/

namespace Go.Proofs.YtfnncphkidhbpaaDoor

open Go Go.RowKit
set_option maxRecDepth 100000

/-- Is it a way? -/
def nameB (b wb : Int) : Bool := decide (0 ≤ b ∧ b ≤ 4 ∧ 0 ≤ wb ∧ wb ≤ 3)

theorem nameB_yes {b wb : Int} (h : 0 ≤ b ∧ b ≤ 4 ∧ 0 ≤ wb ∧ wb ≤ 3) : nameB b wb = true := decide_eq_true h

theorem nameB_no {b wb : Int} (h : ¬ (0 ≤ b ∧ b ≤ 4 ∧ 0 ≤ wb ∧ wb ≤ 3)) : nameB b wb = false := decide_eq_false h

set_option maxHeartbeats 1000000 in
theorem named_any (lpo top : Bool) (b wb : Int) (w : World) :
    Calls Tryd.prog 15 #[.agg #[.bool lpo, .int .i64 b, .int .i64 wb, .bool top]] w fun e w' => e = .returned (.bool (nameB b wb)) ∧ Below w.heap.size w w' := by
  have hb : Below w.heap.size w (w.alloc (.cells #[.bool lpo, .int .i64 b, .int .i64 wb, .bool top] 34)) := (Below.refl _ _).alloc (Nat.le_refl _) _
  have HB := Lib.hid hb
  clear hb
  by_cases h0 : 0 ≤ b
  · by_cases h1 : b ≤ 4
    · by_cases h2 : 0 ≤ wb
      · by_cases h3 : wb ≤ 3
        · have hf := Lib.hid (nameB_yes ⟨h0, h1, h2, h3⟩)
          go_enter Tryd.func15, Tryd.ntmps15
          go_wp2
          go_ret
          exact ⟨ret_bool hf.out.symm, HB.out⟩
        · have hf := Lib.hid (nameB_no (b := b) (wb := wb) (by omega))
          go_enter Tryd.func15, Tryd.ntmps15
          go_wp2
          go_ret
          exact ⟨ret_bool hf.out.symm, HB.out⟩
      · have hf := Lib.hid (nameB_no (b := b) (wb := wb) (by omega))
        go_enter Tryd.func15, Tryd.ntmps15
        go_wp2
        go_ret
        exact ⟨ret_bool hf.out.symm, HB.out⟩
    · have hf := Lib.hid (nameB_no (b := b) (wb := wb) (by omega))
      go_enter Tryd.func15, Tryd.ntmps15
      go_wp2
      go_ret
      exact ⟨ret_bool hf.out.symm, HB.out⟩
  · have hf := Lib.hid (nameB_no (b := b) (wb := wb) (by omega))
    go_enter Tryd.func15, Tryd.ntmps15
    go_wp2
    go_ret
    exact ⟨ret_bool hf.out.symm, HB.out⟩

theorem ints_of {w : World} {g : Nat} {n : List Int} (h : w.heap[g]? = some (.cells (iC n) 3)) (hl : n.length ≤ 9223372036854775807) (hi : ∀ x ∈ n, I64 x) : Ints w (g + 1) (some ⟨g, 0, none⟩) n :=
  ⟨hl, hi, fun _ => ⟨g, 0, rfl, Nat.lt_succ_self _, fun i x hx => by rw [Nat.zero_add]; exact (iC_cell h hx).1⟩⟩

/-- What Counts tells. -/
def CountsPost (l : List Sm) (no : Bool) (n : List Int) (w : World) (e : Ending) (w' : World) : Prop := Below w.heap.size w w' ∧ if no = true then e = .returned (.tuple #[.slice none 0 0, .int .i64 2]) else ∃ g, e = .returned (.tuple #[.slice (some ⟨g, 0, none⟩) l.length l.length, .int .i64 0]) ∧ w.heap.size ≤ g ∧ w'.heap[g]? = some (.cells (iC n) 3)

end Go.Proofs.YtfnncphkidhbpaaDoor

/- prec: Make out of Counts. -/

namespace Go.Proofs.YtfnncphkidhbpaaDoor

open Go Go.RowKit
set_option maxRecDepth 100000

theorem four_cells {W : World} {b : Nat} {x y z u : Value} {t : TypeId} (h : W.heap[b]? = some (.cells #[x, y, z, u] t)) : (W.cell? ⟨b, 0, none⟩ = some x ∧ W.cell? ⟨b, 1, none⟩ = some y ∧ W.cell? ⟨b, 2, none⟩ = some z ∧ W.cell? ⟨b, 3, none⟩ = some u) ∧
    W.frozen? ⟨b, 0, none⟩ = false ∧ W.frozen? ⟨b, 1, none⟩ = false ∧ W.frozen? ⟨b, 2, none⟩ = false ∧ W.frozen? ⟨b, 3, none⟩ = false := by
  simp [World.cell?, World.frozen?, h]

/-- What Make tells. -/
def MakePost (l : List Sm) (no lpo top : Bool) (n : List Int) (b wb : Int) (w : World) (e : Ending) (w' : World) : Prop := Below w.heap.size w w' ∧
  if no = true ∨ nameB b wb = false then e = .returned (.tuple #[.agg #[.bool false, .slice none 0 0, .slice none 0 0, .int .i64 0], .int .i64 2])
  else if lpo = true then ∃ g, e = .returned (.tuple #[.agg #[.bool true, .slice (some ⟨g, 0, none⟩) l.length l.length, .slice none 0 0, .int .i64 0], .int .i64 0]) ∧ w.heap.size ≤ g ∧ w'.heap[g]? = some (.cells (iC (rkL l n b l.length)) 3)
  else ∃ g g2, e = .returned (.tuple #[.agg #[.bool false, .slice (some ⟨g, 0, none⟩) l.length l.length, .slice (some ⟨g2, 0, none⟩) l.length l.length, .int .i64 1], .int .i64 0]) ∧ w.heap.size ≤ g ∧ w.heap.size ≤ g2 ∧ w'.heap[g]? = some (.cells (iC (rkL l n b l.length)) 3) ∧
    w'.heap[g2]? = some (.cells (iC (wtL l n wb top (rkL l n b l.length))) 3)

theorem heap3p (w : World) (o1 o2 o3 : Obj) : (((w.alloc o1).alloc o2).alloc o3).heap[w.heap.size]? = some o1 ∧ (((w.alloc o1).alloc o2).alloc o3).heap[w.heap.size + 1]? = some o2 ∧ (((w.alloc o1).alloc o2).alloc o3).heap[w.heap.size + 2]? = some o3 := by
  obtain ⟨e1, e2⟩ := heap2p w o1 o2
  have e3 := heap_alloc_new ((w.alloc o1).alloc o2) o3
  have hz : ((w.alloc o1).alloc o2).heap.size = w.heap.size + 2 := by simp
  rw [hz] at e3
  refine ⟨?_, ?_, e3⟩
  · rw [Below.heap_alloc _ _ _ (by simp; omega)]; exact e1
  · rw [Below.heap_alloc _ _ _ (by simp)]; exact e2

theorem set4_other (W : World) {b k : Nat} (x y z u : Value) (h : k ≠ b) : ((((W.setCell ⟨b, 0, none⟩ x).setCell ⟨b, 1, none⟩ y).setCell ⟨b, 2, none⟩ z).setCell ⟨b, 3, none⟩ u).heap[k]? = W.heap[k]? :=
  (Below.heap_setCell _ _ _ _ (by exact h)).trans ((Below.heap_setCell _ _ _ _ (by exact h)).trans ((Below.heap_setCell _ _ _ _ (by exact h)).trans (Below.heap_setCell _ _ _ _ (by exact h))))

set_option maxHeartbeats 4000000 in
theorem make_of {w : World} {l : List Sm} {n : List Int} {b wb : Int} {lpo top no : Bool} {As Aq : Option Addr} {cs nq cq m : Nat} (hm : l.length = m + 1) (hs : m ≤ 999) (hlen : n.length = l.length) (har : ∀ f, 0 ≤ arP l f ∧ arP l f ≤ 99) (hcn : ∀ f, 0 ≤ cnP n f ∧ cnP n f ≤ 1152921504606846976) (hS : Syms w w.heap.size As l.length l)
    (hC : ∀ w1, Below w.heap.size w w1 → Calls Tryd.prog 14 #[.agg #[.slice As l.length cs], .slice Aq nq cq] w1 (CountsPost l no n w1)) :
    Calls Tryd.prog 8 #[.agg #[.slice As l.length cs], .slice Aq nq cq, .agg #[.bool lpo, .int .i64 b, .int .i64 wb, .bool top]] w (MakePost l no lpo top n b wb w) := by
  obtain ⟨W3, hW3⟩ : ∃ W3, ((w.alloc (.cells #[.slice As l.length cs] 29)).alloc (.cells #[.bool lpo, .int .i64 b, .int .i64 wb, .bool top] 34)).alloc (.cells #[.bool false, .slice none 0 0, .slice none 0 0, .int .i64 0] 24) = W3 := ⟨_, rfl⟩
  obtain ⟨q1, q2, q3⟩ := heap3p w (.cells #[.slice As l.length cs] 29) (.cells #[.bool lpo, .int .i64 b, .int .i64 wb, .bool top] 34) (.cells #[.bool false, .slice none 0 0, .slice none 0 0, .int .i64 0] 24)
  rw [hW3] at q1 q2 q3
  have z3 : W3.heap.size = w.heap.size + 3 := by rw [← hW3]; simp
  have hB3 : Below w.heap.size w W3 := by rw [← hW3]; exact (((Below.refl _ _).alloc (Nat.le_refl _) _).alloc (by simp) _).alloc (by simp; omega) _
  have HW3 := Lib.hid hW3
  have HC := Lib.hid (hC W3 hB3)
  have HM : Hid (∀ w4, Below W3.heap.size W3 w4 → Below w.heap.size w w4 ∧ (w4.cell? ⟨w.heap.size, 0, none⟩ = some (.slice As l.length cs)) ∧ (((w4.cell? ⟨w.heap.size + 1, 0, none⟩ = some (.bool lpo)) ∧ (w4.cell? ⟨w.heap.size + 1, 1, none⟩ = some (.int .i64 b)) ∧ (w4.cell? ⟨w.heap.size + 1, 2, none⟩ = some (.int .i64 wb)) ∧ (w4.cell? ⟨w.heap.size + 1, 3, none⟩ = some (.bool top)))) ∧
      w4.heap[w.heap.size + 2]? = some (.cells #[.bool false, .slice none 0 0, .slice none 0 0, .int .i64 0] 24)) := Lib.hid fun w4 h4 => by
    have e1 := (h4.block w.heap.size (by omega)).trans q1
    have e2 := (h4.block (w.heap.size + 1) (by omega)).trans q2
    have e3 := (h4.block (w.heap.size + 2) (by omega)).trans q3
    exact ⟨hB3.trans (h4.mono hB3.size), (cells_one e1).1, (four_cells e2).1, e3⟩
  have c0 := (cells_one q1).1
  have Hm := Lib.hid (And.intro hm (And.intro hs (And.intro hlen z3)))
  clear hC hW3 q1 q2 q3 z3 hB3 hm hs hlen
  cases no with
  | true =>
    go_enter Tryd.func8, Tryd.ntmps8
    go_upto_region 1 with fail
    rw [HW3.out]
    go_wp2_with (first
      | ((with_reducible refine HC.out.mono ?_); go_must (rintro e w4 ⟨hb4, hp⟩; rw [if_pos rfl] at hp; subst hp; obtain ⟨hbw, m0, _, m3⟩ := HM.out w4 hb4; obtain ⟨⟨x0, x1, x2, x3⟩, y0, y1, y2, y3⟩ := four_cells m3; have HBw := Lib.hid hbw; clear m0 m3 hb4 hbw))
      | fail)
    refine bodyPost_ret (v := .tuple #[.agg #[.bool false, .slice none 0 0, .slice none 0 0, .int .i64 0], .int .i64 2]) (by simp [results, Tryd.results8, go_sem, x0, x1, x2, x3]) rfl ⟨?_, ?_⟩
    · exact (((HBw.out.setCell (by simp; omega) _).setCell (by simp; omega) _).setCell (by simp; omega) _).setCell (by simp; omega) _
    · rw [if_pos (.inl rfl)]
  | false =>
    by_cases hnm : nameB b wb = false
    · go_enter Tryd.func8, Tryd.ntmps8
      go_upto_region 1 with fail
      rw [HW3.out]
      have HN : Hid (∀ w4, Calls Tryd.prog 15 #[.agg #[.bool lpo, .int .i64 b, .int .i64 wb, .bool top]] w4 fun e w' => e = .returned (.bool false) ∧ Below w4.heap.size w4 w') := Lib.hid fun w4 => by rw [← hnm]; exact named_any lpo top b wb w4
      go_wp2_with (first
        | ((with_reducible refine HC.out.mono ?_); go_must (rintro e w4 ⟨hb4, hp⟩; rw [if_neg (by decide)] at hp; obtain ⟨g, rfl, hg, hrow⟩ := hp; have HB4 := Lib.hid hb4; obtain ⟨hbw, m0, ⟨p0, p1, p2, p3⟩, m3⟩ := HM.out w4 hb4; clear m0 m3 hb4 hbw hg hrow))
        | (go_at_call 15; (with_reducible refine (HN.out _).mono ?_); go_must (rintro e w5 ⟨rfl, hb5⟩; obtain ⟨hbw, m0, _, m3⟩ := HM.out w5 (HB4.out.trans (hb5.mono HB4.out.size)); obtain ⟨⟨x0, x1, x2, x3⟩, y0, y1, y2, y3⟩ := four_cells m3; have HBw := Lib.hid hbw; clear m0 m3 hb5 hbw p0 p1 p2 p3))
        | fail)
      refine bodyPost_ret (v := .tuple #[.agg #[.bool false, .slice none 0 0, .slice none 0 0, .int .i64 0], .int .i64 2]) (by simp [results, Tryd.results8, go_sem, x0, x1, x2, x3]) rfl ⟨?_, ?_⟩
      · exact (((HBw.out.setCell (by simp; omega) _).setCell (by simp; omega) _).setCell (by simp; omega) _).setCell (by simp; omega) _
      · rw [if_pos (.inr hnm)]
    · have hnm : nameB b wb = true := by simpa using hnm
      obtain ⟨b0, b4, w0, w3⟩ := of_decide_eq_true hnm
      obtain ⟨i, rfl⟩ : ∃ i : Nat, b = (i : Int) := ⟨b.toNat, by omega⟩
      obtain ⟨j, rfl⟩ : ∃ j : Nat, wb = (j : Int) := ⟨wb.toNat, by omega⟩
      have hi : i ≤ 4 := by omega
      have hj : j ≤ 3 := by omega
      clear b0 b4 w0 w3
      have HN : Hid (∀ w4, Calls Tryd.prog 15 #[.agg #[.bool lpo, .int .i64 (i : Int), .int .i64 (j : Int), .bool top]] w4 fun e w' => e = .returned (.bool true) ∧ Below w4.heap.size w4 w') := Lib.hid fun w4 => by rw [← hnm]; exact named_any lpo top (i : Int) (j : Int) w4
      have hn64 : ∀ x ∈ n, I64 x := by
        intro x hx
        obtain ⟨f, hf, rfl⟩ := List.getElem_of_mem hx
        have := hcn f
        unfold cnP at this
        rw [List.getD_eq_getElem?_getD, List.getElem?_eq_getElem hf] at this
        simp only [Option.getD_some] at this
        unfold I64; omega
      have HRn : Hid (∀ w5 g, Below W3.heap.size W3 w5 → w5.heap[g]? = some (.cells (iC n) 3) → Calls Tryd.prog 16 #[.agg #[.slice As l.length cs, .slice (some ⟨g, 0, none⟩) l.length l.length], .int .i64 (i : Int)] (w5.alloc (.cells #[.slice As l.length cs, .slice (some ⟨g, 0, none⟩) l.length l.length] 55)) fun e w' =>
          ∃ g7, e = .returned (.slice (some ⟨g7, 0, none⟩) l.length l.length) ∧ Below (w5.heap.size + 1) (w5.alloc (.cells #[.slice As l.length cs, .slice (some ⟨g, 0, none⟩) l.length l.length] 55)) w' ∧ w5.heap.size + 1 ≤ g7 ∧ w'.heap[g7]? = some (.cells (iC (rkL l n (i : Int) l.length)) 3)) := Lib.hid fun w5 g h5 hg => by
        have hbl : Below w5.heap.size w5 (w5.alloc (.cells #[.slice As l.length cs, .slice (some ⟨g, 0, none⟩) l.length l.length] 55)) := (Below.refl _ _).alloc (Nat.le_refl _) _
        have hbw := (HM.out w5 h5).1
        have hz : (w5.alloc (.cells #[.slice As l.length cs, .slice (some ⟨g, 0, none⟩) l.length l.length] 55)).heap.size = w5.heap.size + 1 := by simp
        have hI := (ints_of (blk_st hbl hg) (by have := Hm.out; omega) hn64).more (show g + 1 ≤ (w5.alloc (.cells #[.slice As l.length cs, .slice (some ⟨g, 0, none⟩) l.length l.length] 55)).heap.size by have := (Array.getElem?_eq_some_iff.1 hg).1; simp; omega)
        have hr := ranks_any (w := w5.alloc (.cells #[.slice As l.length cs, .slice (some ⟨g, 0, none⟩) l.length l.length] 55)) (cs := cs) (cc := l.length) (Nat.le_refl _) Hm.out.2.2.1 Hm.out.1 Hm.out.2.1 har ((hS.on hbw).on hbl) hI hi
        rw [Hm.out.2.2.1, hz] at hr
        exact hr
      cases lpo with
      | true =>
        go_enter Tryd.func8, Tryd.ntmps8
        go_upto_region 1 with fail
        rw [HW3.out]
        go_wp2_with (first
          | ((with_reducible refine HC.out.mono ?_); go_must (rintro e w4 ⟨hb4, hp⟩; rw [if_neg (by decide)] at hp; obtain ⟨g, rfl, hg, hrow⟩ := hp; have HB4 := Lib.hid hb4; have HRow := Lib.hid (And.intro hg hrow); obtain ⟨hbw, m0, ⟨p0, p1, p2, p3⟩, m3⟩ := HM.out w4 hb4; clear m3 hb4 hbw hg hrow))
          | (go_at_call 15; (with_reducible refine (HN.out _).mono ?_); go_must (rintro e w5 ⟨rfl, hb5⟩; have HB5 := Lib.hid (HB4.out.trans (hb5.mono HB4.out.size)); have HRow5 := Lib.hid (And.intro HRow.out.1 (blk_st hb5 HRow.out.2)); obtain ⟨hbw, m0', ⟨p0', p1', p2', p3'⟩, m3⟩ := HM.out w5 HB5.out; have HRK := Lib.hid (HRn.out w5 g HB5.out HRow5.out.2); have pA : ∀ o, (w5.alloc o).cell? ⟨w.heap.size + 1, 1, none⟩ = some (.int .i64 (i : Int)) := fun o => (World.cell?_of_block (Below.heap_alloc w5 o (w.heap.size + 1) (by (have := HB5.out.size); (have := Hm.out.2.2.2); omega))).trans p1'; clear m0 m3 hb5 hbw p0 p1 p2 p3))
          | ((with_reducible refine HRK.out.mono ?_); go_must (rintro e w7 ⟨g7, rfl, hb7, hg7, hrow7⟩; have HB7 := Lib.hid (HB5.out.trans ((((Below.refl w5.heap.size w5).alloc (Nat.le_refl _) _).trans (hb7.mono (by simp))).mono HB5.out.size)); have HRow7 := Lib.hid (And.intro hg7 hrow7); obtain ⟨hbw, _, ⟨p0, p1, p2, p3⟩, m3⟩ := HM.out w7 HB7.out; obtain ⟨⟨x0, x1, x2, x3⟩, y0, y1, y2, y3⟩ := four_cells m3; have HBw := Lib.hid hbw; clear pA hb7 hg7 hrow7 m3 m0' p0' p1' p2' p3' hbw))
          | fail)
        refine bodyPost_ret (v := .tuple #[.agg #[.bool true, .slice (some ⟨g7, 0, none⟩) l.length l.length, .slice none 0 0, .int .i64 0], .int .i64 0]) (by simp [results, Tryd.results8, go_sem, x0, x1, x2, x3]) rfl ⟨?_, ?_⟩
        · exact (((HBw.out.setCell (by simp; omega) _).setCell (by simp; omega) _).setCell (by simp; omega) _).setCell (by simp; omega) _
        · rw [if_neg (by rw [hnm]; simp), if_pos rfl]
          have hgw : w.heap.size + 3 ≤ w5.heap.size := by have := HB5.out.size; have := Hm.out.2.2.2; omega
          exact ⟨g7, rfl, by have := HRow7.out.1; omega, (set4_other w7 _ _ _ _ (by have := HRow7.out.1; omega)).trans HRow7.out.2⟩
      | false =>
        have HWn : Hid (∀ w7 g g7, Below w.heap.size w w7 → w7.heap[g]? = some (.cells (iC n) 3) → w7.heap[g7]? = some (.cells (iC (rkL l n (i : Int) l.length)) 3) → Calls Tryd.prog 17 #[.agg #[.slice As l.length cs, .slice (some ⟨g, 0, none⟩) l.length l.length], .agg #[.bool false, .int .i64 (i : Int), .int .i64 (j : Int), .bool top], .slice (some ⟨g7, 0, none⟩) l.length l.length] w7 fun e w' =>
            ∃ g2, e = .returned (.slice (some ⟨g2, 0, none⟩) l.length l.length) ∧ Below w7.heap.size w7 w' ∧ w7.heap.size ≤ g2 ∧ w'.heap[g2]? = some (.cells (iC (wtL l n (j : Int) top (rkL l n (i : Int) l.length))) 3)) := Lib.hid fun w7 g g7 hbw hg hg7 => by
          have h1 : 1 ≤ l.length := by have := Hm.out.1; omega
          have hl : l.length ≤ 1000 := by have := Hm.out; omega
          obtain ⟨h, hh, ht⟩ := rnkR_top l n (i : Int) h1
          have hIn := (ints_of hg (by have := Hm.out; omega) hn64).more (show g + 1 ≤ w7.heap.size from (Array.getElem?_eq_some_iff.1 hg).1)
          have hrk : ∀ x, 0 ≤ (rkL l n (i : Int) l.length).getD x 0 ∧ (rkL l n (i : Int) l.length).getD x 0 ≤ 1000 := fun x => by
            rcases Nat.lt_or_ge x l.length with hx | hx
            · rw [rkL_getD hx]; have := rnkR_less l n (i : Int) hx; omega
            · rw [List.getD_eq_getElem?_getD, List.getElem?_eq_none (by rw [rkL_len]; exact hx)]; simp
          have hr64 : ∀ x ∈ rkL l n (i : Int) l.length, I64 x := by
            intro x hx
            obtain ⟨t, ht', rfl⟩ := List.getElem_of_mem hx
            have := hrk t
            rw [List.getD_eq_getElem?_getD, List.getElem?_eq_getElem ht'] at this
            simp only [Option.getD_some] at this
            unfold I64; omega
          have hIr := (ints_of hg7 (by rw [rkL_len]; omega) hr64).more (show g7 + 1 ≤ w7.heap.size from (Array.getElem?_eq_some_iff.1 hg7).1)
          have hw := weights_any (w := w7) (b := (i : Int)) (lpo := false) (top := top) (cs := cs) (cc := l.length) (cr := l.length) (Nat.le_refl _) Hm.out.2.2.1 (rkL_len l n (i : Int) l.length) h1 hl har hcn (fun x => by have := hrk x; omega) hh (rkL_idx hh ht) (hS.on hbw) hIn hIr hj
          rw [Hm.out.2.2.1, rkL_len, wtP_eq hh ht] at hw
          exact hw
        go_enter Tryd.func8, Tryd.ntmps8
        go_upto_region 1 with fail
        rw [HW3.out]
        go_wp2_with (first
          | ((with_reducible refine HC.out.mono ?_); go_must (rintro e w4 ⟨hb4, hp⟩; rw [if_neg (by decide)] at hp; obtain ⟨g, rfl, hg, hrow⟩ := hp; have HB4 := Lib.hid hb4; have HRow := Lib.hid (And.intro hg hrow); obtain ⟨hbw, m0, ⟨p0, p1, p2, p3⟩, m3⟩ := HM.out w4 hb4; clear m3 hb4 hbw hg hrow))
          | (go_at_call 15; (with_reducible refine (HN.out _).mono ?_); go_must (rintro e w5 ⟨rfl, hb5⟩; have HB5 := Lib.hid (HB4.out.trans (hb5.mono HB4.out.size)); have HRow5 := Lib.hid (And.intro HRow.out.1 (blk_st hb5 HRow.out.2)); obtain ⟨hbw, m0', ⟨p0', p1', p2', p3'⟩, m3⟩ := HM.out w5 HB5.out; have HRK := Lib.hid (HRn.out w5 g HB5.out HRow5.out.2); have pA : ∀ o, (w5.alloc o).cell? ⟨w.heap.size + 1, 1, none⟩ = some (.int .i64 (i : Int)) := fun o => (World.cell?_of_block (Below.heap_alloc w5 o (w.heap.size + 1) (by (have := HB5.out.size); (have := Hm.out.2.2.2); omega))).trans p1'; clear m0 m3 hb5 hbw p0 p1 p2 p3))
          | ((with_reducible refine HRK.out.mono ?_); go_must (rintro e w7 ⟨g7, rfl, hb7, hg7, hrow7⟩; have HB7 := Lib.hid (HB5.out.trans ((((Below.refl w5.heap.size w5).alloc (Nat.le_refl _) _).trans (hb7.mono (by simp))).mono HB5.out.size)); have HRow7 := Lib.hid (And.intro hg7 hrow7); obtain ⟨hbw, _, ⟨p0, p1, p2, p3⟩, m3⟩ := HM.out w7 HB7.out; have bx := (hb7.block w5.heap.size (Nat.lt_succ_self _)).trans (heap_alloc_new w5 _); obtain ⟨u0, u1, _⟩ := cells_two bx; have HWt := Lib.hid (HWn.out w7 g g7 hbw ((hb7.block g (Nat.lt_succ_of_lt (Array.getElem?_eq_some_iff.1 HRow5.out.2).1)).trans (blk_st ((Below.refl _ _).alloc (Nat.le_refl _) _) HRow5.out.2)) hrow7); clear bx pA hb7 hg7 hrow7 m3 m0' p0' p1' p2' p3' hbw))
          | ((with_reducible refine HWt.out.mono ?_); go_must (rintro e w8 ⟨g2, rfl, hb8, hg2, hrow2⟩; have HRow2 := Lib.hid (And.intro hg2 hrow2); have HRow8 := Lib.hid (blk_st hb8 HRow7.out.2); have HB8 := Lib.hid (HB7.out.trans (hb8.mono HB7.out.size)); obtain ⟨hbw, _, _, m3⟩ := HM.out w8 HB8.out; obtain ⟨⟨x0, x1, x2, x3⟩, y0, y1, y2, y3⟩ := four_cells m3; have HBw := Lib.hid hbw; clear hb8 hg2 hrow2 m3 hbw p0 p1 p2 p3 u0 u1))
          | fail)
        refine bodyPost_ret (v := .tuple #[.agg #[.bool false, .slice (some ⟨g7, 0, none⟩) l.length l.length, .slice (some ⟨g2, 0, none⟩) l.length l.length, .int .i64 1], .int .i64 0]) (by simp [results, Tryd.results8, go_sem, x0, x1, x2, x3]) rfl ⟨?_, ?_⟩
        · exact (((HBw.out.setCell (by simp; omega) _).setCell (by simp; omega) _).setCell (by simp; omega) _).setCell (by simp; omega) _
        · rw [if_neg (by rw [hnm]; simp), if_neg (by decide)]
          have hgw : w.heap.size + 3 ≤ w5.heap.size := by have := HB5.out.size; have := Hm.out.2.2.2; omega
          have hg7w : w.heap.size + 3 ≤ w7.heap.size := by have := HB7.out.size; have := Hm.out.2.2.2; omega
          exact ⟨g7, g2, rfl, by have := HRow7.out.1; omega, by have := HRow2.out.1; omega, (set4_other w8 _ _ _ _ (by have := HRow7.out.1; omega)).trans HRow8.out, (set4_other w8 _ _ _ _ (by have := HRow2.out.1; omega)).trans HRow2.out.2⟩

end Go.Proofs.YtfnncphkidhbpaaDoor

/- prec: slices.Max at ints; weighed. -/

namespace Go.Proofs.YtfnncphkidhbpaaDoor

open Go Go.RowKit
set_option maxRecDepth 100000

theorem maxN_any (p : List Int) (A : Option Addr) (c : Nat) (w : World) (hA : Ints w w.heap.size A p) (hp : 0 < p.length) :
    Calls Tryd.prog 35 #[.slice A p.length c] w fun e w' => e = .returned (.int .i64 (Lib.maxOf p)) ∧ w' = w := by
  have hlen := hA.len
  obtain ⟨b, off, rfl, _, hc⟩ := hA.ad hp
  obtain ⟨z, hz⟩ : ∃ z, p[0]? = some z := ⟨_, List.getElem?_eq_getElem hp⟩
  have c0 := hc 0 z hz
  rw [Nat.add_zero] at c0
  have H1 : Hid (z = Lib.maxOf (p.take 1)) := Lib.hid (by rw [Lib.maxOf_one, getD_of hz])
  have Hc := Lib.hid hc
  clear hc hz hA
  go_enter Tryd.func35, Tryd.ntmps35
  go_wp2
  clear c0
  go_loopw [3, 4] (fun m i wr => ∃ (k : Nat) (x : Int), 1 ≤ k ∧ k ≤ p.length ∧ i = .int .i64 (k : Int) ∧ m = .int .i64 x ∧ wr = w ∧ Hid (x = Lib.maxOf (p.take k))) (fun _ i _ => p.length - (intOf i).toNat)
  case atStart => refine ⟨1, z, Nat.le_refl _, hp, ?_, ?_, ?_, H1⟩ <;> first | trivial | rfl
  case round =>
    obtain ⟨k, x, hk1, hk, rfl, rfl, rfl, HX⟩ := hrel
    by_cases hlt : k < p.length
    · obtain ⟨y, hy⟩ : ∃ y, p[k]? = some y := ⟨_, List.getElem?_eq_getElem hlt⟩
      have ck := Hc.out k y hy
      have HN : Hid (max x y = Lib.maxOf (p.take (k + 1))) := Lib.hid (by rw [Lib.maxOf_step p k (by omega) hlt, getD_of hy, HX.out])
      clear hy
      go_wp2
      go_roundw
      case rel => exact ⟨k + 1, _, by omega, by omega, by go_num, rfl, trivial, HN⟩
      case measure => simp [intOf]; omega
    · obtain rfl : k = p.length := by omega
      have HE : Hid (x = Lib.maxOf p) := Lib.hid (by rw [HX.out, List.take_length])
      go_wp2
      go_ret
      exact ⟨ret_int HE.out, rfl⟩

/-- May the weights be, as the program asks it of an order with a rank for each symbol? -/
def wghB (l : List Sm) (o : Odr) : Bool := decide (o.wts.length = l.length ∧ 1 ≤ o.var ∧ o.var ≤ 1000 ∧ o.wts.getD 0 0 = o.var ∧ chkW l o = true)

theorem wgh_no {l : List Sm} {o : Odr} (h : ¬ (o.wts.length = l.length ∧ 1 ≤ o.var ∧ o.var ≤ 1000 ∧ o.wts.getD 0 0 = o.var)) : wghB l o = false := decide_eq_false fun e => h ⟨e.1, e.2.1, e.2.2.1, e.2.2.2.1⟩

set_option maxHeartbeats 4000000 in
theorem weighed_any (l : List Sm) (o : Odr) (As P Q : Option Addr) (cs pc qc : Nat) (w : World) (hS : Syms w w.heap.size As l.length l) (hM : OdrM w w.heap.size o P Q) (hlen : o.prec.length = l.length) (h1 : 0 < l.length) (h96 : l.length ≤ 1000) :
    Calls Tryd.prog 20 #[.agg #[.slice As l.length cs], .agg #[.bool o.lpo, .slice P o.prec.length pc, .slice Q o.wts.length qc, .int .i64 o.var]] w fun e w' => e = .returned (.bool (wghB l o)) ∧ Below w.heap.size w w' := by
  obtain ⟨W, hW⟩ : ∃ W, (w.alloc (.cells #[.slice As l.length cs] 29)).alloc (.cells #[.bool o.lpo, .slice P o.prec.length pc, .slice Q o.wts.length qc, .int .i64 o.var] 24) = W := ⟨_, rfl⟩
  obtain ⟨q0, q1⟩ := heap2p w (.cells #[.slice As l.length cs] 29) (.cells #[.bool o.lpo, .slice P o.prec.length pc, .slice Q o.wts.length qc, .int .i64 o.var] 24)
  have hB : Below w.heap.size w W := by rw [← hW]; exact ((Below.refl _ _).alloc (Nat.le_refl _) _).alloc (by simp) _
  rw [hW] at q0 q1
  have HW := Lib.hid hW
  have HB := Lib.hid hB
  have HS := Lib.hid (hS.on hB)
  have HM := Lib.hid (hM.on hB)
  have hql := hM.q.len
  have hv64 := hM.v
  obtain ⟨a0, _⟩ := cells_one q0
  obtain ⟨⟨b0, b1, b2, b3⟩, _⟩ := four_cells q1
  have HL := Lib.hid hlen
  clear hW hB hS hM q0 q1 hlen
  by_cases c1 : o.wts.length = l.length
  · by_cases c2 : 1 ≤ o.var
    · by_cases c3 : o.var ≤ 1000
      · obtain ⟨bq, oq, rfl, hbq, hcq⟩ := HM.out.q.ad (by omega)
        obtain ⟨z, hz⟩ : ∃ z, o.wts[0]? = some z := ⟨_, List.getElem?_eq_getElem (by omega)⟩
        have cz := hcq 0 z hz
        rw [Nat.add_zero] at cz
        have g1 : ((o.wts.length : Int) != (l.length : Int)) = false := by simp; omega
        have g2 : (o.wts.length != l.length) = false := by simp; omega
        have C1 := Lib.hid c1
        have hwl : 0 < o.wts.length := by omega
        clear c1
        by_cases c4 : z = o.var
        · have HZ := Lib.hid (show o.wts.getD 0 0 = o.var by rw [getD_of hz]; exact c4)
          have g3 : (z != o.var) = false := by simpa using c4
          have Hcq := Lib.hid hcq
          have hpl := HM.out.p.len
          obtain ⟨bp, op, hPe, hbp, hcp⟩ := HM.out.p.ad (by have := HL.out; omega)
          obtain ⟨bs, os, hAe, hbs, hcs⟩ := HS.out.ad h1
          have Hcp := Lib.hid hcp
          have Hcs := Lib.hid hcs
          have HMx := Lib.hid (fun (w' : World) (hb : Below W.heap.size W w') => maxN_any o.prec P pc w' (HM.out.p.on hb) (by have := HL.out; omega))
          clear hz hcq c4 hcp hcs
          subst hPe
          subst hAe
          go_enter Tryd.func20, Tryd.ntmps20
          go_upto_region 1 with fail
          rw [HW.out]
          go_quiet (fail)
          clear cz
          have HMx1 := Lib.hid (HMx.out (W.drewN nq) (bl_drewN (Below.refl _ _) _))
          go_wp2_with (first
            | ((with_reducible refine HMx1.out.mono ?_); go_must (rintro e w3 ⟨rfl, rfl⟩))
            | fail)
          have hq3 : Below W.heap.size W (W.drewN nq) := bl_drewN (Below.refl _ _) _
          have HC0 := Lib.hid (And.intro a0 (And.intro b1 b3))
          have HCL := Lib.hid (And.intro (World.block_lt_of_cell? W _ a0) (World.block_lt_of_cell? W _ b1))
          clear a0 b0 b1 b2 b3
          go_loopw [40] (fun i wr => ∃ k : Nat, k ≤ o.wts.length ∧ i = .int .i64 (k : Int) ∧ Below W.heap.size W wr ∧ Hid (∀ j, j < k → badW l o j = false)) (fun i _ => o.wts.length - (intOf i).toNat)
          case atStart => exact ⟨0, Nat.zero_le _, rfl, hq3, fun j h0 => absurd h0 (Nat.not_lt_zero _)⟩
          case round =>
            obtain ⟨k, hk, rfl, hbr, HB9⟩ := hrel
            by_cases hlt : k < o.wts.length
            · have hkl : k < l.length := by have := C1.out; omega
              have hkp : k < o.prec.length := by have := HL.out; omega
              obtain ⟨s, hs⟩ : ∃ s, l[k]? = some s := ⟨_, List.getElem?_eq_getElem hkl⟩
              obtain ⟨x, hx⟩ : ∃ x, o.wts[k]? = some x := ⟨_, List.getElem?_eq_getElem hlt⟩
              obtain ⟨y, hy⟩ : ∃ y, o.prec[k]? = some y := ⟨_, List.getElem?_eq_getElem hkp⟩
              have kk := fun (g u : Nat) (v : Value) (hg : g < W.heap.size) (h : W.cell? ⟨g, u, none⟩ = some v) => (cell_of_heap (hbr.block g hg)).trans h
              obtain ⟨_, e5, _⟩ := Hcs.out k s hs
              have m0 : ∀ z : LatD wr, z.w.cell? ⟨w.heap.size, 0, none⟩ = some (.slice (some ⟨bs, os, none⟩) l.length cs) := fun z => z.cell (kk _ _ _ HCL.out.1 HC0.out.1)
              have m1 : ∀ z : LatD wr, z.w.cell? ⟨w.heap.size + 1, 1, none⟩ = some (.slice (some ⟨bp, op, none⟩) o.prec.length pc) := fun z => z.cell (kk _ _ _ HCL.out.2 HC0.out.2.1)
              have m3 : ∀ z : LatD wr, z.w.cell? ⟨w.heap.size + 1, 3, none⟩ = some (.int .i64 o.var) := fun z => z.cell (kk _ _ _ HCL.out.2 HC0.out.2.2)
              have m4 : ∀ z : LatD wr, z.w.cell? ⟨bs, os + k * 3 + 1, none⟩ = some (.int .i64 s.arity) := fun z => z.cell (kk _ _ _ hbs e5)
              have m5 : ∀ z : LatD wr, z.w.cell? ⟨bp, op + k, none⟩ = some (.int .i64 y) := fun z => z.cell (kk _ _ _ hbp (Hcp.out k y hy))
              have m6 := kk _ _ _ hbq (Hcq.out k x hx)
              obtain ⟨hb, hbe⟩ : ∃ hb, (y == Lib.maxOf o.prec) = hb := ⟨_, rfl⟩
              have HBad : Hid (badW l o k = (decide (x < leastP s.arity hb o.var) || decide (1000 < x))) := Lib.hid (by rw [badW_at hs hx, highB_max hkp, getD_of hy, ← badX_least c2, ← hbe]; congr 1)
              obtain ⟨L, hLe⟩ : ∃ L, leastP s.arity hb o.var = L := ⟨_, rfl⟩
              rw [hLe] at HBad
              have HLst := Lib.hid fun (z : LatD wr) => ((least_any s.arity hb o.var z.w).mono fun e w' (h : _ ∧ w' = z.w) => (⟨by rw [← hLe]; exact h.1, by rw [h.2]; exact On.refl _⟩ : e = .returned (.int .i64 L) ∧ On z.w w'))
              clear hs hx hy kk e5 hLe
              by_cases hbad : x < L ∨ 1000 < x
              · have hfin := Lib.hid (show wghB l o = false from decide_eq_false fun e => by
                  have h9 := List.all_eq_true.1 e.2.2.2.2 k (List.mem_range.2 hkl)
                  rw [HBad.out] at h9
                  rcases hbad with h | h <;> simp [h] at h9)
                by_cases hx1 : x < L
                · clear hbad
                  go_upto_region 7 with fail
                  clear m6
                  refine wp_region_latD wr (by kernel_rfl) (by kernel_rfl) (On.refl _).drew ?_
                  repeat (go_big_quiet_step (first
                    | (with_reducible refine calls_latD _ (HLst.out _))
                    | fail))
                  refine wpQuiet_nil ?_
                  rintro _ ⟨z9, rfl⟩
                  clear m0 m1 m3 m4 m5
                  go_wp2
                  go_ret
                  exact ⟨ret_bool hfin.out.symm, HB.out.trans ((hbr.trans (z9.h.b.mono hbr.size)).mono HB.out.size)⟩
                · have hx2 : 1000 < x := by omega
                  clear hbad
                  go_upto_region 7 with fail
                  clear m6
                  refine wp_region_latD wr (by kernel_rfl) (by kernel_rfl) (On.refl _).drew ?_
                  repeat (go_big_quiet_step (first
                    | (with_reducible refine calls_latD _ (HLst.out _))
                    | fail))
                  refine wpQuiet_nil ?_
                  rintro _ ⟨z9, rfl⟩
                  clear m0 m1 m3 m4 m5
                  go_wp2
                  go_ret
                  exact ⟨ret_bool hfin.out.symm, HB.out.trans ((hbr.trans (z9.h.b.mono hbr.size)).mono HB.out.size)⟩
              · have hx1 : ¬ x < L := by omega
                have hx2 : ¬ 1000 < x := by omega
                have HN : Hid (∀ j, j < k + 1 → badW l o j = false) := Lib.hid (all_next HB9.out (by rw [HBad.out]; simp [hx1, hx2]))
                clear hbad
                go_upto_region 7 with fail
                clear m6
                refine wp_region_latD wr (by kernel_rfl) (by kernel_rfl) (On.refl _).drew ?_
                repeat (go_big_quiet_step (first
                  | (with_reducible refine calls_latD _ (HLst.out _))
                  | fail))
                refine wpQuiet_nil ?_
                rintro _ ⟨z9, rfl⟩
                have hbz := hbr.trans (z9.h.b.mono hbr.size)
                clear m0 m1 m3 m4 m5
                go_wp2
                go_roundw
                case rel => exact ⟨k + 1, by omega, by go_num, hbz, HN⟩
                case measure => simp [intOf]; omega
            · obtain rfl : k = o.wts.length := by omega
              have hfin := Lib.hid (show wghB l o = true from decide_eq_true ⟨C1.out, c2, c3, HZ.out, chkW_yes (fun j hj => HB9.out j (by have := C1.out; omega))⟩)
              go_wp2
              go_ret
              exact ⟨ret_bool hfin.out.symm, HB.out.trans (hbr.mono HB.out.size)⟩
        · have hfin := Lib.hid (wgh_no (l := l) (o := o) (fun e => c4 (by rw [← getD_of hz]; exact e.2.2.2)))
          have g3 : (z != o.var) = true := by simpa using c4
          clear hz hcq c4
          go_enter Tryd.func20, Tryd.ntmps20
          go_upto_region 1 with fail
          rw [HW.out]
          go_quiet (fail)
          go_wp2
          go_ret
          exact ⟨ret_bool hfin.out.symm, HB.out.trans ((bl_drewN (Below.refl _ _) _).mono HB.out.size)⟩
      · have hfin := Lib.hid (wgh_no (l := l) (o := o) (fun e => c3 e.2.2.1))
        have g1 : ((o.wts.length : Int) != (l.length : Int)) = false := by simp; omega
        have g2 : (o.wts.length != l.length) = false := by simp; omega
        clear c1
        go_enter Tryd.func20, Tryd.ntmps20
        go_upto_region 1 with fail
        rw [HW.out]
        go_quiet (fail)
        go_wp2
        go_ret
        exact ⟨ret_bool hfin.out.symm, HB.out.trans ((bl_drewN (Below.refl _ _) _).mono HB.out.size)⟩
    · have hfin := Lib.hid (wgh_no (l := l) (o := o) (fun e => c2 e.2.1))
      have g1 : ((o.wts.length : Int) != (l.length : Int)) = false := by simp; omega
      have g2 : (o.wts.length != l.length) = false := by simp; omega
      have g3 : o.var < 1 := by omega
      have g4 : ¬ 1000 < o.var := by omega
      clear c1 c2
      go_enter Tryd.func20, Tryd.ntmps20
      go_upto_region 1 with fail
      rw [HW.out]
      go_quiet (fail)
      go_wp2
      go_ret
      exact ⟨ret_bool hfin.out.symm, HB.out.trans ((bl_drewN (Below.refl _ _) _).mono HB.out.size)⟩
  · have hfin := Lib.hid (wgh_no (l := l) (o := o) (fun e => c1 e.1))
    have g1 : ((o.wts.length : Int) != (l.length : Int)) = true := by simp; omega
    have g2 : (o.wts.length != l.length) = true := by simpa using c1
    clear c1
    go_enter Tryd.func20, Tryd.ntmps20
    go_upto_region 1 with fail
    rw [HW.out]
    go_quiet (fail)
    go_wp2
    go_ret
    exact ⟨ret_bool hfin.out.symm, HB.out.trans ((bl_drewN (Below.refl _ _) _).mono HB.out.size)⟩

end Go.Proofs.YtfnncphkidhbpaaDoor

/- Put, in plain words and in memory. -/

namespace Go.Proofs.YtfnncphkidhbpaaDoor

open Go.RowKit
set_option maxRecDepth 100000

/-- The term with s at a place. -/
def putT : Tm → List Int → Tm → Tm
  | _, [], s => s
  | t, i :: p, s => match t.args[i.toNat]? with
    | none => t
    | some u => .node t.fn (t.args.set i.toNat (putT u p s))

theorem sub_get {t s : Tm} {i : Int} {p : List Int} (h : subT t (i :: p) = some s) : 0 ≤ i ∧ ∃ u, t.args[i.toNat]? = some u ∧ subT u p = some s := by
  simp only [subT] at h
  split at h
  · rename_i h1
    cases hu : t.args[i.toNat]? with
    | none => rw [hu] at h; cases h
    | some u => rw [hu] at h; exact ⟨h1.1, u, rfl, h⟩
  · cases h

theorem put_self : ∀ {p : List Int} {t u : Tm}, subT t p = some u → putT t p u = t
  | [], t, u, h => by simp only [subT] at h; injection h with h; rw [h]; rfl
  | i :: p, t, s, h => by
    obtain ⟨_, u, hu, h1⟩ := sub_get h
    have := put_self h1
    obtain ⟨hlt, he⟩ := List.getElem?_eq_some_iff.1 hu
    simp only [putT, hu, this]
    rw [← he, List.set_getElem_self]
    exact Tm.eta t

/-- The place that is found, as one follows the rows. -/
def PathA (w : World) : List Int → Nat → Nat → Tm → Nat → Nat → Prop
  | [], b, o, _, b', o' => b' = b ∧ o' = o
  | i :: p, b, o, t, b', o' => ∃ gb go c u, 0 ≤ i ∧ w.cell? ⟨b, o + 1, none⟩ = some (.slice (some ⟨gb, go, none⟩) t.args.length c) ∧ t.args[i.toNat]? = some u ∧ PathA w p gb (go + i.toNat * 2) u b' o'

def FindP (t : Tm) (p : List Int) (w : World) (B b0 o0 : Nat) (e : Ending) (w' : World) : Prop := w' = w ∧
  match subT t p with
  | none => e = .returned (.pointer none)
  | some s => ∃ b off, e = .returned (.pointer (some ⟨b, off, none⟩)) ∧ PtrT w B b off s ∧ PathA w p b0 o0 t b off

/-- Where a place lies in a term's own rows: at its box, or in one of the rows; and no cell of it is frozen. -/
theorem path_in {w : World} : ∀ {p : List Int} {b o b' o' : Nat} {t : Tm} {A : Option Addr} {c lo hi : Nat}, PathA w p b o t b' o' → w.cell? ⟨b, o + 1, none⟩ = some (.slice A t.args.length c) → OwnT w lo hi A t.args →
    (p = [] ∧ b' = b ∧ o' = o) ∨ (lo ≤ b' ∧ b' < hi ∧ w.frozen? ⟨b', o', none⟩ = false ∧ w.frozen? ⟨b', o' + 1, none⟩ = false)
  | [], _, _, _, _, _, _, _, _, _, h, _, _ => .inl ⟨rfl, h.1, h.2⟩
  | i :: p, b, o, b', o', .node f xs, A, c, lo, hi, h, hc, hO => by
    obtain ⟨gb, go, c', u, h0, h1, h2, h3⟩ := h
    simp only [Tm.args] at hc h1 h2 hO
    rw [hc] at h1
    injection h1 with h1
    injection h1 with hA _ _
    have hlt := (List.getElem?_eq_some_iff.1 h2).1
    cases hO with
    | nil => simp at hlt
    | row _ _ rb cap _ vs A' c2 m hlo hpos hlen hrow hm0 hmn hm hi64 e0 e1 hs =>
      injection hA with hA
      injection hA with r1 r2 _
      subst r1; subst r2
      have hml := mono_to hm (show i.toNat + 1 ≤ xs.length by omega) (Nat.le_refl _)
      have hm1 := mono_to hm (Nat.zero_le i.toNat) (by omega)
      have hvs : vs.length = xs.length * 2 := hrow.1
      have hmi := hm i.toNat hlt
      have hcell : w.cell? ⟨rb, 0 + i.toNat * 2 + 1, none⟩ = some (.slice (A' i.toNat) u.args.length (c2 i.toNat)) := by
        rw [Nat.zero_add, hrow.cellAt (i.toNat * 2 + 1) (by omega)]
        exact e1 _ _ h2
      rcases path_in h3 hcell (hs _ _ h2) with ⟨_, rfl, rfl⟩ | ⟨k1, k2, k3⟩
      · exact .inr ⟨hlo, by omega, hrow.frozenAt (0 + i.toNat * 2), hrow.frozenAt (0 + i.toNat * 2 + 1)⟩
      · exact .inr ⟨by omega, by omega, k3⟩

/-- Two cells of a block hold a term's; all else is as it was. -/
structure Wrote (w w2 : World) (b' o' : Nat) (s : Tm) (As : Option Addr) (cs : Nat) : Prop where
  blk : ∀ g, g ≠ b' → w2.heap[g]? = w.heap[g]?
  cell : ∀ o2, o2 ≠ o' → o2 ≠ o' + 1 → w2.cell? ⟨b', o2, none⟩ = w.cell? ⟨b', o2, none⟩
  c0 : w2.cell? ⟨b', o', none⟩ = some (.int .i64 s.fn)
  c1 : w2.cell? ⟨b', o' + 1, none⟩ = some (.slice As s.args.length cs)

theorem wrote_two {w : World} {b o : Nat} {x y : Value} (s : Tm) (As : Option Addr) (cs : Nat) (h0 : w.cell? ⟨b, o, none⟩ = some x) (h1 : w.cell? ⟨b, o + 1, none⟩ = some y) :
    Wrote w ((w.setCell ⟨b, o, none⟩ (.int .i64 s.fn)).setCell ⟨b, o + 1, none⟩ (.slice As s.args.length cs)) b o s As cs := by
  have ne : ∀ {i j : Nat}, i ≠ j → (⟨b, i, none⟩ : Addr) ≠ ⟨b, j, none⟩ := fun h e => h (by injection e)
  refine ⟨fun g hg => (heap_setCell_other _ _ _ _ hg).trans (heap_setCell_other _ _ _ _ hg), fun o2 h2 h3 => ?_, ?_, ?_⟩
  · rw [World.cell?_setCell_other _ _ _ _ (ne (Ne.symm h3)), World.cell?_setCell_other _ _ _ _ (ne (Ne.symm h2))]
  · rw [World.cell?_setCell_other _ _ _ _ (ne (by omega)), World.cell?_setCell_same _ _ _ h0]
  · exact World.cell?_setCell_same _ _ _ (u := y) (by rw [World.cell?_setCell_other _ _ _ _ (ne (by omega))]; exact h1)

/-- A term's own rows, and s laid at a place in them: the term with s there. -/
theorem put_args {w w2 : World} {s : Tm} {As : Option Addr} {cs lo2 hi2 : Nat} {N : Nat → Prop} (hs64 : I64 s.fn) (hsO : OwnT w lo2 hi2 As s.args) (hN2 : ∀ g, lo2 ≤ g → g < hi2 → N g) : ∀ {p : List Int} {b o b' o' : Nat} {t v : Tm} {A : Option Addr} {c lo hi : Nat}, PathA w p b o t b' o' → subT t p = some v → I64 t.fn →
    w.cell? ⟨b, o, none⟩ = some (.int .i64 t.fn) → w.cell? ⟨b, o + 1, none⟩ = some (.slice A t.args.length c) → OwnT w lo hi A t.args → b < lo → b < lo2 → hi ≤ lo2 → (∀ g, lo ≤ g → g < hi → N g) → Wrote w w2 b' o' s As cs →
    ∃ A2 c2, I64 (putT t p s).fn ∧ w2.cell? ⟨b, o, none⟩ = some (.int .i64 (putT t p s).fn) ∧ w2.cell? ⟨b, o + 1, none⟩ = some (.slice A2 (putT t p s).args.length c2) ∧ ArgsN w2 N A2 (putT t p s).args
  | [], b, o, b', o', t, v, A, c, lo, hi, h, _, _, _, _, _, hbl, hb2, _, _, hW => by
    obtain ⟨rfl, rfl⟩ := h
    exact ⟨As, cs, hs64, hW.c0, hW.c1, (hsO.keep fun g h1 h2 => hW.blk g (by omega)).argsN.wide fun g h => hN2 g h.1 h.2⟩
  | i :: p, b, o, b', o', .node f xs, v, A, c, lo, hi, h, hv, hf, hc0, hc, hO, hbl, hb2, hh2, hhB, hW => by
    obtain ⟨gb, go, c', u, h0, h1, h2, h3⟩ := h
    obtain ⟨_, u', hu', hv'⟩ := sub_get hv
    simp only [Tm.args, Tm.fn] at hc0 hc h1 h2 hO hu' hf
    rw [h2] at hu'
    cases hu'
    rw [hc] at h1
    injection h1 with h1
    injection h1 with hA _ _
    have hlt := (List.getElem?_eq_some_iff.1 h2).1
    cases hO with
    | nil => simp at hlt
    | row _ _ rb cap _ vs A' c2 m hlo hpos hlen hrow hm0 hmn hm hi64 e0 e1 hs =>
      injection hA with hA
      injection hA with r1 r2 _
      subst r1; subst r2
      have hml := mono_to hm (show i.toNat + 1 ≤ xs.length by omega) (Nat.le_refl _)
      have hm1 := mono_to hm (Nat.zero_le i.toNat) (by omega)
      have hvs : vs.length = xs.length * 2 := hrow.1
      have hmi := hm i.toNat hlt
      have hce : ∀ k, k < xs.length * 2 → w.cell? ⟨rb, 0 + k, none⟩ = vs[k]? := fun k hk => by rw [Nat.zero_add]; exact hrow.cellAt k (by omega)
      have hcell : w.cell? ⟨rb, 0 + i.toNat * 2 + 1, none⟩ = some (.slice (A' i.toNat) u.args.length (c2 i.toNat)) := (hce (i.toNat * 2 + 1) (by omega)).trans (e1 _ _ h2)
      have hcell0 : w.cell? ⟨rb, 0 + i.toNat * 2, none⟩ = some (.int .i64 u.fn) := (hce (i.toNat * 2) (by omega)).trans (e0 _ _ h2)
      obtain ⟨A3, c3, q1, q2, q3, q4⟩ := put_args hs64 hsO hN2 h3 hv' (hi64 _ _ h2) hcell0 hcell (hs _ _ h2) (by omega) (by omega) (by omega) (fun g k1 k2 => hhB g (by omega) (by omega)) hW
      have hwhere : (b' = rb ∧ o' = 0 + i.toNat * 2) ∨ (m i.toNat ≤ b' ∧ b' < m (i.toNat + 1)) := by
        rcases path_in h3 hcell (hs _ _ h2) with ⟨_, rfl, rfl⟩ | ⟨k1, k2, _⟩
        · exact .inl ⟨rfl, rfl⟩
        · exact .inr ⟨k1, k2⟩
      have hbb : b ≠ b' := by omega
      have hcb : ∀ o2, w2.cell? ⟨b, o2, none⟩ = w.cell? ⟨b, o2, none⟩ := fun o2 => cell_of_heap (hW.blk b hbb)
      have hother : ∀ k, k ≠ i.toNat * 2 → k ≠ i.toNat * 2 + 1 → w2.cell? ⟨rb, 0 + k, none⟩ = w.cell? ⟨rb, 0 + k, none⟩ := fun k k1 k2 => by
        rcases hwhere with ⟨rfl, rfl⟩ | ⟨k3, k4⟩
        · exact hW.cell _ (by omega) (by omega)
        · exact cell_of_heap (hW.blk rb (by omega))
      have hput : putT (.node f xs) (i :: p) s = .node f (xs.set i.toNat (putT u p s)) := by simp only [putT, Tm.args, h2, Tm.fn]
      rw [hput]
      simp only [Tm.fn, Tm.args, List.length_set]
      refine ⟨some ⟨rb, 0, none⟩, c, hf, (hcb o).trans hc0, (hcb (o + 1)).trans hc, ?_⟩
      have hget : ∀ (j : Nat) (z : Tm), (xs.set i.toNat (putT u p s))[j]? = some z → (j = i.toNat ∧ z = putT u p s) ∨ (j ≠ i.toNat ∧ xs[j]? = some z) := by
        intro j z hz
        by_cases e : j = i.toNat
        · subst e
          rw [List.getElem?_set_self hlt] at hz
          injection hz with hz
          exact .inl ⟨rfl, hz.symm⟩
        · rw [List.getElem?_set_ne (Ne.symm e)] at hz
          exact .inr ⟨e, hz⟩
      have hj : ∀ {j : Nat} {z : Tm}, xs[j]? = some z → j < xs.length := fun e => (List.getElem?_eq_some_iff.1 e).1
      refine .row rb 0 _ (fun j => if j = i.toNat then A3 else A' j) (fun j => if j = i.toNat then c3 else c2 j) (hhB rb hlo (by omega)) (by rw [List.length_set]; exact hlen) (fun j z hz => ?_) (fun j z hz => ?_) (fun j z hz => ?_) (fun j z hz => ?_)
      · rcases hget j z hz with ⟨rfl, rfl⟩ | ⟨e, hz'⟩
        · exact q1
        · exact hi64 j z hz'
      · rcases hget j z hz with ⟨rfl, rfl⟩ | ⟨e, hz'⟩
        · exact q2
        · exact (hother (j * 2) (by omega) (by omega)).trans ((hce (j * 2) (by have := hj hz'; omega)).trans (e0 j z hz'))
      · rcases hget j z hz with ⟨rfl, rfl⟩ | ⟨e, hz'⟩
        · simp only [if_true]; exact q3
        · simp only [if_neg e]
          exact (hother (j * 2 + 1) (by omega) (by omega)).trans ((hce (j * 2 + 1) (by have := hj hz'; omega)).trans (e1 j z hz'))
      · rcases hget j z hz with ⟨rfl, rfl⟩ | ⟨e, hz'⟩
        · simp only [if_true]; exact q4
        · simp only [if_neg e]
          have hjl := hj hz'
          have g1 := mono_to hm (Nat.zero_le j) (by omega)
          have g2 := mono_to hm (show j + 1 ≤ xs.length by omega) (Nat.le_refl _)
          refine ((hs j z hz').keep fun g k1 k2 => hW.blk g ?_).argsN.wide fun g h => hhB g (by omega) (by omega)
          rcases hwhere with ⟨rfl, _⟩ | ⟨k3, k4⟩
          · omega
          · rcases Nat.lt_or_gt_of_ne e with h5 | h5
            · have := mono_to hm (show j + 1 ≤ i.toNat by omega) (by omega)
              omega
            · have := mono_to hm (show i.toNat + 1 ≤ j by omega) (by omega)
              omega

theorem path_keep {w w' : World} (hk : ∀ b o v, w.cell? ⟨b, o, none⟩ = some v → w'.cell? ⟨b, o, none⟩ = some v) : ∀ {p : List Int} {b o b' o' : Nat} {t : Tm}, PathA w p b o t b' o' → PathA w' p b o t b' o'
  | [], _, _, _, _, _, h => h
  | _ :: _, _, _, _, _, _, h => by
    obtain ⟨gb, go, c, u, h0, h1, h2, h3⟩ := h
    exact ⟨gb, go, c, u, h0, hk _ _ _ h1, h2, path_keep hk h3⟩

theorem frozen_of_heap {w w' : World} {b o : Nat} (h : w'.heap[b]? = w.heap[b]?) : w'.frozen? ⟨b, o, none⟩ = w.frozen? ⟨b, o, none⟩ := by simp [World.frozen?, h]

theorem cell_grow {w w' : World} (h : Below w.heap.size w w') : ∀ b o v, w.cell? ⟨b, o, none⟩ = some v → w'.cell? ⟨b, o, none⟩ = some v := fun _ _ _ e => cell_on h (World.block_lt_of_cell? w _ e) e

end Go.Proofs.YtfnncphkidhbpaaDoor

/- Put. -/

namespace Go.Proofs.YtfnncphkidhbpaaDoor

open Go.RowKit
set_option maxRecDepth 100000

def PutPost (t : Tm) (p : List Int) (s : Tm) (w : World) (e : Ending) (w' : World) : Prop := Below w.heap.size w w' ∧
  match subT t p with
  | none => e = .returned (.tuple #[.agg #[.int .i64 0, .slice none 0 0], .bool false])
  | some _ => ∃ A' c', e = .returned (.tuple #[.agg #[.int .i64 (putT t p s).fn, .slice A' (putT t p s).args.length c'], .bool true]) ∧ I64 (putT t p s).fn ∧ Args w' w'.heap.size A' (putT t p s).args

theorem put_fr {w w' : World} {p : List Int} {h b' o' : Nat} {t : Tm} {A : Option Addr} {c lo hi : Nat} (hP : PathA w.drew p h 0 t b' o') (hc : w.drew.cell? ⟨h, 0 + 1, none⟩ = some (.slice A t.args.length c)) (hO : OwnT w.drew lo hi A t.args)
    (hfz : ∀ b, b = h → w.frozen? ⟨b, 0, none⟩ = false ∧ w.frozen? ⟨b, 1, none⟩ = false) (hk : w'.heap[b']? = w.heap[b']?) : w'.frozen? ⟨b', o', none⟩ = false ∧ w'.frozen? ⟨b', o' + 1, none⟩ = false := by
  rw [frozen_of_heap hk, frozen_of_heap hk]
  rcases path_in hP hc hO with ⟨_, rfl, rfl⟩ | ⟨_, _, h1, h2⟩
  · exact hfz _ rfl
  · exact ⟨h1, h2⟩

theorem put_ne {w : World} {p : List Int} {h b' o' : Nat} {t : Tm} {A : Option Addr} {c lo hi : Nat} (hP : PathA w p h 0 t b' o') (hc : w.cell? ⟨h, 0 + 1, none⟩ = some (.slice A t.args.length c)) (hO : OwnT w lo hi A t.args) (hlo : h + 2 < lo) : h ≤ b' ∧ h + 1 ≠ b' ∧ h + 1 + 1 ≠ b' := by
  rcases path_in hP hc hO with ⟨_, rfl, rfl⟩ | ⟨_, _, h1, h2⟩ <;> omega

end Go.Proofs.YtfnncphkidhbpaaDoor

/- Places. -/

namespace Go.Proofs.YtfnncphkidhbpaaDoor

open Go.RowKit Go.Shelf
attribute [local go_sem] Oper.semAt_some
set_option maxRecDepth 100000

set_option maxHeartbeats 1000000 in
theorem posClone_any (l : List Int) (A : Option Addr) (c : Nat) (w : World) (hlen : l.length ≤ 4398046511104) (hA : Ints w w.heap.size A l) :
    Calls Tryd.prog 43 #[.slice A l.length c] w fun e w' => ∃ A' c', e = .returned (.slice A' l.length c') ∧ Ints w' w'.heap.size A' l ∧ Below w.heap.size w w' ∧ ∀ b off, A' = some ⟨b, off, none⟩ → w.heap.size ≤ b := by
  obtain ⟨i0, hi, hz0, hz1, hz2⟩ := info_parts infoInt
  have h64 := hA.i64
  cases A with
  | none =>
    have h0 : l.length = 0 := by
      rcases Nat.eq_zero_or_pos l.length with h | h
      · exact h
      · obtain ⟨_, _, e, _⟩ := hA.ad h; cases e
    have hl : l = [] := List.eq_nil_of_length_eq_zero h0
    subst hl
    have hnil := fun W => Lib.run_eql_slice_nil_nil (P := Tryd.prog) W 0 c Tryd.underlying71
    go_enter Tryd.func43, Tryd.ntmps43
    go_wp2
    go_ret
    exact ⟨none, 0, rfl, ⟨by simp, by simp, fun h => by simp at h⟩, Below.refl _ _, fun b off e => by cases e⟩
  | some a =>
    have hnil := fun W => Lib.run_eql_slice_some_nil (P := Tryd.prog) W a l.length c Tryd.underlying71
    go_enter Tryd.func43, Tryd.ntmps43
    have hown0 : (w.alloc (.cells #[] 3)).ownsRow w.heap.size 3 1 (.slice (some ⟨w.heap.size, 0, none⟩) 0 0) 0 [] := ⟨rfl, .inr ⟨w.heap.size, 0, #[], rfl, Nat.le_refl _, heap_alloc_new w _, Nat.le_refl _, by decide, rfl, rfl⟩⟩
    have hcl : ∀ (j : Nat) (u : Value), (l.map (Value.int .i64))[j]? = some u → (w.alloc (.cells #[] 3)).cell? (a.add j) = some u := by
      intro j u hu
      rw [List.getElem?_map] at hu
      cases hx : l[j]? with
      | none => rw [hx] at hu; cases hu
      | some x =>
        rw [hx] at hu
        injection hu with hu
        obtain ⟨b, off, e, hb, hc⟩ := hA.ad (by have := (List.getElem?_eq_some_iff.1 hx).1; omega)
        injection e with e
        subst e; subst hu
        have h3 := cell_on (o := off + j) ((Below.refl _ _).alloc (Nat.le_refl _) (.cells #[] 3)) hb (hc _ _ hx)
        rwa [show ((⟨b, off, none⟩ : Addr).add j) = ⟨b, off + j, none⟩ from by unfold Addr.add; split <;> simp_all]
    go_wp2_with (first
      | (at_builtin
         go_must (
         refine wpList_append_own _ rfl _ _ 71 rfl w.heap.size 3 i0 (.int .i64 0) 1 8 Tryd.underlying71 hi hz0 hz1 hz2 rfl (by decide) _ 0 _ rfl hown0 a l.length c (l.map (Value.int .i64)) rfl (by simp) hcl (by simp [Value.oneCell']) (by unfold maxLen; omega) (by omega) (by simp) ?_
         intro v1 w1 hown1 hgr1 _))
      | fail)
    go_ret
    rw [Nat.zero_add, List.nil_append] at hown1
    have hB1 : Below w.heap.size w w1 := ((Below.refl _ _).alloc (Nat.le_refl _) _).grown hgr1 (by simp) fun k e => (row_lt hown0 k e).1
    obtain ⟨A', c', rfl, hI⟩ := row_ints hown1 (by omega) h64
    refine ⟨A', c', rfl, hI, hB1, fun b off e => ?_⟩
    rcases hown1.2 with ⟨h1, _⟩ | ⟨g, cap, cur, h1, h2, _⟩
    · injection h1 with h1
      rw [h1] at e
      cases e
    · injection h1 with h1
      rw [h1] at e
      injection e with e
      injection e with e
      omega

theorem termPlaces_any (t : Tm) (A : Option Addr) (c : Nat) (w : World) (hsz : t.size ≤ 4398046511104) (hf : I64 t.fn) (hA : Args w w.heap.size A t.args) :
    Calls Tryd.prog 24 #[.agg #[.int .i64 t.fn, .slice A t.args.length c]] w fun e w' => e = .returned (.func (.func 41) #[] #[.pointer (some ⟨w.heap.size, 0, none⟩)]) ∧ Below w.heap.size w w' ∧
      ∃ A' c', w'.heap[w.heap.size]? = some (.cells #[.int .i64 t.fn, .slice A' t.args.length c'] 47) ∧ OwnT w' (w.heap.size + 1) w'.heap.size A' t.args := by
  obtain ⟨W, hW⟩ : ∃ W, w.alloc (.cells #[.int .i64 t.fn, .slice A t.args.length c] 47) = W := ⟨_, rfl⟩
  have hB : Below w.heap.size w W := by rw [← hW]; exact (Below.refl _ _).alloc (Nat.le_refl _) _
  have q0 : W.heap[w.heap.size]? = some (.cells #[.int .i64 t.fn, .slice A t.args.length c] 47) := by rw [← hW]; exact heap_alloc_new _ _
  have hWs : W.heap.size = w.heap.size + 1 := by rw [← hW]; simp
  have HW := Lib.hid hW
  clear hW
  go_enter Tryd.func24, Tryd.ntmps24
  go_wp2_with (first
    | (go_at_call 40
       go_must (
       rw [HW.out]
       refine (clone_any t hsz A c W hf (hA.on hB)).mono ?_
       rintro e w2 ⟨A4, c4, rfl, hO4, hb4⟩
       have y0 := (hb4.block _ (by omega)).trans q0
       obtain ⟨d0, d1, k0, k1⟩ := cells_two y0))
    | fail)
  go_ret
  obtain ⟨_, z1⟩ := set2_two (u := .int .i64 t.fn) (v := .slice A4 t.args.length c4) y0
  refine ⟨rfl, ((hB.trans (hb4.mono (by omega))).setCell (by show _ ≤ w.heap.size; omega) _).setCell (by show _ ≤ w.heap.size; omega) _, A4, c4, z1, ?_⟩
  refine OwnT.wide (lo := W.heap.size) (hi := w2.heap.size) (hO4.keep fun g h1 _ => ?_) (by omega) (by simp)
  exact (heap_setCell_other _ _ _ _ (by show g ≠ w.heap.size; omega)).trans (heap_setCell_other _ _ _ _ (by show g ≠ w.heap.size; omega))

end Go.Proofs.YtfnncphkidhbpaaDoor

/- The document's own answers: Size, Depth, low, over, Small. -/

namespace Go.Proofs.YtfnncphkidhbpaaDoor

open Go.RowKit
set_option maxRecDepth 100000

theorem sizes_snoc : ∀ (xs : List Tm) (u : Tm), sizes (xs ++ [u]) = sizes xs + u.size
  | [], u => by simp [sizes]
  | x :: xs, u => by simp only [List.cons_append, sizes, sizes_snoc xs u]; omega

theorem depths_snoc : ∀ (xs : List Tm) (u : Tm), depths (xs ++ [u]) = max (depths xs) u.depth
  | [], u => by simp [depths]
  | x :: xs, u => by simp only [List.cons_append, depths, depths_snoc xs u]; omega

theorem sizes_take {xs : List Tm} {k : Nat} {u : Tm} (h : xs[k]? = some u) : sizes (xs.take (k + 1)) = sizes (xs.take k) + u.size := by
  rw [List.take_add_one, h]; exact sizes_snoc _ _

theorem depths_take {xs : List Tm} {k : Nat} {u : Tm} (h : xs[k]? = some u) : depths (xs.take (k + 1)) = max (depths (xs.take k)) u.depth := by
  rw [List.take_add_one, h]; exact depths_snoc _ _

theorem sizes_le (xs : List Tm) (k : Nat) : sizes (xs.take k) ≤ sizes xs := by
  have key : ∀ (ys zs : List Tm), sizes zs ≤ sizes (zs ++ ys) := by
    intro ys zs
    induction zs with
    | nil => simp [sizes]
    | cons z zs ih => simp only [List.cons_append, sizes]; omega
  have := key (xs.drop k) (xs.take k)
  rwa [List.take_append_drop] at this

theorem depth_le_size (t : Tm) : t.depth ≤ t.size := by
  refine Tm.ind (P := fun t => t.depth ≤ t.size) (fun f xs ih => ?_) t
  simp only [Tm.depth, Tm.size]
  have key : ∀ ys : List Tm, (∀ t ∈ ys, t.depth ≤ t.size) → depths ys ≤ sizes ys := by
    intro ys
    induction ys with
    | nil => intro _; simp [depths]
    | cons y ys ihy =>
      intro h
      have h1 := h y (by simp)
      have h2 := ihy fun t ht => h t (by simp [ht])
      simp only [depths, sizes]
      omega
  have := key xs ih
  omega

theorem depths_le (xs : List Tm) (k : Nat) : depths (xs.take k) ≤ depths xs := by
  have key : ∀ (ys zs : List Tm), depths zs ≤ depths (zs ++ ys) := by
    intro ys zs
    induction zs with
    | nil => simp [depths]
    | cons z zs ih => simp only [List.cons_append, depths]; omega
  have := key (xs.drop k) (xs.take k)
  rwa [List.take_append_drop] at this

/-- The box of a term that is a parameter, and what stays of it. -/
theorem box_term {w W : World} {f : Int} {A : Option Addr} {n c : Nat} (hW : w.alloc (.cells #[.int .i64 f, .slice A n c] 47) = W) : Below w.heap.size w W ∧ w.heap.size < W.heap.size ∧ ∀ w', Below W.heap.size W w' → w'.cell? ⟨w.heap.size, 0, none⟩ = some (.int .i64 f) ∧ w'.cell? ⟨w.heap.size, 1, none⟩ = some (.slice A n c) := by
  have hb : W.heap[w.heap.size]? = some (.cells #[.int .i64 f, .slice A n c] 47) := by rw [← hW]; exact heap_alloc_new w _
  have hlt := (Array.getElem?_eq_some_iff.1 hb).1
  refine ⟨by rw [← hW]; exact (Below.refl _ _).alloc (Nat.le_refl _) _, hlt, fun w' h => ?_⟩
  obtain ⟨h0, h1, _, _⟩ := cells_two ((h.block _ hlt).trans hb)
  exact ⟨h0, h1⟩

end Go.Proofs.YtfnncphkidhbpaaDoor

/- Depth, Ground. Ground. Rising rows of numbers, in plain words: sorted and made single, or put in one after the other. -/

namespace Go.Proofs.YtfnncphkidhbpaaDoor

open Go.RowKit Go.Shelf

attribute [local go_sem] Oper.semAt_some
set_option maxRecDepth 100000

/-- The longest place of these, and one more. -/
def maxP : List (List Int × Tm) → Nat
  | [] => 0
  | x :: l => max (1 + x.1.length) (maxP l)

theorem maxP_app : ∀ (a b : List (List Int × Tm)), maxP (a ++ b) = max (maxP a) (maxP b)
  | [], b => by simp [maxP]
  | x :: a, b => by simp only [List.cons_append, maxP, maxP_app a b]; omega

theorem maxP_vis (t : Tm) : ∀ p, maxP (vis p t) = p.length + t.depth := by
  have key : ∀ xs : List Tm, (∀ t ∈ xs, ∀ p, maxP (vis p t) = p.length + t.depth) → ∀ (p : List Int) (i : Nat), maxP (visL p i xs) = if xs = [] then 0 else p.length + 1 + depths xs := by
    intro xs
    induction xs with
    | nil => intro _ p i; simp [visL, maxP]
    | cons x xs ih =>
      intro h p i
      have h1 := h x (by simp) (p ++ [(i : Int)])
      have h2 := ih (fun t ht => h t (by simp [ht])) p (i + 1)
      simp only [visL, maxP_app, h1, h2, depths, List.length_append, List.length_cons, List.length_nil]
      rw [if_neg (show ¬ (x :: xs = []) by simp)]
      have := depth_pos x
      by_cases e : xs = []
      · rw [if_pos e, e]; simp only [depths]; omega
      · rw [if_neg e]; omega
  refine Tm.ind (P := fun t => ∀ p, maxP (vis p t) = p.length + t.depth) (fun f xs ih p => ?_) t
  simp only [vis, Tm.depth, maxP, key xs ih]
  by_cases e : xs = []
  · rw [if_pos e, e]; simp only [depths]; omega
  · rw [if_neg e]; omega

theorem maxP_mem {l : List (List Int × Tm)} {x : List Int × Tm} (h : x ∈ l) : 1 + x.1.length ≤ maxP l := by
  induction l with
  | nil => simp at h
  | cons y l ih =>
    simp only [List.mem_cons] at h
    simp only [maxP]
    rcases h with rfl | h
    · omega
    · have := ih h; omega

theorem maxP_pre {t : Tm} {pre : List Vis} (h : pre.map Vis.key <+: vis [] t) : maxP (pre.map Vis.key) ≤ maxP (vis [] t) := by
  obtain ⟨r, hr⟩ := h
  rw [← hr, maxP_app]; omega

theorem pre_mem {t : Tm} {pre : List Vis} {x : Vis} (h : (pre ++ [x]).map Vis.key <+: vis [] t) : x.key ∈ vis [] t := h.subset (by simp)

end Go.Proofs.YtfnncphkidhbpaaDoor

namespace Go.Proofs.YtfnncphkidhbpaaDoor

open Go.RowKit Go.Shelf

attribute [local go_sem] Oper.semAt_some
set_option maxRecDepth 100000

/-- The variables' numbers that stand in these, in order. -/
def vnums : List (List Int × Tm) → List Int
  | [] => []
  | x :: l => if x.2.fn < 0 then (-1 - x.2.fn) :: vnums l else vnums l

theorem vnums_app : ∀ (a b : List (List Int × Tm)), vnums (a ++ b) = vnums a ++ vnums b
  | [], b => by simp [vnums]
  | x :: a, b => by
    simp only [List.cons_append, vnums, vnums_app a b]
    split <;> simp

theorem vnums_snoc_neg {pre : List Vis} {x : Vis} (h : x.t.fn < 0) : vnums ((pre ++ [x]).map Vis.key) = vnums (pre.map Vis.key) ++ [-1 - x.t.fn] := by
  rw [List.map_append, vnums_app]
  simp only [List.map_cons, List.map_nil, vnums, Vis.key, if_pos h]

theorem vnums_snoc_pos {pre : List Vis} {x : Vis} (h : ¬ x.t.fn < 0) : vnums ((pre ++ [x]).map Vis.key) = vnums (pre.map Vis.key) := by
  rw [List.map_append, vnums_app]
  simp only [List.map_cons, List.map_nil, vnums, Vis.key, if_neg h, List.append_nil]

theorem vnums_pre {t : Tm} {pre : List Vis} (h : pre.map Vis.key <+: vis [] t) : vnums (pre.map Vis.key) <+: vnums (vis [] t) := by
  obtain ⟨r, hr⟩ := h
  rw [← hr, vnums_app]
  exact List.prefix_append _ _

theorem stp_alloc {N P : Nat → Prop} (W : World) (o : Obj) (hN : ∀ g, N g → g < W.heap.size) : Stp N (fun _ => P) W (W.alloc o) :=
  ⟨(Keeps.alloc W o).mono fun g hg => hg.elim (hN g) (fun e => e.1), fun _ e => .inl e⟩

end Go.Proofs.YtfnncphkidhbpaaDoor

namespace Go.Proofs.YtfnncphkidhbpaaDoor

open Go.RowKit

mutual
/-- The variables' numbers in a term, in order. -/
def vn : Tm → List Int
  | .node f xs => (if f < 0 then [-1 - f] else []) ++ vnL xs
def vnL : List Tm → List Int
  | [] => []
  | t :: ts => vn t ++ vnL ts
end

theorem vnums_vis (t : Tm) : ∀ p, vnums (vis p t) = vn t := by
  have key : ∀ xs : List Tm, (∀ t ∈ xs, ∀ p, vnums (vis p t) = vn t) → ∀ (p : List Int) (i : Nat), vnums (visL p i xs) = vnL xs := by
    intro xs
    induction xs with
    | nil => intro _ p i; simp [visL, vnums, vnL]
    | cons x xs ih =>
      intro h p i
      simp only [visL, vnL, vnums_app, h x (by simp), ih (fun t ht => h t (by simp [ht]))]
  refine Tm.ind (P := fun t => ∀ p, vnums (vis p t) = vn t) (fun f xs ih p => ?_) t
  simp only [vis, vn, vnums, key xs ih, Tm.fn]
  split <;> simp

theorem vnL_app : ∀ (a b : List Tm), vnL (a ++ b) = vnL a ++ vnL b
  | [], b => by simp [vnL]
  | x :: a, b => by simp only [List.cons_append, vnL, vnL_app a b, List.append_assoc]

theorem vnL_take {xs : List Tm} {k : Nat} {u : Tm} (h : xs[k]? = some u) : vnL (xs.take (k + 1)) = vnL (xs.take k) ++ vn u := by
  rw [List.take_add_one, h, vnL_app]
  simp [vnL]

theorem vn_len (t : Tm) : (vn t).length ≤ t.size := by
  have key : ∀ xs : List Tm, (∀ t ∈ xs, (vn t).length ≤ t.size) → (vnL xs).length ≤ sizes xs := by
    intro xs
    induction xs with
    | nil => intro _; simp [vnL]
    | cons x xs ih =>
      intro h
      have h1 := h x (by simp)
      have h2 := ih fun t ht => h t (by simp [ht])
      simp only [vnL, sizes, List.length_append]
      omega
  refine Tm.ind (P := fun t => (vn t).length ≤ t.size) (fun f xs ih => ?_) t
  have := key xs ih
  simp only [vn, Tm.size, List.length_append]
  split <;> simp <;> omega

/-- One number put into a row, from a place on: none, if it stands there. -/
def insGo (v : Int) : List Int → Bool → List Int → Option (List Int)
  | [], done, out => some (if done then out else out ++ [v])
  | x :: r, done, out => if x = v then none else if v < x ∧ done = false then insGo v r true (out ++ [v] ++ [x]) else insGo v r done (out ++ [x])

def insI (l : List Int) (v : Int) : List Int := (insGo v l false []).getD l

theorem insGo_true (v : Int) : ∀ (r out : List Int), v ∉ r → insGo v r true out = some (out ++ r)
  | [], out, _ => by simp [insGo]
  | x :: r, out, h => by
    simp only [List.mem_cons, not_or] at h
    simp only [insGo, if_neg (show ¬ x = v from fun e => h.1 e.symm)]
    rw [if_neg (by simp), insGo_true v r _ h.2]
    simp

theorem insGo_mem (v : Int) : ∀ (r : List Int) (d : Bool) (out : List Int), v ∈ r → insGo v r d out = none
  | x :: r, d, out, h => by
    simp only [insGo]
    by_cases e : x = v
    · rw [if_pos e]
    · rw [if_neg e]
      have h2 : v ∈ r := by
        rcases List.mem_cons.1 h with h | h
        · exact absurd h.symm e
        · exact h
      split
      · exact insGo_mem v r _ _ h2
      · exact insGo_mem v r _ _ h2

theorem insGo_false (v : Int) : ∀ (r out : List Int), r.Pairwise (· < ·) → v ∉ r → ∃ a b, r = a ++ b ∧ insGo v r false out = some (out ++ a ++ v :: b) ∧ (∀ x ∈ a, x < v) ∧ ∀ x ∈ b, v < x
  | [], out, _, _ => ⟨[], [], rfl, by simp [insGo], by simp, by simp⟩
  | x :: r, out, hp, h => by
    simp only [List.mem_cons, not_or] at h
    rw [List.pairwise_cons] at hp
    have hne : ¬ x = v := fun e => h.1 e.symm
    by_cases hx : v < x
    · refine ⟨[], x :: r, rfl, ?_, by simp, fun y hy => ?_⟩
      · simp only [insGo, if_neg hne]
        rw [if_pos ⟨hx, by trivial⟩, insGo_true v r _ h.2]
        simp
      · rcases List.mem_cons.1 hy with rfl | hy
        · exact hx
        · have := hp.1 y hy; omega
    · obtain ⟨a, b, e1, e2, e3, e4⟩ := insGo_false v r (out ++ [x]) hp.2 h.2
      refine ⟨x :: a, b, by rw [e1]; rfl, ?_, fun y hy => ?_, e4⟩
      · simp only [insGo, if_neg hne]
        rw [if_neg (by omega), e2]
        simp
      · rcases List.mem_cons.1 hy with rfl | hy
        · omega
        · exact e3 y hy

theorem insI_rise {l : List Int} (v : Int) (h : l.Pairwise (· < ·)) : (insI l v).Pairwise (· < ·) ∧ ∀ x, x ∈ insI l v ↔ x ∈ l ∨ x = v := by
  unfold insI
  by_cases hv : v ∈ l
  · rw [insGo_mem v l _ _ hv]
    refine ⟨h, fun x => ⟨.inl, fun e => e.elim id fun e => by rw [e]; exact hv⟩⟩
  · obtain ⟨a, b, e1, e2, e3, e4⟩ := insGo_false v l [] h hv
    rw [e2]
    simp only [Option.getD_some, List.nil_append]
    rw [e1] at h
    obtain ⟨ha, hb, hab⟩ := List.pairwise_append.1 h
    refine ⟨List.pairwise_append.2 ⟨ha, List.pairwise_cons.2 ⟨e4, hb⟩, fun x hx y hy => ?_⟩, fun x => ?_⟩
    · rcases List.mem_cons.1 hy with rfl | hy
      · exact e3 x hx
      · exact hab x hx y hy
    · rw [e1]
      simp only [List.mem_append, List.mem_cons]
      constructor
      · rintro (h | h | h)
        · exact .inl (.inl h)
        · exact .inr h
        · exact .inl (.inr h)
      · rintro ((h | h) | h)
        · exact .inl h
        · exact .inr (.inr h)
        · exact .inr (.inl h)

theorem insI_fold : ∀ (r l : List Int), l.Pairwise (· < ·) → (r.foldl insI l).Pairwise (· < ·) ∧ ∀ x, x ∈ r.foldl insI l ↔ x ∈ l ∨ x ∈ r
  | [], l, h => ⟨h, fun x => by simp⟩
  | v :: r, l, h => by
    obtain ⟨h1, h2⟩ := insI_rise v h
    obtain ⟨h3, h4⟩ := insI_fold r (insI l v) h1
    refine ⟨h3, fun x => ?_⟩
    rw [List.foldl_cons, h4, h2]
    simp only [List.mem_cons]
    constructor
    · rintro ((h | h) | h)
      · exact .inl h
      · exact .inr (.inl h)
      · exact .inr (.inr h)
    · rintro (h | h | h)
      · exact .inl (.inl h)
      · exact .inl (.inr h)
      · exact .inr h

/-- Rising rows of the same numbers are the same. -/
theorem rise_eq : ∀ {a b : List Int}, a.Pairwise (· < ·) → b.Pairwise (· < ·) → (∀ x, x ∈ a ↔ x ∈ b) → a = b
  | [], [], _, _, _ => rfl
  | [], y :: b, _, _, h => absurd ((h y).2 (by simp)) (by simp)
  | x :: a, [], _, _, h => absurd ((h x).1 (by simp)) (by simp)
  | x :: a, y :: b, ha, hb, h => by
    rw [List.pairwise_cons] at ha hb
    have e : x = y := by
      have h1 := (h x).1 (by simp)
      have h2 := (h y).2 (by simp)
      rcases List.mem_cons.1 h1 with h1 | h1
      · exact h1
      · rcases List.mem_cons.1 h2 with h2 | h2
        · exact h2.symm
        · have := hb.1 x h1; have := ha.1 y h2; omega
    subst e
    rw [rise_eq ha.2 hb.2 fun z => ?_]
    constructor
    · intro hz
      rcases List.mem_cons.1 ((h z).1 (by simp [hz])) with e | e
      · have := ha.1 z hz; omega
      · exact e
    · intro hz
      rcases List.mem_cons.1 ((h z).2 (by simp [hz])) with e | e
      · have := hb.1 z hz; omega
      · exact e

open Go.Lib in

theorem comp_rise (d : Array Int) (hs : ∀ i j, i ≤ j → j < d.size → d[i]! ≤ d[j]!) : ∀ m, m ≤ d.size → (compactUpTo d m).Pairwise (· < ·) ∧ ∀ x, x ∈ compactUpTo d m ↔ ∃ j, j < m ∧ d[j]! = x
  | 0, _ => by simp [compactUpTo]
  | m + 1, hm => by
    obtain ⟨h1, h2⟩ := comp_rise d hs m (by omega)
    rw [compactUpTo_succ]
    by_cases hk : keeps d m = true
    · rw [if_pos hk]
      refine ⟨List.pairwise_append.2 ⟨h1, by simp, fun x hx y hy => ?_⟩, fun x => ?_⟩
      · simp only [List.mem_cons, List.not_mem_nil, or_false] at hy
        subst hy
        obtain ⟨j, hj, rfl⟩ := (h2 x).1 hx
        have h3 := hs j (m - 1) (by omega) (by omega)
        have h4 := hs (m - 1) m (by omega) (by omega)
        simp only [keeps, decide_eq_true_eq] at hk
        rcases hk with hk | hk
        · omega
        · omega
      · rw [List.mem_append, h2]
        simp only [List.mem_cons, List.not_mem_nil, or_false]
        constructor
        · rintro (⟨j, hj, e⟩ | rfl)
          · exact ⟨j, by omega, e⟩
          · exact ⟨m, by omega, rfl⟩
        · rintro ⟨j, hj, e⟩
          by_cases e2 : j = m
          · subst e2; exact .inr e.symm
          · exact .inl ⟨j, by omega, e⟩
    · rw [if_neg hk, List.append_nil]
      simp only [keeps, decide_eq_true_eq, not_or, ne_eq, Classical.not_not] at hk
      refine ⟨h1, fun x => ?_⟩
      rw [h2]
      constructor
      · rintro ⟨j, hj, e⟩; exact ⟨j, by omega, e⟩
      · rintro ⟨j, hj, e⟩
        by_cases e2 : j = m
        · subst e2; exact ⟨j - 1, by omega, by rw [← hk.2]; exact e⟩
        · exact ⟨j, by omega, e⟩

open Go.Lib in

/-- Sorted and made single, or put in one after the other: the same row. -/
theorem sort_ins (r : List Int) : compact (r.mergeSort fun x y => decide (x ≤ y)) = r.foldl insI [] := by
  have hp : (r.mergeSort fun x y => decide (x ≤ y)).Pairwise (fun x y => decide (x ≤ y) = true) := List.pairwise_mergeSort (fun a b c h1 h2 => by simp at *; omega) (fun a b => by simp; omega) r
  have hmem : ∀ x, x ∈ r.mergeSort (fun x y => decide (x ≤ y)) ↔ x ∈ r := fun x => List.mem_mergeSort
  generalize r.mergeSort (fun x y => decide (x ≤ y)) = z at hp hmem
  obtain ⟨h1, h2⟩ := insI_fold r [] List.Pairwise.nil
  obtain ⟨h3, h4⟩ := comp_rise z.toArray (fun i j hij hj => by
    have hj' : j < z.length := by simpa using hj
    have ei : z.toArray[i]! = z[i]'(by omega) := by rw [getElem!_pos _ i (by simpa using (by omega : i < z.length))]; simp
    have ej : z.toArray[j]! = z[j]'hj' := by rw [getElem!_pos _ j (by simpa using hj')]; simp
    rw [ei, ej]
    by_cases e : i = j
    · subst e; omega
    · have := List.pairwise_iff_getElem.1 hp i j (by omega) hj' (by omega)
      simpa using this) z.length (by simp)
  refine rise_eq h3 h1 fun x => ?_
  rw [show (x ∈ compact z ↔ x ∈ compactUpTo z.toArray z.length) from Iff.rfl, h4, h2, ← hmem]
  simp only [List.not_mem_nil, false_or]
  constructor
  · rintro ⟨j, hj, e⟩
    rw [getElem!_pos _ j (by simpa using hj)] at e
    rw [← e]
    simp
  · intro hx
    obtain ⟨j, hj, e⟩ := List.mem_iff_getElem.1 hx
    exact ⟨j, hj, by rw [getElem!_pos _ j (by simpa using hj)]; simpa using e⟩

end Go.Proofs.YtfnncphkidhbpaaDoor

/- A range over a function whose iterator ranges over a function itself; Places' iterator. -/

namespace Go.Proofs.YtfnncphkidhbpaaDoor

open Go Go.RowKit Go.Shelf
attribute [local go_sem] Oper.semAt_some
set_option maxRecDepth 100000

section

variable {F : Fence} {n : Nat} {P : Program} {α : Type}

/-- An iterator's contract, where what is left behind a stop abides as well. -/
def SeqD (F : Fence) (n : Nat) (P : Program) (gf : Nat) (lb : Array Value) (encs : α → Array Value) (Fx : α → World → Prop) (N : Nat → Prop) (S Sp : List α → Prop) (w : World) : Prop :=
  ∀ (l : Nat) (C : World → Nat → Prop) (J Jx : List α → World → Prop) (W : World), Below w.heap.size w W → FrameC C J → BoundC C J → FrameC C Jx →
    (∀ m pre x W1, J pre W1 → Sp (pre ++ [x]) → Fx x W1 → YieldAt F m P l (encs x) W1 fun e W' =>
      (e = .returned (.bool true) ∧ J (pre ++ [x]) W' ∧ Stp N C W1 W') ∨ (e = .returned (.bool false) ∧ Jx (pre ++ [x]) W' ∧ Stp N C W1 W')) →
    J [] W →
    CallsIn F n P gf (#[.func (.yield l) #[] #[]] ++ lb) W fun e W' => (∃ v, e = .returned v) ∧ ((∃ xs, S xs ∧ J xs W') ∨ (∃ pre, Sp pre ∧ Jx pre W'))

theorem range_lawD {g : Operand} {ps : Array Tmp} {assign body : Code} {Q : Exit → Act → World → Prop} {a : Act} {w : World}
    (hro : F.round = none) (hd : F.depth = none) {gf : Nat} {lb : Array Value} (hg : a.eval g = .func (.func gf) #[] lb) (hFg : F.fn gf) (eg : ∀ args w, (callFunc gf args).run P w = .ok (.enter gf args) w)
    {encs : α → Array Value} {Fx : α → World → Prop} {N : Nat → Prop} {S Sp : List α → Prop} {w0 : World} (hseq : ∀ m, SeqD F m P gf lb encs Fx N S Sp w0) (hb0 : Below w0.heap.size w0 w) (hps : ∀ x, (encs x).size = ps.size) (hN : ∀ g, N g → g < w.heap.size)
    (C : World → Nat → Prop) (I : List α → World → Prop) (Ix : Code → List α → World → Prop) (hI : FrameC C I) (hbd : BoundC C I) (hIx : ∀ c, FrameC C (Ix c))
    (h0 : I [] w) (Ax : List α → α → Act → World → Prop)
    (hAx : ∀ pre x a' W l r o, Ax pre x a' W → w.heap.size ≤ l → W.heap[l]? = some (.loop r) → ¬ C W l → (∀ g, C (W.putObj l o) g → C W g) ∧ Ax pre x a' (W.putObj l o))
    (hassign : ∀ (l m : Nat) (pre : List α) (x : α) (W : World) (K : Act → World → Prop), I pre W → Sp (pre ++ [x]) → Fx x W → (∀ a' W', Stp N C W W' → Ax pre x a' W' → K a' W') →
      assign.wpIn (F.inRound l) m P (Exit.then K (fun _ _ _ => False)) { tmps := (ps.zip (encs x)).foldl (fun t (p, v) => t.setIfInBounds p v) a.tmps, defers := [] } W)
    (hbody : ∀ (l m : Nat) (pre : List α) (x : α) (a' : Act) (W : World), Sp (pre ++ [x]) → Ax pre x a' W → body.wpIn (F.inRound l) m P (bodyC N C I Ix (pre ++ [x]) W) a' W)
    (hdone : ∀ (D : Nat) (xs : List α) (W : World), w.heap.size ≤ D → S xs → I xs W → ¬ C W D → W.heap[D]? = some (.deferred (some [])) → Q .normal { a with defers := { target := .collected D, args := #[] } :: a.defers } W)
    (hstop : ∀ (D : Nat) (c : Code) (pre : List α) (W : World), w.heap.size ≤ D → Sp pre → Ix c pre W → ¬ C W D → W.heap[D]? = some (.deferred (some [])) → c.wpIn F n P Q { a with defers := { target := .collected D, args := #[] } :: a.defers } W) :
    (Code.rangeFunc g ps assign body).wpIn F n P Q a w := by
  refine wpIn_rangeFunc fun fn hfn => ?_
  rw [hro]
  have hdd : ∀ k : Nat, F.depth.isSome = true → 1 ≤ k := fun k h => by rw [hd] at h; cases h
  -- the two blocks that the statement lays: for the rounds' deferred calls (d); the loop's record (l)
  obtain ⟨d, hd0⟩ : ∃ d, d = w.heap.size := ⟨_, rfl⟩
  obtain ⟨rec, hrec⟩ : ∃ rec : LoopState → Option Code → Loop, rec = fun st pe => { state := st, pending := pe, fn, tmps := a.tmps, params := ps, assign, body, defers := w.heap.size } := ⟨_, rfl⟩
  obtain ⟨W1, hW1⟩ : ∃ W1, (w.alloc (.deferred (some []))).alloc (.loop (rec .ready none)) = W1 := ⟨_, rfl⟩
  have hl1 : W1.heap[d + 1]? = some (.loop (rec .ready none)) := by
    rw [← hW1, hd0, show w.heap.size + 1 = (w.alloc (.deferred (some []))).heap.size by simp]; exact World.alloc_heap_new _ _
  have hk1 : W1.heap[d]? = some (.deferred (some [])) := by rw [← hW1, hd0]; exact (Below.heap_alloc _ _ _ (by simp)).trans (World.alloc_heap_new w _)
  have hBw : Below w.heap.size w W1 := by rw [← hW1]; exact ((Below.refl _ w).alloc (Nat.le_refl _) _).alloc (by simp) _
  have hIw := hI [] w W1 h0 ((Keeps.of_below hBw).mono fun g e => hbd [] w h0 g e)
  have hbw : ∀ g, C W1 g → g < w.heap.size := fun g e => hbd [] w h0 g (hIw.2 g e)
  have hNd : ∀ g, N g → g < d := fun g e => by rw [hd0]; exact hN g e
  -- what the rounds speak of, with the two blocks
  let CJ : World → Nat → Prop := fun W g => C W g ∨ g = d + 1 ∨ g = d
  let J : List α → World → Prop := fun pre W => I pre W ∧ (W.heap[d + 1]? = some (.loop (rec .ready none)) ∧ W.heap[d]? = some (.deferred (some []))) ∧ ¬ C W (d + 1) ∧ ¬ C W d
  let Jx : List α → World → Prop := fun pre W => ∃ c, Ix c pre W ∧ (W.heap[d + 1]? = some (.loop (rec .done (some c))) ∧ W.heap[d]? = some (.deferred (some []))) ∧ ¬ C W (d + 1) ∧ ¬ C W d
  have hJF : FrameC CJ J := by
    rintro s A B ⟨h1, ⟨h2, h3⟩, h4, h5⟩ hk
    have hi := hI s A B h1 (hk.mono fun g e => .inl e)
    exact ⟨⟨hi.1, ⟨(hk.block _ (.inr (.inl rfl))).trans h2, (hk.block _ (.inr (.inr rfl))).trans h3⟩, fun e => h4 (hi.2 _ e), fun e => h5 (hi.2 _ e)⟩, fun g e => e.elim (fun e => .inl (hi.2 g e)) .inr⟩
  have hJxF : FrameC CJ Jx := by
    rintro s A B ⟨cd, h1, ⟨h2, h3⟩, h4, h5⟩ hk
    have hi := hIx cd s A B h1 (hk.mono fun g e => .inl e)
    exact ⟨⟨cd, hi.1, ⟨(hk.block _ (.inr (.inl rfl))).trans h2, (hk.block _ (.inr (.inr rfl))).trans h3⟩, fun e => h4 (hi.2 _ e), fun e => h5 (hi.2 _ e)⟩, fun g e => e.elim (fun e => .inl (hi.2 g e)) .inr⟩
  have hJB : BoundC CJ J := by
    rintro s A ⟨h1, ⟨h2, h3⟩, _, _⟩ g (e | rfl | rfl)
    · exact hbd s A h1 g e
    · exact (Array.getElem?_eq_some_iff.1 h2).1
    · exact (Array.getElem?_eq_some_iff.1 h3).1
  refine ⟨d + 1, [{ target := .collected d, args := #[] }], W1, { target := .fn (.func gf) lb, args := #[.func (.yield (d + 1)) #[] #[]] }, W1, gf, #[.func (.yield (d + 1)) #[] #[]] ++ lb, W1, ?_, ?_, ?_, ?_, fun h => hdd _ h, ?_⟩
  · rw [← hW1, hrec, hd0]; exact run_enterLoop_outer _ _ _ _ _
  · simp only [resolve, hg]
    simp [go_sem]
  · intro f' hf'; simp [Target.leads] at hf'; subst hf'; exact hFg
  · simp [invoke, go_sem, eg]
  · refine (hseq _ (d + 1) CJ J Jx W1 (hb0.trans (hBw.mono hb0.size)) hJF hJB hJxF ?_ ⟨hIw.1, ⟨hl1, hk1⟩, fun e => ?_, fun e => ?_⟩).mono ?_
    · -- one round
      rintro m pre x W ⟨hi, ⟨hl, hk⟩, hnl, hnd⟩ hsp hfx
      have hy := run_yield (P := P) (args := encs x) hl (by rw [hrec]; exact hps x)
      rw [hrec] at hy
      refine ⟨fn, _, assign, body, hy, roundIn_of_wpIn hfn (hassign _ m pre x W _ hi hsp hfx ?_)⟩
      clear hy
      intro a' Wa hst hax
      have hlW : d + 1 < W.heap.size := (Array.getElem?_eq_some_iff.1 hl).1
      have hla : Wa.heap[d + 1]? = some (.loop (rec .ready none)) := (hst.keeps.block _ (.inr ⟨hlW, hnl⟩)).trans hl
      have hka : Wa.heap[d]? = some (.deferred (some [])) := (hst.keeps.block _ (.inr ⟨by omega, hnd⟩)).trans hk
      have hnla : ¬ C Wa (d + 1) := fun e => (hst.grows _ e).elim hnl (fun e => by omega)
      have hnda : ¬ C Wa d := fun e => (hst.grows _ e).elim hnd (fun e => by omega)
      have hla1 : d + 1 < Wa.heap.size := (Array.getElem?_eq_some_iff.1 hla).1
      refine ⟨_, run_beginRound hla (by rw [hrec]), ?_⟩
      obtain ⟨hgr, hax2⟩ := hAx pre x a' Wa (d + 1) _ (.loop { rec .ready none with state := .busy }) hax (by omega) hla hnla
      obtain ⟨Wb, hWb⟩ : ∃ Wb, Wa.putObj (d + 1) (.loop { rec .ready none with state := .busy }) = Wb := ⟨_, rfl⟩
      have hlb : Wb.heap[d + 1]? = some (.loop { rec .ready none with state := .busy }) := by rw [← hWb]; exact World.putObj_heap_same hla1
      have hkb : Wb.heap[d]? = some (.deferred (some [])) := by rw [← hWb]; exact (World.putObj_heap_other (by omega)).trans hka
      have hKab : Keeps (· ≠ d + 1) Wa Wb := by rw [← hWb]; exact Keeps.put _ _ _
      rw [hWb] at hgr hax2 ⊢
      have hnlb : ¬ C Wb (d + 1) := fun e => hnla (hgr _ e)
      have hndb : ¬ C Wb d := fun e => hnda (hgr _ e)
      refine wpIn_mono (hbody _ m pre x a' Wb hsp hax2) ?_
      have hszb : Wa.heap.size ≤ Wb.heap.size := hKab.size
      have fin : ∀ (jump : Option Code) (W3 : World), Stp N C Wb W3 →
          (Instr.endRound (d + 1) jump).run P W3 = .ok (.bool jump.isNone) (W3.putObj (d + 1) (.loop (rec (if jump.isNone then .ready else .done) jump))) ∧
          (W3.putObj (d + 1) (.loop (rec (if jump.isNone then .ready else .done) jump))).heap[d + 1]? = some (.loop (rec (if jump.isNone then .ready else .done) jump)) ∧
          (W3.putObj (d + 1) (.loop (rec (if jump.isNone then .ready else .done) jump))).heap[d]? = some (.deferred (some [])) ∧ ¬ C W3 (d + 1) ∧ ¬ C W3 d := fun jump W3 h3 => by
        have hl3 : W3.heap[d + 1]? = some (.loop { rec .ready none with state := .busy }) := (h3.keeps.block _ (.inr ⟨by omega, hnlb⟩)).trans hlb
        have hk3 : W3.heap[d]? = some (.deferred (some [])) := (h3.keeps.block _ (.inr ⟨by omega, hndb⟩)).trans hkb
        have := run_endRound (P := P) jump hl3
        rw [hrec] at this ⊢
        exact ⟨this, World.putObj_heap_same (Array.getElem?_eq_some_iff.1 hl3).1, (World.putObj_heap_other (by omega)).trans hk3, fun e => (h3.grows _ e).elim hnlb (fun e => by omega), fun e => (h3.grows _ e).elim hndb (fun e => by omega)⟩
      have stp4 : ∀ (o : Obj) (W3 : World), Stp N C Wb W3 → (∀ g, C (W3.putObj (d + 1) o) g → C W3 g) → Stp N CJ W (W3.putObj (d + 1) o) := fun o W3 h3 hg4 => by
        refine ⟨?_, ?_⟩
        · refine (hst.keeps.mono fun g hg => ?_).trans ((hKab.mono fun g hg => ?_).trans ((h3.keeps.mono fun g hg => ?_).trans ((Keeps.put W3 (d + 1) _).mono fun g hg => ?_)))
          · exact hg.elim .inl fun hg => .inr ⟨hg.1, fun e => hg.2 (.inl e)⟩
          · exact hg.elim (fun e => by have := hNd _ e; omega) fun hg e => hg.2 (.inr (.inl e))
          · exact hg.elim .inl fun hg => .inr ⟨by have := hst.keeps.size; omega, fun e => (hst.grows g (hgr g e)).elim (fun e => hg.2 (.inl e)) (fun e => by omega)⟩
          · exact hg.elim (fun e => by have := hNd _ e; omega) fun hg e => hg.2 (.inr (.inl e))
        · rintro g (e | e)
          · rcases h3.grows g (hg4 g e) with e | e
            · rcases hst.grows g (hgr g e) with e | e
              · exact .inl (.inl e)
              · exact .inr e
            · exact .inr (Nat.le_trans hst.keeps.size (Nat.le_trans hszb e))
          · exact .inl (.inr e)
      rintro e a3 W3 hp
      cases e with
      | normal =>
        obtain ⟨hi3, h3⟩ := hp
        obtain ⟨hr, hl4, hk4, hn4, hm4⟩ := fin none W3 h3
        obtain ⟨hi4, hg4⟩ := hI _ W3 _ hi3 ((Keeps.put W3 (d + 1) (.loop (rec (if (none : Option Code).isNone then .ready else .done) none))).mono fun g e he => hn4 (he ▸ e))
        exact ⟨_, _, hr, .inl ⟨rfl, ⟨hi4, ⟨hl4, hk4⟩, fun e => hn4 (hg4 _ e), fun e => hm4 (hg4 _ e)⟩, stp4 _ W3 h3 hg4⟩⟩
      | ret =>
        obtain ⟨hi3, h3⟩ := hp
        obtain ⟨hr, hl4, hk4, hn4, hm4⟩ := fin (some .ret) W3 h3
        have hK4 := (Keeps.put W3 (d + 1) (.loop (rec (if (some Code.ret).isNone then .ready else .done) (some .ret)))).mono (T := C W3) fun g e he => hn4 (he ▸ e)
        exact ⟨_, _, hr, .inr ⟨rfl, ⟨.ret, (hIx _ _ W3 _ hi3 hK4).1, ⟨hl4, hk4⟩, fun e => hn4 ((hIx _ _ W3 _ hi3 hK4).2 _ e), fun e => hm4 ((hIx _ _ W3 _ hi3 hK4).2 _ e)⟩, stp4 _ W3 h3 (hIx _ _ W3 _ hi3 hK4).2⟩⟩
      | exit id =>
        obtain ⟨hi3, h3⟩ := hp
        obtain ⟨hr, hl4, hk4, hn4, hm4⟩ := fin (some (.exit id)) W3 h3
        have hK4 := (Keeps.put W3 (d + 1) (.loop (rec (if (some (Code.exit id)).isNone then .ready else .done) (some (.exit id))))).mono (T := C W3) fun g e he => hn4 (he ▸ e)
        exact ⟨_, _, hr, .inr ⟨rfl, ⟨.exit id, (hIx _ _ W3 _ hi3 hK4).1, ⟨hl4, hk4⟩, fun e => hn4 ((hIx _ _ W3 _ hi3 hK4).2 _ e), fun e => hm4 ((hIx _ _ W3 _ hi3 hK4).2 _ e)⟩, stp4 _ W3 h3 (hIx _ _ W3 _ hi3 hK4).2⟩⟩
      | goto t =>
        obtain ⟨hi3, h3⟩ := hp
        obtain ⟨hr, hl4, hk4, hn4, hm4⟩ := fin (some (.goto t)) W3 h3
        have hK4 := (Keeps.put W3 (d + 1) (.loop (rec (if (some (Code.goto t)).isNone then .ready else .done) (some (.goto t))))).mono (T := C W3) fun g e he => hn4 (he ▸ e)
        exact ⟨_, _, hr, .inr ⟨rfl, ⟨.goto t, (hIx _ _ W3 _ hi3 hK4).1, ⟨hl4, hk4⟩, fun e => hn4 ((hIx _ _ W3 _ hi3 hK4).2 _ e), fun e => hm4 ((hIx _ _ W3 _ hi3 hK4).2 _ e)⟩, stp4 _ W3 h3 (hIx _ _ W3 _ hi3 hK4).2⟩⟩
      | panic ch => exact hp.elim
      | outgrown => exact hp.elim
    · have := hbw _ e; omega
    · have := hbw _ e; omega
    · -- behind the iterator
      rintro e W2 ⟨⟨v, rfl⟩, (⟨xs, hS, hi, ⟨hl, hk⟩, hnl, hnd⟩ | ⟨pre, hSp, c, hi, ⟨hl, hk⟩, hnl, hnd⟩)⟩
      · refine ⟨none, _, by have := run_endLoop (P := P) hl (by rw [hrec]; simp); rw [hrec] at this; exact this, hdone d xs _ (by omega) hS ?_ (fun e => hnd ((hI xs W2 _ hi ((Keeps.put W2 (d + 1) _).mono fun g e he => hnl (he ▸ e))).2 _ e)) ((World.putObj_heap_other (by omega)).trans hk)⟩
        exact (hI xs W2 _ hi ((Keeps.put W2 (d + 1) _).mono fun g e he => hnl (he ▸ e))).1
      · refine ⟨some c, _, by have := run_endLoop (P := P) hl (by rw [hrec]; simp); rw [hrec] at this; exact this, hstop d c pre _ (by omega) hSp ?_ (fun e => hnd ((hIx c pre W2 _ hi ((Keeps.put W2 (d + 1) _).mono fun g e he => hnl (he ▸ e))).2 _ e)) ((World.putObj_heap_other (by omega)).trans hk)⟩
        exact (hIx c pre W2 _ hi ((Keeps.put W2 (d + 1) _).mono fun g e he => hnl (he ▸ e))).1

theorem SeqC.toD {gf : Nat} {lb : Array Value} {encs : α → Array Value} {Fx : α → World → Prop} {N : Nat → Prop} {S Sp : List α → Prop} {w : World} (h : SeqC F n P gf lb encs Fx N S Sp w) : SeqD F n P gf lb encs Fx N S Sp w := by
  intro l C J Jx W hW hJ hB _ hY h0
  refine h l C J Jx W hW hJ hB (fun m pre x W1 h1 h2 h3 => ?_) h0
  obtain ⟨fn, tm, asg, bd, h4, h5⟩ := hY m pre x W1 h1 h2 h3
  exact ⟨fn, tm, asg, bd, h4, h5.mono fun e W' hh => hh.imp id fun hh => ⟨hh.1, hh.2.1⟩⟩

end

/-- A yield's contract, in a round of another range. -/
theorem round_round {P : Program} {l f : Nat} {tmps : Array Value} {assign body : Code} {w : World} {R : Ending → World → Prop} (l' m : Nat) {m' : Nat} (h : RoundIn Fence.wide m' P l f tmps assign body w R) : RoundIn (Fence.wide.inRound l') m P l f tmps assign body w R := by
  refine ⟨trivial, fun c cs hr => ?_⟩
  exact h.2 c cs (fun d hd => by cases hd)

/-- What stands at a place that a walk goes over. -/
theorem vis_sub (t : Tm) : ∀ p q u, (q, u) ∈ vis p t → ∃ r, q = p ++ r ∧ subT t r = some u := by
  refine Tm.ind (P := fun t => ∀ p q u, (q, u) ∈ vis p t → ∃ r, q = p ++ r ∧ subT t r = some u) (fun f xs ih p q u h => ?_) t
  have key : ∀ (ys zs : List Tm), xs = zs ++ ys → (q, u) ∈ visL p zs.length ys → ∃ r, q = p ++ r ∧ subT (.node f xs) r = some u := by
    intro ys
    induction ys with
    | nil => intro zs _ h; simp [visL] at h
    | cons y ys ihy =>
      intro zs hz h
      simp only [visL, List.mem_append] at h
      rcases h with h | h
      · have hy : y ∈ xs := by rw [hz]; simp
        obtain ⟨r, rfl, hr⟩ := ih y hy _ _ _ h
        refine ⟨(zs.length : Int) :: r, by simp, ?_⟩
        have hget : xs[zs.length]? = some y := by rw [hz]; simp
        have hlt := (List.getElem?_eq_some_iff.1 hget).1
        rw [sub_step (t := .node f xs) (i := (zs.length : Int)) (u := y) (by omega) (by show _ < ((xs.length : Nat) : Int); omega) (by simpa [Tm.args] using hget)]
        exact hr
      · exact ihy (zs ++ [y]) (by rw [hz]; simp) (by simpa using h)
  simp only [vis, List.mem_cons] at h
  rcases h with h | h
  · injection h with h1 h2
    exact ⟨[], by simp [h1], by simp [subT, h2]⟩
  · exact key xs [] rfl h

theorem key_sub {t : Tm} {pre : List Vis} {x : Vis} (h : (pre ++ [x]).map Vis.key <+: vis [] t) : subT t x.pos = some x.t ∧ x.pos.length + 1 ≤ t.depth ∧ x.t.size ≤ t.size := by
  have hm := pre_mem h
  obtain ⟨r, hr, hs⟩ := vis_sub t [] x.pos x.t hm
  rw [List.nil_append] at hr
  have hmax := maxP_mem hm
  rw [maxP_vis] at hmax
  subst hr
  refine ⟨hs, ?_, sub_size hs⟩
  simp only [Vis.key, List.length_nil] at hmax
  omega

/-- A row that is there stays, whatever is laid besides. -/
theorem args_up {w w' : World} {B B' : Nat} {A : Option Addr} {xs : List Tm} (h : Args w B A xs) (hk : ∀ b o v, w.cell? ⟨b, o, none⟩ = some v → w'.cell? ⟨b, o, none⟩ = some v) (hB : B ≤ B') : Args w' B' A xs := by
  induction h with
  | nil A => exact .nil A
  | row b off xs A' c' hb hlen hi h0 h1 _ ih => exact .row b off xs A' c' (by omega) hlen hi (fun i t e => hk _ _ _ (h0 i t e)) (fun i t e => hk _ _ _ (h1 i t e)) ih

theorem ints_up {w w' : World} {B B' : Nat} {A : Option Addr} {l : List Int} (h : Ints w B A l) (hk : ∀ b o v, w.cell? ⟨b, o, none⟩ = some v → w'.cell? ⟨b, o, none⟩ = some v) (hB : B ≤ B') : Ints w' B' A l :=
  ⟨h.len, h.i64, fun hn => by
    obtain ⟨b, off, hA, hlt, hc⟩ := h.ad hn
    exact ⟨b, off, hA, by omega, fun i x hi => hk _ _ _ (hc i x hi)⟩⟩

theorem cell_put {W : World} {l : Nat} {r : Loop} {o : Obj} (hl : W.heap[l]? = some (.loop r)) : ∀ b i v, W.cell? ⟨b, i, none⟩ = some v → (W.putObj l o).cell? ⟨b, i, none⟩ = some v := by
  intro b i v h
  have hne : b ≠ l := fun e => by
    subst e
    simp only [World.cell?, hl] at h
    cases h
  rw [cell_of_heap (World.putObj_heap_other hne)]
  exact h

/-- A round of Places' own range, ahead of its body. -/
structure PlI (W3 : World) (by' l : Nat) (C : World → Nat → Prop) (J : List Vis → World → Prop) (xs : List Vis) (Wx : World) : Prop where
  ys : ∃ ys : List Vis, ys.map Vis.key = xs.map Vis.key ∧ J ys Wx
  box : Boxed Wx by' 93 (.func (.yield l) #[] #[])
  nc : ¬ C Wx by'
  big : W3.heap.size ≤ Wx.heap.size

theorem pl_frame {W3 : World} {by' l : Nat} {C : World → Nat → Prop} {J : List Vis → World → Prop} (hJ : FrameC C J) : FrameC (fun W g => C W g ∨ g = by') (PlI W3 by' l C J) := by
  rintro s A B ⟨⟨ys, h1, h2⟩, h3, h4, h5⟩ hk
  have h6 := hJ ys A B h2 (hk.mono fun g e => .inl e)
  exact ⟨⟨⟨ys, h1, h6.1⟩, (hk.block _ (.inr rfl)).trans h3, fun e => h4 (h6.2 _ e), Nat.le_trans h5 hk.size⟩, fun g e => e.elim (fun e => .inl (h6.2 g e)) .inr⟩

theorem pl_bound {W3 : World} {by' l : Nat} {C : World → Nat → Prop} {J : List Vis → World → Prop} (hB : BoundC C J) : BoundC (fun W g => C W g ∨ g = by') (PlI W3 by' l C J) := by
  rintro s A ⟨⟨ys, h1, h2⟩, h3, h4, h5⟩ g (e | rfl)
  · exact hB ys A h2 g e
  · exact h3.lt

theorem pl_step {N : Nat → Prop} {C : World → Nat → Prop} {by' : Nat} {Wx w3 w4 : World} (hB : Below Wx.heap.size Wx w3) (hC : ∀ g, C w3 g → C Wx g) (hst : Stp N C w3 w4) (hN : ∀ g, N g → g < Wx.heap.size) : Stp N (fun W g => C W g ∨ g = by') Wx w4 := by
  refine ⟨((Keeps.of_below hB).mono fun g e => e.elim (hN g) (fun e => e.1)).trans (hst.keeps.mono fun g e => e.imp id fun e => ⟨Nat.lt_of_lt_of_le e.1 hB.size, fun h => e.2 (.inl (hC g h))⟩), fun g e => ?_⟩
  rcases e with e | e
  · rcases hst.grows g e with e | e
    · exact .inl (.inl (hC g e))
    · exact .inr (Nat.le_trans hB.size e)
  · exact .inl (.inr e)

/-- What Places hands over: laid since, apart from all that was. -/
structure VisFxL (lo : Nat) (x : Vis) (W : World) : Prop where
  fx : VisFx x W
  plo : ∀ b off, x.A = some ⟨b, off, none⟩ → lo ≤ b
  alo : ArgsN W (fun g => lo ≤ g ∧ g < W.heap.size) x.A' x.t.args

theorem argsN_up {w w' : World} {N M : Nat → Prop} {A : Option Addr} {xs : List Tm} (h : ArgsN w N A xs) (hk : ∀ b o v, w.cell? ⟨b, o, none⟩ = some v → w'.cell? ⟨b, o, none⟩ = some v) (hB : ∀ g, N g → M g) : ArgsN w' M A xs := by
  induction h with
  | nil A => exact .nil A
  | row b off xs A' c' hb hlen hi h0 h1 _ ih => exact .row b off xs A' c' (hB b hb) hlen hi (fun i t e => hk _ _ _ (h0 i t e)) (fun i t e => hk _ _ _ (h1 i t e)) ih

theorem VisFxL.put {lo : Nat} {x : Vis} {W : World} {l : Nat} {r : Loop} {o : Obj} (h : VisFxL lo x W) (hl : W.heap[l]? = some (.loop r)) : VisFxL lo x (W.putObj l o) :=
  ⟨⟨ints_up h.fx.pos (cell_put hl) (by simp), h.fx.i64, args_up h.fx.args (cell_put hl) (by simp)⟩, h.plo, argsN_up h.alo (cell_put hl) (by simp)⟩

theorem VisFxL.on {lo : Nat} {x : Vis} {W W' : World} (h : VisFxL lo x W) (hb : Below W.heap.size W W') : VisFxL lo x W' :=
  ⟨⟨h.fx.pos.on hb, h.fx.i64, h.fx.args.on hb⟩, h.plo, (h.alo.keep fun g e => hb.block g e.2).wide fun _ e => ⟨e.1, Nat.lt_of_lt_of_le e.2 hb.size⟩⟩

/-- A store below leaves it alone. -/
theorem VisFxL.set {lo : Nat} {x : Vis} {W : World} {p : Addr} {v : Value} (h : VisFxL lo x W) (hp : p.block < lo) : VisFxL lo x (W.setCell p v) := by
  have hk : ∀ g, lo ≤ g → (W.setCell p v).heap[g]? = W.heap[g]? := fun _ e => heap_setCell_other _ _ _ _ (by omega)
  have ha := h.alo.keep (w' := W.setCell p v) fun g e => hk g e.1
  refine ⟨⟨⟨h.fx.pos.len, h.fx.pos.i64, fun hn => ?_⟩, h.fx.i64, ha.args fun _ e => by simpa using e.2⟩, h.plo, ha.wide fun _ e => ⟨e.1, by simpa using e.2⟩⟩
  obtain ⟨b, off, e, hb, hc⟩ := h.fx.pos.ad hn
  exact ⟨b, off, e, by simpa using hb, fun i y hy => (cell_of_heap (hk b (h.plo b off e))).trans (hc i y hy)⟩

theorem yield_or {e : Ending} {X Y : Prop} (h : (e = .returned (.bool true) ∧ X) ∨ (e = .returned (.bool false) ∧ Y)) : ∃ b, e = .returned (.bool b) ∧ ((b = true ∧ X) ∨ (b = false ∧ Y)) := by
  rcases h with ⟨h, x⟩ | ⟨h, y⟩
  · exact ⟨true, h, .inl ⟨rfl, x⟩⟩
  · exact ⟨false, h, .inr ⟨rfl, y⟩⟩

set_option maxHeartbeats 2000000 in
theorem places1_seq (m : Nat) (B : Nat) (t : Tm) (A : Option Addr) (c : Nat) (N : Nat → Prop) (w0 : World)
    (hb : w0.heap[B]? = some (.cells #[.int .i64 t.fn, .slice A t.args.length c] 47)) (hf : I64 t.fn) (hA : ArgsN w0 N A t.args) (hN : ∀ g, N g → g < w0.heap.size) (hdp : t.depth ≤ 1099511627776) (hsz : t.size ≤ 4398046511104) :
    SeqD Fence.wide m Tryd.prog 41 #[.pointer (some ⟨B, 0, none⟩)] visEnc (VisFxL w0.heap.size) N (fun xs => xs.map Vis.key = vis [] t) (fun pre => pre.map Vis.key <+: vis [] t) w0 := by
  intro l C J Jx W hW hJ hB hJx hY h0
  have hm : Tryd.prog.follows .mixedOrders = true := by kernel_rfl
  have hBl : B < w0.heap.size := (Array.getElem?_eq_some_iff.1 hb).1
  have hbW : W.heap[B]? = some (.cells #[.int .i64 t.fn, .slice A t.args.length c] 47) := (hW.block B hBl).trans hb
  have hWs := hW.size
  have hAW : ArgsN W N A t.args := hA.keep fun g e => hW.block g (hN g e)
  refine callsIn_of_wp_marks Tryd.func41 rfl trivial ?_ rfl
  simp only [Tryd.ntmps41, List.size_toArray, List.length_cons, List.length_nil, Nat.reduceAdd, Nat.reduceSub, Array.replicate_succ, Array.replicate_zero, List.push_toArray, List.append_toArray, List.nil_append, List.cons_append]
  refine wpIn_wide.2 ?_
  obtain ⟨W2, hW2⟩ : ∃ W2, W.alloc (.cells #[.func (.yield l) #[] #[]] 93) = W2 := ⟨_, rfl⟩
  have hK2 : Keeps (· < W.heap.size) W W2 := by rw [← hW2]; exact Keeps.alloc _ _
  obtain ⟨b0, b1, _, _⟩ := cells_two ((hK2.block B (by show B < W.heap.size; omega)).trans hbW)
  have HW2 := Lib.hid hW2
  clear hW2
  go_upto_region 1 with fail
  rw [HW2.out]
  go_wp2_with (first
    | (go_at_call 42
       refine (walk_any t A c _).mono ?_
       rintro e w1 ⟨rfl, rfl⟩)
    | fail)
  have hz2 : W2.heap.size = W.heap.size + 1 := by rw [← HW2.out]; simp
  obtain ⟨W3, hW3⟩ : ∃ W3, W2.alloc (.cells #[.int .i64 t.fn, .slice A t.args.length c] 47) = W3 := ⟨_, rfl⟩
  have hK3 : Keeps (· < W.heap.size) W W3 := by rw [← hW3]; exact hK2.trans ((Keeps.alloc _ _).mono fun g e => by have e' : g < W.heap.size := e; show g < W2.heap.size; omega)
  have p3 : W3.heap[W2.heap.size]? = some (.cells #[.int .i64 t.fn, .slice A t.args.length c] 47) := by rw [← hW3]; exact heap_alloc_new _ _
  have y3 : Boxed W3 W.heap.size 93 (.func (.yield l) #[] #[]) := by
    have : W2.heap[W.heap.size]? = some (.cells #[.func (.yield l) #[] #[]] 93) := by rw [← HW2.out]; exact heap_alloc_new _ _
    rw [← hW3]
    exact (Below.heap_alloc _ _ _ (by omega)).trans this
  rw [hW3] at ⊢
  clear hW3 HW2 b0 b1
  have hJ3 := hJ [] W W3 h0 (hK3.mono fun g e => hB [] W h0 g e)
  have hnc3 : ¬ C W3 W.heap.size := fun e => Nat.lt_irrefl _ (hB [] W h0 _ (hJ3.2 _ e))
  have hNW : ∀ g, N g → g < W.heap.size := fun g e => Nat.lt_of_lt_of_le (hN g e) hWs
  have hs3 := hK3.size
  refine (wpIn_wide (n := m)).1 ?_
  refine range_lawD (F := Fence.wide) (n := m) (w0 := W3) rfl rfl (gf := 63) (lb := #[.pointer (some ⟨W2.heap.size, 0, none⟩)]) rfl trivial (enters_of Tryd.func63 (by kernel_rfl) rfl)
    (fun m => (walk1_seq Fence.wide rfl trivial trivial rfl m W2.heap.size t A c N W3 p3 hf (hAW.keep fun g e => hK3.block g (hNW g e)) (fun g e => Nat.lt_of_lt_of_le (hNW g e) hs3) hdp).toD)
    (Below.refl _ _) (fun _ => rfl) (fun g e => Nat.lt_of_lt_of_le (hNW g e) hs3)
    (fun Wx g => C Wx g ∨ g = W.heap.size) (PlI W3 W.heap.size l C J) (fun cd xs Wx => cd = .ret ∧ ∃ ys : List Vis, ys.map Vis.key = xs.map Vis.key ∧ Jx ys Wx)
    (pl_frame hJ) (pl_bound hB) ?hIx ⟨⟨[], rfl, hJ3.1⟩, y3, hnc3, Nat.le_refl _⟩
    (fun pre x a' Wx => PlI W3 W.heap.size l C J pre Wx ∧ VisFx x Wx ∧ ∃ Bx, Wx.heap[Bx]? = some (.cells #[.int .i64 x.t.fn, .slice x.A' x.t.args.length x.c'] 47) ∧ a' = { tmps := #[.func (.yield l) #[] #[], .pointer (some ⟨B, 0, none⟩), .pointer (some ⟨W.heap.size, 0, none⟩), .slice x.A x.pos.length x.c, .pointer (some ⟨Bx, 0, none⟩), .agg #[.int .i64 t.fn, .slice A t.args.length c], .func (.func 63) #[] #[.pointer (some ⟨W2.heap.size, 0, none⟩)], .slice x.A x.pos.length x.c, .agg #[.int .i64 x.t.fn, .slice x.A' x.t.args.length x.c'], undef, undef, undef, undef, undef, undef, undef], defers := [] }) ?hAx ?assign ?body ?done ?stop
  case hIx =>
    rintro cd s A' B' ⟨h1, ys, h2, h3⟩ hk
    have h4 := hJx ys A' B' h3 (hk.mono fun g e => .inl e)
    exact ⟨⟨h1, ys, h2, h4.1⟩, fun g e => e.elim (fun e => .inl (h4.2 g e)) .inr⟩
  case hAx =>
    rintro pre x a' Wx l' r o ⟨h1, h2, Bx, hbx, rfl⟩ hl hr hn
    have hK := Keeps.put Wx l' o
    obtain ⟨h5, h6⟩ := pl_frame hJ pre Wx (Wx.putObj l' o) h1 (hK.mono fun g e e' => hn (e' ▸ e))
    exact ⟨h6, h5, ⟨ints_up h2.pos (cell_put hr) (by simp), h2.i64, args_up h2.args (cell_put hr) (by simp)⟩, Bx, put_block hbx hr, rfl⟩
  case assign =>
    rintro l2 m2 pre x Wx K h1 _ hfx hK
    simp only [visEnc]
    gi_wp2
    have hKa := Keeps.alloc Wx (.cells #[.int .i64 x.t.fn, .slice x.A' x.t.args.length x.c'] 47)
    have hbd := pl_bound hB pre Wx h1
    obtain ⟨h5, h6⟩ := pl_frame hJ pre Wx _ h1 (hKa.mono fun g e => hbd g e)
    have hBa : Below Wx.heap.size Wx (Wx.alloc (.cells #[.int .i64 x.t.fn, .slice x.A' x.t.args.length x.c'] 47)) := (Below.refl _ _).alloc (Nat.le_refl _) _
    exact hK _ _ ⟨hKa.mono fun g e => e.elim (fun e => Nat.lt_of_lt_of_le (hNW g e) (Nat.le_trans hs3 h1.big)) (fun e => e.1), fun g e => .inl (h6 g e)⟩ ⟨h5, ⟨hfx.pos.on hBa, hfx.i64, hfx.args.on hBa⟩, Wx.heap.size, heap_alloc_new _ _, by simp⟩
  case body =>
    rintro l2 m2 pre x a' Wx hsp ⟨h1, h2, Bx, hbx, rfl⟩
    obtain ⟨ys, hky, hJy⟩ := h1.ys
    have hcy := Boxed.cell h1.box
    obtain ⟨c0, c1, _, _⟩ := cells_two hbx
    obtain ⟨_, hpl, hxs⟩ := key_sub hsp
    have hId : Hid (Ints Wx.drew Wx.drew.heap.size x.A x.pos) := h2.pos.on (bl_drewN (Below.refl _ _) 1)
    have hAd : Hid (Args Wx.drew Wx.drew.heap.size x.A' x.t.args) := h2.args.drewN 1
    have hx64 := h2.i64
    have hbyl := h1.box.lt
    have hW0x : w0.heap.size ≤ Wx.heap.size := Nat.le_trans hWs (Nat.le_trans hs3 h1.big)
    have hBxl : Bx < Wx.heap.size := (Array.getElem?_eq_some_iff.1 hbx).1
    gi_wp2
    gi_region_with_o (first
      | ((refine ⟨trivial, (fun h => by cases h), ?_⟩); gi_at_call 43; refine (calls_round l2 _ (posClone_any x.pos x.A x.c Wx.drew (by omega) hId.out)).mono ?_; go_must (rintro e w2 ⟨A5, c5, rfl, hI5, hb5, hlo5⟩; have hB5 : Below Wx.heap.size Wx w2 := ⟨hb5.os, hb5.tape, hb5.output, hb5.size, hb5.block⟩; have hcy2 := cell_on hB5 hbyl hcy; have c02 := cell_on hB5 hBxl c0; have c12 := cell_on hB5 hBxl c1; have HI5 := Lib.hid hI5; clear hI5))
      | ((refine ⟨trivial, (fun h => by cases h), ?_⟩); gi_at_call 40; refine (calls_round l2 _ (clone_any x.t (by omega) x.A' x.c' w2 hx64 (hAd.out.on hb5))).mono ?_; go_must (rintro e w3 ⟨A6, c6, rfl, hO6, hb6⟩; have hB6 := bl_step hB5 hb6; have hcy3 := cell_on hB6 hbyl hcy; have HO6 := Lib.hid hO6; clear hO6; have hJ6 := hJ ys Wx w3 hJy ((Keeps.of_below hB6).mono fun g e => hB ys Wx hJy g e); obtain ⟨fnq, tmq, asq, bdq, hyr, hR⟩ := hY 0 ys ⟨x.pos, x.t, A5, c5, A6, c6⟩ w3 hJ6.1 (by rw [List.map_append, hky]; simpa [Vis.key] using hsp) ⟨⟨HI5.out.on hb6, hx64, HO6.out.args (Nat.le_refl _)⟩, fun b off e => Nat.le_trans hW0x (hlo5 b off e), HO6.out.argsN.wide fun g e => ⟨Nat.le_trans (Nat.le_trans hW0x hB5.size) e.1, e.2⟩⟩; simp only [visEnc] at hyr; have HJ6 := Lib.hid hJ6; clear hJ6))
      | ((refine ⟨(fun h => by cases h), (round_round l2 _ hR).mono ?_⟩); go_must (rintro e w4 hor; obtain ⟨bq, rfl, horb⟩ := yield_or hor; clear hor))
      | ((refine ⟨trivial, (fun h => by cases h), (round_round l2 _ hR).mono ?_⟩); go_must (rintro e w4 hor; obtain ⟨bq, rfl, horb⟩ := yield_or hor; clear hor))
      | fail)
    all_goals
      have hkq : (ys ++ [(⟨x.pos, x.t, A5, c5, A6, c6⟩ : Vis)]).map Vis.key = (pre ++ [x]).map Vis.key := by rw [List.map_append, List.map_append, hky]; rfl
      rcases horb with ⟨rfl, hJ7, hst⟩ | ⟨rfl, hJx7, hst⟩
      · have hpl := pl_step (by' := W.heap.size) hB6 HJ6.out.2 hst (fun g e => Nat.lt_of_lt_of_le (hNW g e) (Nat.le_trans hs3 h1.big))
        have hb4 := (hst.keeps.block W.heap.size (.inr ⟨Nat.lt_of_lt_of_le hbyl hB6.size, fun e => h1.nc (HJ6.out.2 _ e)⟩)).trans ((hB6.block _ hbyl).trans h1.box)
        have hn4 : ¬ C w4 W.heap.size := fun e => (hst.grows _ e).elim (fun e => h1.nc (HJ6.out.2 _ e)) (fun e => by have := hB6.size; omega)
        have hbg := Nat.le_trans h1.big (Nat.le_trans hB6.size hst.keeps.size)
        gi_wp2
        exact ⟨⟨⟨_, hkq, hJ7⟩, hb4, hn4, hbg⟩, hpl⟩
      · have hpl := pl_step (by' := W.heap.size) hB6 HJ6.out.2 hst (fun g e => Nat.lt_of_lt_of_le (hNW g e) (Nat.le_trans hs3 h1.big))
        gi_wp2
        exact ⟨⟨rfl, _, hkq, hJx7⟩, hpl⟩
  case done =>
    rintro D xs Wd hD hS ⟨⟨ys, hky, hJy⟩, _, _, _⟩ hnD hK
    have hJd := (hJ ys Wd (Wd.putObj D (.deferred none)) hJy ((Keeps.put Wd D _).mono fun g e e' => hnD (.inl (e' ▸ e)))).1
    have hSy := Lib.hid (hky.trans hS)
    clear hS hky
    go_wp2
    refine ⟨by simp, .inl ⟨_, _, rfl, run_takeDeferred hK, ?_⟩⟩
    exact ⟨.tuple #[], by simp [results, Tryd.results41, go_sem], ⟨_, rfl⟩, .inl ⟨ys, hSy.out, hJd⟩⟩
  case stop =>
    rintro D cd pre Wd hD hpre ⟨rfl, ys, hky, hJy⟩ hnD hK
    have hJd := (hJx ys Wd (Wd.putObj D (.deferred none)) hJy ((Keeps.put Wd D _).mono fun g e e' => hnD (.inl (e' ▸ e)))).1
    have hSy := Lib.hid (show ys.map Vis.key <+: vis [] t by rw [hky]; exact hpre)
    clear hpre hky
    gi_wp2
    refine ⟨by simp, .inl ⟨_, _, rfl, run_takeDeferred hK, ?_⟩⟩
    exact ⟨.tuple #[], by simp [results, Tryd.results41, go_sem], ⟨_, rfl⟩, .inr ⟨ys, hSy.out, hJd⟩⟩

end Go.Proofs.YtfnncphkidhbpaaDoor

/- How often symbols stand in terms, in plain words. -/

namespace Go.Proofs.YtfnncphkidhbpaaDoor

open Go.RowKit
set_option maxRecDepth 100000

mutual
/-- The symbols and variables of a term, as it is read. -/
def hdsT : Tm → List Int
  | .node f xs => f :: hdsL xs
def hdsL : List Tm → List Int
  | [] => []
  | t :: ts => hdsT t ++ hdsL ts
end

theorem hdsT_eq (t : Tm) : hdsT t = t.fn :: hdsL t.args := by cases t; simp only [hdsT, Tm.fn, Tm.args]

mutual
theorem vis_hds : ∀ (p : List Int) (t : Tm), (vis p t).map (fun x => x.2.fn) = hdsT t
  | p, .node f xs => by rw [vis, hdsT, List.map_cons, visL_hds p 0 xs]; rfl
theorem visL_hds : ∀ (p : List Int) (i : Nat) (xs : List Tm), (visL p i xs).map (fun x => x.2.fn) = hdsL xs
  | _, _, [] => by simp only [visL, hdsL, List.map_nil]
  | p, i, t :: ts => by rw [visL, hdsL, List.map_append, vis_hds _ t, visL_hds _ _ ts]
end

theorem hdsL_append : ∀ (xs ys : List Tm), hdsL (xs ++ ys) = hdsL xs ++ hdsL ys
  | [], _ => by simp [hdsL]
  | x :: xs, ys => by rw [List.cons_append, hdsL, hdsL, hdsL_append xs ys, List.append_assoc]

mutual
theorem hdsT_len : ∀ t : Tm, (hdsT t).length = t.size
  | .node f xs => by rw [hdsT, List.length_cons, hdsL_len xs, Tm.size]
theorem hdsL_len : ∀ xs : List Tm, (hdsL xs).length = sizes xs
  | [] => by simp only [hdsL, sizes, List.length_nil]
  | t :: ts => by rw [hdsL, List.length_append, hdsT_len t, hdsL_len ts, sizes]
end

/-- One more of symbol f. -/
def addC (n : List Int) (f : Int) : List Int := if f < 0 then n else n.set f.toNat (n.getD f.toNat 0 + 1)

def cntC (n : List Int) (hs : List Int) : List Int := hs.foldl addC n

theorem addC_len (n : List Int) (f : Int) : (addC n f).length = n.length := by unfold addC; split <;> simp

theorem cntC_len : ∀ (hs n : List Int), (cntC n hs).length = n.length
  | [], _ => rfl
  | f :: hs, n => by rw [show cntC n (f :: hs) = cntC (addC n f) hs from rfl, cntC_len hs, addC_len]

theorem cntC_append (n hs ks : List Int) : cntC n (hs ++ ks) = cntC (cntC n hs) ks := List.foldl_append

theorem cntC_snoc (n hs : List Int) (f : Int) : cntC n (hs ++ [f]) = addC (cntC n hs) f := by rw [cntC_append]; rfl

theorem addC_le {n : List Int} {B : Int} (h : ∀ x ∈ n, 0 ≤ x ∧ x ≤ B) (hB : 0 ≤ B) (f : Int) : ∀ x ∈ addC n f, 0 ≤ x ∧ x ≤ B + 1 := by
  intro x hx
  unfold addC at hx
  split at hx
  · have := h x hx; omega
  · rcases List.mem_or_eq_of_mem_set hx with hx | rfl
    · have := h x hx; omega
    · rw [List.getD_eq_getElem?_getD]
      cases hg : n[f.toNat]? with
      | none => simp only [Option.getD_none]; omega
      | some y => have := h y (List.mem_of_getElem? hg); simp only [Option.getD_some]; omega

theorem cntC_le : ∀ (hs : List Int) {n : List Int} {B : Int}, (∀ x ∈ n, 0 ≤ x ∧ x ≤ B) → 0 ≤ B → ∀ x ∈ cntC n hs, 0 ≤ x ∧ x ≤ B + hs.length
  | [], n, B, h, hB => by intro x hx; have := h x hx; simpa using this
  | f :: hs, n, B, h, hB => by
    intro x hx
    have := cntC_le hs (addC_le h hB f) (by omega) x hx
    simp only [List.length_cons, Int.natCast_add] at *
    omega

end Go.Proofs.YtfnncphkidhbpaaDoor

/- Clauses in memory: rows of rows of literals; the terms of which symbols are counted. -/

namespace Go.Proofs.YtfnncphkidhbpaaDoor

open Go Go.RowKit Go.Shelf
set_option maxRecDepth 100000

/-- A literal, in plain words. -/
structure Lp where
  neg : Bool
  l : Tm
  r : Tm

/-- A literal's cells, at a place. -/
structure LpAt (w : World) (N : Nat → Prop) (b o : Nat) (x : Lp) (A1 : Option Addr) (c1 : Nat) (A2 : Option Addr) (c2 : Nat) : Prop where
  v0 : w.cell? ⟨b, o, none⟩ = some (.bool x.neg)
  v1 : w.cell? ⟨b, o + 1, none⟩ = some (.int .i64 x.l.fn)
  v2 : w.cell? ⟨b, o + 2, none⟩ = some (.slice A1 x.l.args.length c1)
  v3 : w.cell? ⟨b, o + 3, none⟩ = some (.int .i64 x.r.fn)
  v4 : w.cell? ⟨b, o + 4, none⟩ = some (.slice A2 x.r.args.length c2)
  il : I64 x.l.fn
  ir : I64 x.r.fn
  sl : ArgsN w N A1 x.l.args
  sr : ArgsN w N A2 x.r.args

/-- A row of literals. -/
structure LpRow (w : World) (N : Nat → Prop) (A : Option Addr) (l : List Lp) : Prop where
  len : l.length ≤ 9223372036854775807
  ad : 0 < l.length → ∃ b off, A = some ⟨b, off, none⟩ ∧ N b ∧ ∀ (i : Nat) (x : Lp), l[i]? = some x → ∃ A1 c1 A2 c2, LpAt w N b (off + i * 5) x A1 c1 A2 c2

/-- A row of clauses. -/
structure ClRow (w : World) (N : Nat → Prop) (A : Option Addr) (cs : List (List Lp)) : Prop where
  len : cs.length ≤ 9223372036854775807
  ad : 0 < cs.length → ∃ b off, A = some ⟨b, off, none⟩ ∧ N b ∧ ∀ (i : Nat) (l : List Lp), cs[i]? = some l → ∃ A1 c1, w.cell? ⟨b, off + i, none⟩ = some (.slice A1 l.length c1) ∧ LpRow w N A1 l

section

variable {w w' : World} {N M : Nat → Prop} {A : Option Addr}

theorem LpAt.to {b o : Nat} {x : Lp} {A1 A2 : Option Addr} {c1 c2 : Nat} (h : LpAt w N b o x A1 c1 A2 c2) (hb : N b) (hk : ∀ g, N g → w'.heap[g]? = w.heap[g]?) (hm : ∀ g, N g → M g) : LpAt w' M b o x A1 c1 A2 c2 :=
  have k := fun o v (h : w.cell? ⟨b, o, none⟩ = some v) => (cell_of_heap (hk b hb)).trans h
  ⟨k _ _ h.v0, k _ _ h.v1, k _ _ h.v2, k _ _ h.v3, k _ _ h.v4, h.il, h.ir, (h.sl.keep hk).wide hm, (h.sr.keep hk).wide hm⟩

theorem LpRow.to {l : List Lp} (h : LpRow w N A l) (hk : ∀ g, N g → w'.heap[g]? = w.heap[g]?) (hm : ∀ g, N g → M g) : LpRow w' M A l :=
  ⟨h.len, fun hp => by
    obtain ⟨b, off, hA, hb, hc⟩ := h.ad hp
    refine ⟨b, off, hA, hm b hb, fun i x e => ?_⟩
    obtain ⟨A1, c1, A2, c2, h1⟩ := hc i x e
    exact ⟨A1, c1, A2, c2, h1.to hb hk hm⟩⟩

theorem ClRow.to {cs : List (List Lp)} (h : ClRow w N A cs) (hk : ∀ g, N g → w'.heap[g]? = w.heap[g]?) (hm : ∀ g, N g → M g) : ClRow w' M A cs :=
  ⟨h.len, fun hp => by
    obtain ⟨b, off, hA, hb, hc⟩ := h.ad hp
    refine ⟨b, off, hA, hm b hb, fun i l e => ?_⟩
    obtain ⟨A1, c1, h1, h2⟩ := hc i l e
    exact ⟨A1, c1, (cell_of_heap (hk b hb)).trans h1, h2.to hk hm⟩⟩

theorem ClRow.on {cs : List (List Lp)} (h : ClRow w (· < w.heap.size) A cs) (hb : Below w.heap.size w w') : ClRow w' (· < w'.heap.size) A cs := h.to (fun g e => hb.block g e) fun _ e => Nat.lt_of_lt_of_le e hb.size

theorem LpRow.get {l : List Lp} (h : LpRow w N A l) {i : Nat} {x : Lp} (e : l[i]? = some x) : ∃ b off A1 c1 A2 c2, A = some ⟨b, off, none⟩ ∧ N b ∧ LpAt w N b (off + i * 5) x A1 c1 A2 c2 := by
  have hlt := (List.getElem?_eq_some_iff.1 e).1
  obtain ⟨b, off, hA, hb, hc⟩ := h.ad (by omega)
  obtain ⟨A1, c1, A2, c2, h⟩ := hc i x e
  exact ⟨b, off, A1, c1, A2, c2, hA, hb, h⟩

theorem ClRow.get {cs : List (List Lp)} (h : ClRow w N A cs) {i : Nat} {l : List Lp} (e : cs[i]? = some l) : ∃ b off A1 c1, A = some ⟨b, off, none⟩ ∧ N b ∧ w.cell? ⟨b, off + i, none⟩ = some (.slice A1 l.length c1) ∧ LpRow w N A1 l := by
  have hlt := (List.getElem?_eq_some_iff.1 e).1
  obtain ⟨b, off, hA, hb, hc⟩ := h.ad (by omega)
  obtain ⟨A1, c1, h1, h2⟩ := hc i l e
  exact ⟨b, off, A1, c1, hA, hb, h1, h2⟩

end

/-- Is a term $true? -/
def trueB (t : Tm) : Bool := decide (t.fn = 0 ∧ t.args.length = 0)

/-- The terms that are counted. -/
def itm (x : Lp) : List Tm := if trueB x.r = true then [x.l] else [x.l, x.r]

def itmL (l : List Lp) : List Tm := l.flatMap itm

def itms (cs : List (List Lp)) : List Tm := cs.flatMap itmL

theorem itm_yes {x : Lp} (h : trueB x.r = true) : itm x = [x.l] := if_pos h

theorem itm_no {x : Lp} (h : trueB x.r = false) : itm x = [x.l, x.r] := if_neg (by rw [h]; decide)

theorem itmL_take {l : List Lp} {k : Nat} {x : Lp} (h : l[k]? = some x) : itmL (l.take (k + 1)) = itmL (l.take k) ++ itm x := by
  unfold itmL; rw [List.take_add_one, h, List.flatMap_append]; simp

theorem itms_take {cs : List (List Lp)} {k : Nat} {l : List Lp} (h : cs[k]? = some l) : itms (cs.take (k + 1)) = itms (cs.take k) ++ itmL l := by
  unfold itms; rw [List.take_add_one, h, List.flatMap_append]; simp

theorem itmL_pre (l : List Lp) (k : Nat) : itmL (l.take k) <+: itmL l := ⟨itmL (l.drop k), by unfold itmL; rw [← List.flatMap_append, List.take_append_drop]⟩

theorem itms_pre (cs : List (List Lp)) (k : Nat) : itms (cs.take k) <+: itms cs := ⟨itms (cs.drop k), by unfold itms; rw [← List.flatMap_append, List.take_append_drop]⟩

theorem itms_mid {cs : List (List Lp)} {l : List Lp} {x : Lp} {i j : Nat} (hi : cs[i]? = some l) (hj : l[j]? = some x) : itms (cs.take i) ++ itmL (l.take j) ++ itm x <+: itms cs := by
  rw [List.append_assoc, ← itmL_take hj]
  refine List.IsPrefix.trans ?_ (itms_pre cs (i + 1))
  rw [itms_take hi]
  exact (List.prefix_append_right_inj _).2 (itmL_pre l (j + 1))

/-- A term that is handed over. -/
structure TmA where
  t : Tm
  A : Option Addr
  c : Nat

def tmEnc (x : TmA) : Array Value := #[.agg #[.int .i64 x.t.fn, .slice x.A x.t.args.length x.c]]

/-- Where it lies. -/
def TmFx (N : Nat → Prop) (x : TmA) (W : World) : Prop := I64 x.t.fn ∧ ArgsN W N x.A x.t.args

end Go.Proofs.YtfnncphkidhbpaaDoor

/- The document's own answers: low, Small. -/

namespace Go.Proofs.YtfnncphkidhbpaaDoor

open Go.RowKit
set_option maxRecDepth 100000

mutual
def lowT : Tm → Bool
  | .node f xs => if f < 0 then decide (-48 ≤ f ∧ xs.length = 0) else lowL xs
def lowL : List Tm → Bool
  | [] => true
  | t :: ts => lowT t && lowL ts
end

theorem low_drop {xs : List Tm} {k : Nat} {u : Tm} (h : xs[k]? = some u) : lowL (xs.drop k) = (lowT u && lowL (xs.drop (k + 1))) := by
  have hlt := (List.getElem?_eq_some_iff.1 h).1
  rw [List.drop_eq_getElem_cons hlt]
  rw [List.getElem?_eq_getElem hlt] at h
  injection h with h
  rw [h]
  simp only [lowL]

def smallT (t : Tm) : Bool := decide (t.size ≤ 300) && decide (t.depth ≤ 30) && lowT t

end Go.Proofs.YtfnncphkidhbpaaDoor

/- The document's own answers: over, Check (of a term). -/

namespace Go.Proofs.YtfnncphkidhbpaaDoor

open Go.RowKit
set_option maxRecDepth 100000

mutual
def overT (l : List Sm) : Tm → Bool → Bool
  | .node f xs, top => if f < 0 then true else match l[f.toNat]? with
    | none => false
    | some s => if s.arity ≠ xs.length ∨ (s.pred = true ∧ top = false) then false else overL l xs
def overL (l : List Sm) : List Tm → Bool
  | [] => true
  | t :: ts => overT l t false && overL l ts
end

theorem over_drop {l : List Sm} {xs : List Tm} {k : Nat} {u : Tm} (h : xs[k]? = some u) : overL l (xs.drop k) = (overT l u false && overL l (xs.drop (k + 1))) := by
  have hlt := (List.getElem?_eq_some_iff.1 h).1
  rw [List.drop_eq_getElem_cons hlt]
  rw [List.getElem?_eq_getElem hlt] at h
  injection h with h
  rw [h]
  simp only [overL]

section

variable {l : List Sm} {f : Int} {xs : List Tm} {top : Bool} {s : Sm}

theorem over_var (hf : f < 0) : overT l (.node f xs) top = true := by simp only [overT, if_pos hf]

theorem over_out (hf : ¬ f < 0) (h : (l.length : Int) ≤ f) : overT l (.node f xs) top = false := by
  simp only [overT, if_neg hf, List.getElem?_eq_none (show l.length ≤ f.toNat by omega)]

theorem over_bad (hf : ¬ f < 0) (hs : l[f.toNat]? = some s) (hb : s.arity ≠ xs.length ∨ (s.pred = true ∧ top = false)) : overT l (.node f xs) top = false := by
  simp only [overT, if_neg hf, hs, if_pos hb]

theorem over_in (hf : ¬ f < 0) (hs : l[f.toNat]? = some s) (hb : ¬ (s.arity ≠ xs.length ∨ (s.pred = true ∧ top = false))) : overT l (.node f xs) top = overL l xs := by
  simp only [overT, if_neg hf, hs, if_neg hb]

end

/-- May the term be over the signature? -/
def chkP (l : List Sm) (t : Tm) : Int := if checkI l = 0 then (if smallT t = true then (if overT l t true = true then 0 else 2) else 2) else 2

end Go.Proofs.YtfnncphkidhbpaaDoor

/- Which terms may be, as the program asks it, and as the document does: plain. -/

namespace Go.Proofs.YtfnncphkidhbpaaDoor

open Go.RowKit
set_option maxRecDepth 100000

/-- What is left of the room tells how large a term is. -/
theorem fitp_size (l : List Sm) (t : Tm) : ∀ d r, (fitT l t d r).1 = true → (fitT l t d r).2 = r - t.size ∧ (t.size : Int) ≤ r := by
  refine Tm.ind (P := fun t => ∀ d r, (fitT l t d r).1 = true → (fitT l t d r).2 = r - t.size ∧ (t.size : Int) ≤ r) (fun f xs ih d r h => ?_) t
  have key : ∀ ys : List Tm, (∀ t ∈ ys, t ∈ xs) → ∀ d r, 0 ≤ r → (fitL l ys d r).1 = true → (fitL l ys d r).2 = r - sizes ys ∧ (sizes ys : Int) ≤ r := by
    intro ys
    induction ys with
    | nil => intro _ d r hr h; simp [fitL, sizes]; exact hr
    | cons y ys ihy =>
      intro hm d r hr h
      cases hb : (fitT l y d r).1 with
      | false => rw [fitL_no hb] at h; cases h
      | true =>
        rw [fitL_yes hb] at h ⊢
        have e1 := ih y (hm y (by simp)) d r hb
        have e2 := ihy (fun t ht => hm t (by simp [ht])) d _ ((fit_le l y d r hr).2.2 hb) h
        simp only [sizes]
        omega
  by_cases h1 : r - 1 < 0 ∨ 30 < d
  · rw [fit_room h1] at h; cases h
  · by_cases hf : f < 0
    · rw [fit_var h1 hf] at h ⊢
      have := of_decide_eq_true h
      have hx : xs = [] := List.eq_nil_of_length_eq_zero this.2
      subst hx
      simp only [Tm.size, sizes]
      omega
    · cases hs : l[f.toNat]? with
      | none => rw [fit_out h1 hf (by have := List.getElem?_eq_none_iff.1 hs; omega)] at h; cases h
      | some s =>
        by_cases hb : s.arity ≠ xs.length ∨ (s.pred = true ∧ 1 < d)
        · rw [fit_bad h1 hf hs hb] at h; cases h
        · rw [fit_in h1 hf hs hb] at h ⊢
          have := key xs (fun _ h => h) (d + 1) (r - 1) (by omega) h
          simp only [Tm.size]
          omega

theorem fitp_iff (l : List Sm) (t : Tm) : ∀ d r, 1 ≤ d → ((fitT l t d r).1 = true ↔ ((t.size : Int) ≤ r ∧ (t.depth : Int) + d ≤ 31 ∧ lowT t = true ∧ overT l t (decide (d ≤ 1)) = true)) := by
  refine Tm.ind (P := fun t => ∀ d r, 1 ≤ d → ((fitT l t d r).1 = true ↔ ((t.size : Int) ≤ r ∧ (t.depth : Int) + d ≤ 31 ∧ lowT t = true ∧ overT l t (decide (d ≤ 1)) = true))) (fun f xs ih d r hd => ?_) t
  have key : ∀ ys : List Tm, (∀ t ∈ ys, t ∈ xs) → ∀ d r, 2 ≤ d → d ≤ 31 → 0 ≤ r → ((fitL l ys d r).1 = true ↔ ((sizes ys : Int) ≤ r ∧ (depths ys : Int) + d ≤ 31 ∧ lowL ys = true ∧ overL l ys = true)) := by
    intro ys
    induction ys with
    | nil => intro _ d r h1 h2 h3; simp [fitL, sizes, depths, lowL, overL]; omega
    | cons y ys ihy =>
      intro hm d r h1 h2 h3
      have e1 := ih y (hm y (by simp)) d r (by omega)
      rw [show decide (d ≤ 1) = false by simp; omega] at e1
      simp only [sizes, depths, lowL, overL, Bool.and_eq_true]
      cases hb : (fitT l y d r).1 with
      | true =>
        rw [fitL_yes hb]
        obtain ⟨a1, a2, a3, a4⟩ := e1.1 hb
        have hs := fitp_size l y d r hb
        rw [ihy (fun t ht => hm t (by simp [ht])) d _ h1 h2 ((fit_le l y d r h3).2.2 hb), hs.1]
        constructor
        · rintro ⟨b1, b2, b3, b4⟩; exact ⟨by omega, by omega, ⟨a3, b3⟩, a4, b4⟩
        · rintro ⟨b1, b2, ⟨_, b3⟩, _, b4⟩; exact ⟨by omega, by omega, b3, b4⟩
      | false =>
        rw [fitL_no hb]
        constructor
        · intro h; cases h
        · rintro ⟨b1, b2, ⟨b3, _⟩, b4, _⟩
          have := e1.2 ⟨by omega, by omega, b3, b4⟩
          rw [hb] at this; cases this
  simp only [Tm.size, Tm.depth]
  by_cases h1 : r - 1 < 0 ∨ 30 < d
  · rw [fit_room h1]
    constructor
    · intro h; cases h
    · rintro ⟨b1, b2, _, _⟩; omega
  · by_cases hf : f < 0
    · rw [fit_var h1 hf]
      simp only [lowT, overT, if_pos hf, decide_eq_true_eq]
      constructor
      · rintro ⟨b1, b2⟩
        have hx : xs = [] := List.eq_nil_of_length_eq_zero b2
        subst hx
        simp [sizes, depths]; omega
      · rintro ⟨_, _, ⟨b1, b2⟩, _⟩; exact ⟨by omega, b2⟩
    · simp only [lowT, overT, if_neg hf]
      cases hs : l[f.toNat]? with
      | none =>
        rw [fit_out h1 hf (by have := List.getElem?_eq_none_iff.1 hs; omega)]
        simp
      | some s =>
        by_cases hb : s.arity ≠ xs.length ∨ (s.pred = true ∧ 1 < d)
        · rw [fit_bad h1 hf hs hb]
          have hb' : s.arity ≠ xs.length ∨ (s.pred = true ∧ decide (d ≤ 1) = false) := hb.imp id fun h => ⟨h.1, by simp; omega⟩
          simp only [if_pos hb']
          simp
        · have hb' : ¬ (s.arity ≠ xs.length ∨ (s.pred = true ∧ decide (d ≤ 1) = false)) := fun h => hb (h.imp id fun h => ⟨h.1, by have := h.2; simp at this; omega⟩)
          rw [fit_in h1 hf hs hb, key xs (fun _ h => h) (d + 1) (r - 1) (by omega) (by omega) (by omega)]
          simp only [if_neg hb']
          constructor
          · rintro ⟨b1, b2, b3, b4⟩; exact ⟨by omega, by omega, b3, b4⟩
          · rintro ⟨b1, b2, b3, b4⟩; exact ⟨by omega, by omega, b3, b4⟩

end Go.Proofs.YtfnncphkidhbpaaDoor

/- slices.Index, Equal, Clone at symbols; Find, Same, New. -/

namespace Go.Proofs.YtfnncphkidhbpaaDoor

open Go.RowKit

def findN (l : List Sm) (x : Sm) : Int := if atI l x < 0 then 0 else atI l x

def fndSB (l : List Sm) (x : Sm) : Bool := decide (0 ≤ atI l x)

theorem ret_ib {k : IntKind} {a a' : Int} {b b' : Bool} (h : a = a') (h' : b = b') : Ending.returned (.tuple #[.int k a, .bool b]) = .returned (.tuple #[.int k a', .bool b']) := by rw [h, h']

theorem syms_one (w : World) (x : Sm) (hx : x.Ok) (t : TypeId) : Syms (w.alloc (.cells #[.string x.name, .int .i64 x.arity, .bool x.pred] t)) (w.heap.size + 1) (some ⟨w.heap.size, 0, none⟩) 1 [x] := by
  refine ⟨rfl, fun y hy => ?_, fun _ => ⟨w.heap.size, 0, rfl, by omega, fun i y hy => ?_⟩⟩
  · rw [List.mem_singleton] at hy; subst hy; exact hx
  · have hi : i = 0 := by
      have := (List.getElem?_eq_some_iff.1 hy).1
      simp at this; exact this
    subst hi
    simp at hy
    subst hy
    refine ⟨?_, ?_, ?_⟩ <;> go_simp

def tru (w : World) : Prop := w.cell? ⟨0, 0, none⟩ = some (.string truthSm.name) ∧ w.cell? ⟨0, 1, none⟩ = some (.int .i64 truthSm.arity) ∧ w.cell? ⟨0, 2, none⟩ = some (.bool truthSm.pred) ∧ 0 < w.heap.size

theorem tru_on {B : Nat} {w w' : World} (h : tru w) (hb : Below B w w') (hB : 0 < B) : tru w' := by
  obtain ⟨h1, h2, h3, h4⟩ := h
  exact ⟨cell_on hb hB h1, cell_on hb hB h2, cell_on hb hB h3, Nat.lt_of_lt_of_le h4 hb.size⟩

theorem tru_below {w w' : World} (h : tru w) (hb : Below w.heap.size w w') : tru w' := tru_on h hb h.2.2.2

end Go.Proofs.YtfnncphkidhbpaaDoor

