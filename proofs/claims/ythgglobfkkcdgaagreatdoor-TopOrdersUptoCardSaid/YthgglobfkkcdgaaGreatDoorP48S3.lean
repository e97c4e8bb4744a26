import Derived.Test.YthgglobfkkcdgaaGreatDoorP48S2
import Derived.Test.YthgglobfkkcdgaaGreatDoorP48S1
import Derived.Deep.RegionHeld3
namespace Go.Proofs.YthgglobfkkcdgaaGreatDoor
open Go.RowKit
set_option maxRecDepth 100000
def overI (p : List Int) (i k : Nat) : Bool := decide (k ≠ i) && decide (p.getD i 0 < p.getD k 0)
def highB (p : List Int) (i : Nat) : Bool := (List.range p.length).all fun k => !overI p i k
theorem highB_no {p : List Int} {i k : Nat} (hk : k < p.length) (h : overI p i k = true) : highB p i = false := by
  unfold highB
  rw [List.all_eq_false]
  exact ⟨k, List.mem_range.2 hk, by rw [h]; decide⟩
theorem highB_yes {p : List Int} {i : Nat} (h : ∀ j, j < p.length → overI p i j = false) : highB p i = true := by
  unfold highB
  rw [List.all_eq_true]
  intro j hj
  rw [h j (List.mem_range.1 hj)]; rfl
theorem getD_of {p : List Int} {i : Nat} {x : Int} (h : p[i]? = some x) : p.getD i 0 = x := by rw [List.getD_eq_getElem?_getD, h]; rfl
def badR (p : List Int) (i : Nat) : Bool := (decide (0 < i) && decide (p.getD i 0 ≤ p.getD 0 0)) || (List.range i).any fun k => decide (p.getD i 0 = p.getD k 0)
def rankB (p : List Int) (n : Nat) : Bool := decide (p.length = n) && (List.range n).all fun i => !badR p i
theorem badR_same {p : List Int} {i k : Nat} (hk : k < i) (h : p.getD i 0 = p.getD k 0) : badR p i = true := by
  unfold badR
  rw [Bool.or_eq_true]; right
  rw [List.any_eq_true]
  exact ⟨k, List.mem_range.2 hk, decide_eq_true h⟩
theorem badR_first {p : List Int} {i : Nat} (hk : 0 < i) (h : p.getD i 0 ≤ p.getD 0 0) : badR p i = true := by
  unfold badR
  rw [Bool.or_eq_true]; left
  simp [hk]; simpa using h
theorem badR_no {p : List Int} {i : Nat} (h0 : ¬ (0 < i ∧ p.getD i 0 ≤ p.getD 0 0)) (h : ∀ j, j < i → decide (p.getD i 0 = p.getD j 0) = false) : badR p i = false := by
  unfold badR
  rw [Bool.or_eq_false_iff, List.any_eq_false]
  refine ⟨?_, fun j hj => by rw [h j (List.mem_range.1 hj)]; decide⟩
  rw [← Bool.decide_and]
  exact decide_eq_false h0
end Go.Proofs.YthgglobfkkcdgaaGreatDoor
namespace Go.Proofs.YthgglobfkkcdgaaGreatDoor
open Go.RowKit
def errAt (l : List Sm) (i : Nat) : Int :=
  match l[i]? with
  | none => 0
  | some x => if oneI x.name x.arity ≠ 0 then oneI x.name x.arity else if atI l x < i then 113 else 0
def scanI (l : List Sm) : Int := match (List.range l.length).find? (fun j => decide (1 ≤ j) && !decide (errAt l j = 0)) with
  | some j => errAt l j
  | none => 0
def checkI (l : List Sm) : Int := if 96 < l.length then 3 else if l[0]? ≠ some truthSm then 110 else scanI l
theorem scan_hit {l : List Sm} {k : Nat} (hk : 1 ≤ k) (hl : k < l.length) (hv : errAt l k ≠ 0) (h : ∀ j, 1 ≤ j → j < k → errAt l j = 0) : scanI l = errAt l k := by
  have : (List.range l.length).find? (fun j => decide (1 ≤ j) && !decide (errAt l j = 0)) = some k := by
    rw [List.find?_range_eq_some]
    refine ⟨by simp [hk, hv], List.mem_range.2 hl, fun j hj => ?_⟩
    by_cases h1 : 1 ≤ j
    · simp [h j h1 hj]
    · simp [h1]
  simp [scanI, this]
theorem scan_miss {l : List Sm} (h : ∀ j, 1 ≤ j → j < l.length → errAt l j = 0) : scanI l = 0 := by
  have : (List.range l.length).find? (fun j => decide (1 ≤ j) && !decide (errAt l j = 0)) = none := by
    rw [List.find?_eq_none]
    intro j hj
    by_cases h1 : 1 ≤ j
    · simp [h j h1 (List.mem_range.1 hj)]
    · simp [h1]
  simp [scanI, this]
theorem err_one {l : List Sm} {k : Nat} {y : Sm} (hy : l[k]? = some y) (h : oneI y.name y.arity ≠ 0) : errAt l k = oneI y.name y.arity := by simp [errAt, hy, h]
theorem err_same {l : List Sm} {k : Nat} {y : Sm} (hy : l[k]? = some y) (h : oneI y.name y.arity = 0) (ha : atI l y < k) : errAt l k = 113 := by simp [errAt, hy, h, ha]
theorem err_ok {l : List Sm} {k : Nat} {y : Sm} (hy : l[k]? = some y) (h : oneI y.name y.arity = 0) (ha : ¬ atI l y < k) : errAt l k = 0 := by simp [errAt, hy, h, ha]
theorem scan_at {l : List Sm} {k : Nat} {v : Int} (hk : 1 ≤ k) (h : ∀ j, 1 ≤ j → j < k → errAt l j = 0) (he : errAt l k = v) (hv : v ≠ 0) : scanI l = v := by
  refine (scan_hit hk ?_ (by rw [he]; exact hv) h).trans he
  rcases Nat.lt_or_ge k l.length with h1 | h1
  · exact h1
  · exact absurd (by simpa [errAt, List.getElem?_eq_none h1] using he.symm) hv
theorem err_before {l : List Sm} {k : Nat} (h : ∀ j, 1 ≤ j → j < k → errAt l j = 0) (hk : errAt l k = 0) : ∀ j, 1 ≤ j → j < k + 1 → errAt l j = 0 := by
  intro j h1 hlt
  by_cases e : j = k
  · subst e; exact hk
  · exact h j h1 (by omega)
set_option maxHeartbeats 400000 in
theorem refCheck_any (A : Option Addr) (n c : Nat) (l : List Sm) (w : World) (h : Syms w w.heap.size A n l) (hn : n * 32 ≤ 140737488351232) :
    Calls Tryz.prog 37 #[.agg #[.slice A n c]] w fun e w' => e = .returned (.int .i64 (checkI l)) ∧ Below w.heap.size w w' := by
  have hneq := run_neq_sym
  by_cases h96 : 96 < n
  · have hf := Lib.hid (show checkI l = 3 by simp only [checkI]; rw [if_pos (by rw [h.len]; exact h96)])
    go_enter Tryz.func37, Tryz.ntmps37
    go_wp2
    go_ret
    exact ⟨ret_int hf.out.symm, (Below.refl _ _).alloc (Nat.le_refl _) _⟩
  · rcases Nat.eq_zero_or_pos n with h0 | h0
    · have hf := Lib.hid (show checkI l = 110 by
        have : l = [] := List.eq_nil_of_length_eq_zero (h.len.trans h0)
        subst this; rfl)
      subst h0
      go_enter Tryz.func37, Tryz.ntmps37
      go_wp2
      go_quiet (fail)
      go_wp2
      go_ret
      exact ⟨ret_int hf.out.symm, bl_drewN ((Below.refl _ _).alloc (Nat.le_refl _) _) _⟩
    · have h0' : (((n : Nat) : Int) == 0) = false := beq_eq_false_iff_ne.2 (by omega)
      go_enter Tryz.func37, Tryz.ntmps37
      go_wp2
      obtain ⟨W, hW⟩ : ∃ W, w.alloc (.cells #[.slice A n c] 24) = W := ⟨_, rfl⟩
      have hWB : Below w.heap.size w W := by rw [← hW]; exact (Below.refl _ _).alloc (Nat.le_refl _) _
      have hz : w.heap.size + 1 = W.heap.size := by rw [← hW]; clear hW; simp
      have x1 : W.cell? ⟨w.heap.size, 0, none⟩ = some (.slice A n c) := by rw [← hW]; clear hW; go_simp
      rw [hW]
      have g := h.below hWB
      have hok := Lib.hid h.ok
      clear hW h
      have hlt0 : w.heap.size < W.heap.size := by omega
      clear hz
      obtain ⟨b, off, rfl, hb0, hc⟩ := g.ad h0
      have hb : b < W.heap.size := Nat.lt_trans hb0 hlt0
      obtain ⟨y, hy⟩ : ∃ y, l[0]? = some y := ⟨_, List.getElem?_eq_getElem (by rw [g.len]; exact h0)⟩
      obtain ⟨c1, c2, c3⟩ := hc 0 y hy
      simp only [Nat.zero_mul, Nat.add_zero] at c1 c2 c3
      have Hy := Lib.hid hy
      clear hy
      have Hc := Lib.hid hc
      clear hc
      by_cases hyt : y = truthSm
      · have hs := smB_true hyt
        have hf := Lib.hid (show checkI l = scanI l by
          simp only [checkI]; rw [if_neg (by rw [g.len]; exact h96), if_neg (by rw [Hy.out, hyt]; simp)])
        clear hyt
        go_region_held3 (fun w' => w'.cell? ⟨w.heap.size, 0, none⟩ = some (.slice (some ⟨b, off, none⟩) n c) ∧ w'.cell? ⟨b, off, none⟩ = some (.string y.name) ∧ w'.cell? ⟨b, off + 1, none⟩ = some (.int .i64 y.arity) ∧ w'.cell? ⟨b, off + 2, none⟩ = some (.bool y.pred) ∧ Below W.heap.size W w')
          (first | (go_keep; done) | exact ⟨x1, c1, c2, c3, (Below.refl _ _).drew⟩ | (have hB' : Below W.heap.size W w' := ⟨hbT.os, hbT.tape, hbT.output, hbT.size, hbT.block⟩; exact ⟨cell_on hB' hlt0 x1, cell_on hB' hb c1, cell_on hB' hb c2, cell_on hB' hb c3, hB'⟩))
          (first | (go_at_call 67; refine (Truth_any _).mono ?_; rintro e w' ⟨rfl, hbT⟩))
        have hB1 : Below W.heap.size W w' := ⟨hbT.os, hbT.tape, hbT.output, hbT.size, hbT.block⟩
        clear hs c1 c2 c3 Hy hbT
        go_wp2
        go_loopw [3] (fun i wr => ∃ k : Nat, 1 ≤ k ∧ k ≤ n ∧ i = .int .i64 k ∧ Below W.heap.size W wr ∧ Hid (∀ j, 1 ≤ j → j < k → errAt l j = 0)) (fun i _ => n - (intOf i).toNat)
        case atStart => exact ⟨1, Nat.le_refl _, h0, rfl, hB1, fun j h1 h2 => by omega⟩
        case round =>
          clear hB1
          obtain ⟨k, hk1, hk, rfl, hBr, HA⟩ := hrel
          have z1 := cell_on hBr hlt0 x1
          by_cases hlt : k < n
          · obtain ⟨y, hy⟩ : ∃ y, l[k]? = some y := ⟨_, List.getElem?_eq_getElem (by rw [g.len]; exact hlt)⟩
            obtain ⟨c1, c2, c3⟩ := Hc.out k y hy
            have d1 := cell_on hBr hb c1
            have d2 := cell_on hBr hb c2
            have d3 := cell_on hBr hb c3
            have hyok : y.Ok := hok.out y (List.mem_of_getElem? hy)
            have Hy := Lib.hid hy
            clear hy
            by_cases he : oneI y.name y.arity = 0
            · have he' : (oneI y.name y.arity != 0) = false := by simp [he]
              have He := Lib.hid he
              clear he
              go_wp2_with (first | (go_at_call 68; refine (One_any y _ hyok).mono ?_; rintro e w1 ⟨rfl, hb1⟩) | fail)
              have hB2 := hBr.trans (hb1.mono hBr.size)
              clear d1 d2 d3 z1
              have z1 := cell_on hB2 hlt0 x1
              have d1 := cell_on hB2 hb c1
              have d2 := cell_on hB2 hb c2
              have d3 := cell_on hB2 hb c3
              have hbw : b < w1.heap.size := Nat.lt_of_lt_of_le hb hB2.size
              have hlt1 : w.heap.size < w1.heap.size := Nat.lt_of_lt_of_le hlt0 hB2.size
              have g1 : Syms w1 w.heap.size (some ⟨b, off, none⟩) n l := g.below (hB2.mono (Nat.le_of_lt hlt0))
              have h64 : n ≤ 9223372036854775807 := by omega
              have G1 := Lib.hid (And.intro g1 h64)
              clear g1 h64
              by_cases ha : atI l y < k
              · go_region_held3 (fun w' => w'.cell? ⟨w.heap.size, 0, none⟩ = some (.slice (some ⟨b, off, none⟩) n c) ∧ w'.cell? ⟨b, off + k * 3, none⟩ = some (.string y.name) ∧ w'.cell? ⟨b, off + k * 3 + 1, none⟩ = some (.int .i64 y.arity) ∧ w'.cell? ⟨b, off + k * 3 + 2, none⟩ = some (.bool y.pred) ∧ Below w1.heap.size w1 w')
                  (first | (go_keep; done) | exact ⟨z1, d1, d2, d3, (Below.refl _ _).drew⟩ | (have hB' : Below w1.heap.size w1 w' := ⟨hbT.os, hbT.tape, hbT.output, hbT.size, hbT.block⟩; exact ⟨cell_on hB' hlt1 z1, cell_on hB' hbw d1, cell_on hB' hbw d2, cell_on hB' hbw d3, hB'⟩))
                  (first | (go_at_call 69; refine (At_any _ _ _ w.heap.size l y _ (G1.out.1.drewN 1) (Nat.le_of_lt hlt1) G1.out.2).mono ?_; rintro e w' ⟨rfl, hbT⟩))
                go_wp2
                go_ret
                exact ⟨ret_int (hf.out.trans (scan_at hk1 HA.out (err_same Hy.out He.out ha) (by decide))).symm, hWB.trans ((hB2.trans (Below.mono ⟨hbT.os, hbT.tape, hbT.output, hbT.size, hbT.block⟩ hB2.size)).mono (Nat.le_of_lt hlt0))⟩
              · go_region_held3 (fun w' => w'.cell? ⟨w.heap.size, 0, none⟩ = some (.slice (some ⟨b, off, none⟩) n c) ∧ w'.cell? ⟨b, off + k * 3, none⟩ = some (.string y.name) ∧ w'.cell? ⟨b, off + k * 3 + 1, none⟩ = some (.int .i64 y.arity) ∧ w'.cell? ⟨b, off + k * 3 + 2, none⟩ = some (.bool y.pred) ∧ Below w1.heap.size w1 w')
                  (first | (go_keep; done) | exact ⟨z1, d1, d2, d3, (Below.refl _ _).drew⟩ | (have hB' : Below w1.heap.size w1 w' := ⟨hbT.os, hbT.tape, hbT.output, hbT.size, hbT.block⟩; exact ⟨cell_on hB' hlt1 z1, cell_on hB' hbw d1, cell_on hB' hbw d2, cell_on hB' hbw d3, hB'⟩))
                  (first | (go_at_call 69; refine (At_any _ _ _ w.heap.size l y _ (G1.out.1.drewN 1) (Nat.le_of_lt hlt1) G1.out.2).mono ?_; rintro e w' ⟨rfl, hbT⟩))
                go_wp2
                go_roundw
                case rel => exact ⟨k + 1, by omega, by omega, by go_num, hB2.trans (Below.mono ⟨hbT.os, hbT.tape, hbT.output, hbT.size, hbT.block⟩ hB2.size), err_before HA.out (err_ok Hy.out He.out (Int.not_lt.2 ha))⟩
                case measure => simp [intOf]; omega
            · have he' : (oneI y.name y.arity != 0) = true := by simp [he]
              have He := Lib.hid he
              clear he
              go_wp2_with (first | (go_at_call 68; refine (One_any y _ hyok).mono ?_; rintro e w1 ⟨rfl, hb1⟩) | fail)
              go_ret
              exact ⟨ret_int (hf.out.trans (scan_at hk1 HA.out (err_one Hy.out He.out) He.out)).symm, hWB.trans ((hBr.trans (hb1.mono hBr.size)).mono (Nat.le_of_lt hlt0))⟩
          · have : k = n := by omega
            subst this
            go_wp2
            go_ret
            exact ⟨ret_int (hf.out.trans (scan_miss (fun j h1 h2 => HA.out j h1 (by rw [← g.len]; exact h2)))).symm, hWB.trans (hBr.mono (by omega))⟩
      · have hs := smB_false hyt
        have hf := Lib.hid (show checkI l = 110 by
          simp only [checkI]; rw [if_neg (by rw [g.len]; exact h96), if_pos (by rw [Hy.out]; simpa using hyt)])
        clear hyt
        go_region_held3 (fun w' => w'.cell? ⟨w.heap.size, 0, none⟩ = some (.slice (some ⟨b, off, none⟩) n c) ∧ w'.cell? ⟨b, off, none⟩ = some (.string y.name) ∧ w'.cell? ⟨b, off + 1, none⟩ = some (.int .i64 y.arity) ∧ w'.cell? ⟨b, off + 2, none⟩ = some (.bool y.pred) ∧ Below W.heap.size W w')
          (first | (go_keep; done) | exact ⟨x1, c1, c2, c3, (Below.refl _ _).drew⟩ | (have hB' : Below W.heap.size W w' := ⟨hbT.os, hbT.tape, hbT.output, hbT.size, hbT.block⟩; exact ⟨cell_on hB' hlt0 x1, cell_on hB' hb c1, cell_on hB' hb c2, cell_on hB' hb c3, hB'⟩))
          (first | (go_at_call 67; refine (Truth_any _).mono ?_; rintro e w' ⟨rfl, hbT⟩))
        have hB1 : Below W.heap.size W w' := ⟨hbT.os, hbT.tape, hbT.output, hbT.size, hbT.block⟩
        go_wp2
        go_ret
        exact ⟨ret_int hf.out.symm, hWB.trans (hB1.mono (Nat.le_of_lt hlt0))⟩
end Go.Proofs.YthgglobfkkcdgaaGreatDoor
