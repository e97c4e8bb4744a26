/- The plain Add. -/
import Derived.Test.YtmcdnjhdmifpeaaDoorW13
import Derived.Deep.RegionLaw
namespace Go.Proofs.YtmcdnjhdmifpeaaDoor
open Go.RowKit

structure RefAt (l m : List Sm) (w0 : World) (b8 k : Nat) (A : Option Addr) (c : Nat) (wr : World) : Prop where
  own : Own wr (b8 + 1) (.slice A (addAll l (m.take k)).length c) (addAll l (m.take k))
  cell : wr.cell? ⟨b8, 0, none⟩ = some (.slice A (addAll l (m.take k)).length c)
  frz : wr.frozen? ⟨b8, 0, none⟩ = false
  bel : Below b8 w0 wr
theorem RefAt.len {l m : List Sm} {w0 wr : World} {b8 k c : Nat} {A : Option Addr} (_ : RefAt l m w0 b8 k A c wr) : (addAll l (m.take k)).length ≤ l.length + k := by
  have h1 := addAll_len' l (m.take k)
  have h2 : (m.take k).length ≤ k := List.length_take_le _ _
  omega
theorem RefAt.found {l m : List Sm} {w0 wr w' : World} {b8 k c : Nat} {A : Option Addr} (h : RefAt l m w0 b8 k A c wr) {y : Sm} (hy : m[k]? = some y) (hin : y ∈ addAll l (m.take k)) (hb : Below wr.heap.size wr w') (h0 : b8 ≤ w0.heap.size) : RefAt l m w0 b8 (k + 1) A c w' := by
  have e : addAll l (m.take (k + 1)) = addAll l (m.take k) := by rw [addAll_next hy, addOne, if_pos hin]
  have hlt : b8 < wr.heap.size := cell_lt h.cell
  exact ⟨by rw [e]; exact h.own.below hb, by rw [e]; exact cell_on hb hlt h.cell, frozen_on hb hlt h.frz, h.bel.trans (hb.mono (Nat.le_trans h0 h.bel.size))⟩
theorem RefAt.same {l m : List Sm} {w0 wr w' : World} {b8 k c : Nat} {A : Option Addr} (h : RefAt l m w0 b8 k A c wr) (hb : Below wr.heap.size wr w') (h0 : b8 ≤ w0.heap.size) : RefAt l m w0 b8 k A c w' := by
  have hlt : b8 < wr.heap.size := cell_lt h.cell
  exact ⟨h.own.below hb, cell_on hb hlt h.cell, frozen_on hb hlt h.frz, h.bel.trans (hb.mono (Nat.le_trans h0 h.bel.size))⟩
theorem RefAt.added {l m : List Sm} {w0 wr w' : World} {b8 k c A' c' : Nat} {A A2 : Option Addr} (h : RefAt l m w0 b8 k A c wr) {y : Sm} {v : Value} (hy : m[k]? = some y) (hin : y ∉ addAll l (m.take k)) (hA : A' = (addAll l (m.take k)).length + 1)
    (ho : Own w' (b8 + 1) (.slice A2 A' c') (addAll l (m.take k) ++ [y])) (hc : w'.cell? ⟨b8, 0, none⟩ = some v) (hf : w'.frozen? ⟨b8, 0, none⟩ = false) (hb : Below wr.heap.size wr w' ∨ Below b8 w0 w') (h0 : b8 ≤ w0.heap.size) :
    RefAt l m w0 b8 (k + 1) A2 c' (w'.setCell ⟨b8, 0, none⟩ (.slice A2 A' c')) := by
  have e : addAll l (m.take (k + 1)) = addAll l (m.take k) ++ [y] := by rw [addAll_next hy, addOne, if_neg hin]
  have e2 : (addAll l (m.take (k + 1))).length = A' := by rw [e, hA, List.length_append]; rfl
  have hb' : Below b8 w0 w' := hb.elim (fun hb => h.bel.trans (hb.mono (Nat.le_trans h0 h.bel.size))) id
  refine ⟨?_, ?_, by rw [World.frozen?_setCell]; exact hf, hb'.setCell (Nat.le_refl _) _⟩
  · rw [e2, e]; exact ho.setCell (Nat.lt_succ_self _) _
  · rw [e2]; exact World.cell?_setCell_same' _ _ _ (by rw [hc]; rfl)
theorem atI_in {l : List Sm} {x : Sm} : atI l x < 0 ↔ x ∉ l := by
  have h := firstF_some l x
  constructor
  · intro hlt hin
    simp [firstF, hlt, hin] at h
  · intro hin
    by_cases hlt : atI l x < 0
    · exact hlt
    · simp [firstF, hlt, hin] at h

set_option maxRecDepth 100000 in
set_option maxHeartbeats 4000000 in
theorem refAdd_any (A A' : Option Addr) (n n' c c' : Nat) (l m : List Sm) (w : World) (h : Syms w w.heap.size A n l) (hm : Syms w w.heap.size A' n' m) (hn : n * 32 ≤ 140737488351232) (hn' : n' * 32 ≤ 140737488351232) :
    Calls Tryd.prog 20 #[.agg #[.slice A n c], .slice A' n' c'] w (AddPost l m w) := by
  obtain rfl := h.len
  have hneq := run_neq_sym
  by_cases hchk : checkI l = 0
  · have hchk' : (checkI l != 0) = false := by simp [hchk]
    have Hchk := Lib.hid hchk
    clear hchk
    go_enter Tryd.func20, Tryd.ntmps20
    go_wp2_with (first | (go_at_call 11; refine (refCheck_any _ _ _ l _ (h.on (((Below.refl _ _).alloc (Nat.le_refl _) _).alloc (by simp) _)) hn).mono ?_; rintro e w1 ⟨rfl, hb1⟩; have hz1 := hb1.size; have z0 := cell_on hb1 (b := w.heap.size) (o := 0) (v := .slice A l.length c) (by simp; omega) (by go_simp); have s1 := cell_on hb1 (b := w.heap.size + 1) (o := 0) (v := .slice none 0 0) (by simp) (by go_simp); have f1 := frozen_on hb1 (b := w.heap.size + 1) (o := 0) (x := false) (by simp) (by go_simp); simp at hz1; have hB1 := bl_step (((Below.refl w.heap.size w).alloc (Nat.le_refl _) _).alloc (by simp) _) hb1) | fail)
    clear hb1
    have hlen := h.len
    have hlen' := hm.len
    have Hm := Lib.hid (hm.below hB1)
    have Hl := Lib.hid (h.below hB1)
    clear hm h
    go_loopw [7] (fun i wr => ∃ k : Nat, k ≤ n' ∧ i = .int .i64 k ∧ Below w1.heap.size w1 wr ∧ Hid (∀ j y, j < k → m[j]? = some y → badB y = false)) (fun i _ => n' - (intOf i).toNat)
    case atStart => exact ⟨0, Nat.zero_le _, rfl, Below.refl _ _, fun j y h1 => by omega⟩
    case round =>
      obtain ⟨k, hk, rfl, hBr, HA⟩ := hrel
      by_cases hlt : k < n'
      · obtain ⟨b', off', rfl, hb', hc'⟩ := Hm.out.ad (by omega)
        obtain ⟨y, hy⟩ : ∃ y, m[k]? = some y := ⟨_, List.getElem?_eq_getElem (by omega)⟩
        have hyok : y.Ok := Hm.out.ok y (List.mem_of_getElem? hy)
        obtain ⟨c1, c2, c3⟩ := hc' k y hy
        have hbw : b' < w1.heap.size := by omega
        have hbw1 : w.heap.size + 1 < w1.heap.size := by omega
        have d1 := cell_on hBr hbw c1
        have d2 := cell_on hBr hbw c2
        have d3 := cell_on hBr hbw c3
        have Hy := Lib.hid hy
        have Hl' := Lib.hid (And.intro hlen hlen')
        clear hy hc' hlen hlen'
        by_cases he : oneI y.name y.arity = 0
        · have he' : (oneI y.name y.arity != 0) = false := by simp [he]
          have Hb := Lib.hid (show badB y = false by simp [badB, he])
          clear he
          go_wp2_with (first | (go_at_call 25; refine (One_any y _ hyok).mono ?_; rintro e w2 ⟨rfl, hb2⟩; have hB2 : Below w1.heap.size w1 w2 := hBr.trans (hb2.mono hBr.size)) | fail)
          go_quiet (fail)
          go_wp2
          go_roundw
          case rel => exact ⟨k + 1, by omega, by go_num, bl_drewN hB2 _, bad_before HA.out Hy.out Hb.out⟩
          case measure => simp [intOf]; omega
        · have he' : (oneI y.name y.arity != 0) = true := by simp [he]
          by_cases hyt : y = truthSm
          · have hs := smB_true hyt
            have Hb := Lib.hid (show badB y = false by simp [badB, hyt])
            clear he hyt
            go_wp2_with (first | (go_at_call 25; refine (One_any y _ hyok).mono ?_; rintro e w2 ⟨rfl, hb2⟩; have hB2 : Below w1.heap.size w1 w2 := hBr.trans (hb2.mono hBr.size)) | fail)
            have e1 := cell_on hB2 hbw c1
            have e2 := cell_on hB2 hbw c2
            have e3 := cell_on hB2 hbw c3
            have hbw2 : b' < w2.heap.size := Nat.lt_of_lt_of_le hbw hB2.size
            clear d1 d2 d3 hb2
            go_region_held3 (fun w' => w'.cell? ⟨b', off' + k * 3, none⟩ = some (.string y.name) ∧ w'.cell? ⟨b', off' + k * 3 + 1, none⟩ = some (.int .i64 y.arity) ∧ w'.cell? ⟨b', off' + k * 3 + 2, none⟩ = some (.bool y.pred))
              (first | exact ⟨e1, e2, e3⟩ | exact ⟨cell_on hbT hbw2 e1, cell_on hbT hbw2 e2, cell_on hbT hbw2 e3⟩)
              (first | (go_at_call 15; refine (Truth_any w2.drew).mono ?_; rintro e w3 ⟨rfl, hbT⟩))
            have hB3 : Below w1.heap.size w1 w3 := hB2.trans (Below.mono ⟨hbT.os, hbT.tape, hbT.output, hbT.size, hbT.block⟩ hB2.size)
            go_wp2
            go_roundw
            case rel => exact ⟨k + 1, by omega, by go_num, hB3, bad_before HA.out Hy.out Hb.out⟩
            case measure => simp [intOf]; omega
          · have hs := smB_false hyt
            have Hb := Lib.hid (show badB y = true by simp [badB, he, hyt])
            have He := Lib.hid he
            clear he hyt
            go_wp2_with (first | (go_at_call 25; refine (One_any y _ hyok).mono ?_; rintro e w2 ⟨rfl, hb2⟩; have hB2 : Below w1.heap.size w1 w2 := hBr.trans (hb2.mono hBr.size)) | fail)
            have e1 := cell_on hB2 hbw c1
            have e2 := cell_on hB2 hbw c2
            have e3 := cell_on hB2 hbw c3
            have hbw2 : b' < w2.heap.size := Nat.lt_of_lt_of_le hbw hB2.size
            clear d1 d2 d3 hb2
            go_region_held3 (fun w' => w'.cell? ⟨b', off' + k * 3, none⟩ = some (.string y.name) ∧ w'.cell? ⟨b', off' + k * 3 + 1, none⟩ = some (.int .i64 y.arity) ∧ w'.cell? ⟨b', off' + k * 3 + 2, none⟩ = some (.bool y.pred))
              (first | exact ⟨e1, e2, e3⟩ | exact ⟨cell_on hbT hbw2 e1, cell_on hbT hbw2 e2, cell_on hbT hbw2 e3⟩)
              (first | (go_at_call 15; refine (Truth_any w2.drew).mono ?_; rintro e w3 ⟨rfl, hbT⟩))
            have hB3 : Below w1.heap.size w1 w3 := hB2.trans (Below.mono ⟨hbT.os, hbT.tape, hbT.output, hbT.size, hbT.block⟩ hB2.size)
            have s2 := cell_on hB3 hbw1 s1
            have f2 := frozen_on hB3 hbw1 f1
            go_wp2
            refine bodyPost_ret (v := .tuple #[.agg #[.slice none 0 0], .int .i64 (oneI y.name y.arity)]) (by simp [results, Tryd.results20, go_sem, s2]) rfl (addPost_err (addE_bad Hchk.out Hy.out Hb.out HA.out) He.out ?_)
            exact (hB1.trans (hB3.mono hB1.size)).setCell (by simp) _
      · have : k = n' := by omega
        subst this
        have Hgood := Lib.hid (addE_good Hchk.out (by rw [hlen']; exact HA.out))
        have Hlen := Lib.hid (And.intro hlen hlen')
        have hl96 := check_short Hchk.out
        have hbw1 : w.heap.size + 1 < w1.heap.size := by omega
        have z0' := cell_on hBr (by omega) z0
        have s1' := cell_on hBr hbw1 s1
        have f1' := frozen_on hBr hbw1 f1
        have hB2 : Below w.heap.size w wr := hB1.trans (hBr.mono hB1.size)
        have hzr := hBr.size
        have Hl2 := Lib.hid ((Hl.out.below (hBr.mono hB1.size)).more hB2.size)
        have Hm2 := Lib.hid (Hm.out.below (hBr.mono hB1.size))
        obtain ⟨wo, rfl⟩ : ∃ wo : World, wo = wr := ⟨_, rfl⟩
        have hbx : Below wo.heap.size wo (wo.alloc (.cells #[.slice none 0 0] 24)) := (Below.refl _ _).alloc (Nat.le_refl _) _
        have z1' := cell_on hbx (by omega) z0'
        clear hlt hk hlen z0 s1 f1 Hm Hl HA
        go_wp2_with (first
          | (at_builtin
             refine wpList_append_syms rfl _ _ rfl (.slice none 0 0) [] rfl (wo.heap.size + 1) (Own.nil_ _ _) A l.length c wo.heap.size l rfl (Hl2.out.below hbx) (by simp; omega) (by simp) ?_
             intro A2 c2 w2 hown2 hg2
             have hb2 := (Below.refl _ _).grown hg2 (Nat.le_refl _) (by simp [Value.ownBlock])
             have hz2 := hb2.size
             have q2 := cell_on hb2 (b := wo.heap.size) (o := 0) (v := .slice none 0 0) (by simp) (by go_simp)
             have g2 := frozen_on hb2 (b := wo.heap.size) (o := 0) (x := false) (by simp) (by go_simp)
             have hB3 : Below wo.heap.size wo w2 := bl_step hbx hb2
             have Hown2 := Lib.hid hown2
             clear hg2 hb2 hown2)
          | fail)
        obtain ⟨W2, hW2⟩ : ∃ W2, w2.setCell ⟨wo.heap.size, 0, none⟩ (.slice A2 l.length c2) = W2 := ⟨_, rfl⟩
        have hstart : RefAt l m wo wo.heap.size 0 A2 c2 W2 := by
          have ho := Hown2.out
          simp only [List.length_nil, Nat.zero_add, List.nil_append] at ho
          rw [← hW2]
          exact ⟨ho.setCell (by simp) _, World.cell?_setCell_same' _ _ _ (by rw [q2]; rfl), by rw [World.frozen?_setCell]; exact g2, hB3.setCell (by simp) _⟩
        rw [hW2]
        clear hW2 q2 g2 hz2 Hown2 hB3 z1' z0'
        go_loopw [9] (fun i wr => ∃ (j : Nat) (A3 : Option Addr) (cc : Nat), j ≤ k ∧ i = .int .i64 j ∧ RefAt l m wo wo.heap.size j A3 cc wr) (fun i _ => k - (intOf i).toNat)
        case atStart => exact ⟨0, A2, c2, Nat.zero_le _, rfl, hstart⟩
        case round =>
          clear hstart
          obtain ⟨j, A3, cc, hj, rfl, hat⟩ := hrel
          have hBx : Below wo.heap.size wo wr := hat.bel
          have s1x := cell_on hBx (by omega) s1'
          have f1x := frozen_on hBx (by omega) f1'
          have q3 := hat.cell
          have g3 := hat.frz
          have hle := hat.len
          have h64 : (addAll l (m.take j)).length ≤ 9223372036854775807 := by omega
          have HS := Lib.hid hat.own.syms
          by_cases hlt : j < k
          · obtain ⟨b', off', rfl, hb', hc'⟩ := Hm2.out.ad (by omega)
            obtain ⟨y, hy⟩ : ∃ y, m[j]? = some y := ⟨_, List.getElem?_eq_getElem (by rw [hlen']; exact hlt)⟩
            have hyok : y.Ok := Hm2.out.ok y (List.mem_of_getElem? hy)
            obtain ⟨c1, c2, c3⟩ := hc' j y hy
            have hbw : b' < wo.heap.size := by omega
            have d1 := cell_on hBx hbw c1
            have d2 := cell_on hBx hbw c2
            have d3 := cell_on hBx hbw c3
            have hbr : b' < wr.heap.size := Nat.lt_of_lt_of_le hbw hBx.size
            have hq3 : wo.heap.size < wr.heap.size := by have := cell_lt q3; exact this
            have Hy := Lib.hid hy
            have Hat := Lib.hid hat
            clear hy hc' c1 c2 hat s1x f1x hlen'
            by_cases hin : y ∈ addAll l (m.take j)
            · have hai : ¬ atI (addAll l (m.take j)) y < 0 := fun hh => atI_in.1 hh hin
              have Hin := Lib.hid hin
              clear hin
              go_wp2
              go_region_held3 (fun w' => w'.cell? ⟨wo.heap.size, 0, none⟩ = some (.slice A3 (addAll l (m.take j)).length cc) ∧ w'.cell? ⟨b', off' + j * 3, none⟩ = some (.string y.name) ∧ w'.cell? ⟨b', off' + j * 3 + 1, none⟩ = some (.int .i64 y.arity) ∧ w'.cell? ⟨b', off' + j * 3 + 2, none⟩ = some (.bool y.pred))
                (first | exact ⟨q3, d1, d2, d3⟩ | exact ⟨cell_on hbT hq3 q3, cell_on hbT hbr d1, cell_on hbT hbr d2, cell_on hbT hbr d3⟩)
                (first | (go_at_call 17; refine (At_any _ _ _ wr.heap.size (addAll l (m.take j)) y wr.drew (HS.out.drewN 1) (Nat.le_refl _) h64).mono ?_; rintro e w3 ⟨rfl, hbT⟩))
              have hbT' : Below wr.heap.size wr w3 := ⟨hbT.os, hbT.tape, hbT.output, hbT.size, hbT.block⟩
              go_wp2
              go_roundw
              case rel => exact ⟨j + 1, A3, cc, by omega, by go_num, Hat.out.found Hy.out Hin.out hbT' (Nat.le_refl _)⟩
              case measure => simp [intOf]; omega
            · have hai : atI (addAll l (m.take j)) y < 0 := atI_in.2 hin
              have Hin := Lib.hid hin
              clear hin
              go_wp2
              go_region_held3 (fun w' => w'.cell? ⟨wo.heap.size, 0, none⟩ = some (.slice A3 (addAll l (m.take j)).length cc) ∧ w'.cell? ⟨b', off' + j * 3, none⟩ = some (.string y.name) ∧ w'.cell? ⟨b', off' + j * 3 + 1, none⟩ = some (.int .i64 y.arity) ∧ w'.cell? ⟨b', off' + j * 3 + 2, none⟩ = some (.bool y.pred))
                (first | exact ⟨q3, d1, d2, d3⟩ | exact ⟨cell_on hbT hq3 q3, cell_on hbT hbr d1, cell_on hbT hbr d2, cell_on hbT hbr d3⟩)
                (first | (go_at_call 17; refine (At_any _ _ _ wr.heap.size (addAll l (m.take j)) y wr.drew (HS.out.drewN 1) (Nat.le_refl _) h64).mono ?_; rintro e w3 ⟨rfl, hbT⟩))
              have hbT' : Below wr.heap.size wr w3 := ⟨hbT.os, hbT.tape, hbT.output, hbT.size, hbT.block⟩
              have Hat3 := Lib.hid (Hat.out.same hbT' (Nat.le_refl _))
              have e1 := cell_on hbT' hbr d1
              have e2 := cell_on hbT' hbr d2
              have e3 := cell_on hbT' hbr d3
              have q4 := Hat3.out.cell
              have g4 := Hat3.out.frz
              clear d1 d2 d3 q3 g3 hbT
              have hb32 : ((addAll l (m.take j)).length + 1) * 32 ≤ 140737488355328 := by omega
              have H1 : Own (w3.alloc (.cells #[.string y.name, .int .i64 y.arity, .bool y.pred] 33)).drew (wo.heap.size + 1) (.slice A3 (addAll l (m.take j)).length cc) (addAll l (m.take j)) := (Hat3.out.own.alloc _).drewN 1
              have H2 : Syms (w3.alloc (.cells #[.string y.name, .int .i64 y.arity, .bool y.pred] 33)).drew (w3.heap.size + 1) (some ⟨w3.heap.size, 0, none⟩) 1 [y] := (syms_one w3 y hyok 33).drewN 1
              have h4 : wo.heap.size < w3.heap.size := cell_lt q4
              have h5 : wo.heap.size + 1 ≤ (w3.alloc (.cells #[.string y.name, .int .i64 y.arity, .bool y.pred] 33)).drew.heap.size := by simp; omega
              have hbx3 : Below w3.heap.size w3 (w3.alloc (.cells #[.string y.name, .int .i64 y.arity, .bool y.pred] 33)).drew := ((Below.refl _ _).alloc (Nat.le_refl _) _).drew
              have HH := Lib.hid (And.intro H1 (And.intro H2 (And.intro hb32 h5)))
              clear H1 H2 hb32 h5
              go_wp2
              go_region_law (first | (refine step_append_syms rfl (.tmp 60) (.tmp 65) rfl (.slice A3 (addAll l (m.take j)).length cc) (addAll l (m.take j)) (by simp [Act.eval]) (wo.heap.size + 1) HH.out.1 (some ⟨w3.heap.size, 0, none⟩) 1 1 (w3.heap.size + 1) [y] (by simp [Act.eval]) HH.out.2.1 HH.out.2.2.1 HH.out.2.2.2 ?_; intro A4 c4 w6 hown6 hg6; have q6 : w6.cell? ⟨wo.heap.size, 0, none⟩ = some (.slice A3 (addAll l (m.take j)).length cc) := (World.cell?_of_block (HH.out.1.under hg6 (Nat.lt_succ_self _) (Nat.lt_of_lt_of_le h4 hbx3.size))).trans (cell_on hbx3 h4 q4); have g6 : w6.frozen? ⟨wo.heap.size, 0, none⟩ = false := (World.frozen?_of_block (HH.out.1.under hg6 (Nat.lt_succ_self _) (Nat.lt_of_lt_of_le h4 hbx3.size))).trans (frozen_on hbx3 h4 g4)))
              all_goals
                have hbl : Below wo.heap.size wo w6 := ((Hat3.out.bel.trans (hbx3.mono (Nat.le_of_lt h4)))).grown hg6 (Nat.le_of_lt (Nat.lt_of_lt_of_le h4 hbx3.size)) (fun k e => by have := HH.out.1.ge e; omega)
                have hfin := Hat3.out.added (A2 := A4) (c' := c4) Hy.out Hin.out rfl hown6 q6 g6 (.inr hbl) (Nat.le_refl _)
                go_wp2
                go_roundw
                case rel => exact ⟨j + 1, A4, c4, by omega, by go_num, hfin⟩
                case measure => simp [intOf]; omega
          · have : j = k := by omega
            subst this
            have hall : m.take j = m := List.take_of_length_le (by rw [hlen']; exact Nat.le_refl _)
            rw [hall] at q3
            have hown := hat.own
            rw [hall] at hown
            by_cases h96 : 96 < (addAll l m).length
            · have h0 : addE l m = 3 := by rw [Hgood.out, if_pos h96]
              go_wp2
              refine bodyPost_ret (v := .tuple #[.agg #[.slice none 0 0], .int .i64 3]) (by simp [results, Tryd.results20, go_sem, s1x]) rfl (addPost_err h0 (by decide) ?_)
              exact (hB2.trans (hBx.mono hB2.size)).setCell (by simp) _
            · have h0 : addE l m = 0 := by rw [Hgood.out, if_neg h96]
              go_wp2
              refine bodyPost_ret (v := .tuple #[.agg #[.slice A3 (addAll l m).length cc], .int .i64 0]) (by simp [results, Tryd.results20, go_sem, s1x]) rfl ⟨_, by rw [h0], ⟨A3, cc, ?_, ?_⟩, ?_⟩
              · rw [addL_ok h0]
              · rw [addL_ok h0]
                exact (hown.setCell (p := ⟨w.heap.size + 1, 0, none⟩) (by simp; omega) _).syms
              · exact (hB2.trans (hBx.mono hB2.size)).setCell (by simp) _
  · have hchk' : (checkI l != 0) = true := by simp [hchk]
    have Hchk := Lib.hid hchk
    clear hchk
    go_enter Tryd.func20, Tryd.ntmps20
    go_wp2_with (first | (go_at_call 11; refine (refCheck_any _ _ _ l _ (h.on (((Below.refl _ _).alloc (Nat.le_refl _) _).alloc (by simp) _)) hn).mono ?_; rintro e w1 ⟨rfl, hb1⟩; have hz1 := hb1.size; have s1 := cell_on hb1 (b := w.heap.size + 1) (o := 0) (v := .slice none 0 0) (by simp) (by go_simp); have f1 := frozen_on hb1 (b := w.heap.size + 1) (o := 0) (x := false) (by simp) (by go_simp); simp at hz1) | fail)
    refine bodyPost_ret (v := .tuple #[.agg #[.slice none 0 0], .int .i64 (checkI l)]) (by simp [results, Tryd.results20, go_sem, s1]) rfl (addPost_err (addE_check Hchk.out) Hchk.out ?_)
    exact (bl_step (((Below.refl w.heap.size w).alloc (Nat.le_refl _) _).alloc (by simp) _) hb1).setCell (by simp) _
end Go.Proofs.YtmcdnjhdmifpeaaDoor
