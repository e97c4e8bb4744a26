/- Compose. -/
import Derived.Test.YtdeegdndfblnkaaUC
namespace Go.Proofs.Ytdeegdndfblnkaa
open Go.RowKit Go.Shelf
set_option maxRecDepth 100000

set_option maxHeartbeats 4000000 in
theorem compose_no (la lb : List Bd) (A : Option Addr) (c : Nat) (A2 : Option Addr) (c2 : Nat) (w : World) (hla : la.length ≤ 1048576) (hlb : lb.length ≤ 1048576) (hA : Binds w (· < w.heap.size) A la) (hA2 : Binds w (· < w.heap.size) A2 lb) (hn : chkB la = false ∨ chkB lb = false) :
    Calls Try.prog 45 #[.slice A la.length c, .slice A2 lb.length c2] w fun e w' => e = .returned (.tuple #[.slice none 0 0, .int .i64 2]) ∧ Below w.heap.size w w' := by
  rcases hc : chkB la with _ | _
  · have H := Lib.hid (subCheck_no la A c w (by omega) hA hc)
    clear hA hA2 hn hc
    go_enter Try.func45, Try.ntmps45
    go_wp2_with (first
      | (go_at_call 16; refine H.out.mono ?_; go_must (rintro e w1 ⟨rfl, hb1⟩))
      | fail)
    go_ret2
    exact ⟨rfl, hb1⟩
  · have H := Lib.hid (subCheck_yes la A c w (by omega) hA hc)
    have H2 : ∀ w1, Below w.heap.size w w1 → Calls Try.prog 16 #[.slice A2 lb.length c2] w1 fun e w' => e = .returned (.int .i64 2) ∧ Below w1.heap.size w1 w' := fun w1 hb => subCheck_no lb A2 c2 w1 (by omega) ((hA2.keep fun g e => hb.block g e).wide fun g e => Nat.lt_of_lt_of_le e hb.size) (by rcases hn with h | h; rw [hc] at h; cases h; exact h)
    have H2 := Lib.hid H2
    clear hA hA2 hn hc
    go_enter Try.func45, Try.ntmps45
    go_wp2_with (first
      | (go_at_call 16; (with_reducible refine H.out.mono ?_); go_must (rintro e w1 ⟨rfl, hb1⟩))
      | (go_at_call 16; (with_reducible refine (H2.out w1 hb1).mono ?_); go_must (rintro e w2 ⟨rfl, hb2⟩))
      | fail)
    go_ret2
    exact ⟨rfl, hb1.trans (hb2.mono hb1.size)⟩

/-- What the two do together: new memory. -/
def CompPost (la lb : List Bd) (w : World) (e : Ending) (w' : World) : Prop :=
  ∃ (A' : Option Addr) (c' : Nat) (S : List Bd), e = .returned (.tuple #[.slice A' (S.filter fun x => !decide (selfB x)).length c', .int .i64 0]) ∧ S.Perm (bothB la lb) ∧ S.Pairwise (fun x y => x.v ≤ y.v) ∧ Binds w' (fun g => w.heap.size ≤ g ∧ g < w'.heap.size) A' (S.filter fun x => !decide (selfB x)) ∧ Below w.heap.size w w'

theorem comp_fin {la lb : List Bd} {n0 : Nat} {w wr w5 w6 : World} {v v' : Value} {l l' : List Bi} (h : CmpI n0 wr (bothB la lb) v l) (hn0 : w.heap.size ≤ n0) (hb : Below w.heap.size w wr) (hp : l'.Perm l) (hs : l'.Pairwise fun x y => x.v ≤ y.v) (hg5 : wr.grownBy w5 v.ownBlock) (hR : RowB w6 n0 v' (l'.filter keepB) (Apart n0 v wr)) (hg6 : w5.grownBy w6 v.ownBlock) (hv : v'.ownBlock = v.ownBlock) (hl : l.length ≤ 4194304) :
    CompPost la lb w (.returned (.tuple #[v', .int .i64 0])) w6 := by
  have hg := grown_trans hg5 hg6
  have hbW : Below w.heap.size w w6 := hb.grown hg hb.size fun g e => Nat.le_trans hn0 (row_lt h.row.row g e).1
  have hlen : (l'.filter keepB).length ≤ 9223372036854775807 := by have := List.length_filter_le keepB l'; have := hp.length_eq; omega
  obtain ⟨A', c', rfl, hB⟩ := hR.binds (M := fun g => w.heap.size ≤ g ∧ g < w6.heap.size) hlen (fun g e => by have := row_lt hR.row g e; exact ⟨Nat.le_trans hn0 this.1, this.2⟩) (fun g e => ⟨Nat.le_trans hn0 e.1, Nat.lt_of_lt_of_le e.2.1 hg.size⟩)
  have hmf : (l'.filter keepB).map Bi.bd = (l'.map Bi.bd).filter fun x => !decide (selfB x) := by
    rw [List.filter_map]
    rfl
  refine ⟨A', c', l'.map Bi.bd, by rw [← hmf, List.length_map], by rw [← h.key]; exact hp.map _, ?_, by rw [← hmf]; exact hB, hbW⟩
  exact List.pairwise_map.2 hs

set_option maxHeartbeats 8000000 in
theorem compose_yes (la lb : List Bd) (A : Option Addr) (c : Nat) (A2 : Option Addr) (c2 : Nat) (w : World) (hla : la.length ≤ 1048576) (hlb : lb.length ≤ 1048576) (hsa : ∀ x ∈ la, x.t.size ≤ 4398046511104) (hsb : ∀ x ∈ lb, x.t.size ≤ 4398046511104) (hA : Binds w (· < w.heap.size) A la) (hA2 : Binds w (· < w.heap.size) A2 lb) (ha : chkB la = true) (hb : chkB lb = true) :
    Calls Try.prog 45 #[.slice A la.length c, .slice A2 lb.length c2] w (CompPost la lb w) := by
  obtain ⟨i0, hi, hz0, hz1, hz2⟩ := info_parts info_bind
  have hra := chkB_rise ha
  have hrb := chkB_rise hb
  have lift : ∀ (l : List Bd) (A : Option Addr) (w1 : World), Binds w (· < w.heap.size) A l → Below w.heap.size w w1 → Binds w1 (· < w1.heap.size) A l := fun l A w1 h hb => (h.keep fun g e => hb.block g e).wide fun g e => Nat.lt_of_lt_of_le e hb.size
  have H1 := Lib.hid (subCheck_yes la A c w (by omega) hA ha)
  have H2 : ∀ w1, Below w.heap.size w w1 → Calls Try.prog 16 #[.slice A2 lb.length c2] w1 fun e w' => e = .returned (.int .i64 0) ∧ Below w1.heap.size w1 w' := fun w1 hb1 => subCheck_yes lb A2 c2 w1 (by omega) (lift lb A2 w1 hA2 hb1) hb
  have H2 := Lib.hid H2
  have HA := Lib.hid hA
  have HA2 := Lib.hid hA2
  have Hra := Lib.hid hra
  have Hrb := Lib.hid hrb
  have HL := Lib.hid lift
  clear hA hA2 ha hb hra hrb lift
  go_enter Try.func45, Try.ntmps45
  go_upto_region 4 with (first
    | (go_at_call 16; (with_reducible refine H1.out.mono ?_); go_must (rintro e w1 ⟨rfl, hb1⟩))
    | (go_at_call 16; (with_reducible refine (H2.out w1 hb1).mono ?_); go_must (rintro e w2 ⟨rfl, hb2⟩))
    | fail)
  have hB2 := hb1.trans (hb2.mono hb1.size)
  have H3 := Lib.hid (putter_any lb A2 c2 w2 (by omega) (HL.out lb A2 w2 HA2.out hB2) Hrb.out)
  go_upto_region 5 with (first
    | (go_at_call 57; (with_reducible refine H3.out.mono ?_); go_must (rintro e w3 ⟨n3, rfl, hn3, hbx3, hbs3, hb3⟩))
    | fail)
  have hB3 := hB2.trans (hb3.mono hB2.size)
  have hpc : PutC lb A2 c2 w2.heap.size w3.heap.size w3 := ⟨by omega, HL.out lb A2 w3 HA2.out hB3, Hrb.out, hsb, hbs3.lt, hbs3⟩
  have Hpc := Lib.hid hpc
  have Hbx3 := Lib.hid hbx3
  clear hpc hbx3 hbs3
  have HI0 : Hid (CmpI w3.heap.size w3 ((la.take 0).map (thenB lb)) (.slice none 0 0) []) := ⟨by simp, RowB.nil_ _ _ _⟩
  go_wp2
  go_loopw [27, 6] (fun i v wr => ∃ (k : Nat) (l : List Bi), k ≤ la.length ∧ i = .int .i64 (k : Int) ∧ Below w3.heap.size w3 wr ∧ Hid (CmpI w3.heap.size wr ((la.take k).map (thenB lb)) v l)) (fun i _ _ => la.length - (intOf i).toNat)
  case atStart => exact ⟨0, [], Nat.zero_le _, rfl, Below.refl _ _, HI0⟩
  case round =>
    obtain ⟨k, l, hk, rfl, hBr, H⟩ := hrel
    have hBw : Below w.heap.size w wr := hB3.trans (hBr.mono hB3.size)
    have hll : l.length = k := by rw [H.out.len, List.length_map, List.length_take, Nat.min_eq_left hk]
    by_cases hlt : k < la.length
    · obtain ⟨x, hx⟩ : ∃ x, la[k]? = some x := ⟨_, List.getElem?_eq_getElem hlt⟩
      obtain ⟨b, off, A', c', rfl, h⟩ := HA.out.get hx
      have e0 := cell_on hBw h.hb h.c0
      have e1 := cell_on hBw h.hb h.c1
      have e2 := cell_on hBw h.hb h.c2
      have q0 := heap_alloc_new wr (.cells #[.int .i64 x.v, .int .i64 x.t.fn, .slice A' x.t.args.length c'] 77)
      obtain ⟨W, hW⟩ : ∃ W, wr.alloc (.cells #[.int .i64 x.v, .int .i64 x.t.fn, .slice A' x.t.args.length c'] 77) = W := ⟨_, rfl⟩
      have hBx : Below wr.heap.size wr W := by rw [← hW]; exact (Below.refl _ _).alloc (Nat.le_refl _) _
      rw [hW] at q0
      have hWs : wr.heap.size < W.heap.size := (Array.getElem?_eq_some_iff.1 q0).1
      obtain ⟨b0, b1, b2, _, _, _⟩ := cells_three q0
      have hBW : Below w3.heap.size w3 W := hBr.trans (hBx.mono hBr.size)
      have hput := Lib.hid (putter1_any lb A2 c2 w2.heap.size w3.heap.size x.t (hsa x (List.mem_of_getElem? hx)) A' c' n3 W.drew hBW.size ((hBW.block _ Hbx3.out.lt).trans Hbx3.out) (Hpc.out.keep (Keeps.of_below (bl_drewN hBW 1))) h.it (((h.sub.keep fun g e => (hBw.trans (hBx.mono hBw.size)).block g e).args fun g e => Nat.lt_of_lt_of_le e (hBw.trans (hBx.mono hBw.size)).size).drewN 1))
      have hrow := H.out.row.row
      rw [hll] at hrow
      obtain ⟨Av, cv, hv⟩ := row_own hrow
      subst hv
      have hrl := row_lt hrow
      have Hrow := Lib.hid hrow
      have hSS : ∀ w', Below W.heap.size W w' → w'.cell? ⟨wr.heap.size, 0, none⟩ = some (.int .i64 x.v) := fun w' hb => cell_on hb hWs b0
      have HW := Lib.hid hW
      have Hx := Lib.hid hx
      have Hv := Lib.hid h.iv
      clear hx h hrow hW
      go_upto_region 8 with fail
      rw [HW.out]
      clear e0 e1 e2
      go_region_law
        (first
          | (go_simp
             go_at_call 97
             refine hput.out.mono ?_
             rintro e w4 ⟨A4, c4, rfl, hi4, hO4, hb4⟩
             have hB4 : Below W.heap.size W w4 := ⟨hb4.os, hb4.tape, hb4.output, hb4.size, hb4.block⟩
             have HO4 := Lib.hid hO4
             have k4 := hSS _ hB4
             clear hO4
             dsimp only)
          | (refine step_append_at rfl (.tmp 31) (.tmp 39) 23 rfl w3.heap.size 77 i0 (.agg #[.int .i64 0, .int .i64 0, .slice none 0 0]) 3 40 Try.underlying23 hi hz0 hz1 hz2 rfl (by decide) (.slice Av k cv) k _ (by simp [Act.eval]) (row_keep Hrow.out fun g e => (Below.heap_alloc w4 _ g (Nat.lt_of_lt_of_le (hrl g e).2 (Nat.le_trans hBx.size hB4.size))).trans ((hB4.block g (Nat.lt_of_lt_of_le (hrl g e).2 hBx.size)).trans (hBx.block g (hrl g e).2))) ⟨w4.heap.size, 0, none⟩ 1 1 [.int .i64 x.v, .int .i64 (appT (bdT lb) x.t).fn, .slice A4 (appT (bdT lb) x.t).args.length c4] (by simp [Act.eval]) rfl (cells_new_bind _ _ _ _ _) (by simp [Value.oneCell']) (by unfold maxLen; omega) (by omega) (by have := hB4.size; have := hBW.size; simp; omega) ?_
             intro v5 w5 hown5 hgr5 hat5
             have Hown5 := Lib.hid hown5
             have Hgr5 := Lib.hid hgr5
             have Hat5 := Lib.hid hat5
             clear hown5 hgr5 hat5)
          | fail)
      all_goals
        have hBe : Below w3.heap.size w3 w5 := ((hBW.trans (hB4.mono hBW.size)).alloc (Nat.le_trans hBW.size hB4.size) _).grown Hgr5.out (by have := hBW.size; have := hB4.size; simp; omega) (fun g e => (hrl g e).1)
        have hnx := Lib.hid (H.out.next (x := thenB lb x) (by rw [List.length_map, List.length_take, Nat.min_eq_left hk]) hBr.size Hv.out hi4 (OwnT.wide HO4.out hBx.size (Nat.le_refl _)) (hBx.trans (hB4.mono hBx.size)) Hown5.out Hgr5.out Hat5.out)
        have hnx2 : Hid (CmpI w3.heap.size w5 ((la.take (k + 1)).map (thenB lb)) v5 (l ++ [⟨x.v, appT (bdT lb) x.t, A4, c4⟩])) := Lib.hid (by rw [show (la.take (k + 1)).map (thenB lb) = (la.take k).map (thenB lb) ++ [thenB lb x] by rw [List.take_add_one, Hx.out]; simp]; exact hnx.out)
        go_wp2
        go_roundw
        case rel => exact ⟨k + 1, _, by omega, by go_num, hBe, hnx2⟩
        case measure => simp [intOf]; omega
    · obtain rfl : k = la.length := by omega
      rw [List.take_length] at H
      obtain ⟨wo, rfl⟩ : ∃ wo, wo = wr := ⟨_, rfl⟩
      have hzr := hBr.size
      have hzw := hBw.size
      have Hfin := Lib.hid (finder_any la A c wo (by omega) (HL.out la A wo HA.out hBw) Hra.out)
      clear hll
      go_upto_region 11 with (first
        | (go_at_call 47; (with_reducible refine Hfin.out.mono ?_); go_must (rintro e w4 ⟨rfl, hbx4, hb4⟩))
        | fail)
      have hB34 := hBr.trans (hb4.mono hzr)
      have hB4 := hBw.trans (hb4.mono hzw)
      have hz4 : wo.heap.size < w4.heap.size := hbx4.lt
      have Hbx4 := Lib.hid hbx4
      have Hne0 : Hid (u6.ownBlock ≠ some wo.heap.size) := fun e => by have := (row_lt H.out.row.row _ e).2; omega
      have HI1 : Hid (CmpI w3.heap.size w4 (la.map (thenB lb) ++ (lb.take 0).filter (fun x => !hasB la x.v)) u6 l) := ⟨by simpa using H.out.key, (H.out.row.keep (fun g e => hb4.block g (row_lt H.out.row.row g e).2) (fun g e => hb4.block g e.2.1)).wide fun g e => ⟨e.1, by have := e.2.1; omega, e.2.2⟩⟩
      clear hbx4 H Hfin hBr hBw
      go_wp2
      go_loopw [46, 6] (fun i v wr => ∃ (k : Nat) (l : List Bi), k ≤ lb.length ∧ i = .int .i64 (k : Int) ∧ Below w3.heap.size w4 wr ∧ Hid (CmpI w3.heap.size wr (la.map (thenB lb) ++ (lb.take k).filter (fun x => !hasB la x.v)) v l) ∧ Hid (Boxed wr wo.heap.size 23 (.slice A la.length c)) ∧ Hid (v.ownBlock ≠ some wo.heap.size)) (fun i _ _ => lb.length - (intOf i).toNat)
      case atStart => exact ⟨0, l, Nat.zero_le _, rfl, Below.refl _ _, HI1, Hbx4, Hne0⟩
      case round =>
        obtain ⟨k, l2, hk, rfl, hBr0, H, Hbx, Hne⟩ := hrel
        have hBr : Below w3.heap.size w3 wr := hB34.trans hBr0
        have hBw : Below w.heap.size w wr := hB3.trans (hBr.mono hB3.size)
        have hzwr : w4.heap.size ≤ wr.heap.size := hBr0.size
        by_cases hlt : k < lb.length
        · obtain ⟨x, hx⟩ : ∃ x, lb[k]? = some x := ⟨_, List.getElem?_eq_getElem hlt⟩
          obtain ⟨b, off, A', c', rfl, h⟩ := HA2.out.get hx
          have e0 := cell_on hBw h.hb h.c0
          have e1 := cell_on hBw h.hb h.c1
          have e2 := cell_on hBw h.hb h.c2
          have q0 := heap_alloc_new wr (.cells #[.int .i64 x.v, .int .i64 x.t.fn, .slice A' x.t.args.length c'] 77)
          obtain ⟨W, hW⟩ : ∃ W, wr.alloc (.cells #[.int .i64 x.v, .int .i64 x.t.fn, .slice A' x.t.args.length c'] 77) = W := ⟨_, rfl⟩
          have hBx : Below wr.heap.size wr W := by rw [← hW]; exact (Below.refl _ _).alloc (Nat.le_refl _) _
          rw [hW] at q0
          have hWs : wr.heap.size < W.heap.size := (Array.getElem?_eq_some_iff.1 q0).1
          obtain ⟨b0, b1, b2, _, _, _⟩ := cells_three q0
          have hBWw : Below w.heap.size w W := hBw.trans (hBx.mono hBw.size)
          have Hfd := Lib.hid (finder1_any la x.v A c wo.heap.size W (by omega) (HL.out la A W HA.out hBWw) Hra.out ((hBx.block _ Hbx.out.lt).trans Hbx.out))
          have HW := Lib.hid hW
          have Hx := Lib.hid hx
          have Hh := Lib.hid h
          clear hx h hW
          rcases hfo : findB la x.v with _ | y
          · have Hfo := Lib.hid hfo
            clear hfo
            go_upto_region 14 with fail
            rw [HW.out]
            clear e0 e1 e2
            go_upto_region 16 with (first
              | (go_at_call 91; (with_reducible refine Hfd.out.mono ?_); go_must (rintro e w5 ⟨hb5, he⟩; rw [Hfo.out] at he; obtain rfl := he))
              | fail)
            obtain ⟨W5, hW5⟩ : ∃ W5, w5.alloc (.cells #[.int .i64 0, .slice none 0 0] 31) = W5 := ⟨_, rfl⟩
            have hb5W : Below W.heap.size W W5 := by rw [← hW5]; exact hb5.alloc hb5.size _
            rw [hW5]
            clear hW5
            have b0 := cell_on hb5W hWs b0
            have b1 := cell_on hb5W hWs b1
            have b2 := cell_on hb5W hWs b2
            have hxW : Below wr.heap.size wr W5 := hBx.trans (hb5W.mono hBx.size)
            have hBW5 : Below w3.heap.size w3 W5 := hBr.trans (hxW.mono hBr.size)
            have hBw5 : Below w.heap.size w W5 := hBw.trans (hxW.mono hBw.size)
            have hput := Lib.hid (subClone_any x.t (hsb x (List.mem_of_getElem? Hx.out)) A' c' W5.drew Hh.out.it (((Hh.out.sub.keep fun g e => hBw5.block g e).args fun g e => Nat.lt_of_lt_of_le e hBw5.size).drewN 1))
            obtain ⟨n, hn⟩ : ∃ n, l2.length = n := ⟨_, rfl⟩
            have hnl : n ≤ 2097152 := by
              have h1 := H.out.len
              have h2 : ((lb.take k).filter (fun x => !hasB la x.v)).length ≤ (lb.take k).length := List.length_filter_le _ _
              rw [List.length_append, List.length_map] at h1
              rw [List.length_take] at h2
              omega
            have hrow := H.out.row.row
            rw [hn] at hrow
            have hLn := Lib.hid (H.out.len.symm.trans hn)
            obtain ⟨Av, cv, hv⟩ := row_own hrow
            subst hv
            have hrl := row_lt hrow
            have Hrow := Lib.hid hrow
            have hSS : ∀ w', Below W5.heap.size W5 w' → w'.cell? ⟨wr.heap.size, 0, none⟩ = some (.int .i64 x.v) := fun w' hb => cell_on hb (Nat.lt_of_lt_of_le hWs hb5W.size) b0
            have hz5 := hxW.size
            have hz45 := hBW5.size
            have hz34 := hBr.size
            clear hn hrow
            go_region_law
              (first
                | (go_simp
                   go_at_call 48
                   refine hput.out.mono ?_
                   rintro e w6 ⟨A6, c6, rfl, hO6, hb6⟩
                   have hB6 : Below W5.heap.size W5 w6 := ⟨hb6.os, hb6.tape, hb6.output, hb6.size, hb6.block⟩
                   have HO6 := Lib.hid hO6
                   have k6 := hSS _ hB6
                   clear hO6
                   dsimp only)
                | (refine step_append_at rfl (.tmp 59) (.tmp 66) 23 rfl w3.heap.size 77 i0 (.agg #[.int .i64 0, .int .i64 0, .slice none 0 0]) 3 40 Try.underlying23 hi hz0 hz1 hz2 rfl (by decide) (.slice Av n cv) n _ (by simp [Act.eval]) (row_keep Hrow.out fun g e => (Below.heap_alloc w6 _ g (Nat.lt_of_lt_of_le (hrl g e).2 (Nat.le_trans hz5 hB6.size))).trans ((hB6.block g (Nat.lt_of_lt_of_le (hrl g e).2 hz5)).trans (hxW.block g (hrl g e).2))) ⟨w6.heap.size, 0, none⟩ 1 1 [.int .i64 x.v, .int .i64 x.t.fn, .slice A6 x.t.args.length c6] (by simp [Act.eval]) rfl (cells_new_bind _ _ _ _ _) (by simp [Value.oneCell']) (by unfold maxLen; omega) (by omega) (by have := hB6.size; simp; omega) ?_
                   intro v7 w7 hown7 hgr7 hat7
                   have Hown7 := Lib.hid hown7
                   have Hgr7 := Lib.hid hgr7
                   have Hat7 := Lib.hid hat7
                   clear hown7 hgr7 hat7)
                | fail)
            all_goals
              have hBe : Below w3.heap.size w4 w7 := (((hBr0.trans (hxW.mono hBr.size)).trans (hB6.mono hz45)).alloc (Nat.le_trans hz45 hB6.size) _).grown Hgr7.out (by have := hB6.size; simp; omega) (fun g e => (hrl g e).1)
              have hbxe : Hid (Boxed w7 wo.heap.size 23 (.slice A la.length c)) := Lib.hid ((Hgr7.out.block _ (by have := hB6.size; have := Hbx.out.lt; simp; omega) (fun e => Hne.out e.symm)).trans ((Below.heap_alloc w6 _ _ (by have := hB6.size; have := Hbx.out.lt; omega)).trans ((hB6.block _ (by have := Hbx.out.lt; omega)).trans ((hxW.block _ Hbx.out.lt).trans Hbx.out))))
              have hnee : Hid (v7.ownBlock ≠ some wo.heap.size) := fun e => by
                rcases Hat7.out with h | h
                · rw [h] at e; exact Hne.out e
                · rw [h] at e; injection e with e; have := hB6.size; simp at e; omega
              have hnx := Lib.hid (H.out.next (x := x) hLn.out hz34 Hh.out.iv Hh.out.it (OwnT.wide HO6.out hz5 (Nat.le_refl _)) (hxW.trans (hB6.mono hz5)) Hown7.out Hgr7.out Hat7.out)
              have hnx2 : Hid (CmpI w3.heap.size w7 (la.map (thenB lb) ++ (lb.take (k + 1)).filter (fun x => !hasB la x.v)) v7 (l2 ++ [⟨x.v, x.t, A6, c6⟩])) := Lib.hid (by rw [show (lb.take (k + 1)).filter (fun x => !hasB la x.v) = (lb.take k).filter (fun x => !hasB la x.v) ++ [x] by rw [List.take_add_one, Hx.out, List.filter_append]; simp [hasB, Hfo.out], ← List.append_assoc]; exact hnx.out)
              go_wp2
              go_roundw
              case rel => exact ⟨k + 1, _, by omega, by go_num, hBe, hnx2, hbxe, hnee⟩
              case measure => simp [intOf]; omega
          · have Hfo := Lib.hid hfo
            clear hfo
            go_upto_region 14 with fail
            rw [HW.out]
            clear e0 e1 e2
            go_wp2_with (first
              | (go_at_call 91; (with_reducible refine Hfd.out.mono ?_); go_must (rintro e w5 ⟨hb5, he⟩; rw [Hfo.out] at he; obtain ⟨A5, c5, rfl, _, _⟩ := he))
              | fail)
            have hbW := hb5.alloc hb5.size (.cells #[.int .i64 y.t.fn, .slice A5 y.t.args.length c5] 31)
            have hxW := hBx.trans (hbW.mono hBx.size)
            refine ⟨⟨k + 1, l2, by omega, by go_num, hBr0.trans (hxW.mono hBr.size), Lib.hid ⟨?_, (H.out.row.keep (fun g e => hxW.block g (row_lt H.out.row.row g e).2) (fun g e => hxW.block g e.2.1)).wide fun g e => ⟨e.1, Nat.lt_of_lt_of_le e.2.1 hxW.size, e.2.2⟩⟩, Lib.hid ((hxW.block _ Hbx.out.lt).trans Hbx.out), Hne⟩, by simp [intOf]; omega⟩
            rw [H.out.key, List.take_add_one, Hx.out, List.filter_append]
            simp [hasB, Hfo.out]
        · obtain rfl : k = lb.length := by omega
          rw [List.take_length] at H
          have hll : l2.length ≤ 2097152 := by
            have h1 := H.out.len
            have h2 : (lb.filter (fun x => !hasB la x.v)).length ≤ lb.length := List.length_filter_le _ _
            rw [List.length_append, List.length_map] at h1
            omega
          have hN : ∀ k, Apart w3.heap.size u6 wr k → u6.ownBlock ≠ some k ∧ k < wr.heap.size := fun k e => ⟨e.2.2, e.2.1⟩
          have HS := Lib.hid (sort_any l2 u6 w3.heap.size _ wr H.out.row (by omega) hN)
          have HN := Lib.hid hN
          clear hN
          go_upto_region 19 with (first
            | (go_at_call 85; (with_reducible refine HS.out.mono ?_); go_must (rintro e w5 ⟨rfl, l5, hp5, hs5, hR5, hg5⟩; have HR5 := Lib.hid hR5; have Hp5 := Lib.hid hp5; have Hs5 := Lib.hid hs5; clear hR5 hp5 hs5))
            | fail)
          have HD := Lib.hid (delete_any l5 u6 w3.heap.size _ w5 HR5.out (by have := Hp5.out.length_eq; omega) (fun k e => ⟨(HN.out k e).1, Nat.lt_of_lt_of_le (HN.out k e).2 hg5.size⟩))
          go_wp2_with (first
            | (go_at_call 87; (with_reducible refine HD.out.mono ?_); go_must (rintro e w6 ⟨v6, rfl, hR6, hg6, hv6⟩; have HR6 := Lib.hid hR6; have Hv6 := Lib.hid hv6; clear hR6 hv6))
            | fail)
          go_ret2
          exact comp_fin H.out (by have := hB3.size; omega) hBw Hp5.out Hs5.out hg5 HR6.out hg6 Hv6.out (by omega)
end Go.Proofs.Ytdeegdndfblnkaa
