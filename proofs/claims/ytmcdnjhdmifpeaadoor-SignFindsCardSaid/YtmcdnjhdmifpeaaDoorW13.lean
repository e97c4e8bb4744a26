/- Add. -/
import Derived.Test.YtmcdnjhdmifpeaaDoorW12
namespace Go.Proofs.YtmcdnjhdmifpeaaDoor
open Go.RowKit

set_option maxRecDepth 100000 in
set_option maxHeartbeats 2000000 in
theorem Add_any (A A' : Option Addr) (n n' c c' : Nat) (l m : List Sm) (w : World) (h : Syms w w.heap.size A n l) (hm : Syms w w.heap.size A' n' m) (hn : n * 32 ≤ 140737488351232) (hn' : n' * 32 ≤ 140737488351232) (ht : tru w) :
    Calls Tryd.prog 19 #[.agg #[.slice A n c], .slice A' n' c'] w (AddPost l m w) := by
  have hneq := run_neq_sym
  by_cases hchk : checkI l = 0
  · have hchk' : (checkI l != 0) = false := by simp [hchk]
    have Hchk := Lib.hid hchk
    clear hchk
    go_enter Tryd.func19, Tryd.ntmps19
    go_wp2_with (first | (go_at_call 9; refine (Check_any _ _ _ l _ (h.on (((Below.refl _ _).alloc (Nat.le_refl _) _).alloc (by simp) _)) hn (tru_below ht (((Below.refl _ _).alloc (Nat.le_refl _) _).alloc (by simp) _))).mono ?_; rintro e w1 ⟨rfl, hb1⟩; have hz1 := hb1.size; have z0 := cell_on hb1 (b := w.heap.size) (o := 0) (v := .slice A n c) (by simp; omega) (by go_simp); have s1 := cell_on hb1 (b := w.heap.size + 1) (o := 0) (v := .slice none 0 0) (by simp) (by go_simp); have f1 := frozen_on hb1 (b := w.heap.size + 1) (o := 0) (x := false) (by simp) (by go_simp); simp at hz1; have hB1 := bl_step (((Below.refl w.heap.size w).alloc (Nat.le_refl _) _).alloc (by simp) _) hb1) | fail)
    clear hb1
    have hlen := h.len
    have hlen' := hm.len
    have Hm := Lib.hid (hm.below hB1)
    have Hl := Lib.hid (h.below hB1)
    have Ht := Lib.hid (tru_below ht hB1)
    clear hm h ht
    go_loopw [24] (fun i wr => ∃ k : Nat, k ≤ n' ∧ i = .int .i64 k ∧ Below w1.heap.size w1 wr ∧ Hid (∀ j y, j < k → m[j]? = some y → badB y = false)) (fun i _ => n' - (intOf i).toNat)
    case atStart => exact ⟨0, Nat.zero_le _, rfl, Below.refl _ _, fun j y h1 => by omega⟩
    case round =>
      obtain ⟨k, hk, rfl, hBr, HA⟩ := hrel
      by_cases hlt : k < n'
      · obtain ⟨b', off', rfl, hb', hc'⟩ := Hm.out.ad (by omega)
        obtain ⟨y, hy⟩ : ∃ y, m[k]? = some y := ⟨_, List.getElem?_eq_getElem (by omega)⟩
        have hyok : y.Ok := Hm.out.ok y (List.mem_of_getElem? hy)
        have hys := hyok.size
        obtain ⟨c1, c2, c3⟩ := hc' k y hy
        have hbw : b' < w1.heap.size := by omega
        have d1 := cell_on hBr hbw c1
        have d2 := cell_on hBr hbw c2
        have d3 := cell_on hBr hbw c3
        obtain ⟨t1, t2, t3, _⟩ := tru_below Ht.out hBr
        have s1' := cell_on hBr (by omega) s1
        have f1' := frozen_on hBr (by omega) f1
        have hbox : Below wr.heap.size wr (wr.alloc (.cells #[.string y.name, .int .i64 y.arity, .bool y.pred] 33)) := (Below.refl _ _).alloc (Nat.le_refl _) _
        have hzr := hBr.size
        have s2 := cell_on hbox (by omega) s1'
        have f2 := frozen_on hbox (by omega) f1'
        have Hy := Lib.hid hy
        have Hl' := Lib.hid (And.intro hlen hlen')
        clear hy hc' c1 c2 c3 hyok hlen hlen'
        by_cases he : oneI y.name y.arity = 0
        · have he' : (oneI y.name y.arity != 0) = false := by simp [he]
          have Hb := Lib.hid (show badB y = false by simp [badB, he])
          clear he
          go_wp2_with (first | (go_at_call 24; refine (fits_any _ _ _ hys).mono ?_; rintro e w2 ⟨rfl, rfl⟩) | fail)
          go_roundw
          case rel => exact ⟨k + 1, by omega, by go_num, hBr.trans (hbox.mono hBr.size), bad_before HA.out Hy.out Hb.out⟩
          case measure => simp [intOf]; omega
        · have he' : (oneI y.name y.arity != 0) = true := by simp [he]
          by_cases hyt : y = truthSm
          · have hs := smB_true hyt
            have Hb := Lib.hid (show badB y = false by simp [badB, hyt])
            clear he hyt
            go_wp2_with (first | (go_at_call 24; refine (fits_any _ _ _ hys).mono ?_; rintro e w2 ⟨rfl, rfl⟩) | fail)
            go_roundw
            case rel => exact ⟨k + 1, by omega, by go_num, hBr.trans (hbox.mono hBr.size), bad_before HA.out Hy.out Hb.out⟩
            case measure => simp [intOf]; omega
          · have hs := smB_false hyt
            have Hb := Lib.hid (show badB y = true by simp [badB, he, hyt])
            have He := Lib.hid he
            clear he hyt
            go_wp2_with (first | (go_at_call 24; refine (fits_any _ _ _ hys).mono ?_; rintro e w2 ⟨rfl, rfl⟩) | fail)
            refine bodyPost_ret (v := .tuple #[.agg #[.slice none 0 0], .int .i64 (oneI y.name y.arity)]) (by simp [results, Tryd.results19, go_sem, s2]) rfl (addPost_err (addE_bad Hchk.out Hy.out Hb.out HA.out) He.out ?_)
            exact ((hB1.trans (hBr.mono hB1.size)).trans (hbox.mono (Nat.le_trans hB1.size hBr.size))).setCell (by simp) _
      · have : k = n' := by omega
        subst this
        have Hgood := Lib.hid (addE_good Hchk.out (by rw [hlen']; exact HA.out))
        have Hlen := Lib.hid (And.intro hlen hlen')
        have hl96 := check_short Hchk.out
        have z0' := cell_on hBr (by omega) z0
        have s1' := cell_on hBr (by omega) s1
        have f1' := frozen_on hBr (by omega) f1
        have hB2 : Below w.heap.size w wr := hB1.trans (hBr.mono hB1.size)
        have hzr := hBr.size
        have Hl2 := Lib.hid ((Hl.out.below (hBr.mono hB1.size)).more hB2.size)
        have Hm2 := Lib.hid (Hm.out.below (hBr.mono hB1.size))
        clear hlt hk hlen hlen' z0 s1 f1 Hm Hl Ht HA
        go_wp2_with (first
          | (go_at_call 28; refine (Clone_any _ _ _ l _ Hl2.out hn).mono ?_; rintro e w2 ⟨A2, c2, rfl, hown, hb2⟩)
          | (go_at_call 23; refine (numbers_any _ _ _ l (by omega) _ hown.syms).mono ?_; rintro e w3 ⟨rfl, hmap, hb3⟩)
          | fail)
        obtain ⟨wo, rfl⟩ : ∃ wo : World, wo = wr := ⟨_, rfl⟩
        have hB3 : Below wo.heap.size wo w3 := bl_step hb2 hb3
        have hstart : AddAt l m wo w2.heap.size 0 A2 c2 (firstF l) l.length w3 := ⟨hown.below hb3, hmap, by omega, firstF_some l, by simpa [addAll] using hl96, hB3, hb2.size⟩
        clear hb2 hb3 hown hmap
        go_loopw [10, 50] (fun s i wr => ∃ (j : Nat) (A3 : Option Addr) (c3 : Nat) (f : Sm → Option Int) (cnt : Nat), j ≤ k ∧ i = .int .i64 j ∧ s = .slice A3 (addAll l (m.take j)).length c3 ∧ AddAt l m wo w2.heap.size j A3 c3 f cnt wr) (fun _ i _ => k - (intOf i).toNat)
        case atStart => exact ⟨0, A2, c2, _, _, Nat.zero_le _, rfl, rfl, hstart⟩
        case round =>
          clear hstart hB3
          obtain ⟨j, A3, c3, f, cnt, hj, rfl, rfl, hat⟩ := hrel
          have hBx : Below wo.heap.size wo wr := hat.bel
          have s1x := cell_on hBx (by omega) s1'
          have f1x := frozen_on hBx (by omega) f1'
          by_cases hlt : j < k
          · obtain ⟨b', off', rfl, hb', hc'⟩ := Hm2.out.ad (by omega)
            obtain ⟨y, hy⟩ : ∃ y, m[j]? = some y := ⟨_, List.getElem?_eq_getElem (by rw [Hlen.out.2]; exact hlt)⟩
            have hyok : y.Ok := Hm2.out.ok y (List.mem_of_getElem? hy)
            obtain ⟨c1, c2, c3⟩ := hc' j y hy
            have hbw : b' < wo.heap.size := by omega
            have d1 := cell_on hBx hbw c1
            have d2 := cell_on hBx hbw c2
            have d3 := cell_on hBx hbw c3
            have hbox : Below wr.heap.size wr (wr.alloc (.cells #[.string y.name, .int .i64 y.arity, .bool y.pred] 33)) := (Below.refl _ _).alloc (Nat.le_refl _) _
            have hlk := (hat.map.below hbox).look_ok hyok
            rw [hat.at_ y] at hlk
            have Hy := Lib.hid hy
            clear hy hc' c1 c2 c3
            by_cases hin : y ∈ addAll l (m.take j)
            · rw [decide_eq_true hin] at hlk
              have Hin := Lib.hid hin
              have Hat := Lib.hid hat
              clear hin hat
              go_wp2
              go_roundw
              case rel => exact ⟨j + 1, A3, _, f, cnt, by omega, by go_num, by rw [addAll_next Hy.out, addOne, if_pos Hin.out], Hat.out.found Hy.out Hin.out hbox⟩
              case measure => simp [intOf]; omega
            · rw [decide_eq_false hin] at hlk
              have hfew := hat.few
              have hfar := hat.far
              have hcnt := hat.cnt
              have Hin := Lib.hid hin
              have Hat := Lib.hid hat
              clear hin hat
              have hbm := Hat.out.map.lt
              have hown := Hat.out.own
              have hNext := @AddAt.added l m wo wr
              generalize hacc : addAll l (m.take j) = acc at hfew hown ⊢
              have Hacc := Lib.hid hacc
              have Hown := Lib.hid hown
              clear hacc hown hNext
              have hzo := hBx.size
              have hsz : wr.heap.size < (wr.alloc (.cells #[.string y.name, .int .i64 y.arity, .bool y.pred] 33)).heap.size := by simp
              by_cases h96 : acc.length = 96
              · have h96' : (((acc.length : Nat) : Int) == 96) = true := beq_iff_eq.2 (by omega)
                have s2 := cell_on hbox (by omega) s1x
                have f2 := frozen_on hbox (by omega) f1x
                have H96 := Lib.hid h96
                clear h96
                go_wp2
                have h3 : addE l m = 3 := by
                  rw [Hgood.out, if_pos]
                  have := addAll_mono l m (j + 1)
                  rw [addAll_next Hy.out, addOne, if_neg Hin.out, List.length_append, List.length_singleton, Hacc.out, H96.out] at this
                  omega
                refine bodyPost_ret (v := .tuple #[.agg #[.slice none 0 0], .int .i64 3]) (by simp [results, Tryd.results19, go_sem, s2]) rfl (addPost_err h3 (by decide) ?_)
                exact ((hB2.trans (hBx.mono hB2.size)).trans (hbox.mono (Nat.le_trans hB2.size hBx.size))).setCell (by simp) _
              · have h96' : (((acc.length : Nat) : Int) == 96) = false := beq_eq_false_iff_ne.2 (by omega)
                go_wp2_with (first
                  | (at_mapUpdate
                     refine wpList_put rfl _ _ _ rfl w2.heap.size cnt f rfl (Hat.out.map.below hbox) (by unfold maxLen; omega) y hyok (acc.length : Int) (WalkArith.wf_i64 ⟨by omega, by omega⟩) rfl rfl ?_
                     intro w5 hmap5 hg5
                     have hz5 : wr.heap.size < w5.heap.size := Nat.lt_of_lt_of_le hsz hg5.size
                     have q1 : w5.cell? ⟨wr.heap.size, 0, none⟩ = some (.string y.name) := (World.cell?_of_block (hg5.block wr.heap.size hsz (by simp; omega))).trans (by go_simp)
                     have q2 : w5.cell? ⟨wr.heap.size, 1, none⟩ = some (.int .i64 y.arity) := (World.cell?_of_block (hg5.block wr.heap.size hsz (by simp; omega))).trans (by go_simp)
                     have q3 : w5.cell? ⟨wr.heap.size, 2, none⟩ = some (.bool y.pred) := (World.cell?_of_block (hg5.block wr.heap.size hsz (by simp; omega))).trans (by go_simp)
                     have Hb5 := Lib.hid (And.intro (((Hown.out.alloc _).map (Hat.out.map.below hbox) hg5).alloc (.cells #[.string y.name, .int .i64 y.arity, .bool y.pred] 33)) ((hBx.trans (hbox.mono hBx.size)).grown hg5 (by simp; omega) (fun k e => by cases e; exact hfar)))
                     have Hmap5 := Lib.hid hmap5
                     clear hmap5 hg5)
                  | (at_builtin
                     refine wpList_append_syms rfl _ _ rfl (.slice A3 acc.length c3) acc rfl wo.heap.size Hb5.out.1 (some ⟨w5.heap.size, 0, none⟩) 1 1 (w5.heap.size + 1) [y] rfl (syms_one w5 y hyok 33) (by omega) (by simp; omega) ?_
                     intro A4 c4 w6 hown6 hg6)
                  | fail)
                have hsm : SMap (w5.alloc (.cells #[.string y.name, .int .i64 y.arity, .bool y.pred] 33)) w2.heap.size (cnt + 1) (updS f y acc.length) := Hmap5.out.kept (Below.heap_alloc _ _ _ Hmap5.out.lt)
                have hbl : Below wo.heap.size wo w6 := (Hb5.out.2.alloc Hb5.out.2.size _).grown hg6 (Nat.le_trans Hb5.out.2.size (by simp)) (fun k e => Hb5.out.1.ge e)
                have hfin : AddAt l m wo w2.heap.size (j + 1) A4 c4 (updS f y acc.length) (cnt + 1) w6 := by
                  refine Hat.out.added (A' := acc.length + 1) Hy.out Hin.out ?_ (by rw [Hacc.out]) ?_ (hsm.kept (hg6.block _ hsm.lt (hsm.ne_own Hb5.out.1))) hbl
                  · rw [Hacc.out]; omega
                  · rw [Hacc.out]; exact hown6
                have hln : acc.length + 1 = (addAll l (m.take (j + 1))).length := by rw [addAll_next Hy.out, addOne, if_neg Hin.out, List.length_append, Hacc.out]; rfl
                go_roundw
                case rel => exact ⟨j + 1, A4, c4, _, cnt + 1, by omega, by go_num, by rw [hln], hfin⟩
                case measure => simp [intOf]; omega
          · have : j = k := by omega
            subst this
            go_wp2
            have hall : m.take j = m := List.take_of_length_le (by rw [Hlen.out.2]; exact Nat.le_refl _)
            have h0 : addE l m = 0 := by
              rw [Hgood.out, if_neg]
              have := hat.few
              rw [hall] at this
              omega
            have hown := hat.own
            rw [hall] at hown ⊢
            refine bodyPost_ret (v := .tuple #[.agg #[.slice A3 (addAll l m).length c3], .int .i64 0]) (by simp [results, Tryd.results19, go_sem, s1x]) rfl ⟨_, by rw [h0], ⟨A3, c3, ?_, ?_⟩, ?_⟩
            · rw [addL_ok h0]
            · rw [addL_ok h0]
              exact (hown.setCell (p := ⟨w.heap.size + 1, 0, none⟩) (by simp; omega) _).syms
            · exact (hB2.trans (hBx.mono hB2.size)).setCell (by simp) _
  · have hchk' : (checkI l != 0) = true := by simp [hchk]
    have Hchk := Lib.hid hchk
    clear hchk
    go_enter Tryd.func19, Tryd.ntmps19
    go_wp2_with (first | (go_at_call 9; refine (Check_any _ _ _ l _ (h.on (((Below.refl _ _).alloc (Nat.le_refl _) _).alloc (by simp) _)) hn (tru_below ht (((Below.refl _ _).alloc (Nat.le_refl _) _).alloc (by simp) _))).mono ?_; rintro e w1 ⟨rfl, hb1⟩; have hz1 := hb1.size; have s1 := cell_on hb1 (b := w.heap.size + 1) (o := 0) (v := .slice none 0 0) (by simp) (by go_simp); have f1 := frozen_on hb1 (b := w.heap.size + 1) (o := 0) (x := false) (by simp) (by go_simp); simp at hz1) | fail)
    refine bodyPost_ret (v := .tuple #[.agg #[.slice none 0 0], .int .i64 (checkI l)]) (by simp [results, Tryd.results19, go_sem, s1]) rfl (addPost_err (addE_check Hchk.out) Hchk.out ?_)
    exact (bl_step (((Below.refl w.heap.size w).alloc (Nat.le_refl _) _).alloc (by simp) _) hb1).setCell (by simp) _
end Go.Proofs.YtmcdnjhdmifpeaaDoor
