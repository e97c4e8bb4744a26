import Derived.Test.YthgglobfkkcdgaaGreatP49S14
import Derived.Test.YthgglobfkkcdgaaGreatP49S1
import Derived.Test.YthgglobfkkcdgaaGreatP49S2
import Derived.Deep.RegionLaw
import Derived.Test.YthgglobfkkcdgaaGreatP49S3
import Derived.Test.YthgglobfkkcdgaaGreatP49S10
import Derived.Test.YthgglobfkkcdgaaGreatP49S12
import Derived.WideMake
namespace Go.Proofs.YthgglobfkkcdgaaGreat
open Go.RowKit Go.Shelf
set_option maxRecDepth 100000
set_option maxHeartbeats 4000000 in
theorem lpLay_yes {B0 bp bm : Nat} {P : Option Addr} {rk : List Int} {pc : Nat} {mf : Value} (f : Int) (xs : List Tm) (ih : ∀ t ∈ xs, LpLayAt B0 bp bm P rk pc mf t) (hx : ¬ ((rk.length : Int) ≤ f ∨ f < 0 ∧ 0 < xs.length)) : LpLayAt B0 bp bm P rk pc mf (.node f xs) := by
  intro w v H L A c h hz hR hf hA
  simp only [Tm.fn, Tm.args, Tm.size] at hf hA hz hR ⊢
  have hxl : xs.length ≤ 1099511627776 := by have := sizes_len xs; omega
  obtain ⟨i0, hi, hz0, hz1, hz2⟩ := info_parts info_head
  obtain ⟨W, hW⟩ : ∃ W, w.alloc (.cells #[.int .i64 f, .slice A xs.length c] 36) = W := ⟨_, rfl⟩
  have q0 := heap_alloc_new w (.cells #[.int .i64 f, .slice A xs.length c] 36)
  have hB : Below w.heap.size w W := by rw [← hW]; exact (Below.refl _ _).alloc (Nat.le_refl _) _
  rw [hW] at q0
  have hWs : w.heap.size < W.heap.size := (Array.getElem?_eq_some_iff.1 q0).1
  obtain ⟨a0, a1, _, _⟩ := cells_two q0
  have hPW := h.on hB
  have hpl := h.lt
  obtain ⟨p0, p1, p2, p3⟩ := cells_four hPW.box
  have hrow := hPW.row.row
  obtain ⟨Av, cv, rfl⟩ := row_slice hrow
  have hrl := row_lt hrow
  have HP := Lib.hid (show PrL W.drew.drew B0 bp bm P rk pc mf (.slice Av H.length cv) H L from hPW.on (bl_drewN (Below.refl _ _) 2))
  have Hrow := Lib.hid hrow
  have HA := Lib.hid hA
  have HW := Lib.hid hW
  have HB := Lib.hid hB
  have Hq0 := Lib.hid q0
  have hd1 : decide (f ≥ (rk.length : Int)) = false := decide_eq_false (by omega)
  have hlp := h.lp
  have HV : Hid (∀ g, (Value.slice Av H.length cv).ownBlock = some g → B0 ≤ g) := Lib.hid fun g e => (h.own e).1
  have hlm := h.lm
  have hvo : ∀ g, (Value.slice Av H.length cv).ownBlock = some g → g < w.heap.size := fun g e => (h.own e).2
  have p1a : ∀ o, (W.alloc o).cell? ⟨bp, 1, none⟩ = some (.slice Av H.length cv) := fun o => cell_on ((Below.refl W.heap.size W).alloc (Nat.le_refl _) o) (show bp < W.heap.size by omega) p1
  have h00 : I64 0 := ⟨by decide, by decide⟩
  clear hW h q0 hPW hB hA hrow
  go_enter Tryz.func64, Tryz.ntmps64
  go_upto_region 1 with fail
  rw [HW.out]
  rcases Decidable.em (f < 0) with hf0 | hf0
  case' inl =>
    have hd2 : decide (f < 0) = true := decide_eq_true hf0
    have hd3 : decide ((xs.length : Int) > 0) = false := decide_eq_false (by omega)
    go_region
    go_upto_region 4 with fail
    clear hd2 hd3 hf0
    rename_i hq kq aq
    clear hq
  case' inr =>
    have hd2 : decide (f < 0) = false := decide_eq_false hf0
    go_region
    go_upto_region 4 with fail
  all_goals
    go_region_law
      (first
        | (go_must (
           refine step_append_at rfl (.tmp 38) (.tmp 42) 92 rfl B0 97 i0 (.agg #[.int .i64 0, .int .i64 0, .int .i64 0]) 3 24 Tryz.underlying92 hi hz0 hz1 hz2 rfl (by decide) (.slice Av H.length cv) H.length _ (by simp [Act.eval]) (row_keep Hrow.out fun g e => Below.heap_alloc W.drew.drew _ g (hrl g e).2) ⟨W.heap.size, 0, none⟩ 1 1 [.int .i64 f, .int .i64 0, .int .i64 0] (by simp [Act.eval]) rfl (fun j u hj => cells_new_head W.drew.drew (.int .i64 f) (.int .i64 0) (.int .i64 0) 97 j u hj) (by simp [Value.oneCell']) (by unfold maxLen; omega) (by omega) (by simp; omega) ?_
           intro v5 w5 hown5 hgr5 hat5
           obtain ⟨A5, c5, rfl⟩ := row_slice hown5
           have H5 := Lib.hid (HP.out.push (x := ⟨f, 0, 0⟩) ⟨hf, h00, h00⟩ hown5 hgr5 hat5)
           obtain ⟨k0, k1, k2, k3⟩ := cells_four H5.out.2.2.2
           have hf5 := frozen_9 H5.out.2.2.2 1
           clear hown5 hgr5 hat5))
        | fail)
    all_goals
      obtain ⟨X, hX⟩ : ∃ X, w5.setCell ⟨bp, 1, none⟩ (.slice A5 (H.length + 1) c5) = X := ⟨_, rfl⟩
      have HI0 : Hid (LpI W X w.heap.size B0 bp bm P rk pc mf (.slice Av H.length cv) H L f xs A c 0 (.slice A5 (H.length + 1) c5)) := Lib.hid (by
        have h5 := H5.out
        rw [hX] at h5
        have hkW : KeepsC (CsP bp bm (.slice Av H.length cv)) W X := KeepsC.trans (KeepsC.of_below (bl_drewN (Below.refl _ _) 2)) h5.2.1
        refine ⟨h5.1, hkW, h5.2.2.1, (hkW.block hWs ?_).trans Hq0.out, by simp⟩
        rintro (e | e | e)
        · omega
        · omega
        · have := hvo _ e; omega)
      have HX := Lib.hid hX
      obtain ⟨t0, t1, _, _⟩ := cells_two HI0.out.tm
      clear hX H5 k0 k1 k2 k3 hf5
      rw [HX.out]
      clear a0 a1 p0 p1 p2 p3 p1a hrl HX HP Hrow HW
      go_upto_region 7 with fail
      go_loopw [6, 51] (fun nn i wr => ∃ (k : Nat) (v' : Value), k ≤ xs.length ∧ i = .int .i64 (k : Int) ∧ nn = .int .i64 (nmL rk.length L f (xs.take k)).1 ∧ Hid (LpI W wr w.heap.size B0 bp bm P rk pc mf (.slice Av H.length cv) H L f xs A c k v')) (fun _ i _ => xs.length - (intOf i).toNat)
      case atStart => exact ⟨0, _, Nat.zero_le _, rfl, by rw [List.take_zero, nmL], HI0⟩
      case round =>
        clear HI0 t0 t1
        obtain ⟨k, v', hk, rfl, rfl, HI⟩ := hrel
        obtain ⟨Hk, hHk⟩ : ∃ Hk, (H ++ ⟨f, 0, 0⟩ :: hdL rk.length L f (xs.take k)) = Hk := ⟨_, rfl⟩
        obtain ⟨Lk, hLk⟩ : ∃ Lk, (nmL rk.length L f (xs.take k)).2 = Lk := ⟨_, rfl⟩
        have hn64 := nmL_i64 rk.length (xs.take k) L f hf (by have := sizes_le xs k; omega)
        obtain ⟨nk, hnk⟩ : ∃ nk, (nmL rk.length L f (xs.take k)).1 = nk := ⟨_, rfl⟩
        have hlen : Hk.length = H.length + 1 + sizes (xs.take k) := by rw [← hHk, List.length_append, List.length_cons, hdL_len]; omega
        have hlL : Lk.length ≤ L.length + sizes (xs.take k) := by rw [← hLk]; exact nmL_len _ _ _ _
        have hsk := sizes_le xs k
        have hp := HI.out.p
        rw [hHk, hLk] at hp
        rw [hnk] at hn64 ⊢
        obtain ⟨Ak, ck, rfl, _⟩ := hp.pair (by omega)
        have hpl2 := hp.lt
        obtain ⟨p0, p1, p2, p3⟩ := cells_four hp.box
        obtain ⟨t0, t1, _, _⟩ := cells_two HI.out.tm
        have HHk := Lib.hid hHk
        have HLk := Lib.hid hLk
        have Hnk := Lib.hid hnk
        have Hp := Lib.hid hp
        have HLen := Lib.hid hlen
        have hk0 : Hk.length ≤ 1099511627776 := by omega
        clear hHk hLk hnk hp hlen
        by_cases hlt : k < xs.length
        · obtain ⟨u, hu⟩ : ∃ u, xs[k]? = some u := ⟨_, List.getElem?_eq_getElem hlt⟩
          have hAr := HI.out.args (HA.out.keep fun g hg => HB.out.block g (by omega)) (fun g e => (HV.out g e)) (by omega)
          obtain ⟨bb, off, A1, c1', rfl, ha⟩ := hAr.get hu
          have e0 := ha.c0
          have e1 := ha.c1
          have hbb := ha.hb
          have hsz := sizes_take hu
          have hsz1 := sizes_le xs (k + 1)
          have hmem := List.mem_of_getElem? hu
          have hba := fun o => (Below.refl wr.heap.size wr).alloc (Nat.le_refl _) o
          have hcall := ih u hmem (wr.alloc (.cells #[.int .i64 u.fn, .slice A1 u.args.length c1'] 36)) _ Hk Lk A1 c1' (Hp.out.on (hba _)) (by have := HLen.out; omega) (by omega) ha.hi (ha.sub.keep fun g hg => (hba _).block g (by omega))
          have hbne : bb ≠ wr.heap.size := by omega
          have Hu := Lib.hid hu
          by_cases hku : layK rk.length u = true
          · unfold LayPost at hcall
            rw [hku] at hcall
            have Hcall := Lib.hid hcall
            clear hcall ha hAr hu hba
            go_wp2_with (first
              | (go_at_call 64; (with_reducible refine Hcall.out.mono ?_); go_must (
                 rintro e w4 ⟨rfl, v4, H4, L4, h4, k4, n4, e4x⟩
                 obtain ⟨e4, l4⟩ := e4x rfl
                 clear e4x
                 have hp4 := size_pos u
                 have hl4 : H4.length = Hk.length + u.size := by rw [e4, List.length_append, hdT_len]
                 have hL4 : L4.length + 1 ≤ Lk.length + u.size := by rw [l4]; exact nm_len _ _ _
                 have hg4 : H4[Hk.length]? = some ⟨u.fn, (u.size : Int), (nmT rk.length Lk u).1⟩ := by rw [e4, List.getElem?_append_right (Nat.le_refl _), Nat.sub_self]; exact hdT_top _ _ _
                 have hl5 : H4.length ≤ 1099511627776 := by have := HLen.out; omega
                 have hl6 : Hk.length < H4.length := by omega
                 obtain ⟨A4, c4, rfl, hP4⟩ := h4.pair (by omega)
                 obtain ⟨b4, off4, rfl, hb4, d0, d1, d2⟩ := hP4.hds.get hg4
                 have d3 : w4.cell? ⟨b4, off4 + Hk.length * 3 + 2, none⟩ = some (.int .i64 (nmT rk.length Lk u).1) := d2
                 obtain ⟨r0, r1, r2, r3⟩ := cells_four h4.box
                 have hlk := Lib.hid (link_at h4 (by omega) (by omega) hn64 (h4.row.i64 _ (List.mem_of_getElem? hg4)).2.2)
                 have E4 := Lib.hid e4
                 have F4 := Lib.hid l4
                 have K4 := Lib.hid k4
                 have N4 := Lib.hid n4
                 clear h4 hP4 e4 l4 k4 n4 hg4 d0 d1 d2 hl4))
              | (go_at_call 81; (with_reducible refine hlk.out.mono ?_); go_must (rintro e w6 ⟨rfl, h6, k6⟩; have H6 := Lib.hid h6; have K6 := Lib.hid k6; clear h6 k6))
              | fail)
            go_roundw
            case rel =>
              refine ⟨k + 1, _, by omega, by go_num, ?_, Lib.hid (HI.out.next (H4 := H4) (L4 := L4) Hu.out hku K4.out N4.out (by rw [HHk.out, HLk.out]; exact E4.out) (by rw [HLk.out]; exact F4.out) (by rw [Hnk.out, HLk.out]; exact H6.out) K6.out (by omega) (by omega) (fun e => by have := hvo _ e; omega) hWs)⟩
              rw [List.take_add_one, Hu.out, Option.toList_some, nmL_snoc, HLk.out, Hnk.out, F4.out]
            case measure => simp [intOf]; omega
          · have hkf : layK rk.length u = false := by simpa using hku
            have hno : layK rk.length (.node f xs) = false := by rw [layK_top hx]; exact Bool.eq_false_iff.2 fun h => hku ((layKL_take xs).1 h u hmem)
            unfold LayPost at hcall
            rw [hkf] at hcall
            have Hcall := Lib.hid hcall
            clear hcall ha hAr hu hba
            go_wp2_with (first
              | (go_at_call 64; (with_reducible refine Hcall.out.mono ?_); go_must (rintro e w4 ⟨rfl, v4, H4, L4, h4, k4, n4, _⟩; have HH4 := Lib.hid h4; have K4 := Lib.hid k4; have N4 := Lib.hid n4; clear h4 k4 n4))
              | fail)
            go_ret
            unfold LayPost
            rw [hno]
            have ho := HI.out.out HB.out K4.out N4.out
            exact ⟨rfl, v4, H4, L4, HH4.out, ho.1, ho.2, fun e => by cases e⟩
        · obtain rfl : k = xs.length := by omega
          have hok : layK rk.length (.node f xs) = true := by rw [layK_top hx]; exact (layKL_take xs).2 fun x hx => HI.out.ok x (by rw [List.take_length]; exact hx)
          obtain ⟨g, cap, hve, hg0, hgw, _⟩ := Hp.out.row.own (by have := HLen.out; omega)
          injection hve with hv1 _ hv3
          subst hv1 hv3
          have hx0 : Hk[H.length]? = some ⟨f, 0, 0⟩ := by rw [← HHk.out, List.getElem?_append_right (Nat.le_refl _), Nat.sub_self]; rfl
          have hs64 : I64 ((Tm.node f xs).size : Int) := by rw [Tm.size]; exact ⟨by omega, by omega⟩
          have hws : IntKind.i64.wrap ((Hk.length : Int) - (H.length : Int)) = ((Tm.node f xs).size : Int) := by
            have h1 := HLen.out
            rw [List.take_length] at h1
            rw [IntKind.wrap_i64, Tm.size]; omega
          have hlt1 : H.length < Hk.length := by have := HLen.out; omega
          obtain ⟨sz, hsz⟩ : ∃ sz : Int, ((Tm.node f xs).size : Int) = sz := ⟨_, rfl⟩
          rw [hsz] at hs64 hws
          have Hsz := Lib.hid hsz
          have Hfill := Lib.hid ((Hp.out.on (bl_drewN (Below.refl _ _) 1)).fill hx0 hs64 hn64)
          have s1 := hc_get Hk H.length 1 (by omega)
          have s2 := hc_get Hk H.length 2 (by omega)
          rw [hx0] at s1 s2
          have c1 := Hp.out.row.row.cellAt (H.length * 3 + 1) (by omega)
          have c2 := Hp.out.row.row.cellAt (H.length * 3 + 2) (by omega)
          rw [s1] at c1
          rw [s2] at c2
          have c1' : wr.cell? ⟨g, H.length * 3 + 1, none⟩ = some (.int .i64 0) := c1
          have c2' : wr.cell? ⟨g, H.length * 3 + 2, none⟩ = some (.int .i64 0) := c2
          have z1 := Hp.out.row.row.frozenAt (H.length * 3 + 1)
          have z2 := Hp.out.row.row.frozenAt (H.length * 3 + 2)
          have hgp : bp ≠ g := fun e => Hp.out.vp (by rw [e]; rfl)
          clear hsz s1 s2 c1 c2 hx0
          go_upto_region 14 with fail
          have w0 : wr.drew.cell? ⟨bp, 1, none⟩ = some (.slice (some ⟨g, 0, none⟩) Hk.length ck) := p1
          have w1 : wr.drew.cell? ⟨g, H.length * 3 + 1, none⟩ = some (.int .i64 0) := c1'
          have w2 : wr.drew.frozen? ⟨g, H.length * 3 + 1, none⟩ = false := z1
          have w3 : (wr.drew.setCell ⟨g, H.length * 3 + 1, none⟩ (.int .i64 sz)).cell? ⟨g, H.length * 3 + 1 + 1, none⟩ = some (.int .i64 0) := (World.cell?_setCell_other _ _ _ _ (by simp)).trans c2'
          have w4 : (wr.drew.setCell ⟨g, H.length * 3 + 1, none⟩ (.int .i64 sz)).frozen? ⟨g, H.length * 3 + 1 + 1, none⟩ = false := (World.frozen?_setCell _ _ _ _).trans z2
          refine wp_region_stages 98 [[(0, none)], [(76, some 0)], [(77, some 1)], [(78, some 2)], [(5, none)], [(0, none)], [(81, some 5)], [(82, some 6)], [(83, some 7)], [(5, none)], [(0, none)], [(86, some 10)], [(87, some 11)], [(88, some 12)], [(89, some 13)], [(5, none)], [(90, some 14), (91, some 15)], [(6, none)], [(79, some 3), (80, some 4)], [(94, some 18)], [(95, some 19), (92, some 16)], [(84, some 8), (85, some 9)], [(96, some 21)], [(97, some 22), (93, some 17)]] [[0, 1, 2], [0, 1, 2], [0, 1, 2], [0], [0, 1, 2], [0, 1, 2], [0, 1, 2], [0, 1, 2], [0], [0, 1, 2], [0, 1, 2], [0, 1, 2], [0, 1, 2], [0], [0, 1, 2], [0, 1, 2], [0, 1, 2], [0, 1, 2], [0, 1, 2], [0, 1, 2], [0], [0, 1, 2], [0, 1, 2], [1]] [.pointer (some ⟨bp, 0, none⟩), .pointer (some ⟨bp, 0, none⟩), .pointer (some ⟨bp, 1, none⟩), .slice (some ⟨g, 0, none⟩) Hk.length ck, .int .i64 (H.length : Int), .pointer (some ⟨bp, 0, none⟩), .pointer (some ⟨bp, 0, none⟩), .pointer (some ⟨bp, 1, none⟩), .slice (some ⟨g, 0, none⟩) Hk.length ck, .int .i64 (H.length : Int), .pointer (some ⟨bp, 0, none⟩), .pointer (some ⟨bp, 0, none⟩), .pointer (some ⟨bp, 1, none⟩), .slice (some ⟨g, 0, none⟩) Hk.length ck, .int .i64 (Hk.length : Int), .int .i64 (H.length : Int), .int .i64 sz, .int .i64 nk, .pointer (some ⟨g, H.length * 3, none⟩), .pointer (some ⟨g, H.length * 3 + 1, none⟩), undef, .pointer (some ⟨g, H.length * 3, none⟩), .pointer (some ⟨g, H.length * 3 + 1 + 1, none⟩), undef] [20, 23] (fun k => match k with | 0 => wr.drew | 1 => wr.drew.setCell ⟨g, H.length * 3 + 1, none⟩ (.int .i64 sz) | _ => (wr.drew.setCell ⟨g, H.length * 3 + 1, none⟩ (.int .i64 sz)).setCell ⟨g, H.length * 3 + 1 + 1, none⟩ (.int .i64 nk)) (by kernel_rfl) (by decide +kernel) (by decide +kernel) (by kernel_rfl) rfl ?_ ?_
          · exact ⟨ss_move rfl, ss_nil rfl, ss_pair1 rfl, ss_load rfl w0, ss_move rfl, ss_move rfl, ss_nil rfl, ss_pair1 rfl, ss_load rfl w0, ss_move rfl, ss_move rfl, ss_nil rfl, ss_pair1 rfl, ss_load rfl w0, ss_len rfl, ss_move rfl, ss_sub rfl rfl hws, ss_move rfl, ss_idx rfl rfl hlt1, ss_head1 rfl, ss_store rfl rfl ⟨_, rfl⟩ w1 w2 rfl, ss_idx rfl rfl hlt1, ss_head2 rfl, ss_store rfl rfl ⟨_, rfl⟩ w3 w4 rfl, trivial⟩
          · simp only [List.map_cons, List.map_nil, finF, Fct.eq]
            rintro _ rfl _ rfl _ rfl _ rfl _ rfl _ rfl _ rfl _ rfl _ rfl _ rfl _ rfl _ rfl _ rfl _ rfl _ rfl _ rfl _ rfl _ rfl _ rfl _ rfl _ rfl _ rfl
            simp only [Act.put, List.setIfInBounds_toArray, List.set_cons_succ, List.set_cons_zero]
            go_wp2
            go_ret
            unfold LayPost
            rw [hok]
            have ho := HI.out.fin HB.out (KeepsC.trans (KeepsC.of_below (bl_drewN (Below.refl _ _) 1)) Hfill.out.2)
            refine ⟨rfl, _, _, _, Hfill.out.1, ho.1, ho.2, fun _ => ⟨?_, ?_⟩⟩
            · have e1 := HHk.out
              have e2 := Hnk.out
              rw [List.take_length] at e1 e2
              rw [← e1, set_at, hdT, nmT, e2, Hsz.out]
            · have e2 := HLk.out
              rw [List.take_length] at e2
              rw [nmT, e2]
end Go.Proofs.YthgglobfkkcdgaaGreat
namespace Go.Proofs.YthgglobfkkcdgaaGreat
open Go.RowKit Go.Shelf Go.Maps
set_option maxRecDepth 100000
end Go.Proofs.YthgglobfkkcdgaaGreat
namespace Go.Proofs.YthgglobfkkcdgaaGreat
open Go.RowKit Go.Shelf Go.Maps
set_option maxRecDepth 20000
def cmpP (p : List Int) (s t : Tm) : Int := if layK p.length s && layK p.length t then (if cmpT s t = 0 then 2 else if lpT p s t then 3 else if lpT p t s then 1 else 0) else 0
mutual
theorem layK_vn {R : Nat} : ∀ t : Tm, layK R t = true → vnT t = true
  | .node f xs, h => by
    rw [layK, Bool.and_eq_true, Bool.not_eq_true', Bool.or_eq_false_iff, Bool.and_eq_false_iff, decide_eq_false_iff_not, decide_eq_false_iff_not, decide_eq_false_iff_not] at h
    rw [vnT, Bool.and_eq_true]
    refine ⟨?_, layKL_vn xs h.2⟩
    rcases h.1.2 with h1 | h1
    · rw [decide_eq_false h1]; rfl
    · rw [decide_eq_true (show xs.length = 0 by omega), Bool.or_true]
theorem layKL_vn {R : Nat} : ∀ xs : List Tm, layKL R xs = true → vnTL xs = true
  | [], _ => by rw [vnTL]
  | x :: xs, h => by
    rw [layKL, Bool.and_eq_true] at h
    rw [vnTL, Bool.and_eq_true]
    exact ⟨layK_vn x h.1, layKL_vn xs h.2⟩
end
section
variable {p : List Int} {ar : List Nat} {s t u : Tm}
end
end Go.Proofs.YthgglobfkkcdgaaGreat
namespace Go.Proofs.YthgglobfkkcdgaaGreat
open Go.RowKit Go.Shelf Go.Maps
set_option maxRecDepth 100000
theorem lpLay_all {B0 bp bm : Nat} {P : Option Addr} {rk : List Int} {pc : Nat} {mf : Value} (t : Tm) : LpLayAt B0 bp bm P rk pc mf t := by
  refine Tm.ind (P := LpLayAt B0 bp bm P rk pc mf) (fun f xs ih => ?_) t
  by_cases hx : (rk.length : Int) ≤ f ∨ f < 0 ∧ 0 < xs.length
  · intro w v H L A c h _ _ _ _
    exact lay_no h f xs A c hx
  · exact lpLay_yes f xs ih hx
theorem okT_laid {R : Nat} {L M : List (Int × Int)} {t : Tm} (hk : layK R t = true) (hv : vnT t = true) (hL : L.Nodup) (hp : (nmT R L t).2 <+: M) : OkT R M t :=
  ⟨hv, layK_rk t hk, _, ((nm_spec t L hL (layK_rk t hk)).2.2).mono hp⟩
structure Two (w w' : World) (p : List Int) (s t : Tm) (bp : Nat) (P : Option Addr) (pc : Nat) (n bf : Nat) (A : Option Addr) (H : List Hd) (hc : Nat) (ml : Value) (M : List (Int × Int)) : Prop where
  nb : w.heap.size ≤ bf
  nd : M.Nodup
  os : OkT p.length M s
  ot : OkT p.length M t
  a1 : AtT p.length M H 0 s
  a2 : AtT p.length M H s.size t
  len : H.length = s.size + t.size
  fd : FdW w' n bp bf P p pc A H hc ml (fdF p p.length M)
def LayTwo (w : World) (p : List Int) (s t : Tm) (e : Ending) (w' : World) : Prop :=
  Below w.heap.size w w' ∧ (layK p.length s = true ∧ layK p.length t = true → ∃ bp P pc n bf A H hc ml M, e = .returned (.tuple #[.agg #[.pointer (some ⟨bp, 0, none⟩), .int .i64 0], .agg #[.pointer (some ⟨bp, 0, none⟩), .int .i64 (s.size : Int)], .bool true]) ∧ Two w w' p s t bp P pc n bf A H hc ml M) ∧
    (¬ (layK p.length s = true ∧ layK p.length t = true) → e = .returned (.tuple #[.agg #[.pointer none, .int .i64 0], .agg #[.pointer none, .int .i64 0], .bool false]))
theorem prL_made {X : World} {B0 bp bm bf : Nat} {P : Option Addr} {rk : List Int} {pc : Nat} (hbox : X.heap[bp]? = some (.cells #[.slice P rk.length pc, .slice none 0 0, .map (some bm), .map (some bf)] 94)) (hr : Ints X B0 P rk) (hm : LMap X bm rk.length []) (hne : bm ≠ bp) (h1 : B0 ≤ bp) (h2 : B0 ≤ bm) :
    PrL X B0 bp bm P rk pc (.map (some bf)) (.slice none 0 0) [] [] :=
  ⟨hbox, hr, RowH.nil_ X B0, hm, hne, (fun e => by cases e), (fun e => by cases e), h1, h2⟩
theorem two_of_laid {w X w1 w2 : World} {B0 bp bm bf : Nat} {P : Option Addr} {rk : List Int} {pc : Nat} {s t : Tm} {v1 v2 : Value} {H1 H2 : List Hd} {L1 L2 : List (Int × Int)} {F : Int × Int → Int}
    (hf : w.heap.size ≤ bf) (hB0 : B0 ≤ w.heap.size) (hfX : bf < X.heap.size) (hfp : bf ≠ bp) (hmp : FMap w2 bf [] F) (hz1 : X.heap.size ≤ w1.heap.size) (hz2 : X.heap.size ≤ w2.heap.size) (hF : F = fdF rk rk.length L2)
    (hks : layK rk.length s = true) (hkt : layK rk.length t = true) (hvs : vnT s = true) (hvt : vnT t = true) (hsz : s.size + t.size ≤ 1099511627776)
    (n1 : NewV X (.slice none 0 0) v1) (e1 : H1 = hdT rk.length [] s) (l1 : L1 = (nmT rk.length [] s).2)
    (p2 : PrL w2 B0 bp bm P rk pc (.map (some bf)) v2 H2 L2) (n2 : NewV w1 v1 v2) (e2 : H2 = H1 ++ hdT rk.length L1 t) (l2 : L2 = (nmT rk.length L1 t).2) :
    ∃ A hc, Two w w2 rk s t bp P pc w2.heap.size bf A H2 hc (.map (some bm)) L2 := by
  have hs1 := nm_spec s [] (List.nodup_nil) (layK_rk s hks)
  rw [← l1] at hs1
  have hs2 := nm_spec t L1 hs1.1 (layK_rk t hkt)
  rw [← l2] at hs2
  have hH1 : H1 = hsT rk.length L2 s := by rw [e1]; exact hd_hs hs2.1 s [] List.nodup_nil (layK_rk s hks) (by rw [← l1]; exact hs2.2.1)
  have hH2 : H2 = hsT rk.length L2 s ++ hsT rk.length L2 t := by rw [e2, hH1, hd_hs hs2.1 t L1 hs1.1 (layK_rk t hkt) (by rw [← l2]; exact List.prefix_rfl)]
  have hlen : H2.length = s.size + t.size := by rw [hH2, List.length_append, hsT_len, hsT_len]
  obtain ⟨A, c, hv, hP⟩ := p2.pair (by omega)
  have hv1f : v1.ownBlock ≠ some bf := fun e => by
    rcases n1 bf e with a | a
    · cases a
    · omega
  have hv2f : v2.ownBlock ≠ some bf := fun e => by
    rcases n2 bf e with a | a
    · exact hv1f a
    · omega
  have hlt := p2.lt
  refine ⟨A, c, hf, hs2.1, okT_laid hks hvs List.nodup_nil (by rw [← l1]; exact hs2.2.1), okT_laid hkt hvt hs1.1 (by rw [← l2]; exact List.prefix_rfl), by rw [hH2]; exact AtT.two.1, by rw [hH2]; exact AtT.two.2, hlen, ⟨hP, Nat.le_refl _, fun hn b off e => ?_, fun b off e => ?_, hlt.1, by omega, hfp, ⟨[], List.nodup_nil, (fun x hx => by simp at hx), ?_⟩, ?_⟩⟩
  · obtain ⟨b', off', e', hb', _⟩ := p2.rks.ad hn
    rw [e] at e'
    injection e' with e'
    injection e' with e' _
    subst e'
    exact ⟨by have := p2.lp; omega, by omega⟩
  · have ho : v2.ownBlock = some b := by rw [hv, e]; rfl
    exact ⟨(p2.own ho).2, fun e' => hv2f (e' ▸ ho)⟩
  · rw [← hF]
    exact hmp
  · rcases p2.row.row.2 with ⟨_, h0⟩ | ⟨g, cap, cur, hvv, _, _, hcap, _⟩
    · omega
    · rw [hv] at hvv
      injection hvv with _ _ h3
      subst h3
      exact hcap
end Go.Proofs.YthgglobfkkcdgaaGreat
