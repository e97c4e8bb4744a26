import Derived.Test.YtmmiclpedehcpaaDoorP52S1
import Derived.Deep.RegionHeld3
import Derived.RangeFuncNested
import Derived.RangeFuncBox
import Derived.RangeFuncLeaves
import Derived.Shelf.Abstract
import Derived.OwnWalkIn
import Derived.TacticsInMore
import Derived.LoopNIn
import Derived.LoopIn
import Derived.Maps.OwnIn
import Derived.DeepKeys5
import Derived.Laws.EntriesVeiled
import Derived.BigQuiet
import Derived.StillTailTactics
import Derived.Deep.RegionLaw
import Derived.Deep.DeepCutAuto
import Derived.Lib.BufferMore
import Derived.Lib.SliceRun
import Derived.WideMake
import Derived.RangeFuncCalls
namespace Go.Proofs.YtmmiclpedehcpaaDoor
open Go Go.RowKit Go.Shelf Go.Maps
set_option maxRecDepth 100000
section
variable {m : Bool} {k : FuncId} {fs : Array Value} {sx bv bs ba : Nat}
set_option maxHeartbeats 8000000 in
theorem visit_any (hC : AbsC m k fs sx) (t : Tm) : VisAt m k fs sx bv bs ba t := by
  refine Tm.ind (P := VisAt m k fs sx bv bs ba) (fun f xs ih => ?_) t
  intro w tag p sy As n cs ts A c N h hsx hts hsz hf hA hN hX
  obtain ⟨t, ht⟩ : ∃ t, Tm.node f xs = t := ⟨_, rfl⟩
  have hfn : f = t.fn := by rw [← ht]; rfl
  have hxs : xs = t.args := by rw [← ht]; rfl
  rw [ht] at hts hsz hf hA ⊢
  rw [hxs] at ih
  clear hfn hxs ht
  have hS1 : t.size = sizes t.args + 1 := by cases t; simp [Tm.size, Tm.args]
  have hlen : t.args.length ≤ 1048576 := by have := sizes_len t.args; omega
  obtain ⟨i0, hi, hz0, hz1, hz2⟩ := info_parts info_entp
  obtain ⟨W0, hW0⟩ : ∃ W0, w.alloc (.cells #[.int .i64 t.fn, .slice A t.args.length c] 37) = W0 := ⟨_, rfl⟩
  have hB0 : Below w.heap.size w W0 := by rw [← hW0]; exact (Below.refl _ _).alloc (Nat.le_refl _) _
  have q0 := heap_alloc_new w (.cells #[.int .i64 t.fn, .slice A t.args.length c] 37)
  rw [hW0] at q0
  have hs0 : W0.heap.size = w.heap.size + 1 := by rw [← hW0]; simp
  obtain ⟨y0, y1, _, _⟩ := cells_two q0
  have hI0 : Hid (VisI m w W0 tag tag p p sy As n cs ts t 0 (.slice none 0 0) ∧ W0.heap[w.heap.size]? = some (.cells #[.int .i64 t.fn, .slice A t.args.length c] 37) ∧ tag w.heap.size = 0) := Lib.hid ⟨⟨by simpa [tsVL_nil] using h.on hB0, .below hB0, by simp, ⟨rfl, .inl ⟨rfl, rfl⟩⟩, fun g e => by simp [Value.ownBlock] at e⟩, q0, h.hi _ (Nat.le_refl _)⟩
  have HW0 := Lib.hid hW0
  have HX := Lib.hid hX
  have HA := Lib.hid hA
  have HN := Lib.hid hN
  have HC := Lib.hid hC
  have HIH := Lib.hid ih
  have Hhi := Lib.hid h.hi
  clear hW0 hX hA hN hC ih h q0 hB0
  go_enter Tryd.func53, Tryd.ntmps53
  go_upto_region 1 with (fail)
  rw [HW0.out]
  go_wp2
  go_loopw [6, 16] (fun v i wr => ∃ (j : Nat) (tagr : Nat → Nat) (pr : BPl), j ≤ t.args.length ∧ i = .int .i64 (j : Int) ∧ Hid (VisI m w wr tag tagr p pr sy As n cs ts t j v ∧ wr.heap[w.heap.size]? = some (.cells #[.int .i64 t.fn, .slice A t.args.length c] 37) ∧ tagr w.heap.size = 0)) (fun _ i _ => t.args.length - (intOf i).toNat)
  case atStart => exact ⟨0, tag, p, Nat.zero_le _, rfl, hI0⟩
  case round =>
    obtain ⟨j, tagr, pr, hj, rfl, H⟩ := hrel
    by_cases hlt : j < t.args.length
    case pos =>
      obtain ⟨a, ha⟩ : ∃ a, t.args[j]? = some a := ⟨_, List.getElem?_eq_getElem hlt⟩
      obtain ⟨H1, hbox, htb⟩ := H.out
      have hkr : ∀ g, N g → wr.heap[g]? = w.heap[g]? := fun g e => H1.g.k.block (HN.out g e).1 fun e2 => e2 (HN.out g e).2
      obtain ⟨bb, off, A1, c1, rfl, haa⟩ := (HA.out.keep hkr).get ha
      have e0 := haa.c0
      have e1 := haa.c1
      have hi64 := haa.hi
      have hsub := haa.sub
      have hVX := HX.out.grew H1.g
      have hmem := List.mem_of_getElem? ha
      have hasz := size_mem hmem
      have hlt2 : (j : Int) < (t.args.length : Int) := by omega
      have hwr1 : IntKind.i64.wrap ((j : Int) + 1) = (j : Int) + 1 := by rw [IntKind.wrap_i64]; omega
      obtain ⟨lv, hlv⟩ : ∃ lv, tsVL m ts (t.args.take j) = lv := ⟨_, rfl⟩
      have hlb : lv.length + a.size ≤ 2147483648 := by
        obtain ⟨us, e, hu⟩ := tsVL_pre m ts (t.args.take j)
        rw [hlv] at e
        have h1 := sizes_take ha
        have h2 := sizes_le t.args (j + 1)
        rw [e, List.length_append]; omega
      have hrec : ∀ W, Below wr.heap.size wr W → Calls Tryd.prog 53 #[.agg #[.int .i64 a.fn, .slice A1 a.args.length c1], .pointer (some ⟨bv, 0, none⟩), .pointer (some ⟨bs, 0, none⟩), .pointer (some ⟨ba, 0, none⟩)] W (VisB m W tagr pr sy As n cs lv a) := fun W hW => by
        refine HIH.out a hmem W tagr pr sy As n cs lv A1 c1 N ?_ ?_ hlb (by omega) hi64 (hsub.keep fun g e => hW.block g (by have := (HN.out g e).1; have := H1.g.k.size; omega)) (fun g e => ⟨by have := (HN.out g e).1; have := H1.g.k.size; have := hW.size; omega, (H1.g.t g (HN.out g e).1).trans (HN.out g e).2⟩) (hVX.grew (.below (N := 0) (p := pr) hW))
        · have := H1.b.on hW; rwa [hlv] at this
        · rw [H1.g.sx, hsx]
      have hWa : Below wr.heap.size wr (wr.alloc (.cells #[.int .i64 a.fn, .slice A1 a.args.length c1] 37)) := (Below.refl _ _).alloc (Nat.le_refl _) _
      have hR := hrec _ hWa
      have v0 := cell_on hWa hVX.v.lt hVX.v.cell
      have HWa := Lib.hid hWa
      have HH := Lib.hid H1
      have Ha := Lib.hid ha
      have Hbox := Lib.hid hbox
      have Hlv := Lib.hid hlv
      have hwl : w.heap.size < wr.heap.size := (Array.getElem?_eq_some_iff.1 hbox).1
      have hvl := row_lt H1.r
      obtain ⟨Av, cv, hv⟩ := row_slice H1.r
      subst hv
      have hts' : tsVL m ts (t.args.take (j + 1)) = tsV m lv a := by rw [tsVL_take ha, hlv]
      by_cases hin : a ∈ tsV m lv a
      case pos =>
        obtain ⟨q, hq⟩ : ∃ q, idxT (tsVL m ts (t.args.take (j + 1))) a = q := ⟨_, rfl⟩
        have hin2 : a ∈ tsVL m ts (t.args.take (j + 1)) := by rw [hts']; exact hin
        have HR : Hid (Calls Tryd.prog 53 #[.agg #[.int .i64 a.fn, .slice A1 a.args.length c1], .pointer (some ⟨bv, 0, none⟩), .pointer (some ⟨bs, 0, none⟩), .pointer (some ⟨ba, 0, none⟩)] (wr.alloc (.cells #[.int .i64 a.fn, .slice A1 a.args.length c1] 37)) fun e w' => ∃ p2 tag2, e = .returned (.pointer (some ⟨p2.E q, 0, none⟩)) ∧ BankW w' tag2 p2 sy As n cs (tsVL m ts (t.args.take (j + 1))) ∧ Grew w w' tag tag2 p p2 ts.length ∧ w'.ownsRow (w.heap.size + 1) 80 1 (.slice Av j cv) j ((t.args.take j).map fun a => p2.ptr (idxT (tsVL m ts (t.args.take (j + 1))) a)) ∧ (∀ g, (Value.slice Av j cv).ownBlock = some g → tag2 g = 0) ∧ (∀ a ∈ t.args.take j, a ∈ tsVL m ts (t.args.take (j + 1))) ∧ w'.heap[w.heap.size]? = some (.cells #[.int .i64 t.fn, .slice (some ⟨bb, off, none⟩) t.args.length c] 37) ∧ tag2 w.heap.size = 0) := Lib.hid (hR.mono (by
          rintro e w' ⟨p2, tag2, rfl, hB2, hG2⟩
          have hans : ansB p2 (tsV m lv a) a = .pointer (some ⟨p2.E q, 0, none⟩) := by rw [ansB_in hin, ← hts', hq]; rfl
          have hwa := hWa.size
          have hb1 := (hG2.k.block (by omega) (fun e => e htb)).trans ((hWa.block _ hwl).trans hbox)
          have hb2 := (hG2.t _ (by omega)).trans htb
          rw [hans]
          rw [← hlv] at hB2 hG2
          obtain ⟨d1, d2, d3, d4, d5⟩ := H1.call ha hWa hB2 hG2
          exact ⟨p2, tag2, rfl, d1, d2, d3, d4, d5, hb1, hb2⟩))
        have HIN := Lib.hid hin2
        have HQ := Lib.hid hq
        clear hkr haa hsub hVX hmem hrec H H1 ha hbox hlv hWa hR hin hin2 hts' hq htb Hbox Hlv HH HIH HX HA HN Hhi
        go_wp2_with (first
          | (at_builtin
             go_must (
             refine wpList_append_own_at _ rfl _ _ 70 rfl (w.heap.size + 1) 80 i0 (.pointer none) 1 8 Tryd.underlying70 hi hz0 hz1 hz2 rfl (by decide) (.slice Av j cv) j _ rfl (row_keep D3.out fun g e => Below.heap_alloc w2 _ g (hl3 g e).2) ⟨w2.heap.size, 0, none⟩ 1 1 [.pointer (some ⟨p2.E q, 0, none⟩)] rfl rfl (cell_one_new _ _ _) (by simp [Value.oneCell']) (by unfold maxLen; omega) (by omega) (by have := D2.out.k.size; simp; omega) ?_
             intro v5 w5 hown5 hgr5 _ hat5
             have HI5 : Hid (VisI m w w5 tag tag2 p p2 sy As n cs ts t (j + 1) v5 ∧ w5.heap[w.heap.size]? = some (.cells #[.int .i64 t.fn, .slice (some ⟨bb, off, none⟩) t.args.length c] 37) ∧ tag2 w.heap.size = 0) := Lib.hid (by
               refine ⟨VisI.next Ha.out D1.out D2.out D4.out D5.out HIN.out (fun g e => by have := (hvl g e).1; omega) (by rw [HQ.out]; exact hown5) hgr5 hat5, ?_, d8⟩
               have hl7 := (Array.getElem?_eq_some_iff.1 d7).1
               exact ((hgr5.block _ (by simp; omega) (fun e => by have := (hvl _ e.symm).1; omega)).trans (Below.heap_alloc w2 _ _ hl7)).trans d7)
             clear hown5 hgr5 hat5))
          | ((with_reducible refine HR.out.mono ?_); go_must (rintro e w2 ⟨p2, tag2, rfl, d1, d2, d3, d4, d5, d7, d8⟩; have hl3 := row_lt d3; have D1 := Lib.hid d1; have D2 := Lib.hid d2; have D3 := Lib.hid d3; have D4 := Lib.hid d4; have D5 := Lib.hid d5; clear d1 d2 d3 d4 d5))
          | fail)
        go_roundw
        case rel => exact ⟨j + 1, tag2, p2, by omega, by go_num, HI5⟩
        case measure => simp [intOf]; omega
      case neg =>
        obtain rfl : m = false := tsV_out hin
        have HR : Hid (Calls Tryd.prog 53 #[.agg #[.int .i64 a.fn, .slice A1 a.args.length c1], .pointer (some ⟨bv, 0, none⟩), .pointer (some ⟨bs, 0, none⟩), .pointer (some ⟨ba, 0, none⟩)] (wr.alloc (.cells #[.int .i64 a.fn, .slice A1 a.args.length c1] 37)) fun e w' => e = .returned (.pointer none) ∧ VisB false w tag p sy As n cs ts t (.returned (.pointer none)) w') := Lib.hid (hR.mono (by
          rintro e w' ⟨p2, tag2, rfl, hB2, hG2⟩
          have hans : ansB p2 (tsV false lv a) a = .pointer none := ansB_out hin
          refine ⟨by rw [hans], ?_⟩
          rw [← hlv] at hB2 hG2
          obtain ⟨d1, d2, _⟩ := H1.call ha hWa hB2 hG2
          refine ⟨p2, tag2, ?_, d1, d2⟩
          have hnt : ¬ t ∈ tsV false ts t := fun e => hin (by
            rw [← hts']
            exact d1.ok.arg (t := t) e (List.mem_of_getElem? ha))
          rw [ansB_out hnt]))
        clear hkr haa hsub hVX hmem hrec H H1 ha hbox hlv hWa hR hin hts' htb Hbox Hlv HH HIH HX HA HN Hhi
        go_wp2_with (first
          | ((with_reducible refine HR.out.mono ?_); go_must (rintro e w2 ⟨rfl, hP⟩; have HP := Lib.hid hP; clear hP))
          | fail)
        go_ret
        exact HP.out
    case neg =>
      obtain rfl : j = t.args.length := by omega
      obtain ⟨H1, hbox, htb⟩ := H.out
      obtain ⟨Av, cv, hv⟩ := row_slice H1.r
      subst hv
      have hI := H1.i
      have hR0 := H1.r
      have hBk := H1.b
      rw [List.take_length] at hI hR0 hBk
      obtain ⟨r, hr⟩ : ∃ r, tsVL m ts t.args = r := ⟨_, rfl⟩
      rw [hr] at hI hR0 hBk
      have hrow : wr.ownsRow 0 80 1 (.slice Av t.args.length cv) t.args.length (t.args.map fun a => pr.ptr (idxT r a)) := by
        refine ⟨hR0.1, ?_⟩
        rcases hR0.2 with h0 | ⟨g, cap, cur, e, h1, hrest⟩
        · exact .inl h0
        · exact .inr ⟨g, cap, cur, e, Nat.zero_le _, hrest⟩
      have hrl : r.length + 1 ≤ 2147483648 := by
        obtain ⟨us, e, hu⟩ := tsVL_pre m ts t.args
        rw [hr] at e
        rw [e, List.length_append]; omega
      obtain ⟨k2, hk2⟩ : ∃ k2, (keyB r t).2 = k2 := ⟨_, rfl⟩
      have hT : ∀ x, Below wr.heap.size wr x → Calls Tryd.prog 54 #[.slice Av t.args.length cv] x fun e w' => e = .returned (.string k2) ∧ Below x.heap.size x w' := fun x hx => by
        rw [← hk2]
        exact bText_any (hBk.on hx) hI hlen (row_keep hrow fun g e => hx.block g (row_lt hrow g e).2)
      have HT := Lib.hid hT
      have x0 := (cells_two hbox).1
      have hwl : w.heap.size < wr.heap.size := (Array.getElem?_eq_some_iff.1 hbox).1
      have HBk := Lib.hid hBk
      have HI := Lib.hid hI
      have Hrow := Lib.hid hrow
      have HR0 := Lib.hid hR0
      have HH := Lib.hid H1
      have HK2 := Lib.hid hk2
      have Hr := Lib.hid hr
      clear hT hI hR0 hBk hrow H1 H hk2 hr hbox
      go_wp2
      go_cut [10] (fun s10 wx => ∃ b : Nat, s10 = .pointer (some ⟨b, 0, none⟩) ∧ wr.heap.size ≤ b ∧ Below wr.heap.size wr wx ∧ wx.heap[b]? = some (.cells #[.int .i64 t.fn, .string k2] 103))
      case first =>
        have hDr : Below wr.heap.size wr wr.drew := (Below.refl _ _).drew
        have HT0 := Lib.hid (HT.out _ hDr)
        have hDa : Below wr.heap.size wr (wr.alloc (.cells #[.int .i64 0, .string ⟨#[]⟩] 103)).drew := by
          have := (Below.refl wr.heap.size wr).alloc (Nat.le_refl _) (.cells #[.int .i64 0, .string ⟨#[]⟩] 103)
          exact ⟨this.os, this.tape, this.output, this.size, this.block⟩
        have qz : (wr.alloc (.cells #[.int .i64 0, .string ⟨#[]⟩] 103)).drew.heap[wr.heap.size]? = some (.cells #[.int .i64 0, .string ⟨#[]⟩] 103) := heap_alloc_new wr _
        have HT1 := Lib.hid (HT.out _ hDa)
        have xa := cell_on hDa hwl x0
        have Hqz := Lib.hid qz
        have hnw : w.heap.size ≠ wr.heap.size := by omega
        clear qz
        clear HBk HI Hrow HR0 HH HK2 Hr HX HA HN HC HIH Hhi hI0 HW0
        go_region_held3 (fun w' => w'.cell? ⟨w.heap.size, 0, none⟩ = some (.int .i64 t.fn)) (first | exact x0 | exact xc | exact cell_on hDr hwl x0 | exact xa | exact cell_on hB2 hwl x0 | exact cell_on (hB2.alloc hB2.size _) hwl x0 | exact cell_on hB3 hwl x0 | go_keep)
          (first
            | (go_at_call 54; (with_reducible refine HT0.out.mono ?_); rintro e w2 ⟨rfl, hb2⟩; have hB2 : Below wr.heap.size wr w2 := ⟨hb2.os, hb2.tape, hb2.output, hb2.size, hb2.block⟩)
            | (go_at_call 54; (with_reducible refine HT1.out.mono ?_); rintro e w3 ⟨rfl, hb3⟩; have hB3 : Below wr.heap.size wr w3 := hDa.trans (hb3.mono hDa.size); have q3 := (hb3.block _ (by show wr.heap.size < (wr.alloc _).heap.size; simp)).trans Hqz.out; obtain ⟨k0, k1, g0, g1⟩ := cells_two q3; have xb := cell_on hB3 hwl x0; have xc : ((w3.setCell ⟨wr.heap.size, 0, none⟩ (.int .i64 t.fn)).setCell ⟨wr.heap.size, 1, none⟩ (.string k2)).cell? ⟨w.heap.size, 0, none⟩ = some (.int .i64 t.fn) := (World.cell?_of_block ((heap_setCell_other _ ⟨wr.heap.size, 1, none⟩ _ _ hnw).trans (heap_setCell_other _ ⟨wr.heap.size, 0, none⟩ _ _ hnw))).trans xb)
            | fail)
        · go_wp2_with fail
          go_meet
          exact ⟨w2.heap.size, rfl, hB2.size, hB2.alloc hB2.size _, heap_alloc_new w2 _⟩
        · go_wp2_with fail
          go_meet
          exact ⟨wr.heap.size, rfl, Nat.le_refl _, (hB3.setCell (p := ⟨wr.heap.size, 0, none⟩) (Nat.le_refl _) _).setCell (p := ⟨wr.heap.size, 1, none⟩) (Nat.le_refl _) _, (set2_two q3).2⟩
      case rest =>
        obtain ⟨b, hs10, hbl, hBc, qb⟩ := hcut
        subst hs10
        have hVX := (HX.out.grew HH.out.g).grew (.below (N := 0) (p := pr) hBc)
        have hBw := HBk.out.on hBc
        have hsx2 : pr.sx = sx := by rw [HH.out.g.sx, hsx]
        obtain ⟨_, c1, c2, c3⟩ := hBw.cells
        rw [hsx2] at c1 c2 c3
        have v1 := hVX.s.cell
        have v2 := hVX.a.cell
        obtain ⟨z0, z1, _, _⟩ := cells_two qb
        have v1' : wc.drew.cell? ⟨bs, 0, none⟩ = some (.pointer (some ⟨sx, 0, none⟩)) := v1
        have c3' : wc.drew.cell? ⟨sx, 2, none⟩ = some (.map (some pr.mp)) := c3
        have z0' : wc.drew.cell? ⟨b, 0, none⟩ = some (.int .i64 t.fn) := z0
        have z1' : wc.drew.cell? ⟨b, 1, none⟩ = some (.string k2) := z1
        have hcd : Below wc.heap.size wc wc.drew := (Below.refl _ _).drew
        have hle : ts.length ≤ r.length := by
          obtain ⟨us, e, hu⟩ := tsVL_pre m ts t.args
          rw [Hr.out] at e
          rw [e, List.length_append]; omega
        have hk2s : k2.size ≤ 9223372036854775807 := by
          rw [← HK2.out]
          show (textB (numsT r t.args)).toArray.size ≤ _
          rw [List.size_toArray, textB_len]
          simp [numsT]; omega
        have hkk : keyB r t = (t.fn, k2) := Prod.ext rfl HK2.out
        have hcdn : ∀ nq, Below wc.heap.size wc (wc.drewN nq) := fun nq => bl_drewN (Below.refl _ _) nq
        have hlook := fun nq => (hBw.on (hcdn nq)).map.look hf hk2s
        have htsv : tsV m ts t = tsVA m r t := by rw [tsV_node, Hr.out]
        by_cases hin : t ∈ r
        case pos =>
          have hV := bankV_some (p := pr) hBw.ok (by omega) (idxT_at hin)
          rw [hkk] at hV
          rw [hV] at hlook
          simp only [Option.getD_some, Option.isSome_some] at hlook
          have hFIN : ∀ x, Below wc.heap.size wc x → VisB m w tag p sy As n cs ts t (.returned (pr.ptr (idxT r t))) x := fun x hx => by
            rw [tsVA_in hin] at htsv
            refine ⟨pr, tagr, by rw [htsv, ansB_in hin], by rw [htsv]; exact hBw.on hx, HH.out.g.trans (.below (N := ts.length) (hBc.trans (hx.mono hBc.size))) (Nat.le_refl _)⟩
          have HFIN := Lib.hid hFIN
          have Hcd := Lib.hid hcdn
          unfold BPl.ptr at hlook HFIN
          clear hVX hBw hcd hcdn hV hkk htsv hFIN v2 qb HT HBk HI Hrow HR0 HH HK2 Hr HX HA HN HC HIH Hhi hI0 HW0 x0
          go_wp2
          go_quiet (fail)
          go_wp2
          go_ret
          exact HFIN.out _ (Hcd.out _)
        case neg =>
          have hV := bankV_none (p := pr) hBw.ok (by omega) HI.out hin
          rw [hkk] at hV
          rw [hV] at hlook
          simp only [Option.getD_none, Option.isSome_none] at hlook
          have hent := HC.out.ent
          have hwcs := hBc.size
          have hv := row_lt HR0.out
          have hA : ∀ nq, Calls Tryd.prog k (fs ++ #[.agg #[.int .i64 t.fn, .string k2], .slice Av t.args.length cv]) (wc.drewN nq) (VisB m w tag p sy As n cs ts t) := fun nq => by
            have hcd := hcdn nq
            have hx := HC.out.call (hBw.on hcd) hsx2 (by omega) (by omega) HI.out hin hf (row_keep Hrow.out fun g e => (hcd.block g (by have := (row_lt Hrow.out g e).2; omega)).trans (hBc.block g (row_lt Hrow.out g e).2)) (fun g e => HH.out.z g e)
            rw [hkk] at hx
            refine hx.mono ?_
            rintro e w' ⟨p', tag', rfl, hB', hG'⟩
            rw [← htsv] at hB' ⊢
            exact ⟨p', tag', rfl, hB', (HH.out.g.trans (.below (N := ts.length) (hBc.trans (hcd.mono hBc.size))) (Nat.le_refl _)).transF hG' hle fun g e => by have := (hv g e).1; omega⟩
          have HAb := Lib.hid hA
          have Hcd := Lib.hid hcdn
          have v2' : ∀ nq, (wc.drewN nq).cell? ⟨ba, 0, none⟩ = some (.func (.func k) fs #[]) := fun _ => v2
          clear hVX hBw hcd hcdn hV hkk htsv hA qb HT HBk HI Hrow HR0 HH HK2 Hr HX HA HN HC HIH Hhi hI0 HW0 x0 hv
          go_wp2
          go_quiet (fail)
          go_wp2_with (first
            | ((with_reducible refine (HAb.out _).mono ?_); go_must (rintro e w2 ⟨p3, tag3, rfl, hB3, hG3⟩; have HP3 := Lib.hid (And.intro hB3 hG3); clear hB3 hG3))
            | fail)
          go_ret
          exact ⟨p3, tag3, rfl, HP3.out.1, HP3.out.2⟩
end
end Go.Proofs.YtmmiclpedehcpaaDoor
namespace Go.Proofs.YtmmiclpedehcpaaDoor
open Go.RowKit
def errAt (l : List Sm) (i : Nat) : Int :=
  match l[i]? with
  | none => 0
  | some x => if oneI x.name x.arity ≠ 0 then oneI x.name x.arity else if atI l x < i then 113 else 0
def scanI (l : List Sm) : Int := match (List.range l.length).find? (fun j => decide (1 ≤ j) && !decide (errAt l j = 0)) with
  | some j => errAt l j
  | none => 0
def checkI (l : List Sm) : Int := if 96 < l.length then 3 else if l[0]? ≠ some truthSm then 110 else scanI l
theorem scan_hit {l : List Sm} {k : Nat} (hk : 1 ≤ k) (hl : k < l.length) (hv : errAt l k ≠ 0) (h : ∀ j, 1 ≤ j → j < k → errAt l j = 0) : scanI l = errAt l k := by
  have : (List.range l.length).find? (fun j => decide (1 ≤ j) && !decide (errAt l j = 0)) = some k := by
    rw [List.find?_range_eq_some]
    refine ⟨by simp [hk, hv], List.mem_range.2 hl, fun j hj => ?_⟩
    by_cases h1 : 1 ≤ j
    · simp [h j h1 hj]
    · simp [h1]
  simp [scanI, this]
theorem scan_miss {l : List Sm} (h : ∀ j, 1 ≤ j → j < l.length → errAt l j = 0) : scanI l = 0 := by
  have : (List.range l.length).find? (fun j => decide (1 ≤ j) && !decide (errAt l j = 0)) = none := by
    rw [List.find?_eq_none]
    intro j hj
    by_cases h1 : 1 ≤ j
    · simp [h j h1 (List.mem_range.1 hj)]
    · simp [h1]
  simp [scanI, this]
theorem err_one {l : List Sm} {k : Nat} {y : Sm} (hy : l[k]? = some y) (h : oneI y.name y.arity ≠ 0) : errAt l k = oneI y.name y.arity := by simp [errAt, hy, h]
theorem err_same {l : List Sm} {k : Nat} {y : Sm} (hy : l[k]? = some y) (h : oneI y.name y.arity = 0) (ha : atI l y < k) : errAt l k = 113 := by simp [errAt, hy, h, ha]
theorem err_ok {l : List Sm} {k : Nat} {y : Sm} (hy : l[k]? = some y) (h : oneI y.name y.arity = 0) (ha : ¬ atI l y < k) : errAt l k = 0 := by simp [errAt, hy, h, ha]
theorem scan_at {l : List Sm} {k : Nat} {v : Int} (hk : 1 ≤ k) (h : ∀ j, 1 ≤ j → j < k → errAt l j = 0) (he : errAt l k = v) (hv : v ≠ 0) : scanI l = v := by
  refine (scan_hit hk ?_ (by rw [he]; exact hv) h).trans he
  rcases Nat.lt_or_ge k l.length with h1 | h1
  · exact h1
  · exact absurd (by simpa [errAt, List.getElem?_eq_none h1] using he.symm) hv
theorem err_before {l : List Sm} {k : Nat} (h : ∀ j, 1 ≤ j → j < k → errAt l j = 0) (hk : errAt l k = 0) : ∀ j, 1 ≤ j → j < k + 1 → errAt l j = 0 := by
  intro j h1 hlt
  by_cases e : j = k
  · subst e; exact hk
  · exact h j h1 (by omega)
end Go.Proofs.YtmmiclpedehcpaaDoor
namespace Go.Proofs.YtmmiclpedehcpaaDoor
open Go.RowKit
def tru (w : World) : Prop := w.cell? ⟨0, 0, none⟩ = some (.string truthSm.name) ∧ w.cell? ⟨0, 1, none⟩ = some (.int .i64 truthSm.arity) ∧ w.cell? ⟨0, 2, none⟩ = some (.bool truthSm.pred) ∧ 0 < w.heap.size
theorem tru_on {B : Nat} {w w' : World} (h : tru w) (hb : Below B w w') (hB : 0 < B) : tru w' := by
  obtain ⟨h1, h2, h3, h4⟩ := h
  exact ⟨cell_on hb hB h1, cell_on hb hB h2, cell_on hb hB h3, Nat.lt_of_lt_of_le h4 hb.size⟩
theorem tru_below {w w' : World} (h : tru w) (hb : Below w.heap.size w w') : tru w' := tru_on h hb h.2.2.2
end Go.Proofs.YtmmiclpedehcpaaDoor
namespace Go.Proofs.YtmmiclpedehcpaaDoor
open Go.RowKit Go.Shelf
attribute [local go_sem] Oper.semAt_some
abbrev IxSm := { p : Nat × Sm // p.2.Ok ∧ p.1 ≤ 9223372036854775807 }
def ixV (x : IxSm) : Array Value := #[.int .i64 (x.1.1 : Int), .agg #[.string x.1.2.name, .int .i64 x.1.2.arity, .bool x.1.2.pred]]
def CK (A B : World) : Prop := ∀ p v, A.cell? p = some v → B.cell? p = some v
theorem CK.refl (A : World) : CK A A := fun _ _ h => h
theorem CK.trans {A B C : World} (h : CK A B) (k : CK B C) : CK A C := fun p v e => k p v (h p v e)
theorem ck_put {w : World} (W : World) (l : Nat) (o o' : Obj) (_ : w.heap.size ≤ l) (h : W.heap[l]? = some o) (hc : o.isCells = false) (_ : o.isWalk = false) : CK W (W.putObj l o') := by
  intro p v e
  by_cases hp : p.block = l
  · exfalso
    unfold World.cell? at e
    rw [hp, h] at e
    cases o <;> simp [Obj.isCells] at hc e
  · rw [← e]
    exact World.cell?_of_block ((grownBy_putObj' W l o').block p.block (by
      unfold World.cell? at e
      rcases Nat.lt_or_ge p.block W.heap.size with h1 | h1
      · exact h1
      · rw [Array.getElem?_eq_none h1] at e; cases e) (by simpa using hp))
structure Backs (l : List Sm) (zs : List IxSm) : Prop where
  len : zs.length = l.length
  at_ : ∀ j (x : IxSm), zs[j]? = some x → x.1.1 = l.length - 1 - j ∧ l[l.length - 1 - j]? = some x.1.2
theorem backs_of (l : List Sm) (hok : ∀ x ∈ l, x.Ok) (hl : l.length ≤ 9223372036854775807) : ∃ zs, Backs l zs := by
  refine ⟨List.ofFn fun j : Fin l.length => ⟨(l.length - 1 - j, l[l.length - 1 - j]'(by omega)), ⟨hok _ (List.getElem_mem _), by simp; omega⟩⟩, by simp, fun j x hx => ?_⟩
  rw [List.getElem?_ofFn] at hx
  split at hx
  · rename_i hj
    injection hx with hx
    subst hx
    exact ⟨rfl, List.getElem?_eq_getElem _⟩
  · cases hx
set_option maxRecDepth 100000 in
set_option maxHeartbeats 2000000 in
theorem back1_in (F : Fence) (n : Nat) (hf : F.fn 74) (hro : F.round = none) (hn : 1 ≤ n) (l Bs : Nat) (A : Option Addr) (c B : Nat) (L : List Sm) (hL : L.length * 32 ≤ 140737488351232) (zs : List IxSm) (hz : Backs L zs) (J Jx : List IxSm → World → Prop)
    (hY : ∀ pre x W, J pre W → pre.length < zs.length → YieldAt F (n - 1) Tryd.prog l (ixV x) W fun e W' =>
      (e = .returned (.bool true) ∧ J (pre ++ [x]) W' ∧ CK W W') ∨ (e = .returned (.bool false) ∧ Jx (pre ++ [x]) W'))
    (W : World) (hBs : W.cell? ⟨Bs, 0, none⟩ = some (.slice A L.length c)) (hS : Syms W B A L.length L) (h0 : J [] W) :
    CallsIn F n Tryd.prog 74 #[.func (.yield l) #[] #[], .pointer (some ⟨Bs, 0, none⟩)] W fun e W' => (∃ v, e = .returned v) ∧
      ((∃ ys, ys = zs ∧ J ys W') ∨ (∃ pre, pre <+: zs ∧ Jx pre W')) := by
  refine callsIn_of_wp Tryd.func74 rfl hf ?_ hro
  simp only [Tryd.ntmps74, List.size_toArray, List.length_cons, List.length_nil, Nat.reduceAdd, Nat.reduceSub, Array.replicate_succ, Array.replicate_zero, List.push_toArray, List.append_toArray, List.nil_append, List.cons_append]
  have hz1 := hz.len
  gi_wp2
  gi_loopw [3] (fun i wr => ∃ k : Nat, k ≤ L.length ∧ i = .int .i64 ((L.length : Int) - 1 - k) ∧ J (zs.take k) wr ∧ CK W wr)
    (fun i _ => (intOf i + 1).toNat)
  case atStart => exact ⟨0, Nat.zero_le _, by simp, by simpa using h0, CK.refl _⟩
  case round =>
    obtain ⟨k, hk, rfl, hJs, hck⟩ := hrel
    have hb1 := hck _ _ hBs
    by_cases hlt : k < L.length
    · obtain ⟨x, hx⟩ : ∃ x, zs[k]? = some x := ⟨_, List.getElem?_eq_getElem (by omega)⟩
      obtain ⟨hx1, hx2⟩ := hz.at_ k x hx
      obtain ⟨b, off, rfl, hb, hc⟩ := hS.ad (by omega)
      obtain ⟨c1, c2, c3⟩ := hc _ _ hx2
      rw [← hx1] at c1 c2 c3
      have d1 := hck _ _ c1
      have d2 := hck _ _ c2
      have d3 := hck _ _ c3
      have hts : zs.take (k + 1) = zs.take k ++ [x] := by rw [List.take_add_one, hx]; rfl
      obtain ⟨fn, tmps, assign, body, hy, hR⟩ := hY _ x wr hJs (by rw [List.length_take]; omega)
      have hlo : (0 : Int) ≤ (L.length : Int) - 1 - k := by omega
      have hidx : (L.length : Int) - 1 - k = (x.1.1 : Int) := by omega
      have hxl : x.1.1 < L.length := by omega
      simp only [ixV] at hy
      have Hts := Lib.hid hts
      have Hx := Lib.hid (And.intro hx1 hx2)
      have Hz := Lib.hid hz1
      clear hts hx1 hx2 hx hc c1 c2 c3 hz1 hz hS hY
      rw [hidx]
      have Hi := Lib.hid hidx
      clear hidx hlo
      gi_wp2
      refine hR.mono ?_
      rintro e W3 (⟨rfl, hJ3, hk3⟩ | ⟨rfl, hJx3⟩)
      · gi_wp2
        go_roundw
        case rel => exact ⟨k + 1, by omega, by rw [show (L.length : Int) - 1 - ((k + 1 : Nat) : Int) = (x.1.1 : Int) - 1 from by have := Hi.out; omega], by rw [Hts.out]; exact hJ3, hck.trans hk3⟩
        case measure => simp [intOf]
      · gi_wp2
        refine bodyPost_ret (results_none rfl _ _ _) rfl ?_
        exact ⟨⟨_, rfl⟩, .inr ⟨_, ⟨zs.drop (k + 1), by rw [← Hts.out, List.take_append_drop]⟩, hJx3⟩⟩
    · have : k = L.length := by omega
      subst this
      gi_wp2
      go_end0
      exact ⟨⟨_, rfl⟩, .inl ⟨_, by rw [List.take_of_length_le (by omega)], hJs⟩⟩
set_option maxHeartbeats 1000000 in
theorem back_in (F : Fence) (n : Nat) (hf : F.fn 71) (hro : F.round = none) (a : Option Addr) (len cap : Nat) (w : World) :
    CallsIn F n Tryd.prog 71 #[.slice a len cap] w fun e w' => e = .returned (.func (.func 74) #[] #[.pointer (some ⟨w.heap.size, 0, none⟩)]) ∧ w' = w.alloc (.cells #[.slice a len cap] 22) := by
  refine callsIn_of_wp Tryd.func71 rfl hf ?_ hro
  simp only [Tryd.ntmps71, List.size_toArray, List.length_cons, List.length_nil, Nat.reduceAdd, Nat.reduceSub, Array.replicate_succ, Array.replicate_zero, List.push_toArray, List.append_toArray, List.nil_append, List.cons_append]
  gi_wp2
  go_ret
  exact ⟨rfl, rfl⟩
theorem back_stops (F : Fence) (n : Nat) (hf : F.fn 74) (hro : F.round = none) (hn : 1 ≤ n) (Bs : Nat) (A : Option Addr) (c B : Nat) (L : List Sm) (hL : L.length * 32 ≤ 140737488351232) (zs : List IxSm) (hz : Backs L zs) (w : World) (hlt : Bs < w.heap.size) (hB : B ≤ w.heap.size)
    (hBs : w.cell? ⟨Bs, 0, none⟩ = some (.slice A L.length c)) (hS : Syms w B A L.length L) :
    SeqStopsK F n Tryd.prog 74 #[.pointer (some ⟨Bs, 0, none⟩)] ixV CK (fun ys => ys = zs) (fun pre => pre <+: zs) zs.length w := fun l J Jx W hW _ _ hY h0 =>
  back1_in F n hf hro hn l Bs A c B L hL zs hz J Jx hY W ((hW.cell (p := ⟨Bs, 0, none⟩) hlt).trans hBs) (hS.below (hW.mono hB)) h0
end Go.Proofs.YtmmiclpedehcpaaDoor
namespace Go.Proofs.YtmmiclpedehcpaaDoor
open Go.RowKit Go.Maps
set_option maxRecDepth 20000
theorem laidOut : laidOutB Tryd.prog = true := by kernel_rfl
theorem symLaw : Keyed Tryd.prog 67 := Keyed.of_law (deep_law_gate laidOut (by decide +kernel) (by decide +kernel) (by kernel_rfl) (by kernel_rfl))
def Sm.val (x : Sm) : Value := .agg #[.string x.name, .int .i64 x.arity, .bool x.pred]
theorem keyOf_sym {x : Sm} (hx : x.Ok) : ∃ kl, keyOf Tryd.prog 67 x.val = some kl := by
  have hT : Tryd.prog.keyType 67 = true := by kernel_rfl
  obtain ⟨m, hm⟩ : ∃ m, Tryd.prog.types.size + 1 = m + 1 + 1 := ⟨Tryd.prog.types.size - 1, by
    have : 0 < Tryd.prog.types.size := by decide +kernel
    omega⟩
  have hC : Tryd.prog.cellsOf 67 = 3 := by kernel_rfl
  have hC1 : Tryd.prog.cellsOf 9 = 1 := by kernel_rfl
  have hC2 : Tryd.prog.cellsOf 3 = 1 := by kernel_rfl
  have hC3 : Tryd.prog.cellsOf 4 = 1 := by kernel_rfl
  have hs := hx.size
  have hw : (Lit.int .i64 x.arity).wf = true := WalkArith.wf_i64 ⟨hx.lo, hx.hi⟩
  refine ⟨.string (keyBytes [.string x.name.data.toList, .int .i64 x.arity, .bool x.pred]), ?_⟩
  simp only [keyOf, Tryd.underlying67, hT, hm, Sm.val, Value.formed, hC]
  simp [Program.keyLits, Tryd.underlying67, hC, hC1, hC2, hC3, Value.cells, Tryd.underlying9, Tryd.underlying3, Tryd.underlying4, hs, hw]
def SMap (w : World) (b n : Nat) (f : Sm → Option Int) : Prop :=
  ∃ D : DataW Unit, w.ownsMap Tryd.prog 67 (plainElem Tryd.prog 3) b n D ∧ ∀ x kl, keyOf Tryd.prog 67 (Sm.val x) = some kl → ∀ z, D.atKey kl z = match f x with | some i => .lit (.int .i64 i) | none => z
theorem SMap.made (w : World) : SMap (w.alloc (.map #[] 0)) w.heap.size 0 (fun _ => none) :=
  ⟨_, World.ownsMap_made w _ _ _, fun _ _ _ _ => rfl⟩
theorem SMap.lt {w : World} {b n : Nat} {f : Sm → Option Int} (h : SMap w b n f) : b < w.heap.size := h.elim fun _ h => h.1.lt
theorem SMap.kept {w w' : World} {b n : Nat} {f : Sm → Option Int} (h : SMap w b n f) (hk : w'.heap[b]? = w.heap[b]?) : SMap w' b n f := by
  obtain ⟨D, ⟨es, clock, hb, F, hs, hD⟩, hat⟩ := h
  exact ⟨D, ⟨es, clock, hk.trans hb, F, hs, hD⟩, hat⟩
theorem SMap.below {w w' : World} {b n : Nat} {f : Sm → Option Int} (h : SMap w b n f) (hb : Below w.heap.size w w') : SMap w' b n f := h.kept (hb.block b h.lt)
theorem zeroInt (w : World) : (zeroValue 3).run Tryd.prog w = .ok (.int .i64 0) w := by kernel_rfl
theorem SMap.look {w : World} {b n : Nat} {f : Sm → Option Int} (h : SMap w b n f) {x : Sm} (hx : x.Ok) :
    (Instr.lookup 113 (.map (some b)) (.agg #[.string x.name, .int .i64 x.arity, .bool x.pred]) false).run Tryd.prog w = .ok (.int .i64 ((f x).getD 0)) w := by
  obtain ⟨D, hown, hat⟩ := h
  obtain ⟨kl, hk⟩ := keyOf_sym hx
  obtain ⟨c, hrun, hc, _⟩ := hown.lookup_int symLaw Tryd.underlying113 Tryd.underlying3 (zeroInt w) hk
  have := hat x kl hk (.lit (.int .i64 0))
  rw [hc] at this
  cases hf : f x with
  | none => rw [hf] at this; injection this with this; injection this with _ this; subst this; exact hrun
  | some i => rw [hf] at this; injection this with this; injection this with _ this; subst this; exact hrun
def updS (f : Sm → Option Int) (x : Sm) (i : Int) : Sm → Option Int := fun y => if y = x then some i else f y
theorem SMap.of_put {w : World} {b n : Nat} {D : DataW Unit} {f : Sm → Option Int} {x : Sm} {kl : Lit} {i : Int} {w0 : World} {n0 : Nat} (h0 : w0.ownsMap Tryd.prog 67 (plainElem Tryd.prog 3) b n0 D)
    (hat : ∀ x kl, keyOf Tryd.prog 67 (Sm.val x) = some kl → ∀ z, D.atKey kl z = match f x with | some i => .lit (.int .i64 i) | none => z)
    (hk : keyOf Tryd.prog 67 (Sm.val x) = some kl) (h : w.ownsMap Tryd.prog 67 (plainElem Tryd.prog 3) b n (D.put kl (.lit (.int .i64 i)))) : SMap w b n (updS f x i) := by
  refine ⟨_, h, fun y ky hy z => ?_⟩
  by_cases e : y = x
  · subst e
    rw [hk] at hy
    injection hy with hy
    subst hy
    rw [atKey_put_same h0.isMap (symLaw.key hk)]
    simp [updS]
  · have hne : ky ≠ kl := by
      rintro rfl
      have := symLaw.inj hy hk
      simp only [Sm.val, Value.agg.injEq] at this
      simp at this
      exact e (sm_ext this)
    rw [atKey_put_other hne, hat y ky hy z]
    simp [updS, e]
theorem wpListIn_put {F : Fence} {nF : Nat} {w : World} {ops : Array Oper} {rest : List Oper} {o : Oper} {a : Act} {Q : Exit → Act → World → Prop} (hg : o.guard = none) (m x v : Operand) (hop : o.op = Op.mapUpdate 113 m x v)
    (b n : Nat) (f : Sm → Option Int) (hm : a.eval m = .map (some b)) (h : SMap w b n f) (hn : n < maxLen) (y : Sm) (hy : y.Ok) (i : Int) (hi : (Lit.int .i64 i).wf = true)
    (hx : a.eval x = .agg #[.string y.name, .int .i64 y.arity, .bool y.pred]) (hv : a.eval v = .int .i64 i)
    (hK : ∀ w', SMap w' b (n + 1) (updS f y i) → w.grownBy w' (some b) → wpListIn F nF Tryd.prog ops Q rest (a.put o.dst undef) w') : wpListIn F nF Tryd.prog ops Q (o :: rest) a w := by
  obtain ⟨D, hown, hat⟩ := h
  obtain ⟨kl, hk⟩ := keyOf_sym hy
  exact wpListIn_mapUpdate_own w hg m x v 113 hop 67 3 symLaw Tryd.underlying113 _ b n D hm hown hn _ _ kl hx hv hk _ [] (plainElem_int Tryd.underlying3 hi)
    fun w' h1 h2 => hK w' (SMap.of_put hown hat hk h1) h2
end Go.Proofs.YtmmiclpedehcpaaDoor
namespace Go.Proofs.YtmmiclpedehcpaaDoor
open Go.RowKit Go.Shelf
set_option maxRecDepth 20000
attribute [local go_sem] Oper.semAt_some
def backF (pre : List IxSm) : Sm → Option Int := pre.foldl (fun f x => updS f x.1.2 x.1.1) (fun _ => none)
theorem backF_snoc (pre : List IxSm) (x : IxSm) : backF (pre ++ [x]) = updS (backF pre) x.1.2 x.1.1 := by simp [backF]
def firstF (l : List Sm) (y : Sm) : Option Int := if atI l y < 0 then none else some (atI l y)
theorem backF_at {l : List Sm} {zs : List IxSm} (h : Backs l zs) (y : Sm) : ∀ k, k ≤ l.length →
    (backF (zs.take k) y = none ∧ ∀ j, l.length - k ≤ j → l[j]? ≠ some y) ∨ (∃ i : Nat, backF (zs.take k) y = some (i : Int) ∧ l[i]? = some y ∧ ∀ j, l.length - k ≤ j → j < i → l[j]? ≠ some y)
  | 0, _ => .inl ⟨rfl, fun j hj => by rw [List.getElem?_eq_none (by omega)]; simp⟩
  | k + 1, hk => by
    obtain ⟨x, hx⟩ : ∃ x, zs[k]? = some x := ⟨_, List.getElem?_eq_getElem (by rw [h.len]; omega)⟩
    obtain ⟨h1, h2⟩ := h.at_ k x hx
    have hts : zs.take (k + 1) = zs.take k ++ [x] := by rw [List.take_add_one, hx]; rfl
    rw [hts, backF_snoc]
    by_cases e : y = x.1.2
    · subst e
      refine .inr ⟨x.1.1, by simp [updS], by rw [h1]; exact h2, fun j hj hlt => by omega⟩
    · have e1 : updS (backF (zs.take k)) x.1.2 x.1.1 y = backF (zs.take k) y := by simp [updS, e]
      rw [e1]
      have hnot : ∀ j, l.length - (k + 1) ≤ j → ¬ l.length - k ≤ j → l[j]? ≠ some y := fun j ha hb => by
        obtain rfl : j = l.length - 1 - k := by omega
        rw [h2]; intro he; injection he with he; exact e he.symm
      rcases backF_at h y k (by omega) with ⟨g1, g2⟩ | ⟨i, g1, g2, g3⟩
      · refine .inl ⟨g1, fun j hj => ?_⟩
        by_cases hj' : l.length - k ≤ j
        · exact g2 j hj'
        · exact hnot j hj hj'
      · refine .inr ⟨i, g1, g2, fun j hj hlt => ?_⟩
        by_cases hj' : l.length - k ≤ j
        · exact g3 j hj' hlt
        · exact hnot j hj hj'
theorem backF_all {l : List Sm} {zs : List IxSm} (h : Backs l zs) : backF zs = firstF l := by
  funext y
  have := backF_at h y l.length (Nat.le_refl _)
  rw [List.take_of_length_le (by rw [h.len]; exact Nat.le_refl _)] at this
  rcases this with ⟨h1, h2⟩ | ⟨i, h1, h2, h3⟩
  · rw [h1, firstF, atI_miss l y (fun j _ => h2 j (by omega))]
    simp
  · rw [h1, firstF, atI_hit l y i h2 (fun j hj => h3 j (by omega) hj)]
    rw [if_neg (by omega)]
def Blk3 (W : World) (B : Nat) (x : Sm) : Prop := W.heap[B]? = some (.cells #[.string x.name, .int .i64 x.arity, .bool x.pred] 67 (0, 0))
theorem run_makeMap_hint (k : Nat) (w : World) : (Instr.makeMap 113 (some (.int .i64 (k : Int)))).run Tryd.prog w = .ok (.map (some w.heap.size)) (w.alloc (.map #[] 0)) := by
  simp [Instr.makeMap, run_underlying Tryd.underlying113, go_sem]
theorem blk3_own {β : Type} (B : Nat) (Bx : Nat) (x : Sm) : OwnFrom (β := β) B (fun _ W => Blk3 W Bx x) := fun s W W' row hs hg hr => by
  unfold Blk3 at hs ⊢
  refine (hg.block Bx (Array.getElem?_eq_some_iff.1 hs).1 (fun e => ?_)).trans hs
  obtain ⟨_, o, ho, hc⟩ := hr _ e.symm
  rw [hs] at ho
  injection ho with ho
  subst ho
  simp [Obj.isCells] at hc
theorem smap_own (B b : Nat) (hb : b < B) : OwnFrom B (fun (pre : List IxSm) W => SMap W b pre.length (backF pre)) := fun s W W' row hs hg hr =>
  hs.kept (hg.block b hs.lt (fun e => by have := (hr _ e.symm).1; omega))
theorem Blk3.c1 {W : World} {B : Nat} {x : Sm} (h : Blk3 W B x) : W.cell? ⟨B, 0, none⟩ = some (.string x.name) := by simp [World.cell?, show W.heap[B]? = _ from h]
theorem Blk3.c2 {W : World} {B : Nat} {x : Sm} (h : Blk3 W B x) : W.cell? ⟨B, 1, none⟩ = some (.int .i64 x.arity) := by simp [World.cell?, show W.heap[B]? = _ from h]
theorem Blk3.c3 {W : World} {B : Nat} {x : Sm} (h : Blk3 W B x) : W.cell? ⟨B, 2, none⟩ = some (.bool x.pred) := by simp [World.cell?, show W.heap[B]? = _ from h]
theorem cell_lt {W : World} {p : Addr} {v : Value} (h : W.cell? p = some v) : p.block < W.heap.size := by
  unfold World.cell? at h
  rcases Nat.lt_or_ge p.block W.heap.size with h1 | h1
  · exact h1
  · rw [Array.getElem?_eq_none h1] at h; cases h
theorem ck_alloc (W : World) (o : Obj) : CK W (W.alloc o) := fun p _ h => (World.cell?_of_block (Below.heap_alloc W o p.block (cell_lt h))).trans h
theorem ck_map {W w1 : World} {b n : Nat} {f : Sm → Option Int} (h : SMap W b n f) (hg : W.grownBy w1 (some b)) : CK W w1 := fun p v hp => by
  refine (World.cell?_of_block (hg.block p.block (cell_lt hp) (fun e => ?_))).trans hp
  injection e with e
  obtain ⟨D, ⟨es, ck, hb, _⟩, _⟩ := h
  unfold World.cell? at hp
  rw [e, hb] at hp
  cases hp
set_option maxRecDepth 100000 in
set_option maxHeartbeats 2000000 in
theorem numbers_in (F : Fence) (n : Nat) (h23 : F.fn 63) (h34 : F.fn 71) (h40 : F.fn 74) (hro : F.round = none) (hn : 3 ≤ n) (A : Option Addr) (c : Nat) (L : List Sm) (hL : L.length * 32 ≤ 140737488351232) (w : World) (hS : Syms w w.heap.size A L.length L) :
    CallsIn F n Tryd.prog 63 #[.slice A L.length c] w fun e W' => e = .returned (.map (some w.heap.size)) ∧ SMap W' w.heap.size L.length (firstF L) ∧ Below w.heap.size w W' := by
  have h1 : 1 ≤ n := by omega
  have hmm := run_makeMap_hint
  obtain ⟨zs, hz⟩ := backs_of L hS.ok (by omega)
  refine callsIn_of_wp_marks Tryd.func63 rfl h23 ?_ hro
  simp only [Tryd.ntmps63, List.size_toArray, List.length_cons, List.length_nil, Nat.reduceAdd, Nat.reduceSub, Array.replicate_succ, Array.replicate_zero, List.push_toArray, List.append_toArray, List.nil_append, List.cons_append]
  gi_wp2_with (gi_at_call 71; refine (back_in F (n - 1) h34 hro _ _ _ _).mono ?_; rintro e w' ⟨rfl, rfl⟩)
  have hm0 := SMap.made w
  have bM := (Boxed.new (w.alloc (.map #[] 0)) 113 (.map (some w.heap.size))).alloc (.cells #[.slice A L.length c] 22)
  have bS := Boxed.new ((w.alloc (.map #[] 0)).alloc (.cells #[.map (some w.heap.size)] 113)) 22 (.slice A L.length c)
  simp only [World.size_alloc] at bM bS
  have hB0 : Below w.heap.size w (((w.alloc (.map #[] 0)).alloc (.cells #[.map (some w.heap.size)] 113)).alloc (.cells #[.slice A L.length c] 22)) := (((Below.refl _ w).alloc (Nat.le_refl _) _).alloc (by simp) _).alloc (by simp; omega) _
  have hsz : (((w.alloc (.map #[] 0)).alloc (.cells #[.map (some w.heap.size)] 113)).alloc (.cells #[.slice A L.length c] 22)).heap.size = w.heap.size + 3 := by simp
  have hm1 : SMap (((w.alloc (.map #[] 0)).alloc (.cells #[.map (some w.heap.size)] 113)).alloc (.cells #[.slice A L.length c] 22)) w.heap.size 0 (fun _ => none) :=
    (hm0.kept (Below.heap_alloc _ _ _ (by simp))).kept (Below.heap_alloc _ _ _ (by simp; omega))
  obtain ⟨W0, hW0⟩ : ∃ W0, ((w.alloc (.map #[] 0)).alloc (.cells #[.map (some w.heap.size)] 113)).alloc (.cells #[.slice A L.length c] 22) = W0 := ⟨_, rfl⟩
  rw [hW0] at bM bS hB0 hsz hm1 ⊢
  clear hW0 hm0
  refine wpIn_rangeFunc_ownH hro h1 (gf := 74) (lb := #[.pointer (some ⟨w.heap.size + 1 + 1, 0, none⟩)]) rfl h40 (enters_of Tryd.func74 (by kernel_rfl) rfl)
    (back_stops F (n - 1) h40 hro (by omega) (w.heap.size + 1 + 1) A c w.heap.size L hL zs hz W0 (by omega) (by omega) bS.cell (hS.below hB0)) CK.trans (fun W l o o' h1 h2 h3 h4 => ck_put (w := W0) W l o o' h1 h2 h3 h4) (Below.refl _ _) (fun _ => rfl)
    (fun pre W => (Boxed W (w.heap.size + 1) 113 (.map (some w.heap.size)) ∧ SMap W w.heap.size pre.length (backF pre)) ∧ Below w.heap.size w W)
    (fun _ _ _ => False)
    (OwnFrom.and (OwnFrom.and ((boxed_own (w.heap.size + 1) 113 (fun _ => .map (some w.heap.size))).from _) (smap_own _ _ (by omega))) (ownFrom_below (Nat.le_refl _) (by omega)))
    (fun _ _ _ _ _ hs _ _ => hs)
    ⟨⟨bM, hm1⟩, hB0⟩
    (fun x a' W => ∃ Bx, Blk3 W Bx x.1.2 ∧ a' = { tmps := #[.slice A L.length c, undef, .map none, .pointer (some ⟨w.heap.size + 1, 0, none⟩), .int .i64 (x.1.1 : Int), .pointer (some ⟨Bx, 0, none⟩), .slice A L.length c, .int .i64 (L.length : Int), .map (some w.heap.size), .slice A L.length c, .func (.func 74) #[] #[.pointer (some ⟨w.heap.size + 1 + 1, 0, none⟩)], .int .i64 (x.1.1 : Int), .agg #[.string x.1.2.name, .int .i64 x.1.2.arity, .bool x.1.2.pred], undef, undef, undef, undef], defers := [] }) ?hAx ?assign ?body ?done ?stop
  case hAx =>
    rintro x a' s W W' row ⟨Bx, hk, rfl⟩ hg hr
    exact ⟨Bx, blk3_own (β := Unit) _ Bx x.1.2 () W W' row hk hg hr, rfl⟩
  case assign =>
    rintro l pre x W K ⟨⟨hbox, hmap⟩, hB⟩ hK
    simp only [ixV]
    gi_wp2
    exact hK _ _ ((KeepsOthers.alloc _ _).from _) (ck_alloc W _) ⟨⟨hbox.alloc _, hmap.kept (Below.heap_alloc _ _ _ hmap.lt)⟩, hB.alloc hB.size _⟩ ⟨W.heap.size, World.alloc_heap_new W _, rfl⟩
  case body =>
    rintro l pre x a' W hl _ ⟨⟨hbox, hmap⟩, hB⟩ ⟨Bx, hk, rfl⟩ hlt
    have hc := hbox.cell
    have k1 := hk.c1
    have k2 := hk.c2
    have k3 := hk.c3
    have hm' : pre.length < maxLen := by unfold maxLen; have := hz.len; omega
    have Hm := Lib.hid hm'
    clear hm'
    gi_wp2_with (gi_at_mapUpdate; refine wpListIn_put rfl _ _ _ rfl w.heap.size pre.length (backF pre) rfl hmap Hm.out x.1.2 x.2.1 (x.1.1 : Int) (WalkArith.wf_i64 ⟨by omega, by have := x.2.2; omega⟩) rfl rfl ?_; intro w1 hmap1 hgrow1)
    exact ⟨KeepsFrom.of_grownBy hgrow1 (fun j e => by cases e; omega), ck_map hmap hgrow1, ⟨hbox.kept hgrow1 (fun e => by injection e with e; omega), by rw [backF_snoc, List.length_append]; exact hmap1⟩,
      hB.grown hgrow1 hB.size (fun k e => by cases e; exact Nat.le_refl _)⟩
  case done =>
    rintro D ys W hD rfl ⟨⟨hbox, hmap⟩, hB⟩ hK
    have hc := hbox.cell
    gi_wp2
    refine ⟨by simp, .inl ⟨_, _, rfl, run_takeDeferred hK, ?_⟩⟩
    refine ⟨_, results_tmp rfl _ _ _, rfl, ?_, hB.trans (belowK_b (w := w) (Nat.le_refl _) W D _ _ (by omega) hK rfl rfl)⟩
    rw [backF_all hz, hz.len] at hmap
    exact hmap.kept ((grownBy_putObj' W D _).block _ hmap.lt (fun e => by injection e with e; omega))
  case stop =>
    rintro D c pre W _ _ h _
    exact h.elim
theorem numbers_any (A : Option Addr) (n c : Nat) (l : List Sm) (hn : n * 32 ≤ 140737488351232) (w : World) (h : Syms w w.heap.size A n l) :
    Calls Tryd.prog 63 #[.slice A n c] w fun e W' => e = .returned (.map (some w.heap.size)) ∧ SMap W' w.heap.size n (firstF l) ∧ Below w.heap.size w W' := by
  obtain rfl := h.len
  exact (callsIn_wide (n := 3)).1 (numbers_in Fence.wide 3 trivial trivial trivial rfl (by omega) A c l hn w h)
end Go.Proofs.YtmmiclpedehcpaaDoor
namespace Go.Proofs.YtmmiclpedehcpaaDoor
open Go.RowKit
set_option maxRecDepth 20000
theorem firstF_at {l : List Sm} {k : Nat} {y : Sm} (hy : l[k]? = some y) : (firstF l y).getD 0 = atI l y := by
  have : ¬ atI l y < 0 := by
    intro hlt
    have h1 : l.findIdx? (· == y) = none := by
      cases hf : l.findIdx? (· == y) with
      | none => rfl
      | some i => simp [atI, hf] at hlt; omega
    rw [List.findIdx?_eq_none_iff] at h1
    have := h1 y (List.mem_of_getElem? hy)
    simp at this
  simp [firstF, this]
set_option maxHeartbeats 800000 in
theorem Check_any (A : Option Addr) (n c : Nat) (l : List Sm) (w : World) (h : Syms w w.heap.size A n l) (hn : n * 32 ≤ 140737488351232) (ht : tru w) :
    Calls Tryd.prog 49 #[.agg #[.slice A n c]] w fun e w' => e = .returned (.int .i64 (checkI l)) ∧ Below w.heap.size w w' := by
  have hneq := run_neq_sym
  by_cases h96 : 96 < n
  · have hf := Lib.hid (show checkI l = 3 by simp only [checkI]; rw [if_pos (by rw [h.len]; exact h96)])
    go_enter Tryd.func49, Tryd.ntmps49
    go_wp2
    go_ret
    exact ⟨ret_int hf.out.symm, (Below.refl _ _).alloc (Nat.le_refl _) _⟩
  · rcases Nat.eq_zero_or_pos n with h0 | h0
    · have hf := Lib.hid (show checkI l = 110 by
        have : l = [] := List.eq_nil_of_length_eq_zero (h.len.trans h0)
        subst this; rfl)
      subst h0
      go_enter Tryd.func49, Tryd.ntmps49
      go_wp2
      go_quiet (fail)
      go_wp2
      go_ret
      exact ⟨ret_int hf.out.symm, bl_drewN ((Below.refl _ _).alloc (Nat.le_refl _) _) _⟩
    · have h0' : (((n : Nat) : Int) == 0) = false := beq_eq_false_iff_ne.2 (by omega)
      go_enter Tryd.func49, Tryd.ntmps49
      go_wp2
      obtain ⟨W, hW⟩ : ∃ W, w.alloc (.cells #[.slice A n c] 24) = W := ⟨_, rfl⟩
      have hWB : Below w.heap.size w W := by rw [← hW]; exact (Below.refl _ _).alloc (Nat.le_refl _) _
      have hz : w.heap.size + 1 = W.heap.size := by rw [← hW]; clear hW; simp
      have x1 : W.cell? ⟨w.heap.size, 0, none⟩ = some (.slice A n c) := by rw [← hW]; clear hW; go_simp
      rw [hW]
      have g := h.below hWB
      have hok := Lib.hid h.ok
      obtain ⟨t1, t2, t3, _⟩ := tru_below ht hWB
      clear hW h ht
      have hlt0 : w.heap.size < W.heap.size := by omega
      clear hz
      obtain ⟨b, off, rfl, hb0, hc⟩ := g.ad h0
      have hb : b < W.heap.size := Nat.lt_trans hb0 hlt0
      obtain ⟨y, hy⟩ : ∃ y, l[0]? = some y := ⟨_, List.getElem?_eq_getElem (by rw [g.len]; exact h0)⟩
      obtain ⟨c1, c2, c3⟩ := hc 0 y hy
      simp only [Nat.zero_mul, Nat.add_zero] at c1 c2 c3
      have Hy := Lib.hid hy
      clear hy
      have Hc := Lib.hid hc
      clear hc
      by_cases hyt : y = truthSm
      · have hs := smB_true hyt
        have hf := Lib.hid (show checkI l = scanI l by
          simp only [checkI]; rw [if_neg (by rw [g.len]; exact h96), if_neg (by rw [Hy.out, hyt]; simp)])
        clear hyt
        go_quiet (fail)
        clear t1 t2 t3 hs c1 c2 c3
        go_wp2_with (first | (go_at_call 63; refine (numbers_any _ _ _ l hn _ (((g.drewN _).more (Nat.le_of_lt hlt0)))).mono ?_; rintro e w1 ⟨rfl, hmap, hb1⟩; have hB1 : Below W.heap.size W w1 := ⟨hb1.os, hb1.tape, hb1.output, hb1.size, hb1.block⟩; have z1 := cell_on hB1 hlt0 x1) | fail)
        clear hb1 z1
        have hmap' : SMap w1 W.heap.size n (firstF l) := hmap
        clear hmap
        go_loopw [29] (fun i wr => ∃ k : Nat, k ≤ n ∧ i = .int .i64 k ∧ Below w1.heap.size w1 wr ∧ Hid (∀ j, 1 ≤ j → j < k → errAt l j = 0)) (fun i _ => n - (intOf i).toNat)
        case atStart => exact ⟨0, Nat.zero_le _, rfl, Below.refl _ _, fun j h1 h2 => by omega⟩
        case round =>
          obtain ⟨k, hk, rfl, hBr0, HA⟩ := hrel
          have hBr : Below W.heap.size W wr := hB1.trans (hBr0.mono hB1.size)
          have z1 := cell_on hBr hlt0 x1
          have hmr := hmap'.below hBr0
          by_cases hlt : k < n
          · obtain ⟨y, hy⟩ : ∃ y, l[k]? = some y := ⟨_, List.getElem?_eq_getElem (by rw [g.len]; exact hlt)⟩
            obtain ⟨c1, c2, c3⟩ := Hc.out k y hy
            have d1 := cell_on hBr hb c1
            have d2 := cell_on hBr hb c2
            have d3 := cell_on hBr hb c3
            have hyok : y.Ok := hok.out y (List.mem_of_getElem? hy)
            have hys := hyok.size
            have hbox : Below wr.heap.size wr (wr.alloc (.cells #[.string y.name, .int .i64 y.arity, .bool y.pred] 67)) := (Below.refl _ _).alloc (Nat.le_refl _) _
            have hlk := (hmr.below hbox).look hyok
            rw [firstF_at hy] at hlk
            have Hy := Lib.hid hy
            clear hy hyok hmr
            by_cases hk0 : k = 0
            · have hk0' : (((k : Nat) : Int) == 0) = true := by simp [hk0]
              have Hk0 := Lib.hid hk0
              clear hk0 hlk
              go_wp2
              go_roundw
              case rel => exact ⟨k + 1, by omega, by go_num, hBr0.trans (hbox.mono hBr0.size), fun j h1 h2 => by have := Hk0.out; omega⟩
              case measure => simp [intOf]; omega
            · have hk0' : (((k : Nat) : Int) == 0) = false := by simpa using hk0
              by_cases he : oneI y.name y.arity = 0
              · have he' : (oneI y.name y.arity != 0) = false := by simp [he]
                have He := Lib.hid he
                clear he
                by_cases ha : atI l y < k
                · go_wp2_with (first | (go_at_call 64; refine (fits_any _ _ _ hys).mono ?_; rintro e w2 ⟨rfl, rfl⟩) | fail)
                  go_ret
                  exact ⟨ret_int (hf.out.trans (scan_at (by omega) HA.out (err_same Hy.out He.out ha) (by decide))).symm, hWB.trans ((hBr.trans (hbox.mono hBr.size)).mono (Nat.le_of_lt hlt0))⟩
                · go_wp2_with (first | (go_at_call 64; refine (fits_any _ _ _ hys).mono ?_; rintro e w2 ⟨rfl, rfl⟩) | fail)
                  go_roundw
                  case rel => exact ⟨k + 1, by omega, by go_num, hBr0.trans (hbox.mono hBr0.size), err_before HA.out (err_ok Hy.out He.out (by omega))⟩
                  case measure => simp [intOf]; omega
              · have he' : (oneI y.name y.arity != 0) = true := by simp [he]
                have He := Lib.hid he
                clear he hlk
                go_wp2_with (first | (go_at_call 64; refine (fits_any _ _ _ hys).mono ?_; rintro e w2 ⟨rfl, rfl⟩) | fail)
                go_ret
                exact ⟨ret_int (hf.out.trans (scan_at (by omega) HA.out (err_one Hy.out He.out) He.out)).symm, hWB.trans ((hBr.trans (hbox.mono hBr.size)).mono (Nat.le_of_lt hlt0))⟩
          · have : k = n := by omega
            subst this
            go_wp2
            go_ret
            exact ⟨ret_int (hf.out.trans (scan_miss (fun j h1 h2 => HA.out j h1 (by rw [← g.len]; exact h2)))).symm, hWB.trans (hBr.mono (by omega))⟩
      · have hs := smB_false hyt
        have hf := Lib.hid (show checkI l = 110 by
          simp only [checkI]; rw [if_neg (by rw [g.len]; exact h96), if_pos (by rw [Hy.out]; simpa using hyt)])
        clear hyt
        go_quiet (fail)
        go_wp2
        go_ret
        exact ⟨ret_int hf.out.symm, bl_drewN hWB _⟩
end Go.Proofs.YtmmiclpedehcpaaDoor
namespace Go.Proofs.YtmmiclpedehcpaaDoor
open Go.RowKit
set_option maxRecDepth 100000
def chkT (l : List Sm) (t : Tm) : Int := if checkI l ≠ 0 then 2 else if (fitT l t 1 300).1 = true then 0 else 2
theorem chk_sig {l : List Sm} {t : Tm} (h : ¬ checkI l = 0) : chkT l t = 2 := if_pos h
theorem chk_yes {l : List Sm} {t : Tm} (h : checkI l = 0) (h1 : (fitT l t 1 300).1 = true) : chkT l t = 0 := (if_neg (fun e => e h)).trans (if_pos h1)
theorem chk_no {l : List Sm} {t : Tm} (h : checkI l = 0) (h1 : (fitT l t 1 300).1 = false) : chkT l t = 2 := (if_neg (fun e => e h)).trans (if_neg (by simp [h1]))
set_option maxHeartbeats 2000000 in
theorem termCheck_any (l : List Sm) (t : Tm) (As A : Option Addr) (n cs c : Nat) (w : World) (hS : Syms w w.heap.size As n l) (hn : n * 32 ≤ 140737488351232) (ht : tru w) (hf : I64 t.fn) (hA : Args w w.heap.size A t.args) :
    Calls Tryd.prog 27 #[.agg #[.slice As n cs], .agg #[.int .i64 t.fn, .slice A t.args.length c]] w fun e w' => e = .returned (.int .i64 (chkT l t)) ∧ Below w.heap.size w w' := by
  obtain rfl := hS.len
  have hl64 : l.length ≤ 9223372036854775807 := by omega
  obtain ⟨p0, p1, p2⟩ := heap3 w (.cells #[.slice As l.length cs] 24) (.cells #[.int .i64 t.fn, .slice A t.args.length c] 37) (.cells #[.int .i64 300] 3)
  obtain ⟨W, hW⟩ : ∃ W, (((w.alloc (.cells #[.slice As l.length cs] 24)).alloc (.cells #[.int .i64 t.fn, .slice A t.args.length c] 37)).alloc (.cells #[.int .i64 300] 3)) = W := ⟨_, rfl⟩
  have hB : Below w.heap.size w W := by rw [← hW]; exact (((Below.refl _ _).alloc (Nat.le_refl _) _).alloc (by simp) _).alloc (by simp; omega) _
  rw [hW] at p0 p1 p2
  have hWs : w.heap.size + 1 + 1 < W.heap.size := (Array.getElem?_eq_some_iff.1 p2).1
  have hS' := Lib.hid (hS.on hB)
  have ht' := Lib.hid (tru_below ht hB)
  have HW := Lib.hid hW
  have hA2 := Lib.hid (hA.blw hB)
  have hS2 := Lib.hid (hS.below hB)
  clear hW hS ht hA
  have fin : ∀ {w' : World}, Below W.heap.size W w' → Below w.heap.size w w' := fun h => hB.trans (h.mono hB.size)
  have fin2 : ∀ {w1 w' : World}, Below W.heap.size W w1 → Keeps (fun g => g < w1.heap.size ∧ g ≠ w.heap.size + 1 + 1) w1 w' → Below w.heap.size w w' := fun h k => (fin h).trans (k.below fun g e => ⟨by have := h.size; omega, by omega⟩)
  by_cases h0 : checkI l = 0
  · cases h1 : (fitT l t 1 300).1 with
    | true =>
      have hc := Lib.hid (chk_yes h0 h1)
      have h1' := Lib.hid h1
      clear h1
      go_enter Tryd.func27, Tryd.ntmps27
      go_wp2_with (first
        | (go_at_call 49
           rw [HW.out]
           refine (Check_any As l.length cs l W hS'.out hn ht'.out).mono ?_
           rintro e w1 ⟨rfl, hb1⟩
           rw [h0]
           have x0 := (cells_one ((hb1.block _ (by omega)).trans p0)).1
           obtain ⟨x1, x2, _, _⟩ := cells_two ((hb1.block _ (by omega)).trans p1)
           have x3 := Lib.hid ((hb1.block _ hWs).trans p2))
        | (go_at_call 50
           refine (termFits_any l t As A cs c 1 300 (w.heap.size + 1 + 1) w1 hf ((hS2.out.below (hb1.mono (by omega))).more (by omega)) hl64 ((hA2.out.blw (hb1.mono (by omega))).more (by omega)) x3.out (by decide) (by decide) (by decide) (by decide)).mono ?_
           rintro e w2 ⟨rfl, hk2, _⟩
           rw [h1'.out])
        | fail)
      go_ret
      exact ⟨ret_int hc.out.symm, fin2 hb1 hk2⟩
    | false =>
      have hc := Lib.hid (chk_no h0 h1)
      have h1' := Lib.hid h1
      clear h1
      go_enter Tryd.func27, Tryd.ntmps27
      go_wp2_with (first
        | (go_at_call 49
           rw [HW.out]
           refine (Check_any As l.length cs l W hS'.out hn ht'.out).mono ?_
           rintro e w1 ⟨rfl, hb1⟩
           rw [h0]
           have x0 := (cells_one ((hb1.block _ (by omega)).trans p0)).1
           obtain ⟨x1, x2, _, _⟩ := cells_two ((hb1.block _ (by omega)).trans p1)
           have x3 := Lib.hid ((hb1.block _ hWs).trans p2))
        | (go_at_call 50
           refine (termFits_any l t As A cs c 1 300 (w.heap.size + 1 + 1) w1 hf ((hS2.out.below (hb1.mono (by omega))).more (by omega)) hl64 ((hA2.out.blw (hb1.mono (by omega))).more (by omega)) x3.out (by decide) (by decide) (by decide) (by decide)).mono ?_
           rintro e w2 ⟨rfl, hk2, _⟩
           rw [h1'.out])
        | fail)
      go_ret
      exact ⟨ret_int hc.out.symm, fin2 hb1 hk2⟩
  · have hc := Lib.hid (chk_sig (t := t) h0)
    go_enter Tryd.func27, Tryd.ntmps27
    go_wp2_with (first
      | (go_at_call 49
         rw [HW.out]
         refine (Check_any As l.length cs l W hS'.out hn ht'.out).mono ?_
         rintro e w1 ⟨rfl, hb1⟩)
      | fail)
    go_ret
    exact ⟨ret_int hc.out.symm, fin hb1⟩
end Go.Proofs.YtmmiclpedehcpaaDoor
namespace Go.Proofs.YtmmiclpedehcpaaDoor
open Go Go.RowKit Go.Shelf Go.Maps
set_option maxRecDepth 100000
section
variable {w : World} {tag : Nat → Nat} {p : BPl} {sy : List Sm} {As : Option Addr} {n cs : Nat} {ts : List Tm}
set_option maxHeartbeats 4000000 in
theorem bWalk_any {m : Bool} {k : FuncId} {fs : Array Value} (h : BankW w tag p sy As n cs ts) (hC : AbsC m k fs p.sx) {t : Tm} {A : Option Addr} {c : Nat} {N : Nat → Prop} (hts : ts.length + t.size ≤ 2147483648) (hsz : t.size ≤ 1048576) (hf : I64 t.fn) (hA : ArgsN w N A t.args) (hN : ∀ g, N g → g < w.heap.size ∧ tag g = 0) :
    Calls Tryd.prog 31 #[.pointer (some ⟨p.sx, 0, none⟩), .agg #[.int .i64 t.fn, .slice A t.args.length c], .func (.func k) fs #[]] w (VisB m w tag p sy As n cs ts t) := by
  obtain ⟨sx, hsx⟩ : ∃ sx, p.sx = sx := ⟨_, rfl⟩
  rw [hsx] at hC ⊢
  obtain ⟨q0, q1, q2⟩ := heap3 w (.cells #[.pointer (some ⟨sx, 0, none⟩)] 68) (.cells #[.int .i64 t.fn, .slice A t.args.length c] 37) (.cells #[.func (.func k) fs #[]] 82)
  obtain ⟨W, hW⟩ : ∃ W, (((w.alloc (.cells #[.pointer (some ⟨sx, 0, none⟩)] 68)).alloc (.cells #[.int .i64 t.fn, .slice A t.args.length c] 37)).alloc (.cells #[.func (.func k) fs #[]] 82)) = W := ⟨_, rfl⟩
  have hB : Below w.heap.size w W := by rw [← hW]; exact (((Below.refl _ _).alloc (Nat.le_refl _) _).alloc (by simp) _).alloc (by simp; omega) _
  have hWs : w.heap.size + 2 < W.heap.size := by rw [← hW]; simp
  rw [hW] at q0 q1 q2
  obtain ⟨W2, hW2⟩ : ∃ W2, W.alloc (.cells #[.func (.func 53) #[] #[.pointer (some ⟨W.heap.size, 0, none⟩), .pointer (some ⟨w.heap.size, 0, none⟩), .pointer (some ⟨w.heap.size + 1 + 1, 0, none⟩)]] 100) = W2 := ⟨_, rfl⟩
  have q3 := heap_alloc_new W (.cells #[.func (.func 53) #[] #[.pointer (some ⟨W.heap.size, 0, none⟩), .pointer (some ⟨w.heap.size, 0, none⟩), .pointer (some ⟨w.heap.size + 1 + 1, 0, none⟩)]] 100)
  have hB2 : Below W.heap.size W W2 := by rw [← hW2]; exact (Below.refl _ _).alloc (Nat.le_refl _) _
  rw [hW2] at q3
  have hBw2 : Below w.heap.size w W2 := hB.trans (hB2.mono hB.size)
  have hX : VisX W2 tag k fs sx W.heap.size w.heap.size (w.heap.size + 1 + 1) := ⟨q3, (hB2.block _ (by omega)).trans q0, (hB2.block _ (by omega)).trans q2, h.hi _ (by omega), h.hi _ (Nat.le_refl _), h.hi _ (by omega)⟩
  have hV := visit_any hC t W2 tag p sy As n cs ts A c N (h.on hBw2) hsx hts hsz hf (hA.keep fun g e => hBw2.block g (hN g e).1) (fun g e => ⟨Nat.lt_of_lt_of_le (hN g e).1 hBw2.size, (hN g e).2⟩) hX
  have HV : Hid (Calls Tryd.prog 53 #[.agg #[.int .i64 t.fn, .slice A t.args.length c], .pointer (some ⟨W.heap.size, 0, none⟩), .pointer (some ⟨w.heap.size, 0, none⟩), .pointer (some ⟨w.heap.size + 1 + 1, 0, none⟩)] W2 (VisB m w tag p sy As n cs ts t)) := Lib.hid (hV.mono (by
    rintro e w' ⟨p', tag', rfl, hB', hG'⟩
    exact ⟨p', tag', rfl, hB', (Grew.below (N := ts.length) hBw2).trans hG' (Nat.le_refl _)⟩))
  have y0 := Boxed.cell (show Boxed W2 W.heap.size _ _ from q3)
  obtain ⟨y1, y2, _, _⟩ := cells_two ((hB2.block _ (by omega)).trans q1)
  have HW := Lib.hid hW
  have HW2 := Lib.hid hW2
  clear hX hV hA hN hC h q0 q1 q2 q3 hW hW2 hB hB2 hBw2
  go_enter Tryd.func31, Tryd.ntmps31
  go_upto_region 1 with (fail)
  rw [HW.out]
  go_upto_region 3 with (fail)
  rw [HW2.out]
  go_wp2_with (first
    | ((with_reducible refine HV.out.mono ?_); go_must (rintro e w2 ⟨p3, tag3, rfl, hB3, hG3⟩; have HP3 := Lib.hid (And.intro hB3 hG3); clear hB3 hG3))
    | fail)
  go_ret
  exact ⟨p3, tag3, rfl, HP3.out.1, HP3.out.2⟩
end
end Go.Proofs.YtmmiclpedehcpaaDoor
namespace Go.Proofs.YtmmiclpedehcpaaDoor
open Go.RowKit
set_option maxRecDepth 100000
mutual
def lowT : Tm → Bool
  | .node f xs => if f < 0 then decide (-48 ≤ f ∧ xs.length = 0) else lowL xs
def lowL : List Tm → Bool
  | [] => true
  | t :: ts => lowT t && lowL ts
end
end Go.Proofs.YtmmiclpedehcpaaDoor
namespace Go.Proofs.YtmmiclpedehcpaaDoor
open Go.RowKit
set_option maxRecDepth 100000
mutual
def overT (l : List Sm) : Tm → Bool → Bool
  | .node f xs, top => if f < 0 then true else match l[f.toNat]? with
    | none => false
    | some s => if s.arity ≠ xs.length ∨ (s.pred = true ∧ top = false) then false else overL l xs
def overL (l : List Sm) : List Tm → Bool
  | [] => true
  | t :: ts => overT l t false && overL l ts
end
section
variable {l : List Sm} {f : Int} {xs : List Tm} {top : Bool} {s : Sm}
end
end Go.Proofs.YtmmiclpedehcpaaDoor
namespace Go.Proofs.YtmmiclpedehcpaaDoor
open Go.RowKit
set_option maxRecDepth 100000
theorem fitp_size (l : List Sm) (t : Tm) : ∀ d r, (fitT l t d r).1 = true → (fitT l t d r).2 = r - t.size ∧ (t.size : Int) ≤ r := by
  refine Tm.ind (P := fun t => ∀ d r, (fitT l t d r).1 = true → (fitT l t d r).2 = r - t.size ∧ (t.size : Int) ≤ r) (fun f xs ih d r h => ?_) t
  have key : ∀ ys : List Tm, (∀ t ∈ ys, t ∈ xs) → ∀ d r, 0 ≤ r → (fitL l ys d r).1 = true → (fitL l ys d r).2 = r - sizes ys ∧ (sizes ys : Int) ≤ r := by
    intro ys
    induction ys with
    | nil => intro _ d r hr h; simp [fitL, sizes]; exact hr
    | cons y ys ihy =>
      intro hm d r hr h
      cases hb : (fitT l y d r).1 with
      | false => rw [fitL_no hb] at h; cases h
      | true =>
        rw [fitL_yes hb] at h ⊢
        have e1 := ih y (hm y (by simp)) d r hb
        have e2 := ihy (fun t ht => hm t (by simp [ht])) d _ ((fit_le l y d r hr).2.2 hb) h
        simp only [sizes]
        omega
  by_cases h1 : r - 1 < 0 ∨ 30 < d
  · rw [fit_room h1] at h; cases h
  · by_cases hf : f < 0
    · rw [fit_var h1 hf] at h ⊢
      have := of_decide_eq_true h
      have hx : xs = [] := List.eq_nil_of_length_eq_zero this.2
      subst hx
      simp only [Tm.size, sizes]
      omega
    · cases hs : l[f.toNat]? with
      | none => rw [fit_out h1 hf (by have := List.getElem?_eq_none_iff.1 hs; omega)] at h; cases h
      | some s =>
        by_cases hb : s.arity ≠ xs.length ∨ (s.pred = true ∧ 1 < d)
        · rw [fit_bad h1 hf hs hb] at h; cases h
        · rw [fit_in h1 hf hs hb] at h ⊢
          have := key xs (fun _ h => h) (d + 1) (r - 1) (by omega) h
          simp only [Tm.size]
          omega
theorem fitp_iff (l : List Sm) (t : Tm) : ∀ d r, 1 ≤ d → ((fitT l t d r).1 = true ↔ ((t.size : Int) ≤ r ∧ (t.depth : Int) + d ≤ 31 ∧ lowT t = true ∧ overT l t (decide (d ≤ 1)) = true)) := by
  refine Tm.ind (P := fun t => ∀ d r, 1 ≤ d → ((fitT l t d r).1 = true ↔ ((t.size : Int) ≤ r ∧ (t.depth : Int) + d ≤ 31 ∧ lowT t = true ∧ overT l t (decide (d ≤ 1)) = true))) (fun f xs ih d r hd => ?_) t
  have key : ∀ ys : List Tm, (∀ t ∈ ys, t ∈ xs) → ∀ d r, 2 ≤ d → d ≤ 31 → 0 ≤ r → ((fitL l ys d r).1 = true ↔ ((sizes ys : Int) ≤ r ∧ (depths ys : Int) + d ≤ 31 ∧ lowL ys = true ∧ overL l ys = true)) := by
    intro ys
    induction ys with
    | nil => intro _ d r h1 h2 h3; simp [fitL, sizes, depths, lowL, overL]; omega
    | cons y ys ihy =>
      intro hm d r h1 h2 h3
      have e1 := ih y (hm y (by simp)) d r (by omega)
      rw [show decide (d ≤ 1) = false by simp; omega] at e1
      simp only [sizes, depths, lowL, overL, Bool.and_eq_true]
      cases hb : (fitT l y d r).1 with
      | true =>
        rw [fitL_yes hb]
        obtain ⟨a1, a2, a3, a4⟩ := e1.1 hb
        have hs := fitp_size l y d r hb
        rw [ihy (fun t ht => hm t (by simp [ht])) d _ h1 h2 ((fit_le l y d r h3).2.2 hb), hs.1]
        constructor
        · rintro ⟨b1, b2, b3, b4⟩; exact ⟨by omega, by omega, ⟨a3, b3⟩, a4, b4⟩
        · rintro ⟨b1, b2, ⟨_, b3⟩, _, b4⟩; exact ⟨by omega, by omega, b3, b4⟩
      | false =>
        rw [fitL_no hb]
        constructor
        · intro h; cases h
        · rintro ⟨b1, b2, ⟨b3, _⟩, b4, _⟩
          have := e1.2 ⟨by omega, by omega, b3, b4⟩
          rw [hb] at this; cases this
  simp only [Tm.size, Tm.depth]
  by_cases h1 : r - 1 < 0 ∨ 30 < d
  · rw [fit_room h1]
    constructor
    · intro h; cases h
    · rintro ⟨b1, b2, _, _⟩; omega
  · by_cases hf : f < 0
    · rw [fit_var h1 hf]
      simp only [lowT, overT, if_pos hf, decide_eq_true_eq]
      constructor
      · rintro ⟨b1, b2⟩
        have hx : xs = [] := List.eq_nil_of_length_eq_zero b2
        subst hx
        simp [sizes, depths]; omega
      · rintro ⟨_, _, ⟨b1, b2⟩, _⟩; exact ⟨by omega, b2⟩
    · simp only [lowT, overT, if_neg hf]
      cases hs : l[f.toNat]? with
      | none =>
        rw [fit_out h1 hf (by have := List.getElem?_eq_none_iff.1 hs; omega)]
        simp
      | some s =>
        by_cases hb : s.arity ≠ xs.length ∨ (s.pred = true ∧ 1 < d)
        · rw [fit_bad h1 hf hs hb]
          have hb' : s.arity ≠ xs.length ∨ (s.pred = true ∧ decide (d ≤ 1) = false) := hb.imp id fun h => ⟨h.1, by simp; omega⟩
          simp only [if_pos hb']
          simp
        · have hb' : ¬ (s.arity ≠ xs.length ∨ (s.pred = true ∧ decide (d ≤ 1) = false)) := fun h => hb (h.imp id fun h => ⟨h.1, by have := h.2; simp at this; omega⟩)
          rw [fit_in h1 hf hs hb, key xs (fun _ h => h) (d + 1) (r - 1) (by omega) (by omega) (by omega)]
          simp only [if_neg hb']
          constructor
          · rintro ⟨b1, b2, b3, b4⟩; exact ⟨by omega, by omega, b3, b4⟩
          · rintro ⟨b1, b2, b3, b4⟩; exact ⟨by omega, by omega, b3, b4⟩
end Go.Proofs.YtmmiclpedehcpaaDoor
namespace Go.Proofs.YtmmiclpedehcpaaDoor
open Go Go.RowKit Go.Shelf Go.Maps
set_option maxRecDepth 100000
structure TruT (w : World) (tag : Nat → Nat) : Prop where
  t : tru w
  z : tag 0 = 0
theorem TruT.grew {w w' : World} {tag tag' : Nat → Nat} {p p' : BPl} {N : Nat} (h : TruT w tag) (hg : Grew w w' tag tag' p p' N) : TruT w' tag' := by
  have hl := h.t.2.2.2
  have hb := hg.k.block hl fun e => e h.z
  exact ⟨⟨(World.cell?_of_block hb).trans h.t.1, (World.cell?_of_block hb).trans h.t.2.1, (World.cell?_of_block hb).trans h.t.2.2.1, Nat.lt_of_lt_of_le hl hg.k.size⟩, (hg.t _ hl).trans h.z⟩
def bputT (sy : List Sm) (ts : List Tm) (t : Tm) : List Tm := if chkT sy t = 0 then addT ts t else ts
def bputN (sy : List Sm) (ts : List Tm) (t : Tm) : Nat := if chkT sy t = 0 then idxT (addT ts t) t else 0
def BPutP (w : World) (tag : Nat → Nat) (p : BPl) (sy : List Sm) (As : Option Addr) (n cs : Nat) (ts : List Tm) (t : Tm) (e : Ending) (w' : World) : Prop :=
  ∃ p' tag', e = .returned (.tuple #[.int .i64 ((bputN sy ts t : Nat) : Int), .int .i64 (chkT sy t)]) ∧ BankW w' tag' p' sy As n cs (bputT sy ts t) ∧ Grew w w' tag tag' p p' ts.length
def bfindO (sy : List Sm) (ts : List Tm) (t : Tm) : Bool := decide (chkT sy t = 0) && decide (idxT ts t < ts.length)
def BFindP (w : World) (tag : Nat → Nat) (p : BPl) (sy : List Sm) (As : Option Addr) (n cs : Nat) (ts : List Tm) (t : Tm) (e : Ending) (w' : World) : Prop :=
  ∃ p' tag', e = .returned (.tuple #[.int .i64 (if bfindO sy ts t = true then ((idxT ts t : Nat) : Int) else 0), .bool (bfindO sy ts t)]) ∧ BankW w' tag' p' sy As n cs ts ∧ Grew w w' tag tag' p p' ts.length
theorem chk_300 {sy : List Sm} {t : Tm} (h : chkT sy t = 0) : t.size ≤ 300 := by
  unfold chkT at h
  split at h
  · omega
  · split at h
    · rename_i h1
      have := (fitp_size sy t 1 300 h1).2
      omega
    · omega
section
variable {w : World} {tag : Nat → Nat} {p : BPl} {sy : List Sm} {As : Option Addr} {n cs : Nat} {ts : List Tm}
set_option maxHeartbeats 4000000 in
theorem bPut_any (h : BankW w tag p sy As n cs ts) (hT : TruT w tag) (hn : n * 32 ≤ 140737488351232) {t : Tm} {A : Option Addr} {c : Nat} {N : Nat → Prop} (hts : ts.length + 300 ≤ 2147483648) (hf : I64 t.fn) (hA : ArgsN w N A t.args) (hN : ∀ g, N g → g < w.heap.size ∧ tag g = 0) :
    Calls Tryd.prog 12 #[.pointer (some ⟨p.bx, 0, none⟩), .agg #[.int .i64 t.fn, .slice A t.args.length c]] w (BPutP w tag p sy As n cs ts t) := by
  obtain ⟨W, hW⟩ : ∃ W, w.alloc (.cells #[.int .i64 t.fn, .slice A t.args.length c] 37) = W := ⟨_, rfl⟩
  have hB : Below w.heap.size w W := by rw [← hW]; exact (Below.refl _ _).alloc (Nat.le_refl _) _
  have q0 := heap_alloc_new w (.cells #[.int .i64 t.fn, .slice A t.args.length c] 37)
  rw [hW] at q0
  have HW := Lib.hid hW
  have HH := Lib.hid h
  have HTr := Lib.hid hT
  have HA := Lib.hid hA
  have HN := Lib.hid hN
  have HM := Lib.hid (bMissing_any (h.on hB))
  have Hq := Lib.hid q0
  have HB := Lib.hid hB
  have hql := (Array.getElem?_eq_some_iff.1 q0).1
  clear hW h hT hA hN q0 hB
  go_enter Tryd.func12, Tryd.ntmps12
  go_upto_region 1 with (fail)
  rw [HW.out]
  go_wp2_with (first
    | (go_at_call 30; (with_reducible refine HM.out.mono ?_); go_must (rintro e w1 ⟨rfl, hb1⟩))
    | fail)
  have hB1 : Below w.heap.size w w1 := HB.out.trans (hb1.mono HB.out.size)
  have hw1 := hb1.size
  have HCk := Lib.hid fun x : Later w1.heap.size w1 => termCheck_any sy t As A n cs c x.w (HH.out.on (hB1.trans (x.h.mono hB1.size))).sig hn (tru_below HTr.out.t (hB1.trans (x.h.mono hB1.size))) hf ((HA.out.keep fun g e => (hB1.trans (x.h.mono hB1.size)).block g (HN.out g e).1).args fun g e => Nat.lt_of_lt_of_le (HN.out g e).1 (hB1.trans (x.h.mono hB1.size)).size)
  have m0 : ∀ x : Later w1.heap.size w1, x.w.cell? ⟨p.bx, 0, none⟩ = some (.pointer (some ⟨p.sx, 0, none⟩)) := fun x => (HH.out.on (hB1.trans (x.h.mono hB1.size))).cells.1
  have m1 : ∀ x : Later w1.heap.size w1, x.w.cell? ⟨p.sx, 0, none⟩ = some (.slice As n cs) := fun x => (HH.out.on (hB1.trans (x.h.mono hB1.size))).cells.2.1
  have m2 : ∀ x : Later w1.heap.size w1, x.w.cell? ⟨w.heap.size, 0, none⟩ = some (.int .i64 t.fn) := fun x => (cells_two ((x.h.block _ (by omega)).trans ((hb1.block _ hql).trans Hq.out))).1
  have m3 : ∀ x : Later w1.heap.size w1, x.w.cell? ⟨w.heap.size, 1, none⟩ = some (.slice A t.args.length c) := fun x => (cells_two ((x.h.block _ (by omega)).trans ((hb1.block _ hql).trans Hq.out))).2.1
  refine wp_region_later w1.heap.size w1 (by kernel_rfl) (by kernel_rfl) (bl_drewN (Below.refl _ _) 1) ?_
  repeat (go_big_quiet_step (first
    | (go_at_call 27; with_reducible refine calls_later _ (Nat.le_refl _) (HCk.out _))
    | fail))
  refine wpQuiet_nil ?_
  rintro _ ⟨z, rfl⟩
  have HM0 := Lib.hid m0
  have HM2 := Lib.hid m2
  have HM3 := Lib.hid m3
  have hz := z.h
  clear m0 m1 m2 m3 HCk
  have hBz : Below w.heap.size w z.w := hB1.trans (hz.mono hB1.size)
  obtain ⟨W2, hW2⟩ : ∃ W2, z.w = W2 := ⟨_, rfl⟩
  have k0 := HM0.out z
  have k2 := HM2.out z
  have k3 := HM3.out z
  rw [hW2] at hBz k0 k2 k3 ⊢
  by_cases hc : chkT sy t = 0
  case neg =>
    have HP : Hid (BPutP w tag p sy As n cs ts t (.returned (.tuple #[.int .i64 0, .int .i64 (chkT sy t)])) W2) := Lib.hid ⟨p, tag, by unfold bputN; rw [if_neg hc]; rfl, by unfold bputT; rw [if_neg hc]; exact HH.out.on hBz, .below hBz⟩
    obtain ⟨ck, hck⟩ : ∃ ck, chkT sy t = ck := ⟨_, rfl⟩
    rw [hck] at hc HP ⊢
    have g0 : (ck != 0) = true := by simpa using hc
    clear hc
    go_wp2
    refine bodyPost_ret (v := .tuple #[.int .i64 0, .int .i64 ck]) (by simp [results, Tryd.results12, go_sem]) rfl ?_
    exact HP.out
  case pos =>
    rw [hc]
    have h300 := chk_300 hc
    obtain ⟨q, hq⟩ : ∃ q, idxT (addT ts t) t = q := ⟨_, rfl⟩
    have hWk : Calls Tryd.prog 31 #[.pointer (some ⟨p.sx, 0, none⟩), .agg #[.int .i64 t.fn, .slice A t.args.length c], .func (.func 32) #[.pointer (some ⟨p.sx, 0, none⟩)] #[]] W2.drew fun e w' => ∃ eb : Nat, e = .returned (.pointer (some ⟨eb, 0, none⟩)) ∧ w'.cell? ⟨eb, 0, none⟩ = some (.int .i64 (q : Int)) ∧ w'.cell? ⟨p.bx, 0, none⟩ = some (.pointer (some ⟨p.sx, 0, none⟩)) ∧ w'.cell? ⟨w.heap.size, 0, none⟩ = some (.int .i64 t.fn) ∧ w'.cell? ⟨w.heap.size, 1, none⟩ = some (.slice A t.args.length c) ∧ BPutP w tag p sy As n cs ts t (.returned (.tuple #[.int .i64 (q : Int), .int .i64 0])) w' := by
      have hD : Below w.heap.size w W2.drew := hBz.drew
      refine (bWalk_any (HH.out.on hD) (absAdd p.sx) (N := N) (by omega) (by omega) hf (HA.out.keep fun g e => hD.block g (HN.out g e).1) (fun g e => ⟨Nat.lt_of_lt_of_le (HN.out g e).1 hD.size, (HN.out g e).2⟩)).mono ?_
      rintro e w' ⟨p3, tag3, rfl, hB3, hG3⟩
      have e1 : tsV true ts t = addT ts t := rfl
      rw [e1] at hB3 ⊢
      have hin := addT_mem t ts
      have hat := idxT_at hin
      rw [hq] at hat
      have hcell := (hB3.entC hat).1
      have hbx := hB3.cells.1
      rw [hG3.bx, hG3.sx] at hbx
      have hbox : W2.drew.heap[w.heap.size]? = some (.cells #[.int .i64 t.fn, .slice A t.args.length c] 37) := by
        have h1 := hz.block w.heap.size (by omega)
        rw [hW2] at h1
        exact h1.trans ((hb1.block _ hql).trans Hq.out)
      have hbk := (hG3.k.block (Array.getElem?_eq_some_iff.1 hbox).1 (fun e => e (HH.out.hi _ (Nat.le_refl _)))).trans hbox
      refine ⟨p3.E q, by rw [ansB_in hin, hq]; rfl, hcell, hbx, (cells_two hbk).1, (cells_two hbk).2.1, p3, tag3, ?_, ?_, (Grew.below (N := ts.length) hD).trans hG3 (Nat.le_refl _)⟩
      · unfold bputN; rw [if_pos hc, hq, hc]
      · unfold bputT; rw [if_pos hc]; exact hB3
    have HWk := Lib.hid hWk
    clear hWk hc HH HTr HA HN HM Hq HB HM0 HM2 HM3
    go_wp2
    go_still_tail 10, (by kernel_rfl)
    change wpList _ _ _ _ _ W2.drew
    obtain ⟨W3, hW3⟩ : ∃ W3, W2.drew = W3 := ⟨_, rfl⟩
    have k0' : W3.cell? ⟨p.bx, 0, none⟩ = some (.pointer (some ⟨p.sx, 0, none⟩)) := by rw [← hW3]; exact k0
    have k2' : W3.cell? ⟨w.heap.size, 0, none⟩ = some (.int .i64 t.fn) := by rw [← hW3]; exact k2
    have k3' : W3.cell? ⟨w.heap.size, 1, none⟩ = some (.slice A t.args.length c) := by rw [← hW3]; exact k3
    rw [hW3] at HWk ⊢
    clear hW3 k0 k2 k3
    go_wp2_with (first
      | (go_at_call 31; (with_reducible refine HWk.out.mono ?_); go_must (rintro e w3 ⟨eb, rfl, n1, n0, n2, n3, hP⟩; have HP := Lib.hid hP; clear hP))
      | fail)
    refine bodyPost_ret (v := .tuple #[.int .i64 (q : Int), .int .i64 0]) (by simp [results, Tryd.results12, go_sem]) rfl ?_
    exact HP.out
set_option maxHeartbeats 4000000 in
theorem bFind_any (h : BankW w tag p sy As n cs ts) (hT : TruT w tag) (hn : n * 32 ≤ 140737488351232) {t : Tm} {A : Option Addr} {c : Nat} {N : Nat → Prop} (hts : ts.length + 300 ≤ 2147483648) (hf : I64 t.fn) (hA : ArgsN w N A t.args) (hN : ∀ g, N g → g < w.heap.size ∧ tag g = 0) :
    Calls Tryd.prog 16 #[.pointer (some ⟨p.bx, 0, none⟩), .agg #[.int .i64 t.fn, .slice A t.args.length c]] w (BFindP w tag p sy As n cs ts t) := by
  obtain ⟨W, hW⟩ : ∃ W, w.alloc (.cells #[.int .i64 t.fn, .slice A t.args.length c] 37) = W := ⟨_, rfl⟩
  have hB : Below w.heap.size w W := by rw [← hW]; exact (Below.refl _ _).alloc (Nat.le_refl _) _
  have q0 := heap_alloc_new w (.cells #[.int .i64 t.fn, .slice A t.args.length c] 37)
  rw [hW] at q0
  have HW := Lib.hid hW
  have HH := Lib.hid h
  have HTr := Lib.hid hT
  have HA := Lib.hid hA
  have HN := Lib.hid hN
  have Hq := Lib.hid q0
  have HB := Lib.hid hB
  have hql := (Array.getElem?_eq_some_iff.1 q0).1
  have HM := Lib.hid fun x : Later W.heap.size W => bMissing_any (h.on (hB.trans (x.h.mono hB.size)))
  have HCk := Lib.hid fun x : Later W.heap.size W => termCheck_any sy t As A n cs c x.w (h.on (hB.trans (x.h.mono hB.size))).sig hn (tru_below hT.t (hB.trans (x.h.mono hB.size))) hf ((hA.keep fun g e => (hB.trans (x.h.mono hB.size)).block g (hN g e).1).args fun g e => Nat.lt_of_lt_of_le (hN g e).1 (hB.trans (x.h.mono hB.size)).size)
  have m0 : ∀ x : Later W.heap.size W, x.w.cell? ⟨p.bx, 0, none⟩ = some (.pointer (some ⟨p.sx, 0, none⟩)) := fun x => (h.on (hB.trans (x.h.mono hB.size))).cells.1
  have m1 : ∀ x : Later W.heap.size W, x.w.cell? ⟨p.sx, 0, none⟩ = some (.slice As n cs) := fun x => (h.on (hB.trans (x.h.mono hB.size))).cells.2.1
  have m2 : ∀ x : Later W.heap.size W, x.w.cell? ⟨w.heap.size, 0, none⟩ = some (.int .i64 t.fn) := fun x => (cells_two ((x.h.block _ (by omega)).trans q0)).1
  have m3 : ∀ x : Later W.heap.size W, x.w.cell? ⟨w.heap.size, 1, none⟩ = some (.slice A t.args.length c) := fun x => (cells_two ((x.h.block _ (by omega)).trans q0)).2.1
  have HM0 := Lib.hid m0
  have HM2 := Lib.hid m2
  have HM3 := Lib.hid m3
  by_cases hc : chkT sy t = 0
  case neg =>
    have hP : ∀ x : Later W.heap.size W, BFindP w tag p sy As n cs ts t (.returned (.tuple #[.int .i64 0, .bool false])) x.w := fun x => by
      have hfo : bfindO sy ts t = false := by unfold bfindO; rw [decide_eq_false hc]; rfl
      exact ⟨p, tag, by rw [hfo]; rfl, h.on (hB.trans (x.h.mono hB.size)), .below (hB.trans (x.h.mono hB.size))⟩
    have HP := Lib.hid hP
    obtain ⟨ck, hck⟩ : ∃ ck, chkT sy t = ck := ⟨_, rfl⟩
    rw [hck] at hc HCk
    have g0 : (ck != 0) = true := by simpa using hc
    clear hc hP hck hW h hT hA hN q0 hB HH HTr HA HN Hq HB HM0 HM2 HM3
    go_enter Tryd.func16, Tryd.ntmps16
    go_upto_region 1 with (fail)
    rw [HW.out]
    refine wp_region_later W.heap.size W (by kernel_rfl) (by kernel_rfl) (bl_drewN (Below.refl _ _) 1) ?_
    repeat (go_big_quiet_step (first
      | (go_at_call 30; with_reducible refine calls_later _ (Nat.le_refl _) (HM.out _))
      | (go_at_call 27; with_reducible refine calls_later _ (Nat.le_refl _) (HCk.out _))
      | fail))
    refine wpQuiet_nil ?_
    rintro _ ⟨z, rfl⟩
    clear HM HCk m0 m1 m2 m3
    go_wp2
    refine bodyPost_ret (v := .tuple #[.int .i64 0, .bool false]) (by simp [results, Tryd.results16, go_sem]) rfl ?_
    exact HP.out _
  case pos =>
    have h300 := chk_300 hc
    have hWk : ∀ x : Later W.heap.size W, Calls Tryd.prog 31 #[.pointer (some ⟨p.sx, 0, none⟩), .agg #[.int .i64 t.fn, .slice A t.args.length c], .func (.func 42) #[] #[]] x.w (VisB false w tag p sy As n cs ts t) := fun x => by
      have hD := hB.trans (x.h.mono hB.size)
      refine (bWalk_any (h.on hD) (absLeave p.sx) (N := N) (by omega) (by omega) hf (hA.keep fun g e => hD.block g (hN g e).1) (fun g e => ⟨Nat.lt_of_lt_of_le (hN g e).1 hD.size, (hN g e).2⟩)).mono ?_
      rintro e w' ⟨p3, tag3, rfl, hB3, hG3⟩
      exact ⟨p3, tag3, rfl, hB3, (Grew.below (N := ts.length) hD).trans hG3 (Nat.le_refl _)⟩
    have HWk := Lib.hid hWk
    rw [hc] at HCk
    have Hc := Lib.hid hc
    clear hc hWk hW h hT hA hN q0 hB HH HTr HA HN Hq HB
    go_enter Tryd.func16, Tryd.ntmps16
    go_upto_region 1 with (fail)
    rw [HW.out]
    refine wp_region_later W.heap.size W (by kernel_rfl) (by kernel_rfl) (bl_drewN (Below.refl _ _) 1) ?_
    repeat (go_big_quiet_step (first
      | (go_at_call 30; with_reducible refine calls_later _ (Nat.le_refl _) (HM.out _))
      | (go_at_call 27; with_reducible refine calls_later _ (Nat.le_refl _) (HCk.out _))
      | fail))
    refine wpQuiet_nil ?_
    rintro _ ⟨z, rfl⟩
    clear HM HCk m0 m1 m2 m3
    obtain ⟨W2, hW2⟩ : ∃ W2, z.w = W2 := ⟨_, rfl⟩
    have hz := z.h
    rw [hW2] at hz ⊢
    have Hz := Lib.hid hz
    clear hW2 hz
    go_wp2
    have j0 := HM0.out ⟨_, Hz.out⟩
    have j2 := HM2.out ⟨_, Hz.out⟩
    have j3 := HM3.out ⟨_, Hz.out⟩
    simp only at j0 j2 j3
    go_still_tail 5, (by kernel_rfl)
    change wpList _ _ _ _ _ W2.drew
    have hD3 : Below W.heap.size W W2.drew := Hz.out.drew
    have k0 := HM0.out ⟨_, hD3⟩
    have k2 := HM2.out ⟨_, hD3⟩
    have k3 := HM3.out ⟨_, hD3⟩
    have Hwk := Lib.hid (HWk.out ⟨_, hD3⟩)
    obtain ⟨W3, hW3⟩ : ∃ W3, W2.drew = W3 := ⟨_, rfl⟩
    simp only [hW3] at k0 k2 k3 Hwk ⊢
    clear hW3 hD3 HM0 HM2 HM3 HWk j0 j2 j3
    by_cases hin : t ∈ ts
    case pos =>
      have hK : Hid (Calls Tryd.prog 31 #[.pointer (some ⟨p.sx, 0, none⟩), .agg #[.int .i64 t.fn, .slice A t.args.length c], .func (.func 42) #[] #[]] W3 fun e w' => ∃ eb : Nat, e = .returned (.pointer (some ⟨eb, 0, none⟩)) ∧ w'.cell? ⟨eb, 0, none⟩ = some (.int .i64 ((idxT ts t : Nat) : Int)) ∧ BFindP w tag p sy As n cs ts t (.returned (.tuple #[.int .i64 ((idxT ts t : Nat) : Int), .bool true])) w') := Lib.hid (Hwk.out.mono (by
        rintro e w' ⟨p3, tag3, rfl, hB3, hG3⟩
        have e1 : tsV false ts t = ts := rfl
        rw [e1] at hB3 ⊢
        have hfo : bfindO sy ts t = true := by unfold bfindO; rw [decide_eq_true Hc.out, decide_eq_true (idxT_lt.2 hin)]; rfl
        exact ⟨p3.E (idxT ts t), by rw [ansB_in hin]; rfl, (hB3.entC (idxT_at hin)).1, p3, tag3, by rw [hfo]; rfl, hB3, hG3⟩))
      clear Hwk hin
      go_wp2_with (first
        | (go_at_call 31; (with_reducible refine hK.out.mono ?_); go_must (rintro e w3 ⟨eb, rfl, n1, hP⟩; have HP := Lib.hid hP; clear hP))
        | fail)
      refine bodyPost_ret (v := .tuple #[.int .i64 ((idxT ts t : Nat) : Int), .bool true]) (by simp [results, Tryd.results16, go_sem]) rfl ?_
      exact HP.out
    case neg =>
      have hK : Hid (Calls Tryd.prog 31 #[.pointer (some ⟨p.sx, 0, none⟩), .agg #[.int .i64 t.fn, .slice A t.args.length c], .func (.func 42) #[] #[]] W3 fun e w' => e = .returned (.pointer none) ∧ BFindP w tag p sy As n cs ts t (.returned (.tuple #[.int .i64 0, .bool false])) w') := Lib.hid (Hwk.out.mono (by
        rintro e w' ⟨p3, tag3, rfl, hB3, hG3⟩
        have e1 : tsV false ts t = ts := rfl
        rw [e1] at hB3 ⊢
        have hfo : bfindO sy ts t = false := by unfold bfindO; rw [decide_eq_false (fun e => hin (idxT_lt.1 e))]; simp
        exact ⟨by rw [ansB_out hin], p3, tag3, by rw [hfo]; rfl, hB3, hG3⟩))
      clear Hwk hin
      go_wp2_with (first
        | (go_at_call 31; (with_reducible refine hK.out.mono ?_); go_must (rintro e w3 ⟨rfl, hP⟩; have HP := Lib.hid hP; clear hP))
        | fail)
      refine bodyPost_ret (v := .tuple #[.int .i64 0, .bool false]) (by simp [results, Tryd.results16, go_sem]) rfl ?_
      exact HP.out
end
end Go.Proofs.YtmmiclpedehcpaaDoor
namespace Go.Proofs.YtmmiclpedehcpaaDoor
open Go.RowKit
set_option maxRecDepth 100000
def putT : Tm → List Int → Tm → Tm
  | _, [], s => s
  | t, i :: p, s => match t.args[i.toNat]? with
    | none => t
    | some u => .node t.fn (t.args.set i.toNat (putT u p s))
theorem frozen_of_heap {w w' : World} {b o : Nat} (h : w'.heap[b]? = w.heap[b]?) : w'.frozen? ⟨b, o, none⟩ = w.frozen? ⟨b, o, none⟩ := by simp [World.frozen?, h]
end Go.Proofs.YtmmiclpedehcpaaDoor
namespace Go.Proofs.YtmmiclpedehcpaaDoor
open Go.RowKit Go.Shelf
set_option maxRecDepth 100000
def Apart (lo : Nat) (v : Value) (w : World) (g : Nat) : Prop := lo ≤ g ∧ g < w.heap.size ∧ v.ownBlock ≠ some g
def RCopyPost (t : Tm) (w : World) (e : Ending) (w' : World) : Prop := ∃ v l, e = .returned (.agg #[.int .i64 t.fn, v]) ∧ l.map Ti.t = t.args ∧ RowT w' w.heap.size v l (Apart w.heap.size v w') ∧ Below w.heap.size w w'
theorem row_own {W : World} {base n : Nat} {e : TypeId} {size : Nat} {v : Value} {vs : List Value} (h : W.ownsRow base e size v n vs) : ∃ A c, v = .slice A n c := by
  rcases h.2 with ⟨hv, h0⟩ | ⟨g, cap, cur, hv, _⟩
  · exact ⟨none, 0, by rw [hv, h0]⟩
  · exact ⟨_, cap, hv⟩
theorem RowT.base {w : World} {base base' : Nat} {v : Value} {l : List Ti} {N : Nat → Prop} (h : RowT w base v l N) (hb : base' ≤ base) : RowT w base' v l N := by
  refine ⟨⟨h.row.1, ?_⟩, h.i64, h.sub⟩
  rcases h.row.2 with h0 | ⟨g, cap, cur, hv, h1, hrest⟩
  · exact .inl h0
  · exact .inr ⟨g, cap, cur, hv, Nat.le_trans hb h1, hrest⟩
end Go.Proofs.YtmmiclpedehcpaaDoor
namespace Go.Proofs.YtmmiclpedehcpaaDoor
open Go Go.RowKit Go.Shelf Go.Maps
set_option maxRecDepth 100000
structure WhoI (b0 : Nat) (wr : World) (f : Int) (xs : List Tm) (k : Nat) (v : Value) (l : List Ti) : Prop where
  box : wr.heap[b0]? = some (.cells #[.int .i64 f, v] 37)
  key : l.map Ti.t = xs.take k
  row : RowT wr (b0 + 1) v l (Apart (b0 + 1) v wr)
theorem WhoI.len {b0 : Nat} {wr : World} {f : Int} {xs : List Tm} {k : Nat} {v : Value} {l : List Ti} (h : WhoI b0 wr f xs k v l) (hk : k ≤ xs.length) : l.length = k := by
  have := congrArg List.length h.key
  simpa [Nat.min_eq_left hk] using this
theorem WhoI.next {b0 : Nat} {wr w4 w5 : World} {f : Int} {xs : List Tm} {k : Nat} {v v4 v5 : Value} {l l4 : List Ti} {u : Tm} {A4 : Option Addr} {c4 : Nat} {o : Obj} (h : WhoI b0 wr f xs k v l) (hu : xs[k]? = some u) (hi : I64 u.fn) (hl4 : l4.map Ti.t = u.args) (h64 : u.args.length ≤ 9223372036854775807) (hv4 : v4 = .slice A4 u.args.length c4)
    (hR4 : RowT w4 wr.heap.size v4 l4 (Apart wr.heap.size v4 w4)) (hb4 : Below wr.heap.size wr w4) (hown : w5.ownsRow (b0 + 1) 37 2 v5 (k + 1) (l.flatMap Ti.cells ++ (⟨u, A4, c4⟩ : Ti).cells))
    (hgr : (w4.alloc o).grownBy w5 v.ownBlock) (hat : v5.ownBlock = v.ownBlock ∨ v5.ownBlock = some (w4.alloc o).heap.size) :
    WhoI b0 (w5.setCell ⟨b0, 1, none⟩ v5) f xs (k + 1) v5 (l ++ [⟨u, A4, c4⟩]) := by
  have hkl := (List.getElem?_eq_some_iff.1 hu).1
  have hlen := h.len (by omega)
  have hlt := row_lt h.row.row
  have hs4 := hb4.size
  have hs5 := hgr.size
  have hbs : b0 < wr.heap.size := (Array.getElem?_eq_some_iff.1 h.box).1
  have hK : ∀ g, g < wr.heap.size → v.ownBlock ≠ some g → w5.heap[g]? = wr.heap[g]? := fun g h1 h2 => (hgr.block g (by simp; omega) (fun e => h2 e.symm)).trans ((Below.heap_alloc w4 o g (by omega)).trans (hb4.block g h1))
  have hK4 : ∀ g, g < w4.heap.size → v.ownBlock ≠ some g → w5.heap[g]? = w4.heap[g]? := fun g h1 h2 => (hgr.block g (by simp; omega) (fun e => h2 e.symm)).trans (Below.heap_alloc w4 o g h1)
  have hb2 : v.ownBlock ≠ some (b0) := fun e => by have := (hlt _ e).1; omega
  have hbox5 := (hK _ hbs hb2).trans h.box
  obtain ⟨_, z1⟩ := set2_two (u := .int .i64 f) (v := v5) hbox5
  have hset : ∀ g, g ≠ b0 → (w5.setCell ⟨b0, 1, none⟩ v5).heap[g]? = w5.heap[g]? := fun g e => heap_setCell_other _ _ _ _ e
  have hlt5 := row_lt hown
  have hv5 : ∀ g, g < wr.heap.size → v.ownBlock ≠ some g → v5.ownBlock ≠ some g := fun g h1 h2 e => by
    rcases hat with h3 | h3
    · rw [h3] at e; exact h2 e
    · rw [h3] at e; injection e with e; simp at e; omega
  have hv54 : ∀ g, wr.heap.size ≤ g → g < w4.heap.size → v5.ownBlock ≠ some g := fun g h1 h2 e => by
    rcases hat with h3 | h3
    · rw [h3] at e; have := (hlt _ e).2; omega
    · rw [h3] at e; injection e with e; simp at e; omega
  have hsz5 : w4.heap.size + 1 ≤ w5.heap.size := by simpa using hs5
  refine ⟨?_, ?_, ?_⟩
  · exact heap_setCell_same w5 _ 1 _ _ _ hbox5
  · rw [List.map_append, h.key, List.take_add_one, hu]; rfl
  · refine RowT.push (w := wr) (N := Apart (b0 + 1) v wr) h.row ?_ hi ?_ (fun g hg => ?_) (fun g hg => ⟨hg.1, by have := hg.2.1; simp; omega, hv5 g hg.2.1 hg.2.2⟩)
    · rw [hlen]
      exact row_keep hown fun g e => hset g (by have := (hlt5 g e).1; omega)
    · have hl4l : l4.length ≤ 9223372036854775807 := by have := congrArg List.length hl4; simp at this; omega
      obtain ⟨A', c', e, hA⟩ := hR4.argsN (M := fun g => wr.heap.size ≤ g ∧ g < w4.heap.size) hl4l (fun g e => row_lt hR4.row g e) (fun g hg => ⟨hg.1, hg.2.1⟩)
      rw [hv4] at e
      injection e with e1 _ _
      subst e1
      rw [hl4] at hA
      refine (hA.keep fun g hg => ?_).wide fun g hg => ⟨by omega, by simp; omega, hv54 g hg.1 hg.2⟩
      exact (hset g (by omega)).trans (hK4 g hg.2 fun e => by have := (hlt _ e).2; omega)
    · exact (hset g (by have := hg.1; omega)).trans (hK g hg.2.1 hg.2.2)
section
variable {tag : Nat → Nat} {p : BPl} {sy : List Sm} {As : Option Addr} {n cs : Nat} {ts : List Tm}
def WholeAt (tag : Nat → Nat) (p : BPl) (sy : List Sm) (As : Option Addr) (n cs : Nat) (ts : List Tm) (t : Tm) : Prop :=
  t.size ≤ 4398046511104 → ∀ (i : Nat) (w : World), ts[i]? = some t → BankW w tag p sy As n cs ts → Calls Tryd.prog 46 #[.pointer (some ⟨p.E i, 0, none⟩)] w (RCopyPost t w)
set_option maxHeartbeats 4000000 in
theorem bWhole_any (t : Tm) : WholeAt tag p sy As n cs ts t := by
  refine Tm.ind (P := WholeAt tag p sy As n cs ts) (fun f xs ih => ?_) t
  intro hsz i0' w hit h
  have hf := h.i64 _ (List.mem_of_getElem? hit)
  simp only [Tm.fn] at hf
  have hlen : xs.length ≤ 4398046511104 := by have := sizes_len xs; simp only [Tm.size] at hsz; omega
  obtain ⟨i0, hi, hz0, hz1, hz2⟩ := info_parts info_term
  obtain ⟨A, c, hA⟩ := h.A_slice hit
  simp only [Tm.args] at hA
  obtain ⟨W, hW⟩ : ∃ W, ((w.alloc (.cells #[.int .i64 0, .slice none 0 0] 37)).alloc (.cells #[.int .i64 f, .slice none 0 0] 37)) = W := ⟨_, rfl⟩
  have hBa : Below w.heap.size w (w.alloc (.cells #[.int .i64 0, .slice none 0 0] 37)) := (Below.refl _ _).alloc (Nat.le_refl _) _
  have hB : Below w.heap.size w W := by rw [← hW]; exact ((Below.refl _ _).alloc (Nat.le_refl _) _).alloc (by simp) _
  obtain ⟨q1, q2⟩ := heap2 w (.cells #[.int .i64 0, .slice none 0 0] 37) (.cells #[.int .i64 f, .slice none 0 0] 37)
  rw [hW] at q1 q2
  have hWs : w.heap.size + 1 < W.heap.size := (Array.getElem?_eq_some_iff.1 q2).1
  have hI0 : WhoI (w.heap.size + 1) W f xs 0 (.slice none 0 0) [] := ⟨q2, by simp, RowT.nil_ _ _ _⟩
  obtain ⟨_, e1, _⟩ := (h.on hBa).entC hit
  obtain ⟨_, _, e2, _⟩ := (h.on hB).entC hit
  rw [hA] at e2
  simp only [Tm.fn] at e1
  have HI0 := Lib.hid hI0
  have HH := Lib.hid h
  have HIT := Lib.hid hit
  have HW := Lib.hid hW
  have HA := Lib.hid hA
  obtain ⟨eb, heb⟩ : ∃ eb, p.E i0' = eb := ⟨_, rfl⟩
  rw [heb] at e1 e2 ⊢
  clear hW h hit q2 hI0 hA heb hBa
  go_enter Tryd.func46, Tryd.ntmps46
  go_upto_region 2 with (fail)
  rw [HW.out]
  go_wp2
  clear e1 e2
  go_loopw [18] (fun i wr => ∃ (k : Nat) (v : Value) (l : List Ti), k ≤ xs.length ∧ i = .int .i64 (k : Int) ∧ Below (w.heap.size + 1) W wr ∧ Hid (WhoI (w.heap.size + 1) wr f xs k v l)) (fun i _ => xs.length - (intOf i).toNat)
  case atStart => exact ⟨0, _, [], Nat.zero_le _, rfl, Below.refl _ _, HI0⟩
  case round =>
    obtain ⟨k, v, l, hk, rfl, hBr, H⟩ := hrel
    have hbx := H.out.box
    have hbs : w.heap.size + 1 < wr.heap.size := (Array.getElem?_eq_some_iff.1 hbx).1
    obtain ⟨c0, c1, g0, g1⟩ := cells_two hbx
    have hBw : Below w.heap.size w wr := hB.trans (hBr.mono (by omega))
    by_cases hlt : k < xs.length
    · obtain ⟨u, hu⟩ : ∃ u, xs[k]? = some u := ⟨_, List.getElem?_eq_getElem hlt⟩
      obtain ⟨g, c', hA2, e0⟩ := (HH.out.on hBw).argAt HIT.out (j := k) (a := u) hu
      rw [HA.out] at hA2
      injection hA2 with hA3 hA5 hA4
      subst hA3
      have hai := HH.out.argI HIT.out (j := k) (a := u) hu
      obtain ⟨q, hq⟩ : ∃ q, idxT ts u = q := ⟨_, rfl⟩
      rw [hq] at e0 hai
      unfold BPl.ptr at e0
      have hi64 := HH.out.i64 u (List.mem_of_getElem? hai)
      have hmem := List.mem_of_getElem? hu
      have hszt : u.size ≤ 4398046511104 := by have := size_mem hmem; simp only [Tm.size] at hsz; omega
      have hul : u.args.length ≤ 9223372036854775807 := by have := sizes_len u.args; have : u.size = sizes u.args + 1 := by { cases u; simp [Tm.size, Tm.args] }; omega
      have Hih := Lib.hid (ih u hmem hszt q wr.drew hai (HH.out.on (hBw.drew)))
      have Hu := Lib.hid hu
      have hrow := H.out.row.row
      have hll := H.out.len hk
      rw [hll] at hrow
      obtain ⟨Av, cv, hv⟩ := row_own hrow
      subst hv
      have hrl := row_lt hrow
      have Hrow := Lib.hid hrow
      have hSS : ∀ w', Below wr.heap.size wr w' → w'.cell? ⟨w.heap.size + 1, 1, none⟩ = some (.slice Av k cv) := fun w' h => cell_on h hbs c1
      have hne : ∀ g, g < w.heap.size + 2 → (Value.slice Av k cv).ownBlock ≠ some g := fun g h e => by have := (hrl g e).1; omega
      have hBX : ∀ w' : World, (∀ g, g < wr.heap.size → (Value.slice Av k cv).ownBlock ≠ some g → w'.heap[g]? = wr.heap[g]?) → w'.cell? ⟨w.heap.size + 1, 1, none⟩ = some (.slice Av k cv) ∧ w'.frozen? ⟨w.heap.size + 1, 1, none⟩ = false := fun w' h => ⟨(cell_of_heap (h _ hbs (hne _ (by omega)))).trans c1, (frozen_of_heap (h _ hbs (hne _ (by omega)))).trans g1⟩
      have hlt2 : (k : Int) < (xs.length : Int) := by omega
      clear hu hrow hai hA4 hA5 hq
      go_wp2
      go_region_law
        (first
          | (go_simp
             go_at_call 46
             with_reducible refine Hih.out.mono ?_
             rintro e w4 ⟨v4, l4, rfl, hl4, hR4, hb4⟩
             have hB4 : Below wr.heap.size wr w4 := ⟨hb4.os, hb4.tape, hb4.output, hb4.size, hb4.block⟩
             obtain ⟨A4, c4, hv4⟩ := row_own hR4.row
             have hl4l : l4.length = u.args.length := by rw [← hl4, List.length_map]
             rw [hl4l] at hv4
             have HR4 := Lib.hid hR4
             have k4 := hSS _ hB4
             have k4' := hSS _ (hB4.alloc hB4.size (.cells #[.int .i64 u.fn, .slice A4 u.args.length c4] 37))
             subst hv4
             clear hR4
             dsimp only)
          | (refine step_append_at rfl (.tmp 23) (.tmp 26) 35 rfl (w.heap.size + 2) 37 i0 (.agg #[.int .i64 0, .slice none 0 0]) 2 32 Tryd.underlying35 hi hz0 hz1 hz2 rfl (by decide) (.slice Av k cv) k _ (by simp [Act.eval]) (row_keep Hrow.out fun g e => (Below.heap_alloc w4 _ g (Nat.lt_of_lt_of_le (hrl g e).2 hB4.size)).trans (hB4.block g (hrl g e).2)) ⟨w4.heap.size, 0, none⟩ 1 1 [.int .i64 u.fn, .slice A4 u.args.length c4] (by simp [Act.eval]) rfl (cells_new_two _ _ _ _) (by simp [Value.oneCell']) (by unfold maxLen; omega) (by omega) (by have := hB4.size; simp; omega) ?_
             intro v5 w5 hown5 hgr5 hat5
             have hK5 : ∀ g, g < wr.heap.size → (Value.slice Av k cv).ownBlock ≠ some g → w5.heap[g]? = wr.heap[g]? := fun g h1 h2 => (hgr5.block g (by have := hB4.size; simp; omega) (fun e => h2 e.symm)).trans ((Below.heap_alloc w4 _ g (by have := hB4.size; omega)).trans (hB4.block g h1))
             obtain ⟨k1, kf⟩ := hBX w5 hK5
             obtain ⟨g5, cap5, hv5⟩ := ownsRow_succ hown5
             have Hown5 := Lib.hid hown5
             have Hgr5 := Lib.hid hgr5
             have Hat5 := Lib.hid hat5
             subst hv5
             clear hown5 hgr5 hat5 hK5)
          | fail)
      all_goals
        have hst := H.out.next Hu.out hi64 hl4 hul rfl HR4.out hB4 Hown5.out Hgr5.out Hat5.out
        have hBe : Below (w.heap.size + 1) W w5 := ((hBr.trans (hB4.mono (by omega))).alloc (by have := hB4.size; omega) _).grown Hgr5.out (by have := hB4.size; simp; omega) (fun g e => by have := (hrl g e).1; omega)
        go_wp2
        go_roundw
        case rel => exact ⟨k + 1, _, _, by omega, by go_num, hBe.setCell (Nat.le_refl _) _, hst⟩
        case measure => simp [intOf]; omega
    · obtain rfl : k = xs.length := by omega
      have hrow := H.out.row.row
      have hll := H.out.len hk
      rw [hll] at hrow
      obtain ⟨Av, cv, hv⟩ := row_own hrow
      subst hv
      have hkey := Lib.hid H.out.key
      have HR := Lib.hid H.out.row
      obtain ⟨b0, b1, bg0, bg1⟩ := cells_two ((hBr.block _ (by omega)).trans q1)
      clear hrow
      go_wp2
      have z1 : (wr.setCell ⟨w.heap.size, 0, none⟩ (.int .i64 f)).heap[w.heap.size]? = some (.cells #[.int .i64 f, .slice none 0 0] 37) := heap_setCell_same wr _ 0 _ _ _ ((hBr.block _ (by omega)).trans q1)
      have z2 : ((wr.setCell ⟨w.heap.size, 0, none⟩ (.int .i64 f)).setCell ⟨w.heap.size, 1, none⟩ (.slice Av xs.length cv)).heap[w.heap.size]? = some (.cells #[.int .i64 f, .slice Av xs.length cv] 37) := heap_setCell_same _ _ 1 _ _ _ z1
      have p0 := (cells_two z1).1
      have p1 := (cells_two z2).2.1
      have hoth : ∀ g, g ≠ w.heap.size → ((wr.setCell ⟨w.heap.size, 0, none⟩ (.int .i64 f)).setCell ⟨w.heap.size, 1, none⟩ (.slice Av xs.length cv)).heap[g]? = wr.heap[g]? := fun g e => (heap_setCell_other _ _ _ _ e).trans (heap_setCell_other _ _ _ _ e)
      refine bodyPost_ret (v := .agg #[.int .i64 f, .slice Av xs.length cv]) (by simp [results, Tryd.results46, go_sem, p0, p1]) rfl ⟨_, l, rfl, by rw [hkey.out, List.take_length]; rfl, ?_, ?_⟩
      · have hk3 := (HR.out.keep (fun g e => hoth g (by have := (row_lt HR.out.row g e).1; omega)) (fun g e => hoth g (by have := e.1; omega))).base (base' := w.heap.size) (by omega)
        exact hk3.wide fun g e => show Apart _ _ _ g from ⟨by have := e.1; omega, by have := e.2.1; simpa using this, e.2.2⟩
      · exact (hBw.setCell (by show _ ≤ w.heap.size; omega) _).setCell (by show _ ≤ w.heap.size; omega) _
end
end Go.Proofs.YtmmiclpedehcpaaDoor
namespace Go.Proofs.YtmmiclpedehcpaaDoor
open Go Go.RowKit Go.Shelf Go.Maps
set_option maxRecDepth 100000
def GetYes (t : Tm) (w : World) (e : Ending) (w' : World) : Prop := ∃ v l, e = .returned (.tuple #[.agg #[.int .i64 t.fn, v], .int .i64 0]) ∧ l.map Ti.t = t.args ∧ RowT w' w.heap.size v l (Apart w.heap.size v w') ∧ Below w.heap.size w w'
def GetNo (w : World) (e : Ending) (w' : World) : Prop := e = .returned (.tuple #[.agg #[.int .i64 0, .slice none 0 0], .int .i64 4]) ∧ Below w.heap.size w w'
section
variable {w : World} {tag : Nat → Nat} {p : BPl} {sy : List Sm} {As : Option Addr} {n cs : Nat} {ts : List Tm}
set_option maxHeartbeats 4000000 in
theorem bGet_yes (h : BankW w tag p sy As n cs ts) {k : Nat} {t : Tm} (ht : ts[k]? = some t) (hsz : t.size ≤ 4398046511104) : Calls Tryd.prog 21 #[.pointer (some ⟨p.bx, 0, none⟩), .int .i64 (k : Int)] w (GetYes t w) := by
  have q0 := heap_alloc_new w (.cells #[.int .i64 0, .slice none 0 0] 37)
  obtain ⟨W, hW⟩ : ∃ W, w.alloc (.cells #[.int .i64 0, .slice none 0 0] 37) = W := ⟨_, rfl⟩
  have hB : Below w.heap.size w W := by rw [← hW]; exact (Below.refl _ _).alloc (Nat.le_refl _) _
  rw [hW] at q0
  have hql := (Array.getElem?_eq_some_iff.1 q0).1
  have hk := (List.getElem?_eq_some_iff.1 ht).1
  have HX : Hid (∀ w', Below W.heap.size W w' → w'.cell? ⟨w.heap.size, 0, none⟩ = some (.int .i64 0) ∧ w'.cell? ⟨w.heap.size, 1, none⟩ = some (.slice none 0 0) ∧ w'.frozen? ⟨w.heap.size, 0, none⟩ = false ∧ w'.frozen? ⟨w.heap.size, 1, none⟩ = false) := Lib.hid fun w' h => cells_two ((h.block _ hql).trans q0)
  have HW := Lib.hid hW
  have HB := Lib.hid hB
  have Hq := Lib.hid q0
  have HM := Lib.hid (bMissing_any (h.on hB))
  have HE : Hid (∀ x, Below W.heap.size W x → Calls Tryd.prog 45 #[.pointer (some ⟨p.bx, 0, none⟩), .int .i64 (k : Int)] x fun e w' => e = .returned (.pointer (some ⟨p.E k, 0, none⟩)) ∧ Below x.heap.size x w') := Lib.hid fun x hx => by
    have C := bEntry_any (h.on (hB.trans (hx.mono hB.size))) (k : Int)
    rw [show entP p ts (k : Int) = p.ptr k by unfold entP; rw [if_pos (by omega), Int.toNat_natCast]] at C
    exact C
  have HWh : Hid (∀ x, Below W.heap.size W x → Calls Tryd.prog 46 #[.pointer (some ⟨p.E k, 0, none⟩)] x (RCopyPost t x)) := Lib.hid fun x hx => bWhole_any t hsz k x ht (h.on (hB.trans (hx.mono hB.size)))
  obtain ⟨eb, heb⟩ : ∃ eb, p.E k = eb := ⟨_, rfl⟩
  rw [heb] at HE HWh
  clear hW q0 h ht heb
  go_enter Tryd.func21, Tryd.ntmps21
  go_upto_region 1 with fail
  rw [HW.out]
  go_wp2_with (first
    | (go_at_call 30; (with_reducible refine HM.out.mono ?_); go_must (rintro e w1 ⟨rfl, hb1⟩; have HE1 := Lib.hid (HE.out w1 hb1)))
    | (go_at_call 45; (with_reducible refine HE1.out.mono ?_); go_must (rintro e w2 ⟨rfl, hb2⟩; have hb12 := hb1.trans (hb2.mono hb1.size); have HW2 := Lib.hid (HWh.out w2 hb12)))
    | (go_at_call 46; (with_reducible refine HW2.out.mono ?_); go_must (rintro e w3 ⟨v, l, rfl, hl, hR, hb3⟩; have hb13 := hb12.trans (hb3.mono hb12.size); obtain ⟨c0, c1, f0, f1⟩ := HX.out w3 hb13; obtain ⟨A3, c3, hv3⟩ := row_own hR.row; subst hv3; have HR := Lib.hid hR; have Hl := Lib.hid hl; clear hR hl))
    | fail)
  have hs2 := hb12.size
  have z1 : (w3.setCell ⟨w.heap.size, 0, none⟩ (.int .i64 t.fn)).heap[w.heap.size]? = some (.cells #[.int .i64 t.fn, .slice none 0 0] 37) := heap_setCell_same w3 _ 0 _ _ _ ((hb13.block _ hql).trans Hq.out)
  have z2 : ((w3.setCell ⟨w.heap.size, 0, none⟩ (.int .i64 t.fn)).setCell ⟨w.heap.size, 1, none⟩ (.slice A3 l.length c3)).heap[w.heap.size]? = some (.cells #[.int .i64 t.fn, .slice A3 l.length c3] 37) := heap_setCell_same _ _ 1 _ _ _ z1
  have p0 := (cells_two z1).1
  have p1 := (cells_two z2).2.1
  have hoth : ∀ g, g ≠ w.heap.size → ((w3.setCell ⟨w.heap.size, 0, none⟩ (.int .i64 t.fn)).setCell ⟨w.heap.size, 1, none⟩ (.slice A3 l.length c3)).heap[g]? = w3.heap[g]? := fun g e => (heap_setCell_other _ _ _ _ e).trans (heap_setCell_other _ _ _ _ e)
  refine bodyPost_ret (v := .tuple #[.agg #[.int .i64 t.fn, .slice A3 l.length c3], .int .i64 0]) (by simp [results, Tryd.results21, go_sem, p0, p1]) rfl ⟨_, l, rfl, Hl.out, ?_, ?_⟩
  · have hk3 := (HR.out.keep (fun g e => hoth g (by have := (row_lt HR.out.row g e).1; omega)) (fun g e => hoth g (by have := e.1; omega))).base (base' := w.heap.size) (by omega)
    exact hk3.wide fun g e => show Apart _ _ _ g from ⟨by have := e.1; omega, by have := e.2.1; simpa using this, e.2.2⟩
  · exact ((HB.out.trans (hb13.mono HB.out.size)).setCell (p := ⟨w.heap.size, 0, none⟩) (Nat.le_refl _) _).setCell (p := ⟨w.heap.size, 1, none⟩) (Nat.le_refl _) _
theorem bGet_no (h : BankW w tag p sy As n cs ts) {i : Int} (hi : ∀ k : Nat, i = (k : Int) → ts[k]? = none) : Calls Tryd.prog 21 #[.pointer (some ⟨p.bx, 0, none⟩), .int .i64 i] w (GetNo w) := by
  have q0 := heap_alloc_new w (.cells #[.int .i64 0, .slice none 0 0] 37)
  obtain ⟨W, hW⟩ : ∃ W, w.alloc (.cells #[.int .i64 0, .slice none 0 0] 37) = W := ⟨_, rfl⟩
  have hB : Below w.heap.size w W := by rw [← hW]; exact (Below.refl _ _).alloc (Nat.le_refl _) _
  rw [hW] at q0
  have hql := (Array.getElem?_eq_some_iff.1 q0).1
  have HX : Hid (∀ w', Below W.heap.size W w' → w'.cell? ⟨w.heap.size, 0, none⟩ = some (.int .i64 0) ∧ w'.cell? ⟨w.heap.size, 1, none⟩ = some (.slice none 0 0) ∧ w'.frozen? ⟨w.heap.size, 0, none⟩ = false ∧ w'.frozen? ⟨w.heap.size, 1, none⟩ = false) := Lib.hid fun w' h => cells_two ((h.block _ hql).trans q0)
  have HW := Lib.hid hW
  have HB := Lib.hid hB
  have HM := Lib.hid (bMissing_any (h.on hB))
  have HE : Hid (∀ x, Below W.heap.size W x → Calls Tryd.prog 45 #[.pointer (some ⟨p.bx, 0, none⟩), .int .i64 i] x fun e w' => e = .returned (.pointer none) ∧ Below x.heap.size x w') := Lib.hid fun x hx => by
    have C := bEntry_any (h.on (hB.trans (hx.mono hB.size))) i
    rw [show entP p ts i = .pointer none by
      rcases entP_some (p := p) (ts := ts) (i := i) with ⟨k, t, e, ht, _⟩ | ⟨e, _⟩
      · rw [hi k e] at ht; cases ht
      · exact e] at C
    exact C
  clear hW q0 h hi
  go_enter Tryd.func21, Tryd.ntmps21
  go_upto_region 1 with fail
  rw [HW.out]
  go_wp2_with (first
    | (go_at_call 30; (with_reducible refine HM.out.mono ?_); go_must (rintro e w1 ⟨rfl, hb1⟩; have HE1 := Lib.hid (HE.out w1 hb1)))
    | (go_at_call 45; (with_reducible refine HE1.out.mono ?_); go_must (rintro e w2 ⟨rfl, hb2⟩; have hb12 := hb1.trans (hb2.mono hb1.size); obtain ⟨c0, c1, f0, f1⟩ := HX.out w2 hb12))
    | fail)
  have hBs : Below w.heap.size w ((w2.setCell ⟨w.heap.size, 0, none⟩ (.int .i64 0)).setCell ⟨w.heap.size, 1, none⟩ (.slice none 0 0)) := ((HB.out.trans (hb12.mono HB.out.size)).setCell (p := ⟨w.heap.size, 0, none⟩) (Nat.le_refl _) _).setCell (p := ⟨w.heap.size, 1, none⟩) (Nat.le_refl _) _
  refine bodyPost_ret (v := .tuple #[.agg #[.int .i64 0, .slice none 0 0], .int .i64 4]) (by simp [results, Tryd.results21, go_sem, c0, c1]) rfl ?_
  exact ⟨rfl, hBs⟩
end
end Go.Proofs.YtmmiclpedehcpaaDoor
namespace Go.Proofs.YtmmiclpedehcpaaDoor
open Go.RowKit
set_option maxRecDepth 100000
end Go.Proofs.YtmmiclpedehcpaaDoor
namespace Go.Proofs.YtmmiclpedehcpaaDoor
open Go Go.RowKit Go.Shelf Go.Maps
set_option maxRecDepth 100000
end Go.Proofs.YtmmiclpedehcpaaDoor
namespace Go.Proofs.YtmmiclpedehcpaaDoor
open Go Go.RowKit Go.Shelf Go.Maps
set_option maxRecDepth 100000
def bkAt (ts : List Tm) (i : Int) : Option Tm := if 0 ≤ i then ts[i.toNat]? else none
theorem bkAt_some {ts : List Tm} {i : Int} {t : Tm} (h : bkAt ts i = some t) : ∃ k : Nat, i = (k : Int) ∧ ts[k]? = some t := by
  unfold bkAt at h
  split at h
  · exact ⟨i.toNat, by omega, h⟩
  · cases h
theorem bkAt_none {ts : List Tm} {i : Int} (h : bkAt ts i = none) : ∀ k : Nat, i = (k : Int) → ts[k]? = none := fun k e => by
  unfold bkAt at h
  rw [if_pos (by omega), e, Int.toNat_natCast] at h
  exact h
def brT (sy : List Sm) (ts : List Tm) (i : Int) (q : List Int) (m : Int) : List Tm × Nat × Int :=
  match bkAt ts i with
  | none => (ts, 0, 4)
  | some t => match bkAt ts m with
    | none => (ts, 0, 4)
    | some s => match subT t q with
      | none => (ts, 0, 2)
      | some _ => (bputT sy ts (putT t q s), bputN sy ts (putT t q s), chkT sy (putT t q s))
theorem GetYes.args {t : Tm} {w w' : World} {v : Value} {l : List Ti} (hl : l.map Ti.t = t.args) (hR : RowT w' w.heap.size v l (Apart w.heap.size v w')) (h64 : t.args.length ≤ 9223372036854775807) : ∃ A c, v = .slice A t.args.length c ∧ ArgsN w' (fun g => w.heap.size ≤ g ∧ g < w'.heap.size) A t.args := by
  have hll : l.length = t.args.length := by rw [← hl, List.length_map]
  obtain ⟨A', c', e, hA⟩ := hR.argsN (M := fun g => w.heap.size ≤ g ∧ g < w'.heap.size) (by omega) (fun g e => row_lt hR.row g e) (fun g hg => ⟨hg.1, hg.2.1⟩)
  rw [hl] at hA
  rw [hll] at e
  exact ⟨A', c', e, hA⟩
section
variable {w : World} {tag : Nat → Nat} {p : BPl} {sy : List Sm} {As : Option Addr} {n cs : Nat} {ts : List Tm}
def GetA (ts : List Tm) (i : Int) (w : World) (e : Ending) (w' : World) : Prop := Below w.heap.size w w' ∧ match bkAt ts i with
  | none => e = .returned (.tuple #[.agg #[.int .i64 0, .slice none 0 0], .int .i64 4])
  | some t => ∃ A c, e = .returned (.tuple #[.agg #[.int .i64 t.fn, .slice A t.args.length c], .int .i64 0]) ∧ ArgsN w' (fun g => w.heap.size ≤ g ∧ g < w'.heap.size) A t.args
theorem bGet_at (h : BankW w tag p sy As n cs ts) (hsz : ∀ t ∈ ts, t.size ≤ 4398046511104) (i : Int) : Calls Tryd.prog 21 #[.pointer (some ⟨p.bx, 0, none⟩), .int .i64 i] w (GetA ts i w) := by
  cases hi : bkAt ts i with
  | none =>
    refine (bGet_no h (bkAt_none hi)).mono ?_
    rintro e w' ⟨rfl, hb⟩
    exact ⟨hb, by rw [hi]⟩
  | some t =>
    obtain ⟨k, rfl, hk⟩ := bkAt_some hi
    have hs := hsz t (List.mem_of_getElem? hk)
    refine (bGet_yes h hk hs).mono ?_
    rintro e w' ⟨v, l, rfl, hl, hR, hb⟩
    obtain ⟨A, c, rfl, hA⟩ := GetYes.args hl hR (by have := sizes_len t.args; have : t.size = sizes t.args + 1 := by { cases t; simp [Tm.size, Tm.args] }; omega)
    exact ⟨hb, by rw [hi]; exact ⟨A, c, rfl, hA⟩⟩
end
end Go.Proofs.YtmmiclpedehcpaaDoor
namespace Go.Proofs.YtmmiclpedehcpaaDoor
open Go.RowKit Go.Shelf
attribute [local go_sem] Oper.semAt_some
set_option maxRecDepth 100000
end Go.Proofs.YtmmiclpedehcpaaDoor
namespace Go.Proofs.YtmmiclpedehcpaaDoor
open Go.RowKit Go.Shelf
attribute [local go_sem] Oper.semAt_some
set_option maxRecDepth 100000
end Go.Proofs.YtmmiclpedehcpaaDoor
namespace Go.Proofs.YtmmiclpedehcpaaDoor
open Go Go.RowKit Go.Shelf Go.Maps
attribute [local go_sem] Oper.semAt_some
set_option maxRecDepth 100000
theorem bkValues_any (A : Option Addr) (n c : Nat) (w : World) : Calls Tryd.prog 61 #[.slice A n c] w fun e w' => e = .returned (.func (.func 70) #[] #[.pointer (some ⟨w.heap.size, 0, none⟩)]) ∧ w' = w.alloc (.cells #[.slice A n c] 38) := by
  go_enter Tryd.func61, Tryd.ntmps61
  go_wp2
  go_ret
  exact ⟨rfl, rfl⟩
set_option maxHeartbeats 2000000 in
theorem bkValues1_seq (m B : Nat) (l : List Int) (v : Value) (w0 : World) (hb : w0.heap[B]? = some (.cells #[v] 38)) (hR : IntsR w0 0 v l) (hl : l.length ≤ 4398046511104) :
    SeqC Fence.wide m Tryd.prog 70 #[.pointer (some ⟨B, 0, none⟩)] (fun x : Int => #[.int .i64 x]) (fun _ _ => True) (fun g => v.ownBlock = some g) (fun xs => xs = l) (fun pre => pre <+: l) w0 := by
  intro lp C J Jx W hW hJ hB hY h0
  have hBl : B < w0.heap.size := (Array.getElem?_eq_some_iff.1 hb).1
  have hbW : W.cell? ⟨B, 0, none⟩ = some v := cells_n' ((hW.block B hBl).trans hb)
  obtain ⟨A, c, rfl⟩ := row_slice hR.row
  have hg : ∀ (i : Nat) (x : Int), l[i]? = some x → ∃ g, A = some ⟨g, 0, none⟩ ∧ g < W.heap.size ∧ W.cell? ⟨g, i, none⟩ = some (.int .i64 x) := fun i x hx => by
    obtain ⟨g, c', h2, h3, h4⟩ := hR.get hx
    injection h2 with h2 _ _
    exact ⟨g, h2, Nat.lt_of_lt_of_le h3 hW.size, (cell_of_heap (hW.block g h3)).trans h4⟩
  have Hg := Lib.hid hg
  clear hR hb hg
  refine callsIn_of_wp Tryd.func70 rfl trivial ?_ rfl
  simp only [Tryd.ntmps70, List.size_toArray, List.length_cons, List.length_nil, Nat.reduceAdd, Nat.reduceSub, Array.replicate_succ, Array.replicate_zero, List.push_toArray, List.append_toArray, List.nil_append, List.cons_append]
  gi_wp2
  gi_loopw [7] (fun i wr => ∃ k : Nat, k ≤ l.length ∧ i = .int .i64 (k : Int) ∧ J (l.take k) wr ∧ Hid (Keeps (fun g => (Value.slice A l.length c).ownBlock = some g) W wr)) (fun i _ => l.length - (intOf i).toNat)
  case atStart => exact ⟨0, Nat.zero_le _, rfl, h0, Lib.hid (Keeps.refl _ _)⟩
  case round =>
    obtain ⟨k, hk, rfl, hJr, HK⟩ := hrel
    by_cases hlt : k < l.length
    · obtain ⟨x, hx⟩ : ∃ x, l[k]? = some x := ⟨_, List.getElem?_eq_getElem hlt⟩
      obtain ⟨g, rfl, hgl, hc⟩ := Hg.out k x hx
      have e0 := (cell_of_heap (HK.out.block g rfl)).trans hc
      have hpre : l.take k ++ [x] <+: l := by
        have h1 : l.take (k + 1) = l.take k ++ [x] := by rw [List.take_add_one, hx]; rfl
        rw [← h1]; exact List.take_prefix _ _
      have Htk := Lib.hid (show l.take k ++ [x] = l.take (k + 1) by rw [List.take_add_one, hx]; rfl)
      obtain ⟨fn, tmps, assign, body, hy', hR⟩ := hY (m - 1) (l.take k) x wr hJr hpre trivial
      have Hpre := Lib.hid hpre
      clear hx hc hpre
      gi_wp2
      refine ⟨(fun h => by cases h), hR.mono ?_⟩
      rintro e W3 (⟨rfl, hJ3, hst⟩ | ⟨rfl, hJx3⟩)
      · gi_wp2
        go_roundw
        case rel => exact ⟨k + 1, by omega, by go_num, by rw [← Htk.out]; exact hJ3, Lib.hid (HK.out.trans (hst.keeps.mono fun g e => .inl e))⟩
        case measure => simp [intOf]; omega
      · gi_wp2
        refine bodyPost_ret (results_none rfl _ _ _) rfl ?_
        exact ⟨⟨_, rfl⟩, .inr ⟨_, Hpre.out, hJx3⟩⟩
    · obtain rfl : k = l.length := by omega
      rw [List.take_length] at hJr
      gi_wp2
      go_end0
      exact ⟨⟨_, rfl⟩, .inl ⟨_, rfl, hJr⟩⟩
where
  cells_n' {W : World} {b : Nat} {v : Value} {t : TypeId} (h : W.heap[b]? = some (.cells #[v] t)) : W.cell? ⟨b, 0, none⟩ = some v := by simp [World.cell?, h]
set_option maxHeartbeats 1000000 in
theorem bkClone_any (l : List Int) (v : Value) (w : World) (hlen : l.length ≤ 4398046511104) (hR : IntsR w 0 v l) :
    Calls Tryd.prog 62 #[v] w fun e w' => ∃ v', e = .returned v' ∧ IntsR w' w.heap.size v' l ∧ Below w.heap.size w w' := by
  obtain ⟨i0, hi, hz0, hz1, hz2⟩ := info_parts info_int
  have h64 := hR.i64
  obtain ⟨A, c, rfl⟩ := row_slice hR.row
  cases A with
  | none =>
    have h0 : l.length = 0 := by
      rcases hR.row.2 with ⟨_, h⟩ | ⟨g, cap, cur, e, _⟩
      · exact h
      · injection e with e _ _; cases e
    have hl : l = [] := List.eq_nil_of_length_eq_zero h0
    subst hl
    have hnil := fun W => Lib.run_eql_slice_nil_nil (P := Tryd.prog) W 0 c Tryd.underlying38
    clear hR
    go_enter Tryd.func62, Tryd.ntmps62
    go_wp2
    go_ret
    exact ⟨_, rfl, ⟨⟨rfl, .inl ⟨rfl, rfl⟩⟩, fun x hx => by simp at hx⟩, Below.refl _ _⟩
  | some a =>
    have hnil := fun W => Lib.run_eql_slice_some_nil (P := Tryd.prog) W a l.length c Tryd.underlying38
    have hown0 : (w.alloc (.cells #[] 3)).ownsRow w.heap.size 3 1 (.slice (some ⟨w.heap.size, 0, none⟩) 0 0) 0 [] := ⟨rfl, .inr ⟨w.heap.size, 0, #[], rfl, Nat.le_refl _, heap_alloc_new w _, Nat.le_refl _, by decide, rfl, rfl⟩⟩
    have hcl : ∀ (j : Nat) (u : Value), (l.map (Value.int .i64))[j]? = some u → (w.alloc (.cells #[] 3)).cell? (a.add j) = some u := by
      intro j u hu
      rw [List.getElem?_map] at hu
      cases hx : l[j]? with
      | none => rw [hx] at hu; cases hu
      | some x =>
        rw [hx] at hu
        injection hu with hu
        obtain ⟨g, c', e, hb, hc⟩ := hR.get hx
        injection e with e _ _
        injection e with e
        subst e; subst hu
        have h3 := cell_on (o := j) ((Below.refl _ _).alloc (Nat.le_refl _) (.cells #[] 3)) hb hc
        rwa [show ((⟨g, 0, none⟩ : Addr).add j) = ⟨g, j, none⟩ from by unfold Addr.add; split <;> simp_all]
    clear hR
    go_enter Tryd.func62, Tryd.ntmps62
    go_wp2_with (first
      | (at_builtin
         go_must (
         refine wpList_append_own _ rfl _ _ 38 rfl w.heap.size 3 i0 (.int .i64 0) 1 8 Tryd.underlying38 hi hz0 hz1 hz2 rfl (by decide) _ 0 _ rfl hown0 a l.length c (l.map (Value.int .i64)) rfl (by simp) hcl (by simp [Value.oneCell']) (by unfold maxLen; omega) (by omega) (by simp) ?_
         intro v1 w1 hown1 hgr1 _))
      | fail)
    go_ret
    rw [Nat.zero_add, List.nil_append] at hown1
    have hB1 : Below w.heap.size w w1 := ((Below.refl _ _).alloc (Nat.le_refl _) _).grown hgr1 (by simp) fun k e => (row_lt hown0 k e).1
    exact ⟨_, rfl, ⟨hown1, h64⟩, hB1⟩
def usB (ts : List Tm) (i : Int) : List Nat := match bkAt ts i with
  | none => []
  | some _ => usT ts i.toNat
def UsersP (l : List Int) (w : World) (e : Ending) (w' : World) : Prop := ∃ (B : Nat) (v : Value), e = .returned (.func (.func 70) #[] #[.pointer (some ⟨B, 0, none⟩)]) ∧ w'.heap[B]? = some (.cells #[v] 38) ∧ IntsR w' w.heap.size v l ∧ w.heap.size ≤ B ∧ v.ownBlock ≠ some B ∧ Below w.heap.size w w'
section
variable {w : World} {tag : Nat → Nat} {p : BPl} {sy : List Sm} {As : Option Addr} {n cs : Nat} {ts : List Tm}
theorem usT_len (ts : List Tm) (i : Nat) : (usT ts i).length ≤ ts.length := by
  unfold usT
  have h1 := List.length_filter_le (fun k => (numsT ts (ts.getD k (.node 0 [])).args).contains i) (List.range ts.length)
  rwa [List.length_range] at h1
set_option maxHeartbeats 1000000 in
theorem bUsers_any (h : BankW w tag p sy As n cs ts) (hts : ts.length ≤ 2147483648) (i : Int) : Calls Tryd.prog 47 #[.pointer (some ⟨p.bx, 0, none⟩), .int .i64 i] w (UsersP ((usB ts i).map Int.ofNat) w) := by
  have C := bEntry_any h i
  cases hi : bkAt ts i with
  | none =>
    have hu : usB ts i = [] := by unfold usB; rw [hi]
    rw [hu]
    rw [show entP p ts i = .pointer none by
      rcases entP_some (p := p) (ts := ts) (i := i) with ⟨k, t, e, ht, _⟩ | ⟨e, _⟩
      · rw [bkAt_none hi k e] at ht; cases ht
      · exact e] at C
    have C := Lib.hid C
    have HV : Hid (∀ x, Below w.heap.size w x → Calls Tryd.prog 61 #[.slice none 0 0] x fun e w' => ∃ B, e = .returned (.func (.func 70) #[] #[.pointer (some ⟨B, 0, none⟩)]) ∧ UsersP [] w (.returned (.func (.func 70) #[] #[.pointer (some ⟨B, 0, none⟩)])) w') := Lib.hid fun x hx => (bkValues_any none 0 0 x).mono (by
      rintro e w' ⟨rfl, rfl⟩
      exact ⟨_, rfl, _, .slice none 0 0, rfl, heap_alloc_new x _, ⟨⟨rfl, .inl ⟨rfl, rfl⟩⟩, fun x hx => by simp at hx⟩, hx.size, by simp [Value.ownBlock], hx.alloc hx.size _⟩)
    clear h hi hu
    go_enter Tryd.func47, Tryd.ntmps47
    go_wp2_with (first
      | (go_at_call 45; (with_reducible refine C.out.mono ?_); go_must (rintro e w1 ⟨rfl, hb1⟩; have HV1 := Lib.hid (HV.out w1 hb1)))
      | (go_at_call 61; (with_reducible refine HV1.out.mono ?_); go_must (rintro e w2 ⟨B, rfl, hU⟩; have HU := Lib.hid hU; clear hU))
      | fail)
    go_ret
    exact HU.out
  | some t =>
    obtain ⟨k, hk, hkt⟩ := bkAt_some hi
    have hkl := (List.getElem?_eq_some_iff.1 hkt).1
    have hu : usB ts i = usT ts k := by unfold usB; rw [hi, hk]; rfl
    rw [hu]
    obtain ⟨l, hl⟩ : ∃ l, (usT ts k).map Int.ofNat = l := ⟨_, rfl⟩
    have hll : l.length ≤ 4398046511104 := by rw [← hl, List.length_map]; have := usT_len ts k; omega
    rw [hl]
    rw [show entP p ts i = .pointer (some ⟨p.E k, 0, none⟩) by unfold entP; rw [if_pos (by omega)]; unfold BPl.ptr; rw [show i.toNat = k by omega]] at C
    have C := Lib.hid C
    obtain ⟨Au, cu, hU⟩ : ∃ A c, p.U k = .slice A l.length c := by
      have := row_slice (h.us k hkl).row
      rwa [hl] at this
    have hcell : ∀ x, Below w.heap.size w x → x.cell? ⟨p.E k, 5, none⟩ = some (.slice Au l.length cu) := fun x hx => by
      have := ((h.on hx).entC hkt).2.2.2.2.2
      rwa [hU] at this
    have HCl : Hid (∀ x, Below w.heap.size w x → Calls Tryd.prog 62 #[.slice Au l.length cu] x fun e w' => ∃ A' c', e = .returned (.slice A' l.length c') ∧ IntsR w' w.heap.size (.slice A' l.length c') l ∧ Below w.heap.size w w') := Lib.hid fun x hx => by
      have hr := (h.on hx).us k hkl
      rw [hl, hU] at hr
      refine (bkClone_any l _ x hll hr).mono ?_
      rintro e w' ⟨v', rfl, hI, hb⟩
      obtain ⟨A', c', rfl⟩ := row_slice hI.row
      refine ⟨A', c', rfl, ⟨⟨hI.row.1, ?_⟩, hI.i64⟩, hx.trans (hb.mono hx.size)⟩
      rcases hI.row.2 with h0 | ⟨g, cap, cur, e, h1, hrest⟩
      · exact .inl h0
      · exact .inr ⟨g, cap, cur, e, Nat.le_trans hx.size h1, hrest⟩
    have HV : Hid (∀ x A c, Below w.heap.size w x → IntsR x w.heap.size (.slice A l.length c) l → Calls Tryd.prog 61 #[.slice A l.length c] x fun e w' => ∃ B, e = .returned (.func (.func 70) #[] #[.pointer (some ⟨B, 0, none⟩)]) ∧ UsersP l w (.returned (.func (.func 70) #[] #[.pointer (some ⟨B, 0, none⟩)])) w') := Lib.hid fun x A c hx hr => (bkValues_any A l.length c x).mono (by
      rintro e w' ⟨rfl, rfl⟩
      refine ⟨_, rfl, _, .slice A l.length c, rfl, heap_alloc_new x _, hr.on ((Below.refl _ _).alloc (Nat.le_refl _) _), hx.size, fun e => by have := (row_lt hr.row _ e).2; omega, hx.alloc hx.size _⟩)
    obtain ⟨eb, heb⟩ : ∃ eb, p.E k = eb := ⟨_, rfl⟩
    rw [heb] at C hcell
    have HX := Lib.hid hcell
    clear h hi hu hcell heb hk hl
    go_enter Tryd.func47, Tryd.ntmps47
    go_wp2_with (first
      | (go_at_call 45; (with_reducible refine C.out.mono ?_); go_must (rintro e w1 ⟨rfl, hb1⟩; have x0 := HX.out w1 hb1; have HC1 := Lib.hid (HCl.out w1 hb1)))
      | (go_at_call 62; (with_reducible refine HC1.out.mono ?_); go_must (rintro e w2 ⟨A2, c2, rfl, hI2, hb2⟩; have HV1 := Lib.hid (HV.out w2 A2 c2 hb2 hI2)))
      | (go_at_call 61; (with_reducible refine HV1.out.mono ?_); go_must (rintro e w3 ⟨B, rfl, hU⟩; have HU := Lib.hid hU; clear hU))
      | fail)
    go_ret
    exact HU.out
end
end Go.Proofs.YtmmiclpedehcpaaDoor
namespace Go.Proofs.YtmmiclpedehcpaaDoor
open Go.RowKit
theorem Own.emptyB_ (w : World) : Own (w.alloc (.cells #[] 67)) w.heap.size (.slice (some ⟨w.heap.size, 0, none⟩) 0 0) [] :=
  ⟨⟨rfl, .inr ⟨w.heap.size, 0, #[], rfl, Nat.le_refl _, heap_alloc_new w _, Nat.le_refl _, Nat.zero_le _, rfl, rfl⟩⟩, fun x hx => by simp at hx⟩
def SgClonePost (l : List Sm) (w : World) (e : Ending) (w' : World) : Prop := ∃ A c, e = .returned (.slice A l.length c) ∧ Own w' w.heap.size (.slice A l.length c) l ∧ Below w.heap.size w w'
set_option maxHeartbeats 400000 in
theorem sgClone_any (A : Option Addr) (n c : Nat) (l : List Sm) (w : World) (h : Syms w w.heap.size A n l) (hn : n * 32 ≤ 140737488351232) :
    Calls Tryd.prog 28 #[.slice A n c] w (SgClonePost l w) := by
  obtain rfl : l.length = n := h.len
  have hnil := fun (w : World) (a : Option Addr) (n c : Nat) => Lib.run_eql_slice_nil (P := Tryd.prog) w 22 67 a n c 0 0 Tryd.underlying22
  rcases A with _ | ad
  · have h0 : l = [] := by
      rcases Nat.eq_zero_or_pos l.length with h0 | h0
      · exact List.eq_nil_of_length_eq_zero h0
      · obtain ⟨_, _, e, _⟩ := h.ad h0
        cases e
    subst h0
    go_enter Tryd.func28, Tryd.ntmps28
    go_wp2
    go_ret
    exact ⟨none, 0, rfl, Own.nil_ _ _, Below.refl _ _⟩
  · go_enter Tryd.func28, Tryd.ntmps28
    go_wp2_with (first
    | (at_builtin
       refine wpList_append_syms rfl _ _ rfl (.slice (some ⟨w.heap.size, 0, none⟩) 0 0) [] rfl w.heap.size (Own.emptyB_ w) (some ad) l.length c w.heap.size l rfl (h.below ((Below.refl _ _).alloc (Nat.le_refl _) _)) (by simp; omega) (by simp) ?_
       intro A' c' w1 hown1 hg1
       have hB1 := ((Below.refl w.heap.size w).alloc (Nat.le_refl _) _).grown hg1 (by simp) (fun k hk => by simp [Value.ownBlock] at hk; omega)
       clear hg1)
    | fail)
    go_ret
    simp only [List.length_nil, Nat.zero_add, List.nil_append] at hown1
    exact ⟨A', c', rfl, hown1, hB1⟩
end Go.Proofs.YtmmiclpedehcpaaDoor
namespace Go.Proofs.YtmmiclpedehcpaaDoor
open Go Go.RowKit Go.Shelf Go.Maps
set_option maxRecDepth 100000
def newP (b : Nat) : BPl := ⟨b + 3, b + 2, b + 1, .slice none 0 0, fun _ => 0, fun _ => .slice none 0 0, fun _ => .slice none 0 0⟩
def newTag (b : Nat) (A : Option Addr) : Nat → Nat := fun g => if g = b + 3 then 4 else if g = b + 2 then 1 else if g = b + 1 then 2 else if (Value.slice A 0 0).ownBlock = some g then 4 else 0
def NewP (w : World) (sy : List Sm) (n : Nat) (e : Ending) (w' : World) : Prop := Below w.heap.size w w' ∧
  ((chkT sy (.node 0 []) = 0 ∧ ∃ (b : Nat) (A : Option Addr) (c : Nat) (tag : Nat → Nat), e = .returned (.tuple #[.pointer (some ⟨(newP b).bx, 0, none⟩), .int .i64 0]) ∧ BankW w' tag (newP b) sy A n c [] ∧ ∀ g, g < w.heap.size → tag g = 0) ∨
   (chkT sy (.node 0 []) ≠ 0 ∧ e = .returned (.tuple #[.pointer none, .int .i64 (chkT sy (.node 0 []))])))
theorem new_bank {w w2 : World} {sy : List Sm} {A : Option Addr} {c : Nat} (hO : Own w2 w.heap.size (.slice A sy.length c) sy) (hw : w.heap.size ≤ w2.heap.size) :
    ∃ tag, BankW ((((w2.alloc (.cells #[.slice A sy.length c] 24)).alloc (.map #[] 0)).alloc (.cells #[.slice A sy.length c, .slice none 0 0, .map (some (w2.heap.size + 1))] 72)).alloc (.cells #[.pointer (some ⟨w2.heap.size + 1 + 1, 0, none⟩)] 74)) tag (newP w2.heap.size) sy A sy.length c [] ∧ ∀ g, g < w.heap.size → tag g = 0 := by
  obtain ⟨W1, hW1⟩ : ∃ W1, w2.alloc (.cells #[.slice A sy.length c] 24) = W1 := ⟨_, rfl⟩
  obtain ⟨W2, hW2⟩ : ∃ W2, W1.alloc (.map #[] 0) = W2 := ⟨_, rfl⟩
  obtain ⟨W3, hW3⟩ : ∃ W3, W2.alloc (.cells #[.slice A sy.length c, .slice none 0 0, .map (some (w2.heap.size + 1))] 72) = W3 := ⟨_, rfl⟩
  obtain ⟨W4, hW4⟩ : ∃ W4, W3.alloc (.cells #[.pointer (some ⟨w2.heap.size + 1 + 1, 0, none⟩)] 74) = W4 := ⟨_, rfl⟩
  rw [hW1, hW2, hW3, hW4]
  have s1 : W1.heap.size = w2.heap.size + 1 := by rw [← hW1]; simp
  have s2 : W2.heap.size = w2.heap.size + 2 := by rw [← hW2]; simp; omega
  have s3 : W3.heap.size = w2.heap.size + 3 := by rw [← hW3]; simp; omega
  have s4 : W4.heap.size = w2.heap.size + 4 := by rw [← hW4]; simp; omega
  have k34 : ∀ g, g < W3.heap.size → W4.heap[g]? = W3.heap[g]? := fun g h => by rw [← hW4]; exact Below.heap_alloc W3 _ g h
  have k23 : ∀ g, g < W2.heap.size → W3.heap[g]? = W2.heap[g]? := fun g h => by rw [← hW3]; exact Below.heap_alloc W2 _ g h
  have k12 : ∀ g, g < W1.heap.size → W2.heap[g]? = W1.heap[g]? := fun g h => by rw [← hW2]; exact Below.heap_alloc W1 _ g h
  have k01 : ∀ g, g < w2.heap.size → W1.heap[g]? = w2.heap[g]? := fun g h => by rw [← hW1]; exact Below.heap_alloc w2 _ g h
  have hB : Below w2.heap.size w2 W4 := by
    rw [← hW4, ← hW3, ← hW2, ← hW1]
    exact ((((Below.refl _ _).alloc (Nat.le_refl _) _).alloc (by simp) _).alloc (by simp; omega) _).alloc (by simp; omega) _
  have hsg : ∀ g, (Value.slice A 0 0).ownBlock = some g → (Value.slice A sy.length c).ownBlock = some g := fun g e => by cases A with | none => exact e | some a => exact e
  have hsl : ∀ g, (Value.slice A 0 0).ownBlock = some g → w.heap.size ≤ g ∧ g < w2.heap.size := fun g e => by
    have h1 := hO.row
    exact row_lt h1 g (hsg g e)
  refine ⟨newTag w2.heap.size A, ⟨?_, ?_, ?_, ?_, ?_, ?_, fun i t e => by simp at e, fun i t e => by simp at e, fun i h => by simp at h, BOk.nil, fun t h => by simp at h, ?_, ?_, ?_, fun g e => by simp [newP, Value.ownBlock] at e, fun i h => by simp at h, fun i g h => by simp at h, fun i g h => by simp at h, fun g hg => ?_⟩, fun g hg => ?_⟩
  · show W4.heap[w2.heap.size + 3]? = _
    rw [← s3, ← hW4]; exact heap_alloc_new W3 _
  · show W4.heap[w2.heap.size + 2]? = _
    rw [k34 _ (by omega), ← s2, ← hW3]; exact heap_alloc_new W2 _
  · exact (hO.syms.on hB)
  · intro h0 g off sp e
    subst e
    show newTag w2.heap.size _ g = 4
    have : (Value.slice (some ⟨g, off, sp⟩) 0 0).ownBlock = some g := by
      rcases hO.row.2 with ⟨e, h1⟩ | ⟨g', cap, cur, e, _⟩
      · injection e with e _ _; cases e
      · injection e with e _ _; injection e with e; injection e with e1 e2 e3; subst e1; subst e2; subst e3; rfl
    have h5 := hsl g this
    unfold newTag
    rw [if_neg (by omega), if_neg (by omega), if_neg (by omega), if_pos this]
  · have h1 := (BMap.made W1).kept (w' := W4) (by
      rw [k34 _ (by omega), k23 _ (by omega), hW2])
    rw [s1] at h1
    exact h1
  · exact ⟨rfl, .inl ⟨rfl, rfl⟩⟩
  · show newTag w2.heap.size A (w2.heap.size + 3) = 4
    unfold newTag; rw [if_pos rfl]
  · show newTag w2.heap.size A (w2.heap.size + 2) = 1
    unfold newTag; rw [if_neg (by omega), if_pos rfl]
  · show newTag w2.heap.size A (w2.heap.size + 1) = 2
    unfold newTag; rw [if_neg (by omega), if_neg (by omega), if_pos rfl]
  · unfold newTag
    rw [if_neg (by omega), if_neg (by omega), if_neg (by omega), if_neg (fun e => by have := hsl g e; omega)]
  · unfold newTag
    rw [if_neg (by omega), if_neg (by omega), if_neg (by omega), if_neg (fun e => by have := hsl g e; omega)]
section
variable {w : World} {sy : List Sm} {As : Option Addr} {n cs : Nat}
set_option maxHeartbeats 4000000 in
theorem bNew_any (hS : Syms w w.heap.size As n sy) (hn : n * 32 ≤ 140737488351232) (ht : tru w) : Calls Tryd.prog 8 #[.agg #[.slice As n cs]] w (NewP w sy n) := by
  obtain rfl : sy.length = n := hS.len
  obtain ⟨W, hW⟩ : ∃ W, w.alloc (.cells #[.slice As sy.length cs] 24) = W := ⟨_, rfl⟩
  have hB : Below w.heap.size w W := by rw [← hW]; exact (Below.refl _ _).alloc (Nat.le_refl _) _
  have q0 := heap_alloc_new w (.cells #[.slice As sy.length cs] 24)
  rw [hW] at q0
  have hql := (Array.getElem?_eq_some_iff.1 q0).1
  have x0 := (cells_one q0).1
  have HX : Hid (∀ x, Below W.heap.size W x → x.cell? ⟨w.heap.size, 0, none⟩ = some (.slice As sy.length cs)) := Lib.hid fun x hx => (cells_one ((hx.block _ hql).trans q0)).1
  have HCk := Lib.hid (show Calls Tryd.prog 27 #[.agg #[.slice As sy.length cs], .agg #[.int .i64 0, .slice none 0 0]] W _ from termCheck_any sy (.node 0 []) As none sy.length cs 0 W (hS.on hB) hn (tru_below ht hB) ⟨by decide, by decide⟩ (.nil _))
  have HCl : Hid (∀ x, Below w.heap.size w x → Calls Tryd.prog 28 #[.slice As sy.length cs] x (SgClonePost sy x)) := Lib.hid fun x hx => sgClone_any As sy.length cs sy x (hS.on hx) hn
  have HW := Lib.hid hW
  clear hW q0 hS ht
  by_cases hc : chkT sy (.node 0 []) = 0
  case neg =>
    have Hc := Lib.hid hc
    obtain ⟨ck, hck⟩ : ∃ ck, chkT sy (.node 0 []) = ck := ⟨_, rfl⟩
    rw [hck] at hc HCk
    have g0 : (ck != 0) = true := by simpa using hc
    have Hck := Lib.hid hck
    clear hc HCl hck
    go_enter Tryd.func8, Tryd.ntmps8
    go_upto_region 1 with (fail)
    rw [HW.out]
    go_wp2_with (first
      | (go_at_call 27; (with_reducible refine HCk.out.mono ?_); go_must (rintro e w1 ⟨rfl, hb1⟩))
      | fail)
    refine bodyPost_ret (v := .tuple #[.pointer none, .int .i64 ck]) (by simp [results, Tryd.results8, go_sem]) rfl ?_
    exact ⟨hB.trans (hb1.mono hB.size), .inr ⟨Hc.out, by rw [Hck.out]⟩⟩
  case pos =>
    have Hc := Lib.hid hc
    rw [hc] at HCk
    have hmm : ∀ w : World, (Instr.makeMap 69 none).run Tryd.prog w = .ok (.map (some w.heap.size)) (w.alloc (.map #[] 0)) := fun _ => run_makeMap_plain (w := _) _
    clear hc
    go_enter Tryd.func8, Tryd.ntmps8
    go_upto_region 1 with (fail)
    rw [HW.out]
    go_wp2_with (first
      | (go_at_call 27; (with_reducible refine HCk.out.mono ?_); go_must (rintro e w1 ⟨rfl, hb1⟩; have x1 := HX.out w1 hb1; have hB1 := hB.trans (hb1.mono hB.size); have HCl1 := Lib.hid (HCl.out w1 hB1)))
      | (go_at_call 28; (with_reducible refine HCl1.out.mono ?_); go_must (rintro e w2 ⟨A2, c2, rfl, hO2, hb2⟩; have HO2 := Lib.hid hO2; clear hO2))
      | fail)
    have hB2 := hB1.trans (hb2.mono hB1.size)
    obtain ⟨tag, hBk, htg⟩ := new_bank (w := w1) HO2.out hb2.size
    have hs2 := hB2.size
    refine bodyPost_ret (v := .tuple #[.pointer (some ⟨w2.heap.size + 1 + 1 + 1, 0, none⟩), .int .i64 0]) (by simp [results, Tryd.results8, go_sem]) rfl ?_
    refine ⟨?_, .inl ⟨Hc.out, w2.heap.size, A2, c2, tag, rfl, ?_, fun g hg => htg g (by have := hB1.size; omega)⟩⟩
    · exact ((((hB2.alloc hs2 _).alloc (by simp; omega) _).alloc (by simp; omega) _).alloc (by simp; omega) _)
    · simpa using hBk
end
end Go.Proofs.YtmmiclpedehcpaaDoor
namespace Go.Proofs.YtmmiclpedehcpaaDoor
open Go Go.RowKit Go.Shelf Go.Maps
attribute [local go_sem] Oper.semAt_some
set_option maxRecDepth 100000
structure UsI (w : World) (B : Nat) (W : World) (k : List Int) : Prop where
  cell : ∃ v, Boxed W w.heap.size 38 v ∧ W.ownsRow B 3 1 v k.length (k.map (Value.int .i64))
  below : Below w.heap.size w W
  sz : B ≤ W.heap.size
def UsC (h : Nat) (W : World) (g : Nat) : Prop := g < h + 1 ∨ ∃ v, Boxed W h 38 v ∧ v.ownBlock = some g
theorem us_boxed_eq {W : World} {B : Nat} {t : TypeId} {v u : Value} (h : Boxed W B t v) (k : Boxed W B t u) : v = u := by
  have h' : W.heap[B]? = some (.cells #[v] t (0, 0)) := h
  have k' : W.heap[B]? = some (.cells #[u] t (0, 0)) := k
  rw [h'] at k'
  injection k' with k'
  injection k' with k'
  simpa using k'
theorem us_frame (w : World) (B : Nat) (R : List Int → Prop) : FrameC (UsC w.heap.size) (fun (pre : List Int) W => UsI w B W pre ∧ R pre) := by
  rintro s A W ⟨⟨⟨v, h1, h2⟩, h3, h5⟩, h4⟩ hk
  have e1 : Boxed W w.heap.size 38 v := (hk.block _ (.inl (by omega))).trans h1
  refine ⟨⟨⟨⟨v, e1, row_keep h2 fun g e => hk.block g (.inr ⟨v, h1, e⟩)⟩, h3.trans (hk.below fun g e => .inl (by omega)), Nat.le_trans h5 hk.size⟩, h4⟩, fun g e => ?_⟩
  rcases e with e | ⟨u, hu, e⟩
  · exact .inl e
  · obtain rfl := us_boxed_eq e1 hu
    exact .inr ⟨v, h1, e⟩
theorem us_bound (w : World) (B : Nat) (R : List Int → Prop) : BoundC (UsC w.heap.size) (fun (pre : List Int) W => UsI w B W pre ∧ R pre) := by
  rintro s A ⟨⟨⟨v, h1, h2⟩, h3, _⟩, h4⟩ g e
  have hlt := h1.lt
  rcases e with e | ⟨u, hu, e⟩
  · omega
  · obtain rfl := us_boxed_eq h1 hu
    exact (row_lt h2 g e).2
theorem us_step {w W w2 X : World} {B : Nat} {k : List Int} {z : Int} {v v' : Value} {N : Nat → Prop} (h : UsI w B W k) (hv : Boxed W w.heap.size 38 v) (hrow : W.ownsRow B 3 1 v k.length (k.map (Value.int .i64))) (hX : Below W.heap.size W X) (hB : w.heap.size + 1 ≤ B) (hN : ∀ g, N g → g < B ∧ g ≠ w.heap.size)
    (hown : w2.ownsRow B 3 1 v' (k.length + 1) (k.map (Value.int .i64) ++ [.int .i64 z])) (hgr : X.grownBy w2 v.ownBlock) (hat : v'.ownBlock = v.ownBlock ∨ v'.ownBlock = some X.heap.size) :
    UsI w B (w2.setCell ⟨w.heap.size, 0, none⟩ v') (k ++ [z]) ∧ Stp N (UsC w.heap.size) W (w2.setCell ⟨w.heap.size, 0, none⟩ v') := by
  have hBW := h.sz
  have hlt := row_lt hrow
  have hvl := hv.lt
  have hs1 := hX.size
  have K1 : Keeps (fun g => g < W.heap.size ∧ some g ≠ v.ownBlock) W w2 := ((Keeps.of_below hX).mono fun g e => e.1).trans ((Keeps.of_grown hgr).mono fun g e => ⟨by omega, e.2⟩)
  have hs2 := K1.size
  have e1 : Boxed w2 w.heap.size 38 v := (K1.block _ ⟨by omega, fun e => by have := (hlt _ e.symm).1; omega⟩).trans hv
  have e2 := Boxed.set v' e1
  have hW0 := h.below.size
  refine ⟨⟨⟨v', e2, ?_⟩, (h.below.trans (K1.below fun g e => ⟨by omega, fun e' => by have := (hlt _ e'.symm).1; omega⟩)).setCell (Nat.le_refl _) _, by simp; omega⟩, ⟨?_, ?_⟩⟩
  · rw [List.length_append, List.map_append]
    refine row_keep hown fun g e => heap_setCell_other _ _ _ _ ?_
    have := (row_lt hown g e).1
    show g ≠ w.heap.size
    omega
  · refine (K1.mono fun g hg => ?_).trans ((Keeps.set w2 ⟨w.heap.size, 0, none⟩ v').mono fun g hg => ?_)
    · rcases hg with hg | hg
      · have hg' := hN g hg
        exact ⟨by omega, fun e => by have := (hlt _ e.symm).1; omega⟩
      · exact ⟨hg.1, fun e => hg.2 (.inr ⟨v, hv, e.symm⟩)⟩
    · show g ≠ w.heap.size
      rcases hg with hg | hg
      · exact (hN g hg).2
      · exact fun e => hg.2 (.inl (by omega))
  · rintro g (e | ⟨u, hu, e⟩)
    · exact .inl (.inl e)
    · obtain rfl := us_boxed_eq e2 hu
      rcases hat with e3 | e3
      · exact .inl (.inr ⟨v, hv, e3 ▸ e⟩)
      · rw [e3] at e
        injection e with e
        exact .inr (by omega)
theorem run_eql_seqI (f : Fn) (xs ys : Array Value) (w : World) : (binOp .eql 92 (.func f xs ys) .nilFunc).run Tryd.prog w = .ok (.bool false) w := by
  have h : ∀ d, (Op.equalIn (d + 1) 92 (.func f xs ys) .nilFunc).run Tryd.prog w = .ok false w := fun d => by
    simp [Op.equalIn, run_underlying Tryd.underlying92]
  simp only [binOp]
  simp [Op.equal, Op.maxDepth, h 9999]
def usO (l : List Int) (lv : Int) : List Int := if 1 ≤ lv ∧ lv ≤ (l.length : Int) then l.take lv.toNat else l
set_option maxHeartbeats 4000000 in
theorem users_any (bp : Value) (i lv : Int) (l : List Int) (w : World) (h64 : ∀ x ∈ l, I64 x) (hl : l.length ≤ 4398046511104)
    (hU : ∀ x, Below w.heap.size w x → Calls Tryd.prog 47 #[bp, .int .i64 i] x (UsersP l x)) :
    Calls Tryd.prog 25 #[bp, .int .i64 i, .int .i64 lv] w fun e w' => ∃ v, e = .returned v ∧ IntsR w' w.heap.size v (usO l lv) ∧ Below w.heap.size w w' := by
  obtain ⟨i0, hi, hz0, hz1, hz2⟩ := info_parts info_int
  obtain ⟨W0, hW0⟩ : ∃ W0, w.alloc (.cells #[.int .i64 lv] 3) = W0 := ⟨_, rfl⟩
  have hB0 : Below w.heap.size w W0 := by rw [← hW0]; exact (Below.refl _ _).alloc (Nat.le_refl _) _
  have q0 := heap_alloc_new w (.cells #[.int .i64 lv] 3)
  rw [hW0] at q0
  have hs0 : W0.heap.size = w.heap.size + 1 := by rw [← hW0]; simp
  have p0 := heap_alloc_new W0 (.cells #[.slice none 0 0] 38)
  obtain ⟨W, hW⟩ : ∃ W, W0.alloc (.cells #[.slice none 0 0] 38) = W := ⟨_, rfl⟩
  have hB : Below W0.heap.size W0 W := by rw [← hW]; exact (Below.refl _ _).alloc (Nat.le_refl _) _
  rw [hW] at p0
  have HU := Lib.hid (hU W (hB0.trans (hB.mono hB0.size)))
  have hrs := run_eql_seqI
  have hW' : (w.alloc (.cells #[.int .i64 lv] 3)).alloc (.cells #[.slice none 0 0] 38) = W := by rw [hW0, hW]
  have HW := Lib.hid hW'
  clear hW hW0 hU hW'
  refine (callsIn_wide (n := 3)).1 (callsIn_of_wp_marks Tryd.func25 rfl trivial ?_ rfl)
  simp only [Tryd.ntmps25, List.size_toArray, List.length_cons, List.length_nil, Nat.reduceAdd, Nat.reduceSub, Array.replicate_succ, Array.replicate_zero, List.push_toArray, List.append_toArray, List.nil_append, List.cons_append]
  refine wpIn_wide.2 ?_
  go_upto_region 2 with (fail)
  rw [HW.out]
  go_wp2_with (first
    | (go_at_call 47; (with_reducible refine HU.out.mono ?_); go_must (rintro e w1 ⟨B, v, rfl, hb1, hI1, hB1, hne1, hbw1⟩; have hI := Lib.hid hI1; clear hI1))
    | fail)
  have hsW := hB.size
  have hws : W0.heap.size + 1 ≤ W.heap.size := (Array.getElem?_eq_some_iff.1 p0).1
  have hs1 := hbw1.size
  have hI0 : IntsR w1 0 v l := ⟨⟨hI.out.row.1, by
    rcases hI.out.row.2 with h0 | ⟨g, cap, cur, e, h1, hrest⟩
    · exact .inl h0
    · exact .inr ⟨g, cap, cur, e, Nat.zero_le _, hrest⟩⟩, hI.out.i64⟩
  have hNr := row_lt hI.out.row
  have hbx1 : Boxed w1 W0.heap.size 38 (.slice none 0 0) := (hbw1.block _ (by omega)).trans p0
  have hB1 : Below W0.heap.size W0 w1 := hB.trans (hbw1.mono hsW)
  have HP0 := Lib.hid q0
  have hfr : ∀ c, FrameC (UsC W0.heap.size) (fun (pre : List Int) X => c = Code.exit 0 ∧ UsI W0 w1.heap.size X pre ∧ (pre.length : Int) = lv ∧ 1 ≤ lv) := fun c s A X hJ hk => by
    obtain ⟨hJ1, hJ2, hJ3⟩ := hJ
    obtain ⟨⟨h1, _⟩, h2⟩ := us_frame W0 w1.heap.size (fun _ => True) s A X ⟨hJ2, trivial⟩ hk
    exact ⟨⟨hJ1, h1, hJ3⟩, h2⟩
  have HI := Lib.hid hI0
  rw [← hs0]
  clear p0
  refine (wpIn_wide (n := 3)).1 ?_
  refine range_law (F := Fence.wide) (n := 3) (w0 := w1) rfl rfl (gf := 70) (lb := #[.pointer (some ⟨B, 0, none⟩)]) rfl trivial (enters_of Tryd.func70 (by kernel_rfl) rfl) (fun m => bkValues1_seq m B l v w1 hb1 hI0 hl) (Below.refl _ _) (fun _ => rfl) (fun g e => (hNr g e).2)
    (UsC W0.heap.size) (fun pre X => UsI W0 w1.heap.size X pre ∧ (lv < 1 ∨ (pre.length : Int) < lv)) (fun c pre X => c = Code.exit 0 ∧ UsI W0 w1.heap.size X pre ∧ (pre.length : Int) = lv ∧ 1 ≤ lv)
    (us_frame W0 w1.heap.size _) (us_bound W0 w1.heap.size _) hfr ⟨⟨⟨.slice none 0 0, hbx1, World.ownsRow_nil w1 _ _ _⟩, hB1, Nat.le_refl _⟩, by simp; omega⟩
    (fun pre x a' X => (UsI W0 w1.heap.size X pre ∧ (lv < 1 ∨ (pre.length : Int) < lv)) ∧ a' = { tmps := #[bp, .int .i64 i, .int .i64 lv, undef, undef, .pointer (some ⟨w.heap.size, 0, none⟩), .slice none 0 0, .pointer (some ⟨W0.heap.size, 0, none⟩), .func (.func 70) #[] #[.pointer (some ⟨B, 0, none⟩)], .int .i64 x, bp, .int .i64 i, .func (.func 70) #[] #[.pointer (some ⟨B, 0, none⟩)], .func (.func 70) #[] #[.pointer (some ⟨B, 0, none⟩)], .bool false, .func (.func 70) #[] #[.pointer (some ⟨B, 0, none⟩)], .int .i64 x, undef, undef, undef, undef, undef, undef, undef, undef, undef], defers := [] }) ?hAx ?assign ?body ?done ?stop
  case hAx =>
    rintro pre x a' X l r o ⟨h1, rfl⟩ hl hr hn
    have hK := Keeps.put X l o
    obtain ⟨h5, h6⟩ := us_frame W0 w1.heap.size (fun pre => lv < 1 ∨ (pre.length : Int) < lv) pre X (X.putObj l o) h1 (hK.mono fun g e e' => hn (e' ▸ e))
    exact ⟨h6, h5, rfl⟩
  case assign =>
    intro l m pre x X K hI _ hfx hK
    gi_wp2
    exact hK _ _ (Stp.refl _ _ _) ⟨hI, by simp⟩
  case body =>
    rintro lp m pre x a' X hsp ⟨⟨h1, hR⟩, rfl⟩
    obtain ⟨vr, hv, hrow⟩ := h1.cell
    have hc := Boxed.cell hv
    have hfz := Boxed.frozen hv
    obtain ⟨A, c, rfl⟩ := row_slice hrow
    have hpl : pre.length + 1 ≤ l.length := by have := hsp.length_le; simpa using this
    have hrl := row_lt hrow
    have hvl := hv.lt
    have hsz := h1.sz
    have hlv : X.cell? ⟨w.heap.size, 0, none⟩ = some (.int .i64 lv) := (cells_one ((h1.below.block _ (by omega)).trans HP0.out)).1
    have hwX : w.heap.size < X.heap.size := by omega
    have hne0 : w.heap.size ≠ W0.heap.size := by omega
    have Hrow := Lib.hid hrow
    have H1 := Lib.hid h1
    have Hv := Lib.hid hv
    have HQ0 := Lib.hid ((h1.below.block _ (by omega)).trans HP0.out)
    have HNr := Lib.hid hNr
    have hW01 : W0.heap.size + 1 ≤ w1.heap.size := by omega
    have hwl1 : w.heap.size < w1.heap.size := by omega
    clear hrow h1 hv hI0 hfr hbx1 hNr hrs hs0 q0
    by_cases he : ((pre.length : Int) + 1) = lv
    case pos =>
      have hd : decide ((pre.length : Int) + 1 = lv) = true := decide_eq_true he
      gi_wp2_with (first
        | (gi_at_builtin
           go_must (
           refine wpListIn_append_at _ rfl _ _ 38 rfl w1.heap.size 3 i0 (.int .i64 0) 1 8 Tryd.underlying38 hi hz0 hz1 hz2 rfl (by decide) (.slice A pre.length c) pre.length _ rfl (row_keep Hrow.out fun g e => Below.heap_alloc X _ g (hrl g e).2) ⟨X.heap.size, 0, none⟩ 1 1 [.int .i64 x] rfl rfl (cell_one_new _ _ _) (by simp [Value.oneCell']) (by unfold maxLen; omega) (by omega) (by simp; omega) ?_
           intro v5 w5 hown5 hgr5 hat5
           have hbx5 : Boxed w5 W0.heap.size 38 (.slice A pre.length c) := (hgr5.block _ (by simp; omega) (fun e => by have := (hrl _ e.symm).1; omega)).trans ((Below.heap_alloc X _ _ hvl).trans Hv.out)
           have hlv5 : w5.cell? ⟨w.heap.size, 0, none⟩ = some (.int .i64 lv) := (cells_one ((hgr5.block _ (by simp; omega) (fun e => by have := (hrl _ e.symm).1; omega)).trans ((Below.heap_alloc X _ _ hwX).trans HQ0.out))).1
           have hfz5 := hbx5.frozen
           have hc5 := hbx5.cell
           obtain ⟨A5, c5, hv5⟩ := row_slice hown5
           subst hv5
           have Hown5 := Lib.hid hown5
           have Hgr5 := Lib.hid hgr5
           have Hat5 := Lib.hid hat5
           clear hown5 hgr5 hat5 hbx5))
        | gi_in)
      have hst := us_step (N := fun g => v.ownBlock = some g) H1.out Hv.out Hrow.out ((Below.refl _ _).alloc (Nat.le_refl _) _) hW01 (fun g e => ⟨(HNr.out g e).2, by have := (HNr.out g e).1; omega⟩) Hown5.out Hgr5.out Hat5.out
      exact ⟨⟨rfl, hst.1, by simp; omega, by omega⟩, hst.2⟩
    case neg =>
      have hd : decide ((pre.length : Int) + 1 = lv) = false := decide_eq_false he
      gi_wp2_with (first
        | (gi_at_builtin
           go_must (
           refine wpListIn_append_at _ rfl _ _ 38 rfl w1.heap.size 3 i0 (.int .i64 0) 1 8 Tryd.underlying38 hi hz0 hz1 hz2 rfl (by decide) (.slice A pre.length c) pre.length _ rfl (row_keep Hrow.out fun g e => Below.heap_alloc X _ g (hrl g e).2) ⟨X.heap.size, 0, none⟩ 1 1 [.int .i64 x] rfl rfl (cell_one_new _ _ _) (by simp [Value.oneCell']) (by unfold maxLen; omega) (by omega) (by simp; omega) ?_
           intro v5 w5 hown5 hgr5 hat5
           have hbx5 : Boxed w5 W0.heap.size 38 (.slice A pre.length c) := (hgr5.block _ (by simp; omega) (fun e => by have := (hrl _ e.symm).1; omega)).trans ((Below.heap_alloc X _ _ hvl).trans Hv.out)
           have hlv5 : w5.cell? ⟨w.heap.size, 0, none⟩ = some (.int .i64 lv) := (cells_one ((hgr5.block _ (by simp; omega) (fun e => by have := (hrl _ e.symm).1; omega)).trans ((Below.heap_alloc X _ _ hwX).trans HQ0.out))).1
           have hfz5 := hbx5.frozen
           have hc5 := hbx5.cell
           obtain ⟨A5, c5, hv5⟩ := row_slice hown5
           subst hv5
           have Hown5 := Lib.hid hown5
           have Hgr5 := Lib.hid hgr5
           have Hat5 := Lib.hid hat5
           clear hown5 hgr5 hat5 hbx5))
        | gi_in)
      have hst := us_step (N := fun g => v.ownBlock = some g) H1.out Hv.out Hrow.out ((Below.refl _ _).alloc (Nat.le_refl _) _) hW01 (fun g e => ⟨(HNr.out g e).2, by have := (HNr.out g e).1; omega⟩) Hown5.out Hgr5.out Hat5.out
      exact ⟨⟨hst.1, by simp; omega⟩, hst.2⟩
  case done =>
    rintro D ys X hD hS ⟨h1, hR⟩ hK
    obtain ⟨vr, hv, hrow⟩ := h1.cell
    have hc := Boxed.cell hv
    have hb1 : Below w.heap.size w X := hB0.trans (h1.below.mono (by omega))
    subst hS
    have hus : usO ys lv = ys := by unfold usO; rw [if_neg (by omega)]
    have hsub : ∀ z ∈ ys, z ∈ ys := fun z hz => hz
    have hws2 : w.heap.size ≤ w1.heap.size := by omega
    have hDw : w.heap.size ≤ D := by omega
    clear h1 hR hs0 q0
    obtain ⟨A, c, rfl⟩ := row_slice hrow
    go_wp2
    have hrl := row_lt hrow
    refine ⟨by simp, .inl ⟨_, _, rfl, run_takeDeferred hK, ?_⟩⟩
    refine ⟨.slice A ys.length c, by simp [results, Tryd.results25, go_sem], .slice A ys.length c, rfl, ?_, hb1.trans (belowK_b (w := w) (Nat.le_refl _) X D _ _ (by omega) hK rfl rfl)⟩
    rw [hus]
    refine ⟨?_, fun z hz => h64 z (hsub z hz)⟩
    have h9 : X.ownsRow w.heap.size 3 1 (.slice A ys.length c) ys.length (ys.map (Value.int .i64)) := by
      refine ⟨hrow.1, ?_⟩
      rcases hrow.2 with h | ⟨g, cap, cur, h1, h2, h3⟩
      · exact .inl h
      · exact .inr ⟨g, cap, cur, h1, by omega, h3⟩
    refine row_keep h9 fun g e => World.putObj_heap_other fun e2 => ?_
    subst e2
    rcases hrow.2 with ⟨h, _⟩ | ⟨g, cap, cur, h1, h2, h3, _⟩
    · rw [h] at e; simp [Value.ownBlock] at e
    · rw [h1] at e
      simp [Value.ownBlock] at e
      subst e
      rw [h3] at hK; cases hK
  case stop =>
    rintro D cd pre X hD hS ⟨rfl, h1, hR, hR1⟩ hK
    obtain ⟨vr, hv, hrow⟩ := h1.cell
    have hc := Boxed.cell hv
    have hb1 : Below w.heap.size w X := hB0.trans (h1.below.mono (by omega))
    have hus : usO l lv = pre := by
      have h2 := hS.length_le
      unfold usO
      rw [if_pos ⟨hR1, by omega⟩, ← hR, Int.toNat_natCast]
      exact (List.prefix_iff_eq_take.1 hS).symm
    have hsub : ∀ z ∈ pre, z ∈ l := fun z hz => hS.subset hz
    have hws2 : w.heap.size ≤ w1.heap.size := by omega
    have hDw : w.heap.size ≤ D := by omega
    clear h1 hs0 q0
    obtain ⟨A, c, rfl⟩ := row_slice hrow
    gi_wp2
    go_wp2
    have hrl := row_lt hrow
    refine ⟨by simp, .inl ⟨_, _, rfl, run_takeDeferred hK, ?_⟩⟩
    refine ⟨.slice A pre.length c, by simp [results, Tryd.results25, go_sem], .slice A pre.length c, rfl, ?_, hb1.trans (belowK_b (w := w) (Nat.le_refl _) X D _ _ (by omega) hK rfl rfl)⟩
    rw [hus]
    refine ⟨?_, fun z hz => h64 z (hsub z hz)⟩
    have h9 : X.ownsRow w.heap.size 3 1 (.slice A pre.length c) pre.length (pre.map (Value.int .i64)) := by
      refine ⟨hrow.1, ?_⟩
      rcases hrow.2 with h | ⟨g, cap, cur, h1, h2, h3⟩
      · exact .inl h
      · exact .inr ⟨g, cap, cur, h1, by omega, h3⟩
    refine row_keep h9 fun g e => World.putObj_heap_other fun e2 => ?_
    subst e2
    rcases hrow.2 with ⟨h, _⟩ | ⟨g, cap, cur, h1, h2, h3, _⟩
    · rw [h] at e; simp [Value.ownBlock] at e
    · rw [h1] at e
      simp [Value.ownBlock] at e
      subst e
      rw [h3] at hK; cases hK
end Go.Proofs.YtmmiclpedehcpaaDoor
namespace Go.Proofs.YtmmiclpedehcpaaDoor
open Go Go.RowKit Go.Shelf Go.Maps
set_option maxRecDepth 100000
def bwL : List Sm := [truthSm, ⟨⟨#[97]⟩, 0, false⟩, ⟨⟨#[102]⟩, 2, false⟩, ⟨⟨#[112]⟩, 1, true⟩]
def bwA : Tm := .node 1 []
def bwX : Tm := .node (-1) []
def bwF : Tm := .node 2 [bwA, bwX]
def bwG : Tm := .node 2 [bwX, bwA]
theorem bw_c0 : chkT bwL (.node 0 []) = 0 := by decide +kernel
theorem bw_cF : chkT bwL bwF = 0 := by decide +kernel
theorem bw_cA : chkT bwL bwA = 0 := by decide +kernel
theorem bw_cG : chkT bwL bwG = 0 := by decide +kernel
theorem bw_cN : chkT [] (.node 0 []) = 2 := by decide +kernel
theorem bw_tF : bputT bwL [] bwF = [bwA, bwX, bwF] := by kernel_rfl
theorem bw_nF : bputN bwL [] bwF = 2 := by kernel_rfl
theorem bw_tA : bputT bwL [bwA, bwX, bwF] bwA = [bwA, bwX, bwF] := by kernel_rfl
theorem bw_nA : bputN bwL [bwA, bwX, bwF] bwA = 0 := by kernel_rfl
theorem bw_tG : bputT bwL [bwA, bwX, bwF] bwG = [bwA, bwX, bwF, bwG] := by kernel_rfl
theorem bw_nG : bputN bwL [bwA, bwX, bwF] bwG = 3 := by kernel_rfl
theorem bw_sz : sizB [bwA, bwX, bwF, bwG] 2 = 3 := by kernel_rfl
theorem bw_g0 : gndB [bwA, bwX, bwF, bwG] 0 = true := by kernel_rfl
theorem bw_g1 : gndB [bwA, bwX, bwF, bwG] 1 = false := by kernel_rfl
theorem bcells_row {W : World} {b : Nat} {cs : Array Value} {t : TypeId} (h : W.heap[b]? = some (.cells cs t)) {j : Nat} {u : Value} (hu : cs[j]? = some u) : W.cell? ⟨b, 0 + j, none⟩ = some u := by
  simp only [World.cell?, h, Nat.zero_add]
  simpa using hu
set_option maxHeartbeats 1000000 in
theorem bsmall_any (w : World) :
    Calls Tryd.prog 26 #[] w fun e w' => ∃ b, e = .returned (.agg #[.slice (some ⟨b, 0, none⟩) 4 4]) ∧ Syms w' w'.heap.size (some ⟨b, 0, none⟩) 4 bwL ∧ Below w.heap.size w w' := by
  obtain ⟨W, hW⟩ : ∃ W, w.alloc (.cells #[.slice none 0 0] 24) = W := ⟨_, rfl⟩
  have hB : Below w.heap.size w W := by rw [← hW]; exact (Below.refl _ _).alloc (Nat.le_refl _) _
  have q0 := heap_alloc_new w (.cells #[.slice none 0 0] 24)
  rw [hW] at q0
  have hz : W.heap.size = w.heap.size + 1 := by rw [← hW]; simp
  have HW := Lib.hid hW
  have Hz := Lib.hid hz
  clear hW hz
  go_enter Tryd.func26, Tryd.ntmps26
  go_upto_region 1 with fail
  rw [HW.out]
  go_wp2_with (first
    | (go_at_call 48; refine (Truth_any _).mono ?_; rintro e w9 ⟨rfl, hb9⟩; have q9 : ∀ o, (w9.alloc o).heap[w.heap.size]? = some (.cells #[.slice none 0 0] 24) := (fun o => (Below.heap_alloc w9 o _ (by have := hb9.size; have := Hz.out; omega)).trans ((hb9.block _ (by have := Hz.out; omega)).trans q0)); have f0 := fun o => (cells_one (q9 o)).1; have f1 := fun o => (cells_one (q9 o)).2; have HQ9 := Lib.hid q9; clear q9)
    | fail)
  obtain ⟨V, hV⟩ : ∃ V, w9.alloc (.cells #[.string truthSm.name, .int .i64 truthSm.arity, .bool truthSm.pred, .string ⟨#[97]⟩, .int .i64 0, .bool false, .string ⟨#[102]⟩, .int .i64 2, .bool false, .string ⟨#[112]⟩, .int .i64 1, .bool true] 67) = V := ⟨_, rfl⟩
  have v0 : V.heap[w9.heap.size]? = some (.cells #[.string truthSm.name, .int .i64 truthSm.arity, .bool truthSm.pred, .string ⟨#[97]⟩, .int .i64 0, .bool false, .string ⟨#[102]⟩, .int .i64 2, .bool false, .string ⟨#[112]⟩, .int .i64 1, .bool true] 67) := by rw [← hV]; exact heap_alloc_new _ _
  have hBV : Below w9.heap.size w9 V := by rw [← hV]; exact (Below.refl _ _).alloc (Nat.le_refl _) _
  have vq := HQ9.out (.cells #[.string truthSm.name, .int .i64 truthSm.arity, .bool truthSm.pred, .string ⟨#[97]⟩, .int .i64 0, .bool false, .string ⟨#[102]⟩, .int .i64 2, .bool false, .string ⟨#[112]⟩, .int .i64 1, .bool true] 67)
  rw [hV] at vq ⊢
  have hs9 := hb9.size
  have hz9 := Hz.out
  have hvs := (Array.getElem?_eq_some_iff.1 v0).1
  have hset := heap_setCell_same V w.heap.size 0 _ _ (.slice (some ⟨w9.heap.size, 0, none⟩) 4 4) vq
  have p0 := (cells_one hset).1
  have v1 : (V.setCell ⟨w.heap.size, 0, none⟩ (.slice (some ⟨w9.heap.size, 0, none⟩) 4 4)).heap[w9.heap.size]? = some (.cells #[.string truthSm.name, .int .i64 truthSm.arity, .bool truthSm.pred, .string ⟨#[97]⟩, .int .i64 0, .bool false, .string ⟨#[102]⟩, .int .i64 2, .bool false, .string ⟨#[112]⟩, .int .i64 1, .bool true] 67) := (heap_setCell_other _ ⟨w.heap.size, 0, none⟩ _ _ (by show w9.heap.size ≠ w.heap.size; omega)).trans v0
  refine bodyPost_ret (v := .agg #[.slice (some ⟨w9.heap.size, 0, none⟩) 4 4]) (by simp [results, Tryd.results26, go_sem, p0]) rfl ⟨w9.heap.size, rfl, Syms.of_flat rfl ?_ fun _ => ⟨w9.heap.size, 0, rfl, by simpa using hvs, fun j u hu => bcells_row v1 ?_⟩, ?_⟩
  · intro x hx
    simp only [bwL, List.mem_cons, List.not_mem_nil, or_false] at hx
    rcases hx with rfl | rfl | rfl | rfl <;> exact ⟨by decide, by decide, by decide⟩
  · have e : (bwL.flatMap Sm.cells) = [.string truthSm.name, .int .i64 truthSm.arity, .bool truthSm.pred, .string ⟨#[97]⟩, .int .i64 0, .bool false, .string ⟨#[102]⟩, .int .i64 2, .bool false, .string ⟨#[112]⟩, .int .i64 1, .bool true] := rfl
    rw [e] at hu
    simpa using hu
  · exact (hB.trans ((hb9.trans (hBV.mono hs9)).mono hB.size)).setCell (p := ⟨w.heap.size, 0, none⟩) (Nat.le_refl _) _
theorem args_two {W : World} {s : Nat} {f g : Int} (hf : I64 f) (hg : I64 g) (q : W.heap[s]? = some (.cells #[.int .i64 f, .slice none 0 0, .int .i64 g, .slice none 0 0] 37)) : ArgsN W (· = s) (some ⟨s, 0, none⟩) [.node f [], .node g []] := by
  refine .row s 0 [.node f [], .node g []] (fun _ => none) (fun _ => 0) rfl (by show 2 ≤ _; omega) (fun i t e => ?_) (fun i t e => ?_) (fun i t e => ?_) (fun i t e => ?_)
  all_goals
    match i, e with
    | 0, e => simp at e; subst e; first | exact hf | exact bcells_row q (j := 0) rfl | exact bcells_row q (j := 1) rfl | exact .nil _
    | 1, e => simp at e; subst e; first | exact hg | exact bcells_row q (j := 2) rfl | exact bcells_row q (j := 3) rfl | exact .nil _
    | i + 2, e => simp at e
theorem bi64_small {i : Int} (h0 : -1000 ≤ i) (h1 : i ≤ 1000) : I64 i := ⟨by omega, by omega⟩
section
variable {w : World} {sy : List Sm} {As : Option Addr} {n cs : Nat}
theorem bNew_yes (hS : Syms w w.heap.size As n sy) (hn : n * 32 ≤ 140737488351232) (ht : tru w) (hc : chkT sy (.node 0 []) = 0) : Calls Tryd.prog 8 #[.agg #[.slice As n cs]] w fun e w' => ∃ (b : Nat) (A : Option Addr) (c : Nat) (tag : Nat → Nat), e = .returned (.tuple #[.pointer (some ⟨(newP b).bx, 0, none⟩), .int .i64 0]) ∧ BankW w' tag (newP b) sy A n c [] ∧ (∀ g, g < w.heap.size → tag g = 0) ∧ Below w.heap.size w w' := by
  refine (bNew_any hS hn ht).mono ?_
  rintro e w' ⟨hb, (⟨_, b, A, c, tag, rfl, h1, h2⟩ | ⟨h1, _⟩)⟩
  · exact ⟨b, A, c, tag, rfl, h1, h2, hb⟩
  · exact absurd hc h1
theorem bNew_no (hS : Syms w w.heap.size As n sy) (hn : n * 32 ≤ 140737488351232) (ht : tru w) (hc : chkT sy (.node 0 []) ≠ 0) : Calls Tryd.prog 8 #[.agg #[.slice As n cs]] w fun e w' => e = .returned (.tuple #[.pointer none, .int .i64 (chkT sy (.node 0 []))]) ∧ Below w.heap.size w w' := by
  refine (bNew_any hS hn ht).mono ?_
  rintro e w' ⟨hb, (⟨h1, _⟩ | ⟨_, he⟩)⟩
  · exact absurd h1 hc
  · exact ⟨he, hb⟩
end
structure WkI (w : World) (bx : Nat) (sy : List Sm) (A : Option Addr) (n c : Nat) (wx : World) (tag : Nat → Nat) (p : BPl) (ts : List Tm) : Prop where
  b : BankW wx tag p sy A n c ts
  t : TruT wx tag
  low : Below w.heap.size w wx
  z : ∀ g, g < w.heap.size → tag g = 0
  bx : p.bx = bx
section
variable {w wx wy : World} {bx : Nat} {sy : List Sm} {A : Option Addr} {n c : Nat} {tag : Nat → Nat} {p : BPl} {ts : List Tm}
theorem WkI.on (h : WkI w bx sy A n c wx tag p ts) (hb : Below wx.heap.size wx wy) : WkI w bx sy A n c wy tag p ts :=
  ⟨h.b.on hb, h.t.grew (p := p) (N := 0) (.below hb), h.low.trans (hb.mono h.low.size), h.z, h.bx⟩
theorem WkI.grew {tag' : Nat → Nat} {p' : BPl} {ts' : List Tm} {N : Nat} (h : WkI w bx sy A n c wx tag p ts) (hb : BankW wy tag' p' sy A n c ts') (hg : Grew wx wy tag tag' p p' N) : WkI w bx sy A n c wy tag' p' ts' :=
  ⟨hb, h.t.grew hg, h.low.trans (hg.k.below h.low.size fun g e e2 => e2 (h.z g e)), fun g e => (hg.t g (Nat.lt_of_lt_of_le e h.low.size)).trans (h.z g e), hg.bx.trans h.bx⟩
theorem WkI.put (h : WkI w bx sy A n c wx tag p ts) (hn : n * 32 ≤ 140737488351232) {t : Tm} {At : Option Addr} {ct : Nat} {N : Nat → Prop} (hts : ts.length + 300 ≤ 2147483648) (hf : I64 t.fn) (hA : ArgsN wx N At t.args) (hN : ∀ g, N g → g < wx.heap.size ∧ tag g = 0) :
    Calls Tryd.prog 12 #[.pointer (some ⟨bx, 0, none⟩), .agg #[.int .i64 t.fn, .slice At t.args.length ct]] wx fun e w' => ∃ p' tag', e = .returned (.tuple #[.int .i64 ((bputN sy ts t : Nat) : Int), .int .i64 (chkT sy t)]) ∧ WkI w bx sy A n c w' tag' p' (bputT sy ts t) ∧ Grew wx w' tag tag' p p' ts.length := by
  have := bPut_any (c := ct) h.b h.t hn hts hf hA hN
  rw [h.bx] at this
  refine this.mono ?_
  rintro e w' ⟨p', tag', rfl, hB, hG⟩
  exact ⟨p', tag', rfl, h.grew hB hG, hG⟩
end
end Go.Proofs.YtmmiclpedehcpaaDoor
namespace Go.Proofs.YtmmiclpedehcpaaDoor
open Go Go.RowKit Go.Shelf Go.Maps
set_option maxRecDepth 100000
theorem WkI.put2 {w wx : World} {bx : Nat} {A : Option Addr} {c : Nat} {tag : Nat → Nat} {p : BPl} {ts : List Tm} (h : WkI w bx bwL A 4 c wx tag p ts) (hts : ts.length ≤ 100) {f g : Int} (hf : I64 f) (hg : I64 g) {ts' : List Tm} {N : Nat} (hc : chkT bwL (.node 2 [.node f [], .node g []]) = 0) (ht : bputT bwL ts (.node 2 [.node f [], .node g []]) = ts') (hN : bputN bwL ts (.node 2 [.node f [], .node g []]) = N) :
    Calls Tryd.prog 12 #[.pointer (some ⟨bx, 0, none⟩), .agg #[.int .i64 2, .slice (some ⟨wx.heap.size, 0, none⟩) 2 2]] (wx.alloc (.cells #[.int .i64 f, .slice none 0 0, .int .i64 g, .slice none 0 0] 37)) fun e w' => ∃ p' tag', e = .returned (.tuple #[.int .i64 (N : Int), .int .i64 0]) ∧ WkI w bx bwL A 4 c w' tag' p' ts' ∧ Grew wx w' tag tag' p p' ts.length := by
  have hb : Below wx.heap.size wx (wx.alloc (.cells #[.int .i64 f, .slice none 0 0, .int .i64 g, .slice none 0 0] 37)) := (Below.refl _ _).alloc (Nat.le_refl _) _
  have hA := args_two hf hg (heap_alloc_new wx (.cells #[.int .i64 f, .slice none 0 0, .int .i64 g, .slice none 0 0] 37))
  have := (h.on hb).put (t := .node 2 [.node f [], .node g []]) (ct := 2) (by decide) (by omega) (show I64 2 from bi64_small (by decide) (by decide)) hA (fun k e => by subst e; exact ⟨by simp, h.b.hi _ (Nat.le_refl _)⟩)
  rw [ht, hc, hN] at this
  refine this.mono ?_
  rintro e w' ⟨p', tag', rfl, h1, h2⟩
  exact ⟨p', tag', rfl, h1, (Grew.below (N := ts.length) hb).trans h2 (Nat.le_refl _)⟩
theorem WkI.put0 {w wx : World} {bx : Nat} {A : Option Addr} {c : Nat} {tag : Nat → Nat} {p : BPl} {ts : List Tm} (h : WkI w bx bwL A 4 c wx tag p ts) (hts : ts.length ≤ 100) {f : Int} (hf : I64 f) {ts' : List Tm} {N : Nat} (hc : chkT bwL (.node f []) = 0) (ht : bputT bwL ts (.node f []) = ts') (hN : bputN bwL ts (.node f []) = N) :
    Calls Tryd.prog 12 #[.pointer (some ⟨bx, 0, none⟩), .agg #[.int .i64 f, .slice none 0 0]] wx fun e w' => ∃ p' tag', e = .returned (.tuple #[.int .i64 (N : Int), .int .i64 0]) ∧ WkI w bx bwL A 4 c w' tag' p' ts' ∧ Grew wx w' tag tag' p p' ts.length := by
  have := h.put (t := .node f []) (ct := 0) (N := fun _ => False) (by decide) (by omega) hf (.nil none) (fun k e => e.elim)
  rw [ht, hc, hN] at this
  exact this
set_option maxHeartbeats 8000000 in
theorem bwakes_any (w : World) (ht : tru w) : Calls Tryd.prog 7 #[] w fun e w' => e = .returned (.bool true) ∧ Below w.heap.size w w' := by
  have HT := Lib.hid ht
  clear ht
  go_enter Tryd.func7, Tryd.ntmps7
  go_upto_region 4 with (first
    | (go_at_call 26; refine (bsmall_any w).mono ?_; go_must (rintro e w1 ⟨b1, rfl, hs1, hb1⟩; have HNw := Lib.hid (bNew_yes (cs := 4) hs1 (by decide) (tru_below HT.out hb1) bw_c0)))
    | (go_at_call 8; (with_reducible refine HNw.out.mono ?_); go_must (rintro e w2 ⟨b2, A2, c2, tag2, rfl, hB2, hz2, hb2⟩; have HI2 : Hid (WkI w (newP b2).bx bwL A2 4 c2 w2 tag2 (newP b2) []) := Lib.hid ⟨hB2, ⟨tru_below HT.out (hb1.trans (hb2.mono hb1.size)), hz2 _ (tru_below HT.out hb1).2.2.2⟩, hb1.trans (hb2.mono hb1.size), fun g e => hz2 g (Nat.lt_of_lt_of_le e hb1.size), rfl⟩; clear hB2 hz2))
    | fail)
  clear hs1 HNw
  obtain ⟨p2, hp2⟩ : ∃ p2, newP b2 = p2 := ⟨_, rfl⟩
  rw [hp2] at HI2 ⊢
  obtain ⟨bx, hbx⟩ : ∃ bx, p2.bx = bx := ⟨_, rfl⟩
  rw [hbx] at HI2 ⊢
  clear hp2 hbx
  obtain ⟨q3, q4⟩ := heap2 w2 (.cells #[.int .i64 1, .slice none 0 0] 37) (.cells #[.int .i64 (-1), .slice none 0 0] 37)
  obtain ⟨W4, hW4⟩ : ∃ W4, (w2.alloc (.cells #[.int .i64 1, .slice none 0 0] 37)).alloc (.cells #[.int .i64 (-1), .slice none 0 0] 37) = W4 := ⟨_, rfl⟩
  have hB4 : Below w2.heap.size w2 W4 := by rw [← hW4]; exact ((Below.refl _ _).alloc (Nat.le_refl _) _).alloc (by simp) _
  rw [hW4] at q3 q4
  have hz3 : tag2 w2.heap.size = 0 := HI2.out.b.hi _ (Nat.le_refl _)
  have hz4 : tag2 (w2.heap.size + 1) = 0 := HI2.out.b.hi _ (by omega)
  have HI4 := Lib.hid (HI2.out.on hB4)
  have HW4 := Lib.hid hW4
  obtain ⟨n3, hn3⟩ : ∃ n3, w2.heap.size = n3 := ⟨_, rfl⟩
  rw [hn3] at q3 q4 hz3 hz4
  have HP1 := Lib.hid (HI4.out.put2 (f := 1) (g := -1) (by decide) (bi64_small (by decide) (by decide)) (bi64_small (by decide) (by decide)) bw_cF bw_tF bw_nF)
  have Hq3 := Lib.hid q3
  have Hq4 := Lib.hid q4
  obtain ⟨a0, a1, _, _⟩ := cells_two q3
  obtain ⟨x0, x1, _, _⟩ := cells_two q4
  clear hW4 q3 q4 HI2
  go_upto_region 5 with (fail)
  rw [HW4.out]
  clear hn3 hB4 HW4
  go_wp2_with (first
    | (go_at_call 12; (with_reducible refine HP1.out.mono ?_); go_must (rintro e w5 ⟨p5, tag5, rfl, hI5, hG5⟩; have r3 := (hG5.k.block (Array.getElem?_eq_some_iff.1 Hq3.out).1 (fun e => e hz3)).trans Hq3.out; have r4 := (hG5.k.block (Array.getElem?_eq_some_iff.1 Hq4.out).1 (fun e => e hz4)).trans Hq4.out; have hy3 := (hG5.t _ (Array.getElem?_eq_some_iff.1 Hq3.out).1).trans hz3; have hy4 := (hG5.t _ (Array.getElem?_eq_some_iff.1 Hq4.out).1).trans hz4; obtain ⟨b0, b1', _, _⟩ := cells_two r3; have HP2 := Lib.hid (hI5.put0 (f := 1) (by decide) (bi64_small (by decide) (by decide)) bw_cA bw_tA bw_nA); clear hG5))
    | (go_at_call 12; (with_reducible refine HP2.out.mono ?_); go_must (rintro e w6 ⟨p6, tag6, rfl, hI6, hG6⟩; have s3 := (hG6.k.block (Array.getElem?_eq_some_iff.1 r3).1 (fun e => e hy3)).trans r3; have s4 := (hG6.k.block (Array.getElem?_eq_some_iff.1 r4).1 (fun e => e hy4)).trans r4; obtain ⟨d0, d1, _, _⟩ := cells_two s3; obtain ⟨d2, d3, _, _⟩ := cells_two s4; have HP3 := Lib.hid (hI6.put2 (f := -1) (g := 1) (by decide) (bi64_small (by decide) (by decide)) (bi64_small (by decide) (by decide)) bw_cG bw_tG bw_nG); clear hG6))
    | (go_at_call 12; (with_reducible refine HP3.out.mono ?_); go_must (rintro e w7 ⟨p7, tag7, rfl, hI7, hG7⟩; have HN7 := Lib.hid (bNew_no (cs := 0) (Syms.nil_ w7 w7.heap.size none) (by decide) hI7.t.t (by rw [bw_cN]; decide)); clear hG7))
    | (go_at_call 8; (with_reducible refine HN7.out.mono ?_); go_must (rintro e w8 ⟨rfl, hb8⟩; rw [bw_cN]; have HI8 := Lib.hid (hI7.on hb8); have HL8 := Lib.hid (HI8.out.bx ▸ bLen_any HI8.out.b)))
    | (go_at_call 20; (with_reducible refine HL8.out.mono ?_); go_must (rintro e w9 ⟨rfl, hb9⟩; have HI9 := Lib.hid (HI8.out.on hb9); have HS9 := Lib.hid (HI9.out.bx ▸ bSize_any HI9.out.b 2)))
    | (go_at_call 23; (with_reducible refine HS9.out.mono ?_); go_must (rintro e w10 ⟨rfl, hb10⟩; rw [bw_sz]; have HI10 := Lib.hid (HI9.out.on hb10); have HG10 := Lib.hid (HI10.out.bx ▸ bGround_any HI10.out.b 0)))
    | (go_at_call 24; (with_reducible refine HG10.out.mono ?_); go_must (rintro e w11 ⟨rfl, hb11⟩; rw [bw_g0]; have HI11 := Lib.hid (HI10.out.on hb11); have HG11 := Lib.hid (HI11.out.bx ▸ bGround_any HI11.out.b 1)))
    | (go_at_call 24; (with_reducible refine HG11.out.mono ?_); go_must (rintro e w12 ⟨rfl, hb12⟩; rw [bw_g1]; have HI12 := Lib.hid (HI11.out.on hb12)))
    | fail)
  go_ret
  exact ⟨rfl, HI12.out.low⟩
end Go.Proofs.YtmmiclpedehcpaaDoor
namespace Go.Proofs.YtmmiclpedehcpaaDoor
open Go.RowKit
set_option maxRecDepth 100000
end Go.Proofs.YtmmiclpedehcpaaDoor
namespace Go.Proofs.YtmmiclpedehcpaaDoor
open Go.RowKit
set_option maxRecDepth 100000
end Go.Proofs.YtmmiclpedehcpaaDoor
namespace Go.Proofs.YtmmiclpedehcpaaDoor
open Go.RowKit
set_option maxRecDepth 100000
end Go.Proofs.YtmmiclpedehcpaaDoor
namespace Go.Proofs.YtmmiclpedehcpaaDoor
open Go Go.RowKit Go.Shelf Go.Maps
set_option maxRecDepth 100000
theorem bputT_pre (sy : List Sm) (ts : List Tm) (t : Tm) : ∃ us, bputT sy ts t = ts ++ us ∧ us.length ≤ 300 := by
  unfold bputT
  split
  · rename_i hc
    have := chk_300 hc
    obtain ⟨us, e, h⟩ := addT_pre t ts
    exact ⟨us, e, by omega⟩
  · exact ⟨[], by simp, by simp⟩
section
variable {W wr wy : World} {bx n c base : Nat} {sy : List Sm} {A : Option Addr} {tag : Nat → Nat} {p : BPl} {ts : List Tm} {v7 v8 : Value} {is : List Int} {tis : List Ti}
theorem wk_tag0 {wy : World} (h : WkI W bx sy A n c wr tag p ts) (hs : wr.heap.size ≤ wy.heap.size) (hl : Below W.heap.size wr wy) (hk : ∀ g, g < wr.heap.size → tag g ≠ 0 → wy.heap[g]? = wr.heap[g]?) (ht : 0 < W.heap.size) : WkI W bx sy A n c wy tag p ts :=
  ⟨bank_tag0 h.b hs hk, ⟨tru_on h.t.t hl ht, h.t.z⟩, h.low.trans hl, h.z, h.bx⟩
end
end Go.Proofs.YtmmiclpedehcpaaDoor
namespace Go.Proofs.YtmmiclpedehcpaaDoor
open Go.RowKit
set_option maxRecDepth 100000
theorem ad1_iff {r : List Tm} {t u : Tm} : u ∈ ad1 r t ↔ u ∈ r ∨ u = t := by
  unfold ad1
  split
  · rename_i h
    exact ⟨.inl, fun e => e.elim id fun e => by rw [e]; exact idxT_lt.1 h⟩
  · simp
mutual
theorem addT_iff : ∀ (t : Tm) {ts : List Tm} {u : Tm}, u ∈ addT ts t ↔ u ∈ ts ∨ u ∈ addT [] t
  | .node f xs, ts, u => by
    rw [addT, addT, ad1_iff, ad1_iff, addL_iff xs]
    exact or_assoc
theorem addL_iff : ∀ (xs : List Tm) {ts : List Tm} {u : Tm}, u ∈ addL ts xs ↔ u ∈ ts ∨ u ∈ addL [] xs
  | [], ts, u => by simp [addL]
  | x :: xs, ts, u => by
    rw [addL, addL, addL_iff xs (ts := addT ts x), addL_iff xs (ts := addT [] x), addT_iff x (ts := ts)]
    exact or_assoc
end
def putL (sy : List Sm) (ts l : List Tm) : List Tm := l.foldl (bputT sy) ts
theorem putL_iff {sy : List Sm} : ∀ {l ts : List Tm} {u : Tm}, u ∈ putL sy ts l ↔ u ∈ ts ∨ ∃ t ∈ l, chkT sy t = 0 ∧ u ∈ addT [] t
  | [], ts, u => by simp [putL]
  | x :: l, ts, u => by
    have ih := putL_iff (sy := sy) (l := l) (ts := bputT sy ts x) (u := u)
    unfold putL at ih ⊢
    rw [List.foldl_cons, ih]
    unfold bputT
    split
    · rename_i hc
      rw [addT_iff]
      constructor
      · rintro ((h | h) | ⟨t, h1, h2, h3⟩)
        · exact .inl h
        · exact .inr ⟨x, by simp, hc, h⟩
        · exact .inr ⟨t, by simp [h1], h2, h3⟩
      · rintro (h | ⟨t, h1, h2, h3⟩)
        · exact .inl (.inl h)
        · rcases List.mem_cons.1 h1 with rfl | h1
          · exact .inl (.inr h3)
          · exact .inr ⟨t, h1, h2, h3⟩
    · rename_i hc
      constructor
      · rintro (h | ⟨t, h1, h2, h3⟩)
        · exact .inl h
        · exact .inr ⟨t, by simp [h1], h2, h3⟩
      · rintro (h | ⟨t, h1, h2, h3⟩)
        · exact .inl h
        · rcases List.mem_cons.1 h1 with rfl | h1
          · exact absurd h2 hc
          · exact .inr ⟨t, h1, h2, h3⟩
theorem putL_take {sy : List Sm} {ts l : List Tm} {k : Nat} {x : Tm} (h : l[k]? = some x) : putL sy ts (l.take (k + 1)) = bputT sy (putL sy ts (l.take k)) x := by
  unfold putL
  rw [List.take_add_one, h, List.foldl_append]; rfl
theorem BOk.put {sy : List Sm} {ts : List Tm} (h : BOk ts) (t : Tm) : BOk (bputT sy ts t) := by
  unfold bputT
  split
  · exact h.addT t
  · exact h
theorem putL_ok {sy : List Sm} : ∀ (l : List Tm) {ts : List Tm}, BOk ts → BOk (putL sy ts l)
  | [], _, h => h
  | x :: l, ts, h => by unfold putL; rw [List.foldl_cons]; exact putL_ok l (h.put x)
theorem putL_perm {sy : List Sm} {l k : List Tm} (h : ∀ t, t ∈ l ↔ t ∈ k) : (putL sy [] l).Perm (putL sy [] k) := by
  rw [List.perm_ext_iff_of_nodup (putL_ok l BOk.nil).nd (putL_ok k BOk.nil).nd]
  intro u
  rw [putL_iff, putL_iff]
  constructor
  · rintro (h1 | ⟨t, h1, h2, h3⟩)
    · simp at h1
    · exact .inr ⟨t, (h t).1 h1, h2, h3⟩
  · rintro (h1 | ⟨t, h1, h2, h3⟩)
    · simp at h1
    · exact .inr ⟨t, (h t).2 h1, h2, h3⟩
theorem low_mem {xs : List Tm} (h : lowL xs = true) : ∀ u ∈ xs, lowT u = true := by
  induction xs with
  | nil => intro u hu; simp at hu
  | cons x xs ih =>
    simp only [lowL, Bool.and_eq_true] at h
    intro u hu
    rcases List.mem_cons.1 hu with rfl | hu
    · exact h.1
    · exact ih h.2 u hu
theorem over_mem {sy : List Sm} {xs : List Tm} (h : overL sy xs = true) : ∀ u ∈ xs, overT sy u false = true := by
  induction xs with
  | nil => intro u hu; simp at hu
  | cons x xs ih =>
    simp only [overL, Bool.and_eq_true] at h
    intro u hu
    rcases List.mem_cons.1 hu with rfl | hu
    · exact h.1
    · exact ih h.2 u hu
theorem over_top {sy : List Sm} : ∀ {u : Tm}, overT sy u false = true → overT sy u true = true
  | .node f xs, h => by
    simp only [overT] at h ⊢
    split
    · rfl
    · rename_i hf
      rw [if_neg hf] at h
      split
      · rename_i e; rw [e] at h; exact h
      · rename_i s e
        rw [e] at h
        simp only at h
        split
        · rename_i h2
          split at h
          · cases h
          · rename_i h3
            rcases h2 with h2 | ⟨_, h2⟩
            · exact absurd (.inl h2) h3
            · cases h2
        · rename_i h2
          split at h
          · cases h
          · exact h
theorem chk_iff {sy : List Sm} {t : Tm} : chkT sy t = 0 ↔ checkI sy = 0 ∧ (t.size : Int) ≤ 300 ∧ (t.depth : Int) + 1 ≤ 31 ∧ lowT t = true ∧ overT sy t true = true := by
  have h := fitp_iff sy t 1 300 (Int.le_refl 1)
  unfold chkT
  by_cases h0 : checkI sy = 0
  · rw [if_neg (by simpa using h0)]
    rw [show decide ((1 : Int) ≤ 1) = true by decide] at h
    by_cases h1 : (fitT sy t 1 300).1 = true
    · rw [if_pos h1]; exact ⟨fun _ => ⟨h0, h.1 h1⟩, fun _ => rfl⟩
    · rw [if_neg h1]; exact ⟨(fun e => by cases e), fun e => absurd (h.2 e.2) h1⟩
  · rw [if_pos h0]; exact ⟨(fun e => by cases e), fun e => absurd e.1 h0⟩
theorem chk_arg {sy : List Sm} {t u : Tm} (h : chkT sy t = 0) (hu : u ∈ t.args) : chkT sy u = 0 := by
  rw [chk_iff] at h ⊢
  obtain ⟨h0, h1, h2, h3, h4⟩ := h
  obtain ⟨f, xs⟩ := t
  have hs := size_mem hu
  have hd := depth_mem hu
  simp only [Tm.size, Tm.depth, Tm.args] at h1 h2 hs hd hu
  refine ⟨h0, by omega, by omega, ?_, over_top ?_⟩
  · simp only [lowT] at h3
    split at h3
    · rw [decide_eq_true_eq] at h3
      rw [List.eq_nil_of_length_eq_zero h3.2] at hu; simp at hu
    · exact low_mem h3 u hu
  · simp only [overT] at h4
    simp only [lowT] at h3
    split at h4
    · rename_i hf
      rw [if_pos hf, decide_eq_true_eq] at h3
      rw [List.eq_nil_of_length_eq_zero h3.2] at hu; simp at hu
    · split at h4
      · cases h4
      · split at h4
        · cases h4
        · exact over_mem h4 u hu
mutual
theorem chk_part {sy : List Sm} : ∀ {t u : Tm}, chkT sy t = 0 → u ∈ addT [] t → chkT sy u = 0
  | .node f xs, u, h, hu => by
    rw [addT, ad1_iff] at hu
    rcases hu with hu | rfl
    · exact chk_parts (fun x hx => chk_arg h hx) hu
    · exact h
theorem chk_parts {sy : List Sm} : ∀ {xs : List Tm} {u : Tm}, (∀ x ∈ xs, chkT sy x = 0) → u ∈ addL [] xs → chkT sy u = 0
  | [], u, _, hu => by simp [addL] at hu
  | x :: xs, u, h, hu => by
    rw [addL, addL_iff] at hu
    rcases hu with hu | hu
    · exact chk_part (h x (by simp)) hu
    · exact chk_parts (fun y hy => h y (by simp [hy])) hu
end
theorem putL_chk {sy : List Sm} {l : List Tm} {u : Tm} (h : u ∈ putL sy [] l) : chkT sy u = 0 := by
  rw [putL_iff] at h
  rcases h with h | ⟨t, _, h2, h3⟩
  · simp at h
  · exact chk_part h2 h3
theorem usT_count {ts : List Tm} (h : BOk ts) {t : Tm} (ht : t ∈ ts) : (usT ts (idxT ts t)).length = ts.countP fun u => u.args.any (eqT t) := by
  unfold usT
  rw [← List.countP_eq_length_filter]
  have e1 : ts = (List.range ts.length).map fun i => ts.getD i (.node 0 []) := by
    apply List.ext_getElem (by simp)
    intro i h1 h2
    simp [List.getElem?_eq_getElem h1]
  conv => rhs; rw [e1]
  rw [List.countP_map]
  refine List.countP_congr fun i hi => ?_
  rw [List.mem_range] at hi
  have hx : ts[i]? = some (ts.getD i (.node 0 [])) := by rw [List.getD_eq_getElem?_getD, List.getElem?_eq_getElem hi]; rfl
  have hm := List.mem_of_getElem? hx
  simp only [Function.comp]
  rw [List.contains_iff_mem, List.any_eq_true]
  constructor
  · intro hc
    obtain ⟨a, h1, h2⟩ := List.mem_map.1 hc
    have h3 := idxT_at (h.arg hm h1)
    rw [h2, idxT_at ht] at h3
    injection h3 with h3
    exact ⟨a, h1, eqT_iff.2 h3⟩
  · rintro ⟨a, h1, h2⟩
    rw [eqT_iff] at h2
    subst h2
    exact List.mem_map.2 ⟨t, h1, rfl⟩
theorem usT_perm {ts us : List Tm} (h : BOk ts) (k : BOk us) (hp : ts.Perm us) {t : Tm} (ht : t ∈ ts) : (usT ts (idxT ts t)).length = (usT us (idxT us t)).length := by
  rw [usT_count h ht, usT_count k (hp.mem_iff.1 ht)]
  exact hp.countP_eq _
def rotL (l : List Tm) (t : Nat) : List Tm := (List.range l.length).map fun i => l.getD ((i + t) % l.length) (.node 0 [])
theorem rotL_at {l : List Tm} {t i : Nat} (hi : i < l.length) : (rotL l t)[i]? = l[(i + t) % l.length]? := by
  have hm : (i + t) % l.length < l.length := Nat.mod_lt _ (by omega)
  unfold rotL
  rw [List.getElem?_map, List.getElem?_range hi, List.getElem?_eq_getElem hm]
  simp [List.getElem?_eq_getElem hm]
theorem rotL_len (l : List Tm) (t : Nat) : (rotL l t).length = l.length := by simp [rotL]
theorem rotL_mem {l : List Tm} {t : Nat} (ht : t < l.length) : ∀ u, u ∈ l ↔ u ∈ rotL l t := fun u => by
  constructor
  · intro h
    obtain ⟨j, hj, e⟩ := List.getElem_of_mem h
    have hi : (j + (l.length - t)) % l.length < l.length := Nat.mod_lt _ (by omega)
    have hij : ((j + (l.length - t)) % l.length + t) % l.length = j := by
      rw [Nat.mod_add_mod, show j + (l.length - t) + t = j + l.length by omega, Nat.add_mod_right, Nat.mod_eq_of_lt hj]
    have := rotL_at (l := l) (t := t) hi
    rw [hij, List.getElem?_eq_getElem hj, e] at this
    exact List.mem_of_getElem? this
  · intro h
    obtain ⟨i, hi, e⟩ := List.getElem_of_mem h
    rw [rotL_len] at hi
    have := rotL_at (l := l) (t := t) hi
    rw [List.getElem?_eq_getElem (by rw [rotL_len]; exact hi), e] at this
    exact List.mem_of_getElem? this.symm
end Go.Proofs.YtmmiclpedehcpaaDoor
