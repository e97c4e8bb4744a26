/- SignKeeps: the case in which the symbols are added. -/
import Derived.Test.YtmcdnjhdmifpeaaDoorW24
namespace Go.Proofs.YtmcdnjhdmifpeaaDoor
open Go.RowKit

/-- What stays while the loops run. -/
structure KW (w : World) (A : Option Addr) (n c : Nat) (a : List Sm) (q ab : Nat) (A1 : Option Addr) (c1 : Nat) (wx : World) : Prop where
  below : Below w.heap.size w wx
  lo : w.heap.size < ab
  hi : ab < wx.heap.size
  cs : wx.cell? ⟨w.heap.size, 0, none⟩ = some (.slice A n c)
  ca : wx.cell? ⟨ab, 0, none⟩ = some (.slice A1 q c1)
  sy : Syms wx wx.heap.size A1 q a
theorem KW.on {w wx wy : World} {A A1 : Option Addr} {n c q ab c1 : Nat} {a : List Sm} (h : KW w A n c a q ab A1 c1 wx) (hb : Below wx.heap.size wx wy) : KW w A n c a q ab A1 c1 wy :=
  ⟨bl_step h.below hb, h.lo, Nat.lt_of_lt_of_le h.hi hb.size, cell_on hb (Nat.lt_trans h.lo h.hi) h.cs, cell_on hb h.hi h.ca, h.sy.on hb⟩

set_option maxRecDepth 100000 in
set_option maxHeartbeats 4000000 in
theorem Keeps_ok (A A' : Option Addr) (n n' c c' : Nat) (l m a : List Sm) (q : Nat) (w : World) (h : Syms w w.heap.size A n l) (hm : Syms w w.heap.size A' n' m) (hn : n * 32 ≤ 140737488351232) (hn' : n' * 32 ≤ 140737488351232) (ht : tru w)
    (hq : a.length = q) (hq96 : q ≤ 96) (h1 : addE l m = 0 ∧ addL l m = a) (h2 : addE a m = 0 ∧ addL a m = a) (h3 : checkI a = 0)
    (hold : ∀ (i : Nat) (x : Sm), l[i]? = some x → findB a x = true ∧ findN a x = i) (hnew : ∀ x ∈ m, findB a x = true) (hfr : ∀ y ∈ m, freshE a y.name y.arity = 0 ∨ freshE a y.name y.arity = 111)
    (had : ∀ y ∈ m, freshE a y.name y.arity = 0 → q < 96 → addE a [freshS a y.name y.arity y.pred] = 0 ∧ (addL a [freshS a y.name y.arity y.pred]).length = q + 1) :
    Calls Tryd.prog 7 #[.agg #[.slice A n c], .slice A' n' c'] w fun e w' => e = .returned (.bool true) ∧ Below w.heap.size w w' := by
  have hbx : Below w.heap.size w (w.alloc (.cells #[.slice A n c] 24)) := (Below.refl _ _).alloc (Nat.le_refl _) _
  have Hl := Lib.hid h
  have Hm := Lib.hid hm
  have Ht := Lib.hid ht
  have H1 := Lib.hid h1
  have H2 := Lib.hid h2
  have H3 := Lib.hid h3
  have Hq := Lib.hid hq
  have Hold := Lib.hid hold
  have Hnew := Lib.hid hnew
  have Hfr := Lib.hid hfr
  have Had := Lib.hid had
  have hq32 : q * 32 ≤ 140737488351232 := by omega
  clear h hm ht h1 h2 h3 hq hold hnew hfr had
  go_enter Tryd.func7, Tryd.ntmps7
  go_wp2_with (first
    | (go_at_call 19
       ((with_reducible refine (Added_any A A' n n' c c' l m a q 0 (w.alloc (.cells #[.slice A n c] 24)) (Hl.out.on hbx) (Hm.out.on hbx) hn hn' (tru_below Ht.out hbx) H1.out.1 H1.out.2 Hq.out).mono ?_)
        rintro e w1 ⟨A1, c1, rfl, hs1, hb1⟩
        have x1 := cell_on hb1 (b := w.heap.size) (o := 0) (v := .slice A n c) (by simp) (by go_simp)
        have hx1 : w.heap.size < w1.heap.size := cell_lt x1
        have hZ1 : Below w1.heap.size w1 (w1.alloc (.cells #[.slice A1 q c1] 24)) := (Below.refl _ _).alloc (Nat.le_refl _) _
        have hB1 := bl_step hbx hb1
        have K1 : KW w A n c a q w1.heap.size A1 c1 (w1.alloc (.cells #[.slice A1 q c1] 24)) := ⟨bl_step hB1 hZ1, hx1, by simp, cell_on hZ1 hx1 x1, by go_simp, hs1.on hZ1⟩))
    | (go_at_call 8
       refine (head_any _ (tru_below Ht.out K1.below)).mono ?_
       rintro e w2 ⟨rfl, hb2⟩
       have K2 := K1.on hb2
       have K2s := K2.cs
       have K2a := K2.ca)
    | (go_at_call 19
       refine (Added_any A1 A' q n' c1 c' a m a q 0 _ K2.sy (Hm.out.on K2.below) hq32 hn' (tru_below Ht.out K2.below) H2.out.1 H2.out.2 Hq.out).mono ?_
       rintro e w3 ⟨A3, c3, rfl, hs3, hb3⟩
       have K3 := K2.on hb3
       have hZ3 : Below w3.heap.size w3 (w3.alloc (.cells #[.slice A3 q c3] 24)) := (Below.refl _ _).alloc (Nat.le_refl _) _
       have K3' := K3.on hZ3
       have K3s := K3'.cs
       have K3a := K3'.ca)
    | (go_at_call 12
       refine (same_self A1 A3 q c1 c3 a _ K3'.sy (hs3.on hZ3) (by omega)).mono ?_
       rintro e w4 ⟨rfl, hb4⟩
       have K4 := K3'.on hb4
       have K4s := K4.cs
       have K4a := K4.ca)
    | (go_at_call 9
       refine (check_zero A1 q c1 a _ K4.sy hq32 (tru_below Ht.out K4.below) H3.out).mono ?_
       rintro e w5 ⟨rfl, hb5⟩
       have K5 := K4.on hb5)
    | fail)
  have hlen := Hl.out.len
  have hlen' := Hm.out.len
  clear K1 K2 K3 K3' K4 K2s K2a K3s K3a K4s K4a x1 hZ3 hs3 hb2 hb3 hb4 hb5 hs1
  go_loopw [9] (fun i wr => ∃ k : Nat, k ≤ n ∧ i = .int .i64 k ∧ KW w A n c a q w1.heap.size A1 c1 wr) (fun i _ => n - (intOf i).toNat)
  case atStart => exact ⟨0, Nat.zero_le _, rfl, K5⟩
  case round =>
    obtain ⟨k, hk, rfl, Kr⟩ := hrel
    have zs := Kr.cs
    have za := Kr.ca
    by_cases hlt : k < n
    · obtain ⟨b, off, rfl, hb, hc⟩ := Hl.out.ad (by omega)
      obtain ⟨y, hy⟩ : ∃ y, l[k]? = some y := ⟨_, List.getElem?_eq_getElem (by omega)⟩
      obtain ⟨f1, f2⟩ := Hold.out k y hy
      obtain ⟨e1, e2, e3⟩ := hc k y hy
      have d1 := cell_on Kr.below hb e1
      have d2 := cell_on Kr.below hb e2
      have d3 := cell_on Kr.below hb e3
      have hwr := Kr.below.size
      have hbw : b < wr.heap.size := by omega
      have hsw : w.heap.size < wr.heap.size := cell_lt zs
      have haw : w1.heap.size < wr.heap.size := cell_lt za
      have F := Lib.hid (And.intro f1 f2)
      have hS : ∀ w', Below wr.heap.size wr w' → w'.cell? ⟨w.heap.size, 0, none⟩ = some (.slice (some ⟨b, off, none⟩) n c) ∧ w'.cell? ⟨w1.heap.size, 0, none⟩ = some (.slice A1 q c1) ∧ w'.cell? ⟨b, off + k * 3, none⟩ = some (.string y.name) ∧ w'.cell? ⟨b, off + k * 3 + 1, none⟩ = some (.int .i64 y.arity) ∧ w'.cell? ⟨b, off + k * 3 + 2, none⟩ = some (.bool y.pred) := fun w' hb' => ⟨cell_on hb' hsw zs, cell_on hb' haw za, cell_on hb' hbw d1, cell_on hb' hbw d2, cell_on hb' hbw d3⟩
      have HS := Lib.hid hS
      have hq64 : q ≤ 9223372036854775807 := by omega
      clear hy f1 f2 hS hc e1 e2 e3
      go_wp2
      go_region_held3 (fun w' => w'.cell? ⟨w.heap.size, 0, none⟩ = some (.slice (some ⟨b, off, none⟩) n c) ∧ w'.cell? ⟨w1.heap.size, 0, none⟩ = some (.slice A1 q c1) ∧ w'.cell? ⟨b, off + k * 3, none⟩ = some (.string y.name) ∧ w'.cell? ⟨b, off + k * 3 + 1, none⟩ = some (.int .i64 y.arity) ∧ w'.cell? ⟨b, off + k * 3 + 2, none⟩ = some (.bool y.pred))
        (first | exact ⟨zs, za, d1, d2, d3⟩ | exact HS.out _ hB6)
        (first | (go_at_call 16; refine (find_at A1 q c1 a y k wr.drew (Kr.sy.drewN 1) hq64 F.out.1 F.out.2).mono ?_; rintro e w6 ⟨rfl, hb6⟩; have hB6 : Below wr.heap.size wr w6 := bl_step (Below.refl _ _).drew hb6))
      go_wp2
      go_roundw
      case rel => exact ⟨k + 1, by omega, by go_num, Kr.on hB6⟩
      case measure => simp [intOf]; omega
    · have : k = n := by omega
      subst this
      go_wp2
      clear zs za hlt hk K5
      have Ko := Kr
      obtain ⟨wo, hwo⟩ : ∃ wo, wo = wr := ⟨_, rfl⟩
      subst hwo
      clear Kr
      go_loopw [12] (fun i wr => ∃ j : Nat, j ≤ n' ∧ i = .int .i64 j ∧ KW w A k c a q w1.heap.size A1 c1 wr) (fun i _ => n' - (intOf i).toNat)
      case atStart => exact ⟨0, Nat.zero_le _, rfl, Ko⟩
      case round =>
        obtain ⟨j, hj, rfl, Kr⟩ := hrel
        have za := Kr.ca
        by_cases hlt : j < n'
        · obtain ⟨b, off, rfl, hb, hc⟩ := Hm.out.ad (by omega)
          obtain ⟨y, hy⟩ : ∃ y, m[j]? = some y := ⟨_, List.getElem?_eq_getElem (by omega)⟩
          have hym := List.mem_of_getElem? hy
          have hyok : y.Ok := Hm.out.ok y hym
          have hys := hyok.size
          obtain ⟨e1, e2, e3⟩ := hc j y hy
          have d1 := cell_on Kr.below hb e1
          have d2 := cell_on Kr.below hb e2
          have d3 := cell_on Kr.below hb e3
          have hwr := Kr.below.size
          have hbw : b < wr.heap.size := by omega
          have haw : w1.heap.size < wr.heap.size := cell_lt za
          have HS := Lib.hid (show ∀ w', Below wr.heap.size wr w' → w'.cell? ⟨w1.heap.size, 0, none⟩ = some (.slice A1 q c1) ∧ w'.cell? ⟨b, off + j * 3, none⟩ = some (.string y.name) ∧ w'.cell? ⟨b, off + j * 3 + 1, none⟩ = some (.int .i64 y.arity) ∧ w'.cell? ⟨b, off + j * 3 + 2, none⟩ = some (.bool y.pred) from fun w' hb' => ⟨cell_on hb' haw za, cell_on hb' hbw d1, cell_on hb' hbw d2, cell_on hb' hbw d3⟩)
          have hq64 : q ≤ 9223372036854775807 := by omega
          have F := Lib.hid (And.intro (Hnew.out y hym) (And.intro (Hfr.out y hym) (And.intro (Had.out y hym) hyok)))
          clear hy hc e1 e2 e3 hym hyok
          go_wp2
          go_region_held3 (fun w' => w'.cell? ⟨w1.heap.size, 0, none⟩ = some (.slice A1 q c1) ∧ w'.cell? ⟨b, off + j * 3, none⟩ = some (.string y.name) ∧ w'.cell? ⟨b, off + j * 3 + 1, none⟩ = some (.int .i64 y.arity) ∧ w'.cell? ⟨b, off + j * 3 + 2, none⟩ = some (.bool y.pred))
            (first | exact ⟨za, d1, d2, d3⟩ | exact HS.out _ hB6)
            (first | (go_at_call 16; refine (find_at A1 q c1 a y (findN a y) wr.drew (Kr.sy.drewN 1) hq64 F.out.1 rfl).mono ?_; rintro e w6 ⟨rfl, hb6⟩; have hB6 : Below wr.heap.size wr w6 := bl_step (Below.refl _ _).drew hb6))
          obtain ⟨za6, m1, m2, m3⟩ := HS.out _ hB6
          have K6 := Kr.on hB6
          clear za d1 d2 d3 hb6 hwr
          go_upto_region 19 with fail
          go_cut [15, 16] (fun s15 s16 wx => ∃ (bb : Nat) (g : Int), s15 = .pointer (some ⟨bb, 0, none⟩) ∧ s16 = .int .i64 g ∧ freshE a y.name y.arity = g ∧ KW w A k c a q w1.heap.size A1 c1 wx ∧ Sym3 wx bb (freshS a y.name y.arity y.pred))
          case first =>
            have hD : Below w6.heap.size w6 w6.drew := (Below.refl _ _).drew
            have hDZ : Below w6.heap.size w6 (w6.drew.alloc (.cells #[.string ⟨#[]⟩, .int .i64 0, .bool false] 33)) := hD.alloc (Nat.le_refl _) _
            have hZ : Res (w6.drew.alloc (.cells #[.string ⟨#[]⟩, .int .i64 0, .bool false] 33)) w6.heap.size := by constructor <;> go_simp
            have haw6 : w1.heap.size < w6.heap.size := cell_lt za6
            have hbw6 : b < w6.heap.size := cell_lt m1
            have HS6 := Lib.hid (show ∀ w', Below w6.heap.size w6 w' → w'.cell? ⟨w1.heap.size, 0, none⟩ = some (.slice A1 q c1) ∧ w'.cell? ⟨b, off + j * 3, none⟩ = some (.string y.name) ∧ w'.cell? ⟨b, off + j * 3 + 1, none⟩ = some (.int .i64 y.arity) ∧ w'.cell? ⟨b, off + j * 3 + 2, none⟩ = some (.bool y.pred) from fun w' hb' => ⟨cell_on hb' haw6 za6, cell_on hb' hbw6 m1, cell_on hb' hbw6 m2, cell_on hb' hbw6 m3⟩)
            go_region_held3 (fun w' => w'.cell? ⟨w1.heap.size, 0, none⟩ = some (.slice A1 q c1) ∧ w'.cell? ⟨b, off + j * 3, none⟩ = some (.string y.name) ∧ w'.cell? ⟨b, off + j * 3 + 1, none⟩ = some (.int .i64 y.arity) ∧ w'.cell? ⟨b, off + j * 3 + 2, none⟩ = some (.bool y.pred))
              (first | exact ⟨za6, m1, m2, m3⟩ | exact HS6.out _ hB7 | exact HS6.out _ hDZ | exact HS6.out _ (hB7.alloc hB7.size _) | exact HS6.out _ (Below.set3 hB7 (Nat.le_refl _) _ _ _))
              (first
                | (go_at_call 21; refine (freshed A1 q c1 a y _ w6.drew (K6.sy.drewN 1) hq32 hys (tru_below Ht.out (bl_step K6.below hD)) rfl).mono ?_; rintro e w7 ⟨rfl, hb7⟩; have hB7 := bl_step hD hb7)
                | (go_at_call 21; refine (freshed A1 q c1 a y _ (w6.drew.alloc _) (K6.sy.on hDZ) hq32 hys (tru_below Ht.out (bl_step K6.below hDZ)) rfl).mono ?_; rintro e w7 ⟨rfl, hb7⟩; have hB7 := bl_step hDZ hb7; obtain ⟨q0, q1, q2, g0, g1, g2⟩ := hZ.on hb7 (by simp)))
            all_goals (go_wp2_with fail; go_meet)
            · exact ⟨_, _, rfl, rfl, rfl, K6.on (hB7.alloc hB7.size _), Sym3.new _ _⟩
            · exact ⟨_, _, rfl, rfl, rfl, K6.on (Below.set3 hB7 (Nat.le_refl _) _ _ _), Sym3.set ⟨q0, q1, q2, g0, g1, g2⟩ _⟩
          case rest =>
            obtain ⟨bb, g, rfl, rfl, hg, Kx, hs3⟩ := hcut
            obtain ⟨s, hs⟩ : ∃ s, freshS a y.name y.arity y.pred = s := ⟨_, rfl⟩
            have hsok : s.Ok := hs ▸ freshS_ok F.out.2.2.2
            have HA0 := Lib.hid F.out.2.2.1
            have hg2 := F.out.2.1
            rw [hs] at hs3 HA0
            rw [hg] at hg2 HA0
            obtain ⟨p0, p1, p2⟩ := hs3
            have zx := Kx.ca
            have hZc : Below wc.heap.size wc (wc.alloc (.cells #[.string s.name, .int .i64 s.arity, .bool s.pred] 33)) := (Below.refl _ _).alloc (Nat.le_refl _) _
            have Kc := Kx.on hZc
            have hone : Syms (wc.alloc (.cells #[.string s.name, .int .i64 s.arity, .bool s.pred] 33)) (wc.alloc (.cells #[.string s.name, .int .i64 s.arity, .bool s.pred] 33)).heap.size (some ⟨wc.heap.size, 0, none⟩) 1 [s] := by
              have := syms_one wc s hsok 33
              rwa [← World.size_alloc wc (.cells #[.string s.name, .int .i64 s.arity, .bool s.pred] 33)] at this
            clear hs hg HS F hsok m1 m2 m3 za6 hB6 K6
            rcases hg2 with rfl | rfl
            · by_cases h96 : q < 96
              · have HA := Lib.hid (HA0.out rfl h96)
                clear HA0
                go_wp2_with (first
                  | (go_at_call 19
                     refine (Added_any A1 (some ⟨wc.heap.size, 0, none⟩) q 1 c1 1 a [s] (addL a [s]) (q + 1) 0 _ (Kx.sy.on hZc) hone hq32 (by decide) (tru_below Ht.out (bl_step Kx.below hZc)) HA.out.1 rfl HA.out.2).mono ?_
                     rintro e w8 ⟨A8, c8, rfl, hs8, hb8⟩
                     have hZ8 : Below w8.heap.size w8 (w8.alloc (.cells #[.slice A8 (q + 1) c8] 24)) := (Below.refl _ _).alloc (Nat.le_refl _) _
                     have K9 := (Kc.on hb8).on hZ8
                     have z9 := K9.ca)
                  | fail)
                go_roundw
                case rel => exact ⟨j + 1, by omega, by go_num, K9⟩
                case measure => simp [intOf]; omega
              · clear HA0
                go_wp2_with (first
                  | (go_at_call 19
                     refine (Added_any A1 (some ⟨wc.heap.size, 0, none⟩) q 1 c1 1 a [s] (addL a [s]) (addL a [s]).length (addE a [s]) _ (Kx.sy.on hZc) hone hq32 (by decide) (tru_below Ht.out (bl_step Kx.below hZc)) rfl rfl rfl).mono ?_
                     rintro e w8 ⟨A8, c8, rfl, hs8, hb8⟩
                     have hZ8 : Below w8.heap.size w8 (w8.alloc (.cells #[.slice A8 (addL a [s]).length c8] 24)) := (Below.refl _ _).alloc (Nat.le_refl _) _
                     have K9 := (Kc.on hb8).on hZ8
                     have z9 := K9.ca)
                  | fail)
                go_roundw
                case rel => exact ⟨j + 1, by omega, by go_num, K9⟩
                case measure => simp [intOf]; omega
            · clear HA0
              go_wp2_with (first
                | (go_at_call 19
                   refine (Added_any A1 (some ⟨wc.heap.size, 0, none⟩) q 1 c1 1 a [s] (addL a [s]) (addL a [s]).length (addE a [s]) _ (Kx.sy.on hZc) hone hq32 (by decide) (tru_below Ht.out (bl_step Kx.below hZc)) rfl rfl rfl).mono ?_
                   rintro e w8 ⟨A8, c8, rfl, hs8, hb8⟩
                   have hZ8 : Below w8.heap.size w8 (w8.alloc (.cells #[.slice A8 (addL a [s]).length c8] 24)) := (Below.refl _ _).alloc (Nat.le_refl _) _
                   have K9 := (Kc.on hb8).on hZ8
                   have z9 := K9.ca)
                | fail)
              go_roundw
              case rel => exact ⟨j + 1, by omega, by go_num, K9⟩
              case measure => simp [intOf]; omega
        · go_wp2
          go_ret
          exact ⟨rfl, Kr.below⟩
end Go.Proofs.YtmcdnjhdmifpeaaDoor
