import Derived.Test.YthgglobfkkcdgaaGreatDoorP48S22
import Derived.Test.YthgglobfkkcdgaaGreatDoorP48S1
import Derived.Test.YthgglobfkkcdgaaGreatDoorP48S17
import Derived.Laws.EntriesVeiled
import Derived.Shelf.SlSortCmp.Insertion
import Derived.Shelf.SlSortCmp.Whole1
import Derived.Test.YthgglobfkkcdgaaGreatDoorProg
import Derived.Deep.OwnRows
namespace Go.Proofs.YthgglobfkkcdgaaGreatDoor
open Go.RowKit
set_option maxRecDepth 100000
structure SyM (w : World) (B bs : Nat) (l : List Sm) (n : List Int) : Prop where
  bl : bs < w.heap.size
  lo : B ≤ w.heap.size
  len : n.length = l.length
  small : l.length ≤ 1000
  ar : ∀ f, 0 ≤ arP l f ∧ arP l f ≤ 99
  row : ∃ As cs Ac cc, w.cell? ⟨bs, 0, none⟩ = some (.slice As l.length cs) ∧ w.cell? ⟨bs, 1, none⟩ = some (.slice Ac n.length cc) ∧ Syms w B As l.length l ∧ Ints w B Ac n
theorem SyM.on {w w' : World} {B bs r : Nat} {l : List Sm} {n : List Int} (h : SyM w B bs l n) (hg : w.grownBy w' (some r)) (h1 : B ≤ r) (h2 : bs ≠ r) : SyM w' B bs l n := by
  obtain ⟨As, cs, Ac, cc, c0, c1, hS, hI⟩ := h.row
  have hk : ∀ b o, b < w.heap.size → b ≠ r → w'.cell? ⟨b, o, none⟩ = w.cell? ⟨b, o, none⟩ := fun b o hb hne => World.cell?_of_block (hg.block b hb (by simpa using hne))
  have hkB : ∀ p : Addr, p.block < B → w'.cell? p = w.cell? p := fun p hp => World.cell?_of_block (hg.block p.block (by have := h.lo; omega) (by simp; omega))
  exact ⟨by have := hg.size; have := h.bl; omega, by have := hg.size; have := h.lo; omega, h.len, h.small, h.ar, As, cs, Ac, cc, (hk _ _ h.bl h2).trans c0, (hk _ _ h.bl h2).trans c1, hS.keep hkB, hI.keep hkB⟩
theorem SyM.at {w : World} {B bs : Nat} {l : List Sm} {n : List Int} (h : SyM w B bs l n) {x : Nat} (hx : x < l.length) : ∃ As cs Ac cc b off b2 off2, w.cell? ⟨bs, 0, none⟩ = some (.slice As l.length cs) ∧ w.cell? ⟨bs, 1, none⟩ = some (.slice Ac n.length cc) ∧ As = some ⟨b, off, none⟩ ∧ Ac = some ⟨b2, off2, none⟩ ∧
    (∀ y, y < l.length → w.cell? ⟨b, off + y * 3 + 1, none⟩ = some (.int .i64 (arP l y))) ∧ (∀ y, y < l.length → w.cell? ⟨b2, off2 + y, none⟩ = some (.int .i64 (cnP n y))) := by
  obtain ⟨As, cs, Ac, cc, c0, c1, hS, hI⟩ := h.row
  obtain ⟨b, off, hb, hbl, hf⟩ := hS.ad (by omega)
  have hlen := h.len
  obtain ⟨b2, off2, hb2, hbl2, hf2⟩ := hI.ad (by omega)
  refine ⟨As, cs, Ac, cc, b, off, b2, off2, c0, c1, hb, hb2, fun y hy => ?_, fun y hy => ?_⟩
  · have hg : l[y]? = some l[y] := List.getElem?_eq_getElem (by omega)
    rw [(hf y _ hg).2.1]
    unfold arP
    rw [hg]; rfl
  · have hg : n[y]? = some n[y] := List.getElem?_eq_getElem (by omega)
    rw [hf2 y _ hg]
    unfold cnP
    rw [List.getD_eq_getElem?_getD, hg]; rfl
set_option maxHeartbeats 1000000 in
theorem byArity_any {w : World} {B bs : Nat} {l : List Sm} {n : List Int} (h : SyM w B bs l n) {x y : Nat} (hx : x < l.length) (hy : y < l.length) :
    Calls Tryz.prog 58 #[.int .i64 (x : Int), .int .i64 (y : Int), .pointer (some ⟨bs, 0, none⟩)] w fun e w' => e = .returned (.int .i64 (numI (arP l x) (arP l y))) ∧ On w w' := by
  obtain ⟨As, cs, Ac, cc, b, off, b2, off2, c0, c1, rfl, rfl, e1, e2⟩ := h.at hx
  have ex := e1 x hx
  have ey := e1 y hy
  have hs := h.small
  have hx' : (x : Int) < (l.length : Int) := by omega
  have hy' : (y : Int) < (l.length : Int) := by omega
  have H := Lib.hid fun z : LatD w => (cmpN_any (arP l x) (arP l y) z.w).mono fun e w' (h : _ ∧ z.w = w') => (⟨h.1, by rw [← h.2]; exact On.refl _⟩ : e = .returned (.int .i64 (numI (arP l x) (arP l y))) ∧ On z.w w')
  have m0 : ∀ z : LatD w, z.w.cell? ⟨bs, 0, none⟩ = some (.slice (some ⟨b, off, none⟩) l.length cs) := fun z => z.cell c0
  have m1 : ∀ z : LatD w, z.w.cell? ⟨b, off + x * 3 + 1, none⟩ = some (.int .i64 (arP l x)) := fun z => z.cell ex
  have m2 : ∀ z : LatD w, z.w.cell? ⟨b, off + y * 3 + 1, none⟩ = some (.int .i64 (arP l y)) := fun z => z.cell ey
  clear e1 e2 c0 c1 h ex ey
  go_enter Tryz.func58, Tryz.ntmps58
  go_upto_region 1 with fail
  refine wp_region_latD w (by kernel_rfl) (by kernel_rfl) (On.refl _).drew ?_
  repeat (go_big_quiet_step (first
    | (with_reducible refine calls_latD _ (H.out _))
    | fail))
  refine wpQuiet_nil ?_
  rintro _ ⟨z, rfl⟩
  clear m0 m1 m2
  go_wp2
  go_ret
  exact ⟨rfl, z.h⟩
end Go.Proofs.YthgglobfkkcdgaaGreatDoor
namespace Go.Proofs.YthgglobfkkcdgaaGreatDoor
open Go.RowKit
set_option maxRecDepth 100000
set_option maxHeartbeats 1000000 in
theorem byOften_any {w : World} {B bs : Nat} {l : List Sm} {n : List Int} (h : SyM w B bs l n) {x y : Nat} (hx : x < l.length) (hy : y < l.length) :
    Calls Tryz.prog 60 #[.int .i64 (x : Int), .int .i64 (y : Int), .pointer (some ⟨bs, 0, none⟩)] w fun e w' => e = .returned (.int .i64 (numI (cnP n x) (cnP n y))) ∧ On w w' := by
  obtain ⟨As, cs, Ac, cc, b, off, b2, off2, c0, c1, rfl, rfl, e1, e2⟩ := h.at hx
  have ex := e2 x hx
  have ey := e2 y hy
  have hs := h.small
  have hl := h.len
  have hx' : (x : Int) < (n.length : Int) := by omega
  have hy' : (y : Int) < (n.length : Int) := by omega
  have H := Lib.hid fun z : LatD w => (cmpN_any (cnP n x) (cnP n y) z.w).mono fun e w' (h : _ ∧ z.w = w') => (⟨h.1, by rw [← h.2]; exact On.refl _⟩ : e = .returned (.int .i64 (numI (cnP n x) (cnP n y))) ∧ On z.w w')
  have m0 : ∀ z : LatD w, z.w.cell? ⟨bs, 1, none⟩ = some (.slice (some ⟨b2, off2, none⟩) n.length cc) := fun z => z.cell c1
  have m1 : ∀ z : LatD w, z.w.cell? ⟨b2, off2 + x, none⟩ = some (.int .i64 (cnP n x)) := fun z => z.cell ex
  have m2 : ∀ z : LatD w, z.w.cell? ⟨b2, off2 + y, none⟩ = some (.int .i64 (cnP n y)) := fun z => z.cell ey
  clear e1 e2 c0 c1 h ex ey
  go_enter Tryz.func60, Tryz.ntmps60
  go_upto_region 1 with fail
  refine wp_region_latD w (by kernel_rfl) (by kernel_rfl) (On.refl _).drew ?_
  repeat (go_big_quiet_step (first
    | (with_reducible refine calls_latD _ (H.out _))
    | fail))
  refine wpQuiet_nil ?_
  rintro _ ⟨z, rfl⟩
  clear m0 m1 m2
  go_wp2
  go_ret
  exact ⟨rfl, z.h⟩
set_option maxHeartbeats 1000000 in
theorem unary_any {w : World} {B : Nat} {l : List Sm} {As Ac : Option Addr} {cs m cc x : Nat} (hB : B ≤ w.heap.size) (hS : Syms w B As l.length l) (hs : l.length ≤ 1000) (hx : x < l.length) :
    Calls Tryz.prog 36 #[.agg #[.slice As l.length cs, .slice Ac m cc], .int .i64 (x : Int)] w fun e w' => e = .returned (.int .i64 (unI (arP l x))) ∧ On w w' := by
  obtain ⟨b, off, rfl, hb, hf⟩ := hS.ad (by omega)
  have hg : l[x]? = some l[x] := List.getElem?_eq_getElem hx
  have e1 := (hf x _ hg).2.1
  have ha : l[x].arity = arP l x := by unfold arP; rw [hg]; rfl
  rw [ha] at e1
  have hx' : (x : Int) < (l.length : Int) := by omega
  have e2 : ∀ o, (w.alloc o).cell? ⟨b, off + x * 3 + 1, none⟩ = some (.int .i64 (arP l x)) := fun o => (World.cell?_of_block (Below.heap_alloc w o b (by omega))).trans e1
  clear hf hg ha hS e1
  unfold unI
  by_cases h1 : arP l x = 1
  · rw [if_pos h1]
    rw [h1] at e2
    clear h1
    go_enter Tryz.func36, Tryz.ntmps36
    go_wp2
    go_ret
    exact ⟨rfl, by repeat first | exact On.refl _ | refine On.alloc ?_ _ | refine On.drew ?_⟩
  · rw [if_neg h1]
    go_enter Tryz.func36, Tryz.ntmps36
    go_wp2
    go_ret
    exact ⟨rfl, by repeat first | exact On.refl _ | refine On.alloc ?_ _ | refine On.drew ?_⟩
set_option maxHeartbeats 1000000 in
theorem byUnary_any {w : World} {B bs : Nat} {l : List Sm} {n : List Int} (h : SyM w B bs l n) {x y : Nat} (hx : x < l.length) (hy : y < l.length) :
    Calls Tryz.prog 59 #[.int .i64 (x : Int), .int .i64 (y : Int), .pointer (some ⟨bs, 0, none⟩)] w fun e w' => e = .returned (.int .i64 (numI (unI (arP l x)) (unI (arP l y)))) ∧ On w w' := by
  obtain ⟨As, cs, Ac, cc, c0, c1, hS, hI⟩ := h.row
  have hs := h.small
  have H := Lib.hid fun z : LatD w => (cmpN_any (unI (arP l x)) (unI (arP l y)) z.w).mono fun e w' (h : _ ∧ z.w = w') => (⟨h.1, by rw [← h.2]; exact On.refl _⟩ : e = .returned (.int .i64 (numI (unI (arP l x)) (unI (arP l y)))) ∧ On z.w w')
  have HU := Lib.hid fun (z : LatD w) (t : Nat) (ht : t < l.length) => unary_any (w := z.w) (B := B) (As := As) (Ac := Ac) (cs := cs) (m := n.length) (cc := cc) (Nat.le_trans h.lo z.h.b.size) (hS.keep fun p hp => World.cell?_of_block (z.h.b.block p.block (Nat.lt_of_lt_of_le hp h.lo))) h.small ht
  have HX := Lib.hid hx
  have HY := Lib.hid hy
  have m0 : ∀ z : LatD w, z.w.cell? ⟨bs, 0, none⟩ = some (.slice As l.length cs) := fun z => z.cell c0
  have m1 : ∀ z : LatD w, z.w.cell? ⟨bs, 1, none⟩ = some (.slice Ac n.length cc) := fun z => z.cell c1
  clear c0 c1 h hS hI hx hy
  go_enter Tryz.func59, Tryz.ntmps59
  go_upto_region 1 with fail
  refine wp_region_latD w (by kernel_rfl) (by kernel_rfl) (On.refl _).drew ?_
  repeat (go_big_quiet_step (first
    | (with_reducible refine calls_latD _ (H.out _))
    | (with_reducible refine calls_latD _ (HU.out _ x HX.out))
    | (with_reducible refine calls_latD _ (HU.out _ y HY.out))
    | fail))
  refine wpQuiet_nil ?_
  rintro _ ⟨z, rfl⟩
  clear m0 m1
  go_wp2
  go_ret
  exact ⟨rfl, z.h⟩
set_option maxHeartbeats 1000000 in
theorem bySeldom_any {w : World} {B bs bo : Nat} {l : List Sm} {n : List Int} (h : SyM w B bs l n) (ho : w.cell? ⟨bo, 0, none⟩ = some (.func (.func 60) #[] #[.pointer (some ⟨bs, 0, none⟩)])) {x y : Nat} (hx : x < l.length) (hy : y < l.length) :
    Calls Tryz.prog 61 #[.int .i64 (x : Int), .int .i64 (y : Int), .pointer (some ⟨bo, 0, none⟩)] w fun e w' => e = .returned (.int .i64 (numI (cnP n y) (cnP n x))) ∧ On w w' := by
  have H := Lib.hid (byOften_any h hy hx)
  clear h hx hy
  go_enter Tryz.func61, Tryz.ntmps61
  go_wp2_with (first
    | ((with_reducible refine H.out.mono ?_); go_must (rintro e w1 ⟨rfl, hb1⟩))
    | fail)
  go_ret
  exact ⟨rfl, hb1⟩
set_option maxHeartbeats 1000000 in
theorem or_any (xs : List Int) (A : Option Addr) (c : Nat) (w : World) (hA : Ints w w.heap.size A xs) :
    Calls Tryz.prog 99 #[.slice A xs.length c] w fun e w' => e = .returned (.int .i64 (orI xs)) ∧ On w w' := by
  have hlen := hA.len
  have HA := Lib.hid hA
  clear hA
  go_enter Tryz.func99, Tryz.ntmps99
  go_wp2
  go_loopw [8] (fun i wr => ∃ k q : Nat, k ≤ xs.length ∧ i = .int .i64 (k : Int) ∧ wr = w.drewN q ∧ Hid (orI xs = orI (xs.drop k))) (fun i _ => xs.length - (intOf i).toNat)
  case atStart => exact ⟨0, 0, Nat.zero_le _, rfl, rfl, by simp [Hid]⟩
  case round =>
    obtain ⟨k, q, hk, rfl, rfl, HB⟩ := hrel
    by_cases hlt : k < xs.length
    · obtain ⟨x, hx⟩ : ∃ x, xs[k]? = some x := ⟨_, List.getElem?_eq_getElem hlt⟩
      obtain ⟨b, off, rfl, _, hc⟩ := HA.out.ad (by omega)
      have hck := hc k x hx
      have hd : Hid (xs.drop k = x :: xs.drop (k + 1)) := Lib.hid (by rw [List.drop_eq_getElem_cons hlt]; rw [List.getElem?_eq_getElem hlt] at hx; rw [Option.some.inj hx])
      clear hc hx
      by_cases h0 : x = 0
      · subst h0
        go_wp2
        go_roundw
        case rel => exact ⟨k + 1, _, by omega, by go_num, rfl, Lib.hid (by rw [HB.out, hd.out, orI]; simp)⟩
        case measure => simp [intOf]; omega
      · have hfin := Lib.hid (show orI xs = x by rw [HB.out, hd.out, orI, if_pos h0])
        go_wp2
        go_ret
        exact ⟨ret_int hfin.out.symm, ⟨bl_drewN (Below.refl _ _) _, Nat.le_add_right _ _⟩⟩
    · obtain rfl : k = xs.length := by omega
      have hfin := Lib.hid (show orI xs = 0 by rw [HB.out, List.drop_length]; rfl)
      go_wp2
      go_ret
      exact ⟨ret_int hfin.out.symm, ⟨bl_drewN (Below.refl _ _) _, Nat.le_add_right _ _⟩⟩
end Go.Proofs.YthgglobfkkcdgaaGreatDoor
namespace Go.Proofs.YthgglobfkkcdgaaGreatDoor
open Go.RowKit
set_option maxRecDepth 100000
theorem infoI : (Tryz.prog.info? 3).map (fun i => (i.zero, i.size, i.bytes)) = some (some (.int .i64 0), 1, 8) := by kernel_rfl
def FnC (r : Nat → Nat → Int) (M : Nat) (P : World → Prop) (v : Value) : Prop := (∀ x y, I64 (r x y)) ∧ ∃ k cv, v = .func (.func k) #[] cv ∧ (∀ (args : Array Value) (w : World), (callFunc k args).run Tryz.prog w = .ok (.enter k args) w) ∧
  ∀ w, P w → ∀ x y : Nat, x < M → y < M → Calls Tryz.prog k (#[.int .i64 (x : Int), .int .i64 (y : Int)] ++ cv) w fun e w' => e = .returned (.int .i64 (r x y)) ∧ On w w'
theorem orI_i64 : ∀ {l : List Int}, (∀ x ∈ l, I64 x) → I64 (orI l)
  | [], _ => ⟨by simp [orI], by simp [orI]⟩
  | x :: l, h => by
    rw [orI]; split
    · exact h x List.mem_cons_self
    · exact orI_i64 fun y hy => h y (List.mem_cons_of_mem _ hy)
set_option maxHeartbeats 2000000 in
theorem chain1_any {P : World → Prop} (hP : ∀ a b, P a → On a b → P b) {M bt bf off c : Nat} {rs : List (Nat → Nat → Int)} {vs : List Value}
    (hrow : ∀ a, P a → a.cell? ⟨bt, 0, none⟩ = some (.slice (some ⟨bf, off, none⟩) rs.length c) ∧ ∀ (i : Nat) v, vs[i]? = some v → a.cell? ⟨bf, off + i, none⟩ = some v)
    (hv : vs.length = rs.length) (hf : ∀ (i : Nat) r v, rs[i]? = some r → vs[i]? = some v → FnC r M P v) (h3 : rs.length ≤ 3) {x y : Nat} (hx : x < M) (hy : y < M) {w : World} (hw : P w) :
    Calls Tryz.prog 98 #[.int .i64 (x : Int), .int .i64 (y : Int), .pointer (some ⟨bt, 0, none⟩)] w fun e w' => e = .returned (.int .i64 (orI (rs.map fun r => r x y))) ∧ On w w' := by
  obtain ⟨i0, hi, hz0, hz1, hz2⟩ := info_parts infoI
  have c0 := (hrow w hw).1
  have HR := Lib.hid hrow
  have HP := Lib.hid hP
  have HF := Lib.hid hf
  have HW := Lib.hid hw
  have HX := Lib.hid (show x < M ∧ y < M from ⟨hx, hy⟩)
  clear hrow hP hf hw hx hy
  go_enter Tryz.func98, Tryz.ntmps98
  go_wp2
  clear c0
  go_loopw [6, 11] (fun s6 i wr => ∃ k : Nat, k ≤ rs.length ∧ i = .int .i64 (k : Int) ∧ Hid (On w wr) ∧ Hid (wr.ownsRow w.heap.size 3 1 s6 k ((rs.take k).map fun r => Value.int .i64 (r x y)))) (fun _ i _ => rs.length - (intOf i).toNat)
  case atStart => exact ⟨0, Nat.zero_le _, rfl, On.refl _, Lib.hid (by simpa using World.ownsRow_nil w w.heap.size 3 1)⟩
  case round =>
    obtain ⟨k, hk, rfl, HO, HB⟩ := hrel
    by_cases hlt : k < rs.length
    · obtain ⟨r, hr⟩ : ∃ r, rs[k]? = some r := ⟨_, List.getElem?_eq_getElem hlt⟩
      obtain ⟨v, hvk⟩ : ∃ v, vs[k]? = some v := ⟨_, List.getElem?_eq_getElem (by omega)⟩
      obtain ⟨hi64, kf, cv, rfl, hent, hcall⟩ := HF.out k r v hr hvk
      have hPr := HP.out _ _ HW.out HO.out
      have HQ := Lib.hid (hcall wr hPr x y HX.out.1 HX.out.2)
      have hck := (HR.out wr hPr).2 k _ hvk
      have htk : Hid (rs.take (k + 1) = rs.take k ++ [r]) := Lib.hid (by rw [List.take_add_one, hr]; rfl)
      have H64 := Lib.hid hi64
      clear hr hvk hcall hPr hi64
      go_wp2_with (first
        | ((with_reducible refine HQ.out.mono ?_); go_must (rintro e w1 ⟨rfl, hb1⟩))
        | (at_builtin
           go_must (
           refine wpList_append_d rfl _ _ 36 rfl w.heap.size 3 i0 (.int .i64 0) 1 8 Tryz.underlying36 hi hz0 hz1 hz2 rfl (by decide) _ k _ rfl (row_keep HB.out fun g e => (Below.heap_alloc w1 _ g (Nat.lt_of_lt_of_le (row_lt HB.out g e).2 hb1.b.size)).trans (hb1.b.block g (row_lt HB.out g e).2)) ⟨w1.heap.size, 0, none⟩ 1 1 [.int .i64 (r x y)] rfl rfl (cell_one_new _ _ _) (by simp [Value.oneCell']) (by unfold maxLen; omega) (by omega) (by have := HO.out.b.size; have := hb1.b.size; simp; omega) (by omega) ?_
           intro v2 w2 hown2 hgr2 _ hd2
           have HO2 : Hid (On w w2) := Lib.hid ⟨((HO.out.b.trans (hb1.b.mono HO.out.b.size)).alloc (Nat.le_trans HO.out.b.size hb1.b.size) _).grown hgr2 (by have := HO.out.b.size; have := hb1.b.size; simp; omega) fun g hg => (row_lt HB.out g hg).1, Nat.le_trans HO.out.d (Nat.le_trans hb1.d hd2)⟩
           have Hown2 := Lib.hid hown2
           clear hgr2 hown2 hd2))
        | fail)
      go_roundw
      case rel => exact ⟨k + 1, by omega, by go_num, HO2, by rw [htk.out]; simpa using Hown2⟩
      case measure => simp [intOf]; omega
    · obtain rfl : k = rs.length := by omega
      have hmap : (rs.take rs.length).map (fun r => Value.int .i64 (r x y)) = (rs.map fun r => r x y).map (Value.int .i64) := by rw [List.take_length, List.map_map]; rfl
      have hall : ∀ z ∈ rs.map (fun r => r x y), I64 z := by
        intro z hz
        obtain ⟨r, hr, rfl⟩ := List.mem_map.1 hz
        obtain ⟨i, hi, he⟩ := List.getElem_of_mem hr
        exact (HF.out i r vs[i] (by rw [List.getElem?_eq_getElem hi, he]) (List.getElem?_eq_getElem (by omega))).1 x y
      obtain ⟨A, cc, rfl, hI⟩ := row_ints (l := rs.map fun r => r x y) (by rw [← hmap]; simpa using HB.out) (by simp; omega) hall
      have hO := or_any _ A cc wr hI
      rw [List.length_map] at hO ⊢
      have HQ := Lib.hid hO
      clear hO hI hall hmap
      go_wp2_with (first
        | ((with_reducible refine HQ.out.mono ?_); go_must (rintro e w1 ⟨rfl, hb1⟩))
        | fail)
      go_ret
      exact ⟨rfl, HO.out.trans hb1⟩
end Go.Proofs.YthgglobfkkcdgaaGreatDoor
namespace Go.Proofs.YthgglobfkkcdgaaGreatDoor
open Go Go.RowKit
set_option maxRecDepth 100000
def numV : Value := .func (.func 57) #[] #[]
def arV (bs : Nat) : Value := .func (.func 58) #[] #[.pointer (some ⟨bs, 0, none⟩)]
def unV (bs : Nat) : Value := .func (.func 59) #[] #[.pointer (some ⟨bs, 0, none⟩)]
def ofV (bs : Nat) : Value := .func (.func 60) #[] #[.pointer (some ⟨bs, 0, none⟩)]
def seV (bo : Nat) : Value := .func (.func 61) #[] #[.pointer (some ⟨bo, 0, none⟩)]
def ChP (n0 : Nat) (vs : List Value) (v : Value) (w : World) : Prop := ∃ bt bf, v = .func (.func 98) #[] #[.pointer (some ⟨bt, 0, none⟩)] ∧ n0 ≤ bt ∧ n0 ≤ bf ∧ w.heap[bt]? = some (.cells #[.slice (some ⟨bf, 0, none⟩) vs.length vs.length] 119) ∧ w.heap[bf]? = some (.cells vs.toArray 82)
theorem blk_st {w w' : World} (hb : Below w.heap.size w w') {b : Nat} {o : Obj} (h : w.heap[b]? = some o) : w'.heap[b]? = some o := (hb.block b (Array.getElem?_eq_some_iff.1 h).1).trans h
theorem ChP.st {n0 : Nat} {vs : List Value} {v : Value} {w w' : World} (h : ChP n0 vs v w) (hb : Below w.heap.size w w') : ChP n0 vs v w' := by
  obtain ⟨bt, bf, e, h1, h2, h3, h4⟩ := h
  exact ⟨bt, bf, e, h1, h2, blk_st hb h3, blk_st hb h4⟩
def ValP (n0 bs bo : Nat) (i : Nat) (v : Value) (w : World) : Prop :=
  if i = 0 then v = numV else if i = 1 then ChP n0 [arV bs, numV] v w else if i = 2 then ChP n0 [unV bs, arV bs, numV] v w else if i = 3 then ChP n0 [ofV bs, numV] v w else ChP n0 [seV bo, numV] v w
theorem ValP.st {n0 bs bo i : Nat} {v : Value} {w w' : World} (h : ValP n0 bs bo i v w) (hb : Below w.heap.size w w') : ValP n0 bs bo i v w' := by
  unfold ValP at *
  split
  · rename_i h0; rw [if_pos h0] at h; exact h
  · rename_i h0; rw [if_neg h0] at h; split
    · rename_i h1; rw [if_pos h1] at h; exact h.st hb
    · rename_i h1; rw [if_neg h1] at h; split
      · rename_i h2; rw [if_pos h2] at h; exact h.st hb
      · rename_i h2; rw [if_neg h2] at h; split
        · rename_i h3; rw [if_pos h3] at h; exact h.st hb
        · rename_i h3; rw [if_neg h3] at h; exact h.st hb
def vaF (n0 bs bo i : Nat) : Fct := ⟨fun v w => ValP n0 bs bo i v w, fun h hb => h.st hb⟩
def bsF (n0 : Nat) (vs : List Value) : Fct := ⟨fun v w => ∃ b, v = .slice (some ⟨b, 0, none⟩) vs.length vs.length ∧ n0 ≤ b ∧ w.heap[b]? = some (.cells vs.toArray 82), fun ⟨b, e, h1, h2⟩ hb => ⟨b, e, h1, blk_st hb h2⟩⟩
def RowP (n0 bs bo : Nat) (b : Nat) (w : World) : Prop := ∃ f0 f1 f2 f3 f4, w.heap[b]? = some (.cells #[f0, f1, f2, f3, f4] 82) ∧ ValP n0 bs bo 0 f0 w ∧ ValP n0 bs bo 1 f1 w ∧ ValP n0 bs bo 2 f2 w ∧ ValP n0 bs bo 3 f3 w ∧ ValP n0 bs bo 4 f4 w
theorem RowP.st {n0 bs bo b : Nat} {w w' : World} (h : RowP n0 bs bo b w) (hb : Below w.heap.size w w') : RowP n0 bs bo b w' := by
  obtain ⟨f0, f1, f2, f3, f4, h, h0, h1, h2, h3, h4⟩ := h
  exact ⟨f0, f1, f2, f3, f4, blk_st hb h, h0.st hb, h1.st hb, h2.st hb, h3.st hb, h4.st hb⟩
def roF (n0 bs bo : Nat) : Fct := ⟨fun v w => ∃ b, v = .slice (some ⟨b, 0, none⟩) 5 5 ∧ RowP n0 bs bo b w, fun ⟨b, e, h⟩ hb => ⟨b, e, h.st hb⟩⟩
def plF (n0 bs bo i : Nat) : Fct := ⟨fun v w => ∃ b, v = .pointer (some ⟨b, i, none⟩) ∧ RowP n0 bs bo b w, fun ⟨b, e, h⟩ hb => ⟨b, e, h.st hb⟩⟩
set_option maxHeartbeats 1000000 in
theorem chain_any (A : Option Addr) (n c : Nat) (w : World) : Calls Tryz.prog 62 #[.slice A n c] w fun e w' => e = .returned (.func (.func 98) #[] #[.pointer (some ⟨w.heap.size, 0, none⟩)]) ∧ w' = w.alloc (.cells #[.slice A n c] 119) := by
  go_enter Tryz.func62, Tryz.ntmps62
  go_wp2
  go_ret
  exact ⟨rfl, rfl⟩
section
variable {Fs : List Fct} {a0 : Act} {W : World} {dst : Option Tmp} {ty : TypeId} {pos : String} {after : Array Edge}
theorem pk_get {a : Act} {s : Nat} {v : Value} (h : a.eval (.tmp s) = v) : a.tmps[s]?.getD undef = v := by rw [← h]; simp [Act.eval]
theorem pk_none : ∀ j want, (none : Option (Nat × Bool)) = some (j, want) → ∀ v w, (Fs.getD j Fct.any).p v w → v = .bool want := by intro _ _ h; cases h
theorem pk_move {s : Nat} {v : Value} (hs : a0.eval (.tmp s) = v) : stepF Tryz.prog Fs a0 W ⟨dst, .move (.tmp s), ty, pos, after, none⟩ [(s, none)] (Fct.eq v) := by
  refine .inl ⟨pk_none, fun a w hb hl => ?_⟩
  have h1 := pk_get (hl.1.trans hs)
  simp [go_sem, leaves, h1]
  exact ⟨Below.refl _ _, rfl⟩
theorem pk_load {s b : Nat} {v : Value} {t t' : TypeId} (hs : a0.eval (.tmp s) = .pointer (some ⟨b, 0, none⟩)) (hW : W.heap[b]? = some (.cells #[v] t')) (ht : ∀ w, (isAgg t).run Tryz.prog w = .ok false w) : stepF Tryz.prog Fs a0 W ⟨dst, .load t (.tmp s), ty, pos, after, none⟩ [(s, none)] (Fct.eq v) := by
  refine .inl ⟨pk_none, fun a w hb hl => ?_⟩
  have h1 := pk_get (hl.1.trans hs)
  have c0 := (cells_one (blk_st hb hW)).1
  simp [go_sem, leaves, h1, c0, ht]
  exact ⟨Below.refl _ _, rfl⟩
theorem pk_bs2 {n0 s s' j j' k k' : Nat} {cv cv' : Array Value} (hn : n0 ≤ W.heap.size) (hF : Fs.getD j Fct.any = Fct.eq (.func (.func k) #[] cv)) (hF' : Fs.getD j' Fct.any = Fct.eq (.func (.func k') #[] cv')) :
    stepF Tryz.prog Fs a0 W ⟨dst, .buildSlice 119 2 #[(0, .tmp s), (1, .tmp s')], ty, pos, after, none⟩ [(s, some j), (s', some j')] (bsF n0 [.func (.func k) #[] cv, .func (.func k') #[] cv']) := by
  refine .inl ⟨pk_none, fun a w hb hl => ?_⟩
  have h0 := hl.1
  have h0' := hl.2.1
  rw [hF] at h0
  rw [hF'] at h0'
  have h1 := pk_get h0
  have h2 := pk_get h0'
  simp [go_sem, leaves, h1, h2]
  exact ⟨(Below.refl _ _).alloc (Nat.le_refl _) _, _, rfl, Nat.le_trans hn hb.size, heap_alloc_new w _⟩
theorem pk_bs3 {n0 s s' s'' j j' j'' k k' k'' : Nat} {cv cv' cv'' : Array Value} (hn : n0 ≤ W.heap.size) (hF : Fs.getD j Fct.any = Fct.eq (.func (.func k) #[] cv)) (hF' : Fs.getD j' Fct.any = Fct.eq (.func (.func k') #[] cv')) (hF'' : Fs.getD j'' Fct.any = Fct.eq (.func (.func k'') #[] cv'')) :
    stepF Tryz.prog Fs a0 W ⟨dst, .buildSlice 119 3 #[(0, .tmp s), (1, .tmp s'), (2, .tmp s'')], ty, pos, after, none⟩ [(s, some j), (s', some j'), (s'', some j'')] (bsF n0 [.func (.func k) #[] cv, .func (.func k') #[] cv', .func (.func k'') #[] cv'']) := by
  refine .inl ⟨pk_none, fun a w hb hl => ?_⟩
  have h0 := hl.1
  have h0' := hl.2.1
  have h0'' := hl.2.2.1
  rw [hF] at h0
  rw [hF'] at h0'
  rw [hF''] at h0''
  have h1 := pk_get h0
  have h2 := pk_get h0'
  have h3 := pk_get h0''
  simp [go_sem, leaves, h1, h2, h3]
  exact ⟨(Below.refl _ _).alloc (Nat.le_refl _) _, _, rfl, Nat.le_trans hn hb.size, heap_alloc_new w _⟩
theorem pk_chain {n0 bs bo s j i : Nat} {vs : List Value} (hn : n0 ≤ W.heap.size) (hF : Fs.getD j Fct.any = bsF n0 vs) (hi : ∀ v w, ChP n0 vs v w → ValP n0 bs bo i v w) :
    stepF Tryz.prog Fs a0 W ⟨dst, .call ⟨.value (.func 62), #[.tmp s], #[119]⟩, ty, pos, after, none⟩ [(s, some j)] (vaF n0 bs bo i) := by
  refine .inl ⟨pk_none, fun a w hb hl => ?_⟩
  have h0 := hl.1
  rw [hF] at h0
  obtain ⟨b, hv, hb1, hb2⟩ := h0
  have h1 := pk_get hv
  simp [go_sem, leaves, h1]
  refine (chain_any _ _ _ w).mono fun e w' h => ?_
  obtain ⟨he, rfl⟩ := h
  have hbl : Below w.heap.size w (w.alloc (.cells #[.slice (some ⟨b, 0, none⟩) vs.length vs.length] 119)) := (Below.refl _ _).alloc (Nat.le_refl _) _
  exact ⟨_, he, hbl, hi _ _ ⟨_, b, rfl, Nat.le_trans hn hb.size, hb1, heap_alloc_new w _, blk_st hbl hb2⟩⟩
end
end Go.Proofs.YthgglobfkkcdgaaGreatDoor
namespace Go.Proofs.YthgglobfkkcdgaaGreatDoor
open Go Go.RowKit
set_option maxRecDepth 100000
theorem finF_lastP {P : Program} {Q : Act → World → Prop} {w : World} {d : Nat} {p0 : Fct} : ∀ (l : List Oper) (pl : List Fct) (a : Act), l.length = pl.length → d < a.tmps.size → (∃ o, l.getLast? = some o ∧ o.dst = some d) → pl.getLast? = some p0 → (∀ a' : Act, a'.defers = a.defers → a'.tmps.size = a.tmps.size → p0.p (a'.eval (.tmp d)) w → Q a' w) → finF Q w l pl a
  | [], _, _, _, _, ⟨_, h, _⟩, _, _ => by simp at h
  | _ :: _, [], _, h, _, _, _, _ => by simp at h
  | [o], [p], a, _, hd, ⟨o', h1, h2⟩, h3, h => by
    simp at h1 h3
    subst h1 h3
    unfold finF
    rw [h2]
    intro u hu
    unfold finF
    exact h _ rfl (by simp [Act.put]) (by simpa [Act.put, Act.eval, hd] using hu)
  | [o], _ :: _ :: _, a, h0, _, _, _, _ => by simp at h0
  | _ :: _ :: _, [_], a, h0, _, _, _, _ => by simp at h0
  | o :: o2 :: l, p :: p2 :: pl, a, h0, hd, h1, h3, h => by
    have hg : ∀ a' : Act, a'.defers = a.defers → a'.tmps.size = a.tmps.size → finF Q w (o2 :: l) (p2 :: pl) a' := fun a' e1 e2 =>
      finF_lastP (P := P) (o2 :: l) (p2 :: pl) a' (by simpa using h0) (by rw [e2]; exact hd) (by simpa using h1) (by simpa using h3) fun a2 e3 e4 => h a2 (e3.trans e1) (e4.trans e2)
    unfold finF
    cases o.dst with
    | none => exact hg a rfl rfl
    | some d' => intro u _; exact hg _ rfl (by simp [Act.put])
theorem ValP.cells {n0 bs bo i : Nat} {v : Value} {w : World} (h : ValP n0 bs bo i v w) : ∃ k cv, v = .func (.func k) #[] cv := by
  have hc : ∀ {vs : List Value}, ChP n0 vs v w → ∃ k cv, v = .func (.func k) #[] cv := fun ⟨_, _, e, _⟩ => ⟨_, _, e⟩
  unfold ValP at h
  split at h
  · exact ⟨_, _, h⟩
  · split at h
    · exact hc h
    · split at h
      · exact hc h
      · split at h
        · exact hc h
        · exact hc h
section
variable {Fs : List Fct} {a0 : Act} {W : World} {dst : Option Tmp} {ty : TypeId} {pos : String} {after : Array Edge}
set_option maxHeartbeats 1000000 in
theorem pk_bs5 {n0 bs bo s0 s1 s2 s3 s4 j0 j1 j2 j3 j4 : Nat} (hF0 : Fs.getD j0 Fct.any = Fct.eq numV) (hF1 : Fs.getD j1 Fct.any = vaF n0 bs bo 1) (hF2 : Fs.getD j2 Fct.any = vaF n0 bs bo 2) (hF3 : Fs.getD j3 Fct.any = vaF n0 bs bo 3) (hF4 : Fs.getD j4 Fct.any = vaF n0 bs bo 4) :
    stepF Tryz.prog Fs a0 W ⟨dst, .buildSlice 119 5 #[(0, .tmp s0), (1, .tmp s1), (2, .tmp s2), (3, .tmp s3), (4, .tmp s4)], ty, pos, after, none⟩ [(s0, some j0), (s1, some j1), (s2, some j2), (s3, some j3), (s4, some j4)] (roF n0 bs bo) := by
  refine .inl ⟨pk_none, fun a w hb hl => ?_⟩
  obtain ⟨h0, h1, h2, h3, h4, _⟩ := hl
  rw [hF0] at h0
  rw [hF1] at h1
  rw [hF2] at h2
  rw [hF3] at h3
  rw [hF4] at h4
  have h0 : a.eval (.tmp s0) = numV := h0
  have h1 : ValP n0 bs bo 1 (a.eval (.tmp s1)) w := h1
  have h2 : ValP n0 bs bo 2 (a.eval (.tmp s2)) w := h2
  have h3 : ValP n0 bs bo 3 (a.eval (.tmp s3)) w := h3
  have h4 : ValP n0 bs bo 4 (a.eval (.tmp s4)) w := h4
  obtain ⟨k1, v1, e1⟩ := h1.cells
  obtain ⟨k2, v2, e2⟩ := h2.cells
  obtain ⟨k3, v3, e3⟩ := h3.cells
  obtain ⟨k4, v4, e4⟩ := h4.cells
  rw [e1] at h1
  rw [e2] at h2
  rw [e3] at h3
  rw [e4] at h4
  have g0 := pk_get (h0.trans (show numV = .func (.func 57) #[] #[] from rfl))
  have g1 := pk_get e1
  have g2 := pk_get e2
  have g3 := pk_get e3
  have g4 := pk_get e4
  simp [go_sem, leaves, g0, g1, g2, g3, g4]
  have hbl : Below w.heap.size w (w.alloc (.cells #[.func (.func 57) #[] #[], .func (.func k1) #[] v1, .func (.func k2) #[] v2, .func (.func k3) #[] v3, .func (.func k4) #[] v4] 82)) := (Below.refl _ _).alloc (Nat.le_refl _) _
  exact ⟨hbl, _, rfl, _, _, _, _, _, heap_alloc_new w _, rfl, h1.st hbl, h2.st hbl, h3.st hbl, h4.st hbl⟩
theorem pk_index {n0 bs bo s s' j j' i : Nat} (hi : i ≤ 4) (hF : Fs.getD j Fct.any = roF n0 bs bo) (hF' : Fs.getD j' Fct.any = Fct.eq (.int .i64 (i : Int))) :
    stepF Tryz.prog Fs a0 W ⟨dst, .indexAddr 119 (.tmp s) (.tmp s'), ty, pos, after, none⟩ [(s, some j), (s', some j')] (plF n0 bs bo i) := by
  refine .inl ⟨pk_none, fun a w hb hl => ?_⟩
  obtain ⟨h0, h1, _⟩ := hl
  rw [hF] at h0
  rw [hF'] at h1
  obtain ⟨b, hv, hr⟩ := h0
  have g0 := pk_get hv
  have g1 := pk_get (show a.eval (.tmp s') = .int .i64 (i : Int) from h1)
  have hI : (i : Int) < 5 := by omega
  have hI0 : (0 : Int) ≤ (i : Int) := by omega
  simp [go_sem, leaves, g0, g1]
  rw [if_pos (by omega)]
  exact ⟨Below.refl _ _, b, rfl, hr⟩
theorem pk_loadV {n0 bs bo s j i : Nat} (hi : i ≤ 4) (hF : Fs.getD j Fct.any = plF n0 bs bo i) :
    stepF Tryz.prog Fs a0 W ⟨dst, .load 82 (.tmp s), ty, pos, after, none⟩ [(s, some j)] (vaF n0 bs bo i) := by
  refine .inl ⟨pk_none, fun a w hb hl => ?_⟩
  have h0 := hl.1
  rw [hF] at h0
  obtain ⟨b, hv, f0, f1, f2, f3, f4, hh, h0, h1, h2, h3, h4⟩ := h0
  have g0 := pk_get hv
  have hi : i = 0 ∨ i = 1 ∨ i = 2 ∨ i = 3 ∨ i = 4 := by omega
  have hc : ∃ f, w.cell? ⟨b, i, none⟩ = some f ∧ ValP n0 bs bo i f w := by
    rcases hi with rfl | rfl | rfl | rfl | rfl
    · exact ⟨f0, by simp [World.cell?, hh], h0⟩
    · exact ⟨f1, by simp [World.cell?, hh], h1⟩
    · exact ⟨f2, by simp [World.cell?, hh], h2⟩
    · exact ⟨f3, by simp [World.cell?, hh], h3⟩
    · exact ⟨f4, by simp [World.cell?, hh], h4⟩
  obtain ⟨f, hc, hf⟩ := hc
  simp [go_sem, leaves, g0, hc]
  exact ⟨Below.refl _ _, hf⟩
theorem pk_assign {n0 bs bo s j i : Nat} (hF : Fs.getD j Fct.any = vaF n0 bs bo i) :
    stepF Tryz.prog Fs a0 W ⟨dst, .assign (.tmp s), ty, pos, after, none⟩ [(s, some j)] (vaF n0 bs bo i) := by
  refine .inl ⟨pk_none, fun a w hb hl => ?_⟩
  have h0 := hl.1
  rw [hF] at h0
  have h0 : ValP n0 bs bo i (a.eval (.tmp s)) w := h0
  obtain ⟨k, cv, e⟩ := h0.cells
  rw [e] at h0
  have g0 := pk_get e
  simp [go_sem, leaves, g0]
  exact ⟨Below.refl _ _, h0⟩
end
theorem i64_num (a b : Int) : I64 (numI a b) := by
  unfold numI I64
  repeat' split
  all_goals omega
set_option maxHeartbeats 1000000 in
theorem valP_fn {n0 B bs bo r i : Nat} {l : List Sm} {n : List Int} {v : Value} {w : World} (hS : SyM w B bs l n) (ho : w.heap[bo]? = some (.cells #[ofV bs] 81)) (h1 : bs ≠ r) (h2 : bo ≠ r) (h3 : r < n0) (h4 : B ≤ r) (hi : i ≤ 4) (h : ValP n0 bs bo i v w) :
    FnC (byR l n (i : Int)) l.length (fun a => w.grownBy a (some r)) v := by
  have hent : ∀ a, w.grownBy a (some r) → SyM a B bs l n := fun a ha => hS.on ha h4 h1
  have hnum : FnC (fun f g => numI (f : Int) (g : Int)) l.length (fun a => w.grownBy a (some r)) numV :=
    ⟨fun _ _ => i64_num _ _, _, _, rfl, enters_of Tryz.func57 (by kernel_rfl) rfl, fun a _ x y _ _ => (cmpN_any (x : Int) (y : Int) a).mono fun e w' h => ⟨h.1, by rw [← h.2]; exact On.refl _⟩⟩
  have har : FnC (fun f g => numI (arP l f) (arP l g)) l.length (fun a => w.grownBy a (some r)) (arV bs) :=
    ⟨fun _ _ => i64_num _ _, _, _, rfl, enters_of Tryz.func58 (by kernel_rfl) rfl, fun a ha x y hx hy => byArity_any (hent a ha) hx hy⟩
  have hun : FnC (fun f g => numI (unI (arP l f)) (unI (arP l g))) l.length (fun a => w.grownBy a (some r)) (unV bs) :=
    ⟨fun _ _ => i64_num _ _, _, _, rfl, enters_of Tryz.func59 (by kernel_rfl) rfl, fun a ha x y hx hy => byUnary_any (hent a ha) hx hy⟩
  have hof : FnC (fun f g => numI (cnP n f) (cnP n g)) l.length (fun a => w.grownBy a (some r)) (ofV bs) :=
    ⟨fun _ _ => i64_num _ _, _, _, rfl, enters_of Tryz.func60 (by kernel_rfl) rfl, fun a ha x y hx hy => byOften_any (hent a ha) hx hy⟩
  have hse : FnC (fun f g => numI (cnP n g) (cnP n f)) l.length (fun a => w.grownBy a (some r)) (seV bo) :=
    ⟨fun _ _ => i64_num _ _, _, _, rfl, enters_of Tryz.func61 (by kernel_rfl) rfl, fun a ha x y hx hy => bySeldom_any (hent a ha) (by
      have := (cells_one (W := a) ((ha.block bo (Array.getElem?_eq_some_iff.1 ho).1 (by simpa using h2)).trans ho)).1
      exact this) hx hy⟩
  have hch : ∀ (rs : List (Nat → Nat → Int)) (vs : List Value), vs.length = rs.length → (∀ (i : Nat) q u, rs[i]? = some q → vs[i]? = some u → FnC q l.length (fun a => w.grownBy a (some r)) u) → 0 < rs.length → rs.length ≤ 3 → ChP n0 vs v w → FnC (fun x y => orI (rs.map fun q => q x y)) l.length (fun a => w.grownBy a (some r)) v := by
    intro rs vs hl hf hp h3' ⟨bt, bf, hv, hn1, hn2, hh1, hh2⟩
    refine ⟨fun x y => orI_i64 fun z hz => ?_, _, _, hv, enters_of Tryz.func98 (by kernel_rfl) rfl, fun a ha x y hx hy => ?_⟩
    · obtain ⟨q, hq, rfl⟩ := List.mem_map.1 hz
      obtain ⟨i, hi, he⟩ := List.getElem_of_mem hq
      exact (hf i q vs[i] (by rw [List.getElem?_eq_getElem hi, he]) (List.getElem?_eq_getElem (by omega))).1 x y
    · refine chain1_any (P := fun a => w.grownBy a (some r)) (bf := bf) (off := 0) (c := vs.length) (vs := vs) (fun a b h1 h2 => ⟨h2.b.os.trans h1.os, h2.b.tape.trans h1.tape, h2.b.output.trans h1.output, Nat.le_trans h1.size h2.b.size, fun k hk hne => (h2.b.block k (Nat.lt_of_lt_of_le hk h1.size)).trans (h1.block k hk hne)⟩) (fun a ha => ?_) hl hf h3' hx hy ha
      have g1 : a.heap[bt]? = some (.cells #[.slice (some ⟨bf, 0, none⟩) vs.length vs.length] 119) := (ha.block bt (Array.getElem?_eq_some_iff.1 hh1).1 (by simp; omega)).trans hh1
      have g2 : a.heap[bf]? = some (.cells vs.toArray 82) := (ha.block bf (Array.getElem?_eq_some_iff.1 hh2).1 (by simp; omega)).trans hh2
      refine ⟨by rw [(cells_one g1).1, hl], fun i u hu => ?_⟩
      simp [World.cell?, g2, hu]
  have hi : i = 0 ∨ i = 1 ∨ i = 2 ∨ i = 3 ∨ i = 4 := by omega
  have two : ∀ (q1 q2 : Nat → Nat → Int) (u1 u2 : Value), FnC q1 l.length (fun a => w.grownBy a (some r)) u1 → FnC q2 l.length (fun a => w.grownBy a (some r)) u2 → ∀ (i : Nat) q u, [q1, q2][i]? = some q → [u1, u2][i]? = some u → FnC q l.length (fun a => w.grownBy a (some r)) u := by
    intro q1 q2 u1 u2 g1 g2 i q u hq hu
    match i, hq, hu with
    | 0, hq, hu => simp at hq hu; subst hq hu; exact g1
    | 1, hq, hu => simp at hq hu; subst hq hu; exact g2
    | j + 2, hq, _ => simp at hq
  rcases hi with rfl | rfl | rfl | rfl | rfl
  · obtain rfl : v = numV := h
    exact hnum
  · have := hch [fun f g => numI (arP l f) (arP l g), fun f g => numI (f : Int) (g : Int)] [arV bs, numV] rfl (two _ _ _ _ har hnum) (by simp) (by simp) h
    exact this
  · have := hch [fun f g => numI (unI (arP l f)) (unI (arP l g)), fun f g => numI (arP l f) (arP l g), fun f g => numI (f : Int) (g : Int)] [unV bs, arV bs, numV] rfl (fun i q u hq hu => by
      match i, hq, hu with
      | 0, hq, hu => simp at hq hu; subst hq hu; exact hun
      | 1, hq, hu => simp at hq hu; subst hq hu; exact har
      | 2, hq, hu => simp at hq hu; subst hq hu; exact hnum
      | j + 3, hq, _ => simp at hq) (by simp) (by simp) h
    exact this
  · have := hch [fun f g => numI (cnP n f) (cnP n g), fun f g => numI (f : Int) (g : Int)] [ofV bs, numV] rfl (two _ _ _ _ hof hnum) (by simp) (by simp) h
    exact this
  · have := hch [fun f g => numI (cnP n g) (cnP n f), fun f g => numI (f : Int) (g : Int)] [seV bo, numV] rfl (two _ _ _ _ hse hnum) (by simp) (by simp) h
    exact this
end Go.Proofs.YthgglobfkkcdgaaGreatDoor
namespace Go.Proofs.YthgglobfkkcdgaaGreatDoor
open Go Go.RowKit
set_option maxRecDepth 100000
theorem heap2p (w : World) (o1 o2 : Obj) : ((w.alloc o1).alloc o2).heap[w.heap.size]? = some o1 ∧ ((w.alloc o1).alloc o2).heap[w.heap.size + 1]? = some o2 := by
  have e1 := heap_alloc_new w o1
  have e2 := heap_alloc_new (w.alloc o1) o2
  have hz : (w.alloc o1).heap.size = w.heap.size + 1 := by simp
  rw [hz] at e2
  refine ⟨?_, e2⟩
  rw [Below.heap_alloc _ _ _ (by simp)]
  exact e1
set_option maxHeartbeats 4000000 in
theorem ranking_any {w : World} {B i : Nat} {l : List Sm} {n : List Int} {As Ac : Option Addr} {cs cc : Nat} (hB : B ≤ w.heap.size) (hlen : n.length = l.length) (hs : l.length ≤ 1000) (har : ∀ f, 0 ≤ arP l f ∧ arP l f ≤ 99) (hS : Syms w B As l.length l) (hI : Ints w B Ac n) (hi : i ≤ 4) :
    Calls Tryz.prog 33 #[.agg #[.slice As l.length cs, .slice Ac n.length cc], .int .i64 (i : Int)] w fun e w' => ∃ v, e = .returned v ∧ Below w.heap.size w w' ∧ ∀ r, B ≤ r → r < w.heap.size → FnC (byR l n (i : Int)) l.length (fun a => w'.grownBy a (some r)) v := by
  have HL := Lib.hid hlen
  obtain ⟨W1, hW1⟩ : ∃ W1, w.alloc (.cells #[.slice As l.length cs, .slice Ac n.length cc] 61) = W1 := ⟨_, rfl⟩
  have HW1 := Lib.hid hW1
  clear hlen hW1
  go_enter Tryz.func33, Tryz.ntmps33
  go_upto_region 4 with fail
  rw [HW1.out]
  go_upto_region 6 with fail
  obtain ⟨W2, hW2⟩ : ∃ W2, W1.alloc (.cells #[ofV w.heap.size] 81) = W2 := ⟨_, rfl⟩
  have HW2 := Lib.hid hW2
  have hW2' : W1.alloc (.cells #[.func (.func 60) #[] #[.pointer (some ⟨w.heap.size, 0, none⟩)]] 81) = W2 := hW2
  rw [hW2']
  have h2 : W2.drew.heap[W1.heap.size]? = some (.cells #[ofV w.heap.size] 81) := by rw [← hW2]; exact heap_alloc_new W1 _
  clear hW2 hW2'
  refine wp_region_facts 36 [[(5, none)], [(6, none)], [(5, none)], [(15, some 1), (16, some 2)], [(17, some 3)], [(7, none)], [(6, none)], [(5, none)], [(19, some 5), (20, some 6), (21, some 7)], [(22, some 8)], [(8, none)], [(5, none)], [(24, some 10), (25, some 11)], [(26, some 12)], [(9, none)], [(5, none)], [(28, some 14), (29, some 15)], [(30, some 16)], [(14, some 0), (18, some 4), (23, some 9), (27, some 13), (31, some 17)], [(1, none)], [(32, some 18), (33, some 19)], [(34, some 20)], [(35, some 21)]]
    [Fct.eq numV, Fct.eq (arV w.heap.size), Fct.eq numV, bsF W2.heap.size [arV w.heap.size, numV], vaF W2.heap.size w.heap.size W1.heap.size 1, Fct.eq (unV w.heap.size), Fct.eq (arV w.heap.size), Fct.eq numV, bsF W2.heap.size [unV w.heap.size, arV w.heap.size, numV], vaF W2.heap.size w.heap.size W1.heap.size 2,
      Fct.eq (ofV w.heap.size), Fct.eq numV, bsF W2.heap.size [ofV w.heap.size, numV], vaF W2.heap.size w.heap.size W1.heap.size 3, Fct.eq (seV W1.heap.size), Fct.eq numV, bsF W2.heap.size [seV W1.heap.size, numV], vaF W2.heap.size w.heap.size W1.heap.size 4, roF W2.heap.size w.heap.size W1.heap.size, Fct.eq (.int .i64 (i : Int)), plF W2.heap.size w.heap.size W1.heap.size i, vaF W2.heap.size w.heap.size W1.heap.size i, vaF W2.heap.size w.heap.size W1.heap.size i]
    (by kernel_rfl) (by kernel_rfl) (by kernel_rfl) ?_ ?_
  · exact ⟨pk_move rfl, pk_move rfl, pk_move rfl, pk_bs2 (Nat.le_refl _) rfl rfl, pk_chain (Nat.le_refl _) rfl fun _ _ h => h, pk_move rfl, pk_move rfl, pk_move rfl, pk_bs3 (Nat.le_refl _) rfl rfl rfl, pk_chain (Nat.le_refl _) rfl fun _ _ h => h,
      pk_load rfl h2 (fun _ => rfl), pk_move rfl, pk_bs2 (Nat.le_refl _) rfl rfl, pk_chain (Nat.le_refl _) rfl fun _ _ h => h, pk_move rfl, pk_move rfl, pk_bs2 (Nat.le_refl _) rfl rfl, pk_chain (Nat.le_refl _) rfl fun _ _ h => h, pk_bs5 rfl rfl rfl rfl rfl, pk_move rfl, pk_index hi rfl rfl, pk_loadV hi rfl, pk_assign rfl, trivial⟩
  · intro w' hb'
    refine finF_lastP (P := Tryz.prog) (d := 4) (p0 := vaF W2.heap.size w.heap.size W1.heap.size i) _ _ _ (by kernel_rfl) (Nat.lt_of_lt_of_eq (show 4 < 36 by decide) (by kernel_rfl)) ⟨_, rfl, rfl⟩ rfl ?_
    intro a' hd ha he
    have he : ValP W2.heap.size w.heap.size W1.heap.size i (a'.eval (.tmp 4)) w' := he
    obtain ⟨k, cv, ev⟩ := he.cells
    rw [ev] at he
    have hB1 : Below w.heap.size w W1 := by rw [← HW1.out]; exact (Below.refl _ _).alloc (Nat.le_refl _) _
    have hB2 : Below w.heap.size w W2 := by rw [← HW2.out]; exact hB1.alloc hB1.size _
    have hBd : Below W2.heap.size W2 w' := (Below.refl _ _).drew.trans hb'
    have hBw : Below w.heap.size w w' := hB2.trans (hBd.mono hB2.size)
    have z1 : W1.heap.size = w.heap.size + 1 := by rw [← HW1.out]; simp
    have z2 : W2.heap.size = W1.heap.size + 1 := by rw [← HW2.out]; simp
    have q1 : W1.heap[w.heap.size]? = some (.cells #[.slice As l.length cs, .slice Ac n.length cc] 61) := by rw [← HW1.out]; exact heap_alloc_new w _
    have q2 : W2.heap[w.heap.size]? = some (.cells #[.slice As l.length cs, .slice Ac n.length cc] 61) := by rw [← HW2.out]; rw [Below.heap_alloc _ _ _ (by omega)]; exact q1
    have q3 := (hBd.block w.heap.size (by omega)).trans q2
    have q4 : w'.heap[W1.heap.size]? = some (.cells #[ofV w.heap.size] 81) := (hBd.block W1.heap.size (by omega)).trans h2
    have hSy : SyM w' B w.heap.size l n := ⟨by have := hBw.size; have := hBd.size; omega, by have := hBw.size; omega, HL.out, hs, har, As, cs, Ac, cc, (cells_two q3).1, (cells_two q3).2.1, hS.keep fun p hp => hBw.cell (Nat.lt_of_lt_of_le hp hB), hI.keep fun p hp => hBw.cell (Nat.lt_of_lt_of_le hp hB)⟩
    have hfin := Lib.hid (show ∀ r, B ≤ r → r < w.heap.size → FnC (byR l n (i : Int)) l.length (fun a => w'.grownBy a (some r)) (.func (.func k) #[] cv) from fun r h1 h3 => valP_fn hSy q4 (by omega) (by omega) (by omega) h1 hi he)
    have HBw := Lib.hid hBw
    have hd2 : a'.defers = [] := hd
    have he2 := pk_get ev
    clear hd ha hb' h2 he hB1 hB2 hBd hBw z1 z2 q1 q2 q3 q4 hSy
    go_wp2
    exact bodyPost_ret (v := .func (.func k) #[] cv) (by simp [results, Tryz.results33, go_sem, he2]) hd2 ⟨_, rfl, HBw.out, hfin.out⟩
end Go.Proofs.YthgglobfkkcdgaaGreatDoor
namespace Go.Proofs.YthgglobfkkcdgaaGreatDoor
open Go.RowKit Go.Shelf
set_option maxRecDepth 100000
abbrev Nm (m : Nat) := {k : Nat // k < m + 1}
instance (m : Nat) : Inhabited (Nm m) := ⟨⟨0, by omega⟩⟩
def encN (m : Nat) (x : Nm m) : Value := .int .i64 (x.1 : Int)
def cfN (l : List Sm) (n : List Int) (b : Int) (m : Nat) (x y : Nm m) : Int := byR l n b x.1 y.1
theorem ltN {l : List Sm} {n : List Int} {b : Int} {m : Nat} (h0 : 0 ≤ b) (h4 : b ≤ 4) (hA : ∀ f, arP l f ≤ 99) (x y : Nm m) : ltOf (cfN l n b m) x y = abvR l n b y.1 x.1 := by
  unfold ltOf cfN
  rw [Bool.eq_iff_iff, decide_eq_true_iff]
  exact byR_abv h0 h4 hA x.1 y.1
theorem swoN {l : List Sm} {n : List Int} {b : Int} {m : Nat} (h0 : 0 ≤ b) (h4 : b ≤ 4) (hA : ∀ f, arP l f ≤ 99) : Sort.SWO (ltOf (cfN l n b m)) where
  irrefl x := by rw [ltN h0 h4 hA]; exact abvR_irr _ _ _ _
  trans x y z h1 h2 := by rw [ltN h0 h4 hA] at *; exact abvR_trans h2 h1
  ntrans x y z h1 h2 := by
    rw [ltN h0 h4 hA] at *
    apply Classical.byContradiction
    intro h3
    have h3 : abvR l n b z.1 x.1 = true := by simpa using h3
    by_cases hxy : y.1 = x.1
    · rw [← hxy, h2] at h3; exact absurd h3 (by decide)
    · have := abvR_trans h3 (abvR_tot h1 hxy)
      rw [h2] at this; exact absurd this (by decide)
theorem rise_of {l : List Sm} {n : List Int} {b : Int} {m : Nat} (h0 : 0 ≤ b) (h4 : b ≤ 4) (hA : ∀ f, arP l f ≤ 99) {d : Array (Nm m)} {r : List Nat} (hr : r.Nodup) (hp : (d.toList.map Subtype.val).Perm r) (hs : Sort.SortedIn (ltOf (cfN l n b m)) 0 d.size d) : (d.toList.map Subtype.val).Pairwise fun f g => abvR l n b g f = true := by
  have hn : (d.toList.map Subtype.val).Nodup := hp.nodup_iff.2 hr
  rw [List.pairwise_iff_getElem]
  intro i j hi hj hij
  have hi' : i < d.size := by simpa using hi
  have hj' : j < d.size := by simpa using hj
  have h1 := hs i j (Nat.zero_le _) hij hj'
  rw [ltN h0 h4 hA, getElem!_pos d i hi', getElem!_pos d j hj'] at h1
  have h2 : d[i].1 ≠ d[j].1 := by
    have := List.pairwise_iff_getElem.1 hn i j hi hj hij
    simpa using this
  have := abvR_tot h1 h2
  simpa using this
end Go.Proofs.YthgglobfkkcdgaaGreatDoor
namespace Go.Proofs
open Go.Shelf
def Tryz.sortI_ren : Go.Shelf.Ren := ⟨fun | 6 => 32 | 15 => 56 | 14 => 55 | 28 => 95 | 29 => 96 | 20 => 87 | 21 => 88 | 22 => 89 | 23 => 90 | 24 => 91 | 25 => 92 | 26 => 93 | 27 => 94 | 46 => 114 | 47 => 115 | 48 => 116 | 49 => 117 | 50 => 118 | 57 => 134 | n => n, fun | 22 => 36 | 24 => 3 | 25 => 81 | 3 => 3 | 39 => 117 | 0 => 0 | 53 => 156 | 55 => 158 | 4 => 4 | 46 => 149 | 45 => 148 | 50 => 153 | 5 => 5 | 9 => 9 | 66 => 167 | 70 => 112 | 76 => 185 | 77 => 186 | n => n, fun | n => n⟩
theorem Tryz.sortI : Go.Proofs.SlLaysF.n6 Tryz.prog Tryz.sortI_ren := {
  mixed := by kernel_rfl
  f6 := ⟨Tryz.f32.name, by decide, Tryz.func32.trans (congrArg some (by kernel_rfl))⟩
  f14 := ⟨Tryz.f55.name, by decide, Tryz.func55.trans (congrArg some (by kernel_rfl))⟩
  f15 := Tryz.func56.trans (congrArg some (by kernel_rfl))
  f20 := ⟨Tryz.f87.name, by decide, Tryz.func87.trans (congrArg some (by kernel_rfl))⟩
  f21 := ⟨Tryz.f88.name, by decide, Tryz.func88.trans (congrArg some (by kernel_rfl))⟩
  f22 := ⟨Tryz.f89.name, by decide, Tryz.func89.trans (congrArg some (by kernel_rfl))⟩
  f23 := ⟨Tryz.f90.name, by decide, Tryz.func90.trans (congrArg some (by kernel_rfl))⟩
  f24 := ⟨Tryz.f91.name, by decide, Tryz.func91.trans (congrArg some (by kernel_rfl))⟩
  f25 := ⟨Tryz.f92.name, by decide, Tryz.func92.trans (congrArg some (by kernel_rfl))⟩
  f26 := ⟨Tryz.f93.name, by decide, Tryz.func93.trans (congrArg some (by kernel_rfl))⟩
  f27 := ⟨Tryz.f94.name, by decide, Tryz.func94.trans (congrArg some (by kernel_rfl))⟩
  f28 := Tryz.func95.trans (congrArg some (by kernel_rfl))
  f29 := Tryz.func96.trans (congrArg some (by kernel_rfl))
  f46 := ⟨Tryz.f114.name, by decide, Tryz.func114.trans (congrArg some (by kernel_rfl))⟩
  f47 := Tryz.func115.trans (congrArg some (by kernel_rfl))
  f48 := Tryz.func116.trans (congrArg some (by kernel_rfl))
  f49 := ⟨Tryz.f117.name, by decide, Tryz.func117.trans (congrArg some (by kernel_rfl))⟩
  f50 := ⟨Tryz.f118.name, by decide, Tryz.func118.trans (congrArg some (by kernel_rfl))⟩
  f57 := ⟨Tryz.f134.name, by decide, Tryz.func134.trans (congrArg some (by kernel_rfl))⟩
  t0 := Tryz.underlying0
  a0 := Tryz.isAgg0
  z0 := Tryz.sizeOf0
  v0 := Tryz.zeroValue0
  t3 := Tryz.underlying3
  a3 := Tryz.isAgg3
  z3 := Tryz.sizeOf3
  v3 := Tryz.zeroValue3
  t4 := Tryz.underlying4
  a4 := Tryz.isAgg4
  z4 := Tryz.sizeOf4
  v4 := Tryz.zeroValue4
  t5 := Tryz.underlying5
  a5 := Tryz.isAgg5
  z5 := Tryz.sizeOf5
  v5 := Tryz.zeroValue5
  t9 := Tryz.underlying9
  a9 := Tryz.isAgg9
  z9 := Tryz.sizeOf9
  v9 := Tryz.zeroValue9
  t22 := Tryz.underlying36
  a22 := Tryz.isAgg36
  z22 := Tryz.sizeOf36
  v22 := Tryz.zeroValue36
  a24 := Tryz.isAgg3
  z24 := Tryz.sizeOf3
  t25 := Tryz.underlying81
  a25 := Tryz.isAgg81
  z25 := Tryz.sizeOf81
  v25 := Tryz.zeroValue81
  t39 := Tryz.underlying117
  a39 := Tryz.isAgg117
  z39 := Tryz.sizeOf117
  v39 := Tryz.zeroValue117
  t45 := Tryz.underlying148
  a45 := Tryz.isAgg148
  z45 := Tryz.sizeOf148
  v45 := Tryz.zeroValue148
  t46 := Tryz.underlying149
  a46 := Tryz.isAgg149
  z46 := Tryz.sizeOf149
  v46 := Tryz.zeroValue149
  t50 := Tryz.underlying153
  a50 := Tryz.isAgg153
  z50 := Tryz.sizeOf153
  v50 := Tryz.zeroValue153
  t53 := Tryz.underlying156
  a53 := Tryz.isAgg156
  z53 := Tryz.sizeOf156
  v53 := Tryz.zeroValue156
  t55 := Tryz.underlying158
  a55 := Tryz.isAgg158
  z55 := Tryz.sizeOf158
  v55 := Tryz.zeroValue158
  t66 := Tryz.underlying167
  a66 := Tryz.isAgg167
  z66 := Tryz.sizeOf167
  v66 := Tryz.zeroValue167
  t70 := Tryz.underlying112
  a70 := Tryz.isAgg112
  z70 := Tryz.sizeOf112
  v70 := Tryz.zeroValue112
  t76 := Tryz.underlying185
  a76 := Tryz.isAgg185
  z76 := Tryz.sizeOf185
  v76 := Tryz.zeroValue185
  t77 := Tryz.underlying186
  a77 := Tryz.isAgg186
  z77 := Tryz.sizeOf186
  v77 := Tryz.zeroValue186 }
end Go.Proofs
namespace Go.Proofs.YthgglobfkkcdgaaGreatDoor
open Go Go.RowKit Go.Shelf
set_option maxRecDepth 100000
theorem sortW_blk {α : Type} {enc : α → Value} {w : World} {g off n : Nat} {d : Array α} {os : Array Obj} {cur : Array Value} {e : TypeId} [Inhabited α] (hg : w.heap[g]? = some (.cells cur e (0, 0))) :
    (sortWorld enc w g off n d os).heap[g]? = some (.cells (Sort.putCells enc off d cur) e (0, 0)) ∧ w.grownBy (sortWorld enc w g off n d os) (some g) := by
  have hlt := (Array.getElem?_eq_some_iff.1 hg).1
  refine ⟨?_, rfl, rfl, rfl, ?_, fun k hk hne => ?_⟩
  · unfold sortWorld Sort.grow Sort.putRow Sort.mapBlock Sort.ahead
    simp only
    rw [Array.getElem?_append_left (by simpa using hlt), Array.getElem?_modify, if_pos rfl, hg]
    rfl
  · unfold sortWorld Sort.grow Sort.putRow Sort.mapBlock Sort.ahead
    simp
  · unfold sortWorld Sort.grow Sort.putRow Sort.mapBlock Sort.ahead
    simp only
    rw [Array.getElem?_append_left (by simpa using hk), Array.getElem?_modify, if_neg (fun e => hne (by rw [e]))]
def numsN (m : Nat) : Array (Nm m) := Array.ofFn fun k : Fin m => ⟨k.1 + 1, by omega⟩
theorem numsN_size (m : Nat) : (numsN m).size = m := by simp [numsN]
theorem numsN_vals (m : Nat) : (numsN m).toList.map Subtype.val = List.range' 1 m := by
  apply List.ext_getElem
  · simp [numsN]
  · intro i h1 h2
    simp [numsN]
    omega
set_option maxHeartbeats 2000000 in
theorem sortN_any {l : List Sm} {n : List Int} {i m g c : Nat} {v : Value} {w : World} (hi : i ≤ 4) (hA : ∀ f, arP l f ≤ 99) (hm : m ≤ 1000) (hf : FnC (byR l n (i : Int)) (m + 1) (fun a => w.grownBy a (some g)) v)
    (hg : w.heap[g]? = some (.cells ((List.range (m + 1)).map fun (k : Nat) => Value.int .i64 (k : Int)).toArray 3)) :
    Calls Tryz.prog 32 #[.slice (some ⟨g, 1, none⟩) m c, v] w fun e w' => e = .returned (.tuple #[]) ∧ ∃ s : List Nat, s.Perm (List.range' 1 m) ∧ (s.Pairwise fun f q => abvR l n (i : Int) q f = true) ∧ w.grownBy w' (some g) ∧
      w'.heap[g]? = some (.cells ((0 :: s).map fun (k : Nat) => Value.int .i64 (k : Int)).toArray 3) := by
  obtain ⟨_, k, cv, rfl, hent, hcall⟩ := hf
  have hlt := (Array.getElem?_eq_some_iff.1 hg).1
  have hO := swoN (l := l) (n := n) (b := (i : Int)) (m := m) (by omega) (by omega) hA
  have hH : Sort.Holds (encN m) w g 1 (numsN m) := by
    intro j hj
    rw [numsN_size] at hj
    have e1 : (numsN m)[j]! = ⟨j + 1, by omega⟩ := by rw [getElem!_pos _ j (by rw [numsN_size]; exact hj)]; simp [numsN]
    rw [e1]
    refine ⟨?_, ?_⟩
    · have hj2 : 1 + j < m + 1 := by omega
      simp only [World.cell?, hg, encN]
      rw [List.getElem?_toArray, List.getElem?_map, List.getElem?_range hj2]
      simp [Nat.add_comm]
    · simp [World.frozen?, hg]
  have hcmp : CmpLays1 Tryz.prog k cv (encN m) (cfN l n (i : Int) m) g 1 (numsN m).size w := fun mm os dk _ x y =>
    (hcall _ (sortW_blk hg).2 x.1 y.1 x.2 y.2).mono fun e w' h => ⟨h.1, h.2.grown⟩
  have h := Any.slices_SortFunc Tryz.sortI (encN m) (fun _ => rfl) (cfN l n (i : Int) m) hO k cv g 1 c (numsN m) w hent hcmp hH hlt (by rw [numsN_size]; omega)
  rw [numsN_size] at h
  refine Calls.mono (show Calls Tryz.prog 32 #[.slice (some ⟨g, 1, none⟩) m c, .func (.func k) #[] cv] w _ from h) ?_
  rintro e w' ⟨he, d, q, os, hp, hs, rfl⟩
  have hds : d.size = m := by have := hp.1; rwa [numsN_size] at this
  have hperm : (d.toList.map Subtype.val).Perm (List.range' 1 m) := by
    rw [← numsN_vals]
    refine List.Perm.map _ ?_
    have := hp.2.2
    have x0 : ∀ (a : Array (Nm m)) (k : Nat), a.size = k → a.extract 0 k = a := fun a k h => by subst h; exact Array.extract_size
    rwa [x0 d _ hds, x0 (numsN m) _ (numsN_size m)] at this
  refine ⟨he, d.toList.map Subtype.val, hperm, rise_of (by omega) (by omega) hA (List.nodup_range' (step := 1)) hperm (by rw [hds]; exact hs), (sortW_blk hg).2, ?_⟩
  rw [(sortW_blk hg).1]
  congr 2
  apply Array.ext_getElem?
  intro t
  unfold Sort.putCells
  rw [Array.getElem?_mapIdx, List.getElem?_toArray, List.getElem?_toArray, List.getElem?_map, List.getElem?_map]
  rcases Nat.lt_or_ge t (m + 1) with ht | ht
  · rw [List.getElem?_range ht]
    simp only [Option.map_some]
    rcases Nat.eq_zero_or_pos t with h0 | h0
    · subst h0
      rw [if_neg (by omega)]; rfl
    · obtain ⟨t', rfl⟩ : ∃ t', t = t' + 1 := ⟨t - 1, by omega⟩
      have ht' : t' < d.size := by omega
      rw [if_pos (by omega), List.getElem?_cons_succ, List.getElem?_map, Array.getElem?_toList, Array.getElem?_eq_getElem ht', show t' + 1 - 1 = t' by omega, getElem!_pos d t' ht']
      rfl
  · rw [List.getElem?_eq_none (by simpa using ht), List.getElem?_eq_none (by simp; omega)]
    rfl
end Go.Proofs.YthgglobfkkcdgaaGreatDoor
namespace Go.Proofs.YthgglobfkkcdgaaGreatDoor
open Go Go.RowKit
set_option maxRecDepth 100000
def iC (xs : List Int) : Array Value := (xs.map (Value.int .i64)).toArray
def upTo (k m : Nat) : List Int := (List.range m).map fun j => if j < k then (j : Int) else 0
theorem made_iC (m : Nat) : madeCells #[.int .i64 0] m = iC (upTo 0 m) := by
  unfold iC upTo
  rw [List.map_map, ← Array.toList_inj]
  apply List.ext_getElem
  · simp [size_madeCells]
  · intro j h1 h2
    simp [madeCells, Nat.mod_one]
theorem iC_cell {w : World} {g : Nat} {xs : List Int} (h : w.heap[g]? = some (.cells (iC xs) 3)) {j : Nat} {x : Int} (hx : xs[j]? = some x) : w.cell? ⟨g, j, none⟩ = some (.int .i64 x) ∧ w.frozen? ⟨g, j, none⟩ = false := by
  refine ⟨?_, by simp [World.frozen?, h]⟩
  simp [World.cell?, h, iC, hx]
theorem iC_set {w : World} {g : Nat} {xs : List Int} (h : w.heap[g]? = some (.cells (iC xs) 3)) (j : Nat) (x : Int) : (w.setCell ⟨g, j, none⟩ (.int .i64 x)).heap[g]? = some (.cells (iC (xs.set j x)) 3) := by
  simp only [World.setCell, Array.getElem?_modify, if_pos, h, Option.map_some]
  unfold iC
  congr 2
  simp [List.map_set]
theorem upTo_set {k m : Nat} (h : k < m) : (upTo k m).set k (k : Int) = upTo (k + 1) m := by
  unfold upTo
  apply List.ext_getElem?
  intro t
  rw [List.getElem?_set]
  rcases Nat.lt_or_ge t m with ht | ht
  · rw [List.getElem?_map, List.getElem?_map, List.getElem?_range ht]
    by_cases hkt : k = t
    · subst hkt; simp [ht]
    · rw [if_neg hkt]
      simp only [Option.map_some]
      by_cases h1 : t < k
      · rw [if_pos h1, if_pos (by omega)]
      · rw [if_neg h1, if_neg (by omega)]
  · have : ¬ k = t := by omega
    rw [if_neg this, List.getElem?_eq_none (by simpa using ht), List.getElem?_eq_none (by simpa using ht)]
theorem upTo_all (m : Nat) : iC (upTo m m) = ((List.range m).map fun (k : Nat) => Value.int .i64 (k : Int)).toArray := by
  unfold iC upTo
  rw [List.map_map]
  congr 1
  apply List.map_congr_left
  intro j hj
  have := List.mem_range.1 hj
  simp [this]
def rkTo (r : List Nat) (k m : Nat) (f : Nat → Nat) : List Int := (List.range m).map fun j => if j ∈ r.take k then (f j : Int) else 0
theorem rkTo_set {r : List Nat} {k m : Nat} {f : Nat → Nat} {x : Nat} (hx : r[k]? = some x) (hf : f x = k) (hm : x < m) : (rkTo r k m f).set x (k : Int) = rkTo r (k + 1) m f := by
  unfold rkTo
  apply List.ext_getElem?
  intro t
  rw [List.getElem?_set]
  have htk : r.take (k + 1) = r.take k ++ [x] := by rw [List.take_add_one, hx]; rfl
  rcases Nat.lt_or_ge t m with ht | ht
  · rw [List.getElem?_map, List.getElem?_map, List.getElem?_range ht, htk]
    by_cases hkt : x = t
    · subst hkt; simp [ht, hf]
    · rw [if_neg hkt]
      have : (t ∈ r.take k ++ [x]) ↔ t ∈ r.take k := by simp [Ne.symm hkt]
      simp only [Option.map_some, this]
  · have : ¬ x = t := by omega
    rw [if_neg this, List.getElem?_eq_none (by simpa using ht), List.getElem?_eq_none (by simpa using ht)]
end Go.Proofs.YthgglobfkkcdgaaGreatDoor
namespace Go.Proofs.YthgglobfkkcdgaaGreatDoor
open Go Go.RowKit
set_option maxRecDepth 100000
theorem rkTo_zero (r : List Nat) (m : Nat) (f : Nat → Nat) : rkTo r 0 m f = upTo 0 m := by simp [rkTo, upTo]
theorem rkTo_all {l : List Sm} {n : List Int} {b : Int} {m : Nat} {s : List Nat} (hp : s.Perm (List.range' 1 m)) : rkTo (0 :: s) (m + 1) (m + 1) (rnkR l n b (m + 1)) = rkLs l n b (m + 1) := by
  unfold rkTo rkLs
  apply List.map_congr_left
  intro j hj
  have hj := List.mem_range.1 hj
  have hl := hp.length_eq
  rw [List.length_range'] at hl
  rw [List.take_of_length_le (by simp; omega), if_pos]
  rcases Nat.eq_zero_or_pos j with h0 | h0
  · subst h0; exact List.mem_cons_self
  · exact List.mem_cons_of_mem _ (hp.mem_iff.2 (List.mem_range'_1.2 ⟨by omega, by omega⟩))
theorem FnC.le {r : Nat → Nat → Int} {M : Nat} {P P' : World → Prop} {v : Value} (h : FnC r M P v) (hP : ∀ a, P' a → P a) : FnC r M P' v := by
  obtain ⟨h1, k, cv, h2, h3, h4⟩ := h
  exact ⟨h1, k, cv, h2, h3, fun w hw => h4 w (hP w hw)⟩
def rkF (r : Nat → Nat → Int) (M G : Nat) : Fct := ⟨fun v w => FnC r M (fun a => w.grownBy a (some G)) v, fun h hb => h.le fun _ ha => ⟨ha.os.trans hb.os, ha.tape.trans hb.tape, ha.output.trans hb.output, Nat.le_trans hb.size ha.size, fun k hk hne => (ha.block k (Nat.lt_of_lt_of_le hk hb.size) hne).trans (hb.block k hk)⟩⟩
set_option maxHeartbeats 2000000 in
theorem sortO_any {l : List Sm} {n : List Int} {i m g c : Nat} {v : Value} {w : World} (hi : i ≤ 4) (hA : ∀ f, arP l f ≤ 99) (hm : m ≤ 1000) (hf : FnC (byR l n (i : Int)) (m + 1) (fun a => w.grownBy a (some g)) v)
    (hg : w.heap[g]? = some (.cells (iC (upTo (m + 1) (m + 1))) 3)) :
    Calls Tryz.prog 32 #[.slice (some ⟨g, if m + 1 = 1 then 0 else 1, none⟩) m c, v] w fun e w' => e = .returned (.tuple #[]) ∧ ∃ s : List Nat, s.Perm (List.range' 1 m) ∧ (s.Pairwise fun f q => abvR l n (i : Int) q f = true) ∧ w.grownBy w' (some g) ∧
      w'.heap[g]? = some (.cells (iC ((0 :: s).map fun (k : Nat) => (k : Int))) 3) := by
  by_cases h0 : m = 0
  · subst h0
    obtain ⟨_, k, cv, rfl, hent, hcall⟩ := hf
    have hlt := (Array.getElem?_eq_some_iff.1 hg).1
    have hcmp : CmpLays1 Tryz.prog k cv (encN 0) (cfN l n (i : Int) 0) g 0 (numsN 0).size w := fun mm os dk _ x y =>
      (hcall _ (sortW_blk hg).2 x.1 y.1 x.2 y.2).mono fun e w' h => ⟨h.1, h.2.grown⟩
    have h := Any.slices_SortFunc Tryz.sortI (encN 0) (fun _ => rfl) (cfN l n (i : Int) 0) (swoN (by omega) (by omega) hA) k cv g 0 c (numsN 0) w hent hcmp (fun j hj => by rw [numsN_size] at hj; omega) hlt (by rw [numsN_size]; omega)
    rw [numsN_size] at h
    refine Calls.mono (show Calls Tryz.prog 32 #[.slice (some ⟨g, 0, none⟩) 0 c, .func (.func k) #[] cv] w _ from h) ?_
    rintro e w' ⟨he, d, q, os, hp, _, rfl⟩
    have hds : d.size = 0 := by have := hp.1; rwa [numsN_size] at this
    refine ⟨he, [], List.Perm.refl _, List.Pairwise.nil, (sortW_blk hg).2, ?_⟩
    rw [(sortW_blk hg).1]
    congr 2
    apply Array.ext_getElem?
    intro t
    unfold Sort.putCells
    rw [Array.getElem?_mapIdx]
    have hno : ∀ x : Value, (if 0 ≤ t ∧ t < 0 + d.size then encN 0 d[t - 0]! else x) = x := fun x => if_neg (by omega)
    rw [show (fun x : Value => if 0 ≤ t ∧ t < 0 + d.size then encN 0 d[t - 0]! else x) = id from funext hno, Option.map_id]
    rfl
  · rw [if_neg (by omega)]
    rw [upTo_all] at hg
    refine (sortN_any hi hA hm hf hg).mono ?_
    rintro e w' ⟨he, s, h1, h2, h3, h4⟩
    refine ⟨he, s, h1, h2, h3, ?_⟩
    rw [h4]
    unfold iC
    rw [List.map_map]; rfl
section
variable {Fs : List Fct} {a0 : Act} {W : World} {dst : Option Tmp} {ty : TypeId} {pos : String} {after : Array Edge} {nn : Nat}
theorem pg_out {s : Nat} {v : Value} (hs : a0.eval (.tmp s) = v) : stepG Tryz.prog (fun _ _ => True) nn Fs a0 W ⟨dst, .move (.tmp s), ty, pos, after, none⟩ [(s, none)] (Fct.eq v) := by
  refine ⟨rfl, fun a w hb hn hl _ => ?_⟩
  have h1 := pk_get (hl.1.trans hs)
  simp [go_sem, leaves, h1, Fct.eq]
  exact Below.refl _ _
theorem pg_tail {s j g L : Nat} (h1 : 1 ≤ L) (hF : Fs.getD j Fct.any = Fct.eq (.slice (some ⟨g, 0, none⟩) L L)) : stepG Tryz.prog (fun _ _ => True) nn Fs a0 W ⟨dst, .slice 36 (.tmp s) (some (.const (.int .i64 1))) none none, ty, pos, after, none⟩ [(s, some j)] (Fct.eq (.slice (some ⟨g, if L = 1 then 0 else 1, none⟩) (L - 1) (L - 1))) := by
  refine ⟨rfl, fun a w hb hn hl _ => ?_⟩
  have h0 := hl.1
  rw [hF] at h0
  have e1 := pk_get h0
  obtain ⟨m, rfl⟩ : ∃ m, L = m + 1 := ⟨L - 1, by omega⟩
  by_cases hm : m = 0
  · subst hm
    simp [go_sem, leaves, e1, Fct.eq]
    exact Below.refl _ _
  · have hI : (1 : Int) ≤ (m : Int) + 1 := by omega
    simp [go_sem, leaves, e1, Fct.eq, hm]
    rw [if_pos hI]
    exact ⟨Below.refl _ _, rfl⟩
theorem pg_load2 {s b : Nat} {x y : Value} (hs : a0.eval (.tmp s) = .pointer (some ⟨b, 0, none⟩)) (hW : W.heap[b]? = some (.cells #[x, y] 61)) : stepG Tryz.prog (fun _ _ => True) nn Fs a0 W ⟨dst, .load 61 (.tmp s), ty, pos, after, none⟩ [(s, none)] (Fct.eq (.agg #[x, y])) := by
  refine ⟨rfl, fun a w hb hn hl _ => ?_⟩
  have h1 := pk_get (hl.1.trans hs)
  obtain ⟨c0, c1, _⟩ := cells_two (blk_st hb hW)
  simp [go_sem, leaves, h1, c0, c1, Fct.eq]
  exact Below.refl _ _
theorem pg_ranking {s j s' j' B G i : Nat} {l : List Sm} {n : List Int} {As Ac : Option Addr} {cs cc : Nat} (hB : B ≤ W.heap.size) (hG : B ≤ G) (hGW : G < W.heap.size) (hlen : n.length = l.length) (hs : l.length ≤ 1000) (har : ∀ f, 0 ≤ arP l f ∧ arP l f ≤ 99) (hS : Syms W B As l.length l) (hI : Ints W B Ac n) (hi : i ≤ 4)
    (hF : Fs.getD j Fct.any = Fct.eq (.agg #[.slice As l.length cs, .slice Ac n.length cc])) (hF' : Fs.getD j' Fct.any = Fct.eq (.int .i64 (i : Int))) {t t' : TypeId} :
    stepG Tryz.prog (fun _ _ => True) nn Fs a0 W ⟨dst, .call ⟨.value (.func 33), #[.tmp s, .tmp s'], #[t, t']⟩, ty, pos, after, none⟩ [(s, some j), (s', some j')] (rkF (byR l n (i : Int)) l.length G) := by
  refine ⟨rfl, fun a w hb hn hl _ => ?_⟩
  obtain ⟨h0, h1, _⟩ := hl
  rw [hF] at h0
  rw [hF'] at h1
  have e0 := pk_get h0
  have e1 := pk_get h1
  simp [go_sem, leaves, e0, e1]
  refine (ranking_any (cs := cs) (cc := cc) (Nat.le_trans hB hb.size) hlen hs har (hS.keep fun p hp => hb.cell (Nat.lt_of_lt_of_le hp hB)) (hI.keep fun p hp => hb.cell (Nat.lt_of_lt_of_le hp hB)) hi).mono fun e w' h => ?_
  obtain ⟨v, he, hbw, hv⟩ := h
  exact ⟨_, he, hbw, hv G hG (Nat.lt_of_lt_of_le hGW hb.size)⟩
end
set_option maxHeartbeats 4000000 in
theorem ranks_any {w : World} {B i m : Nat} {l : List Sm} {n : List Int} {As Ac : Option Addr} {cs cc : Nat} (hB : B ≤ w.heap.size) (hlen : n.length = l.length) (hm : l.length = m + 1) (hs : m ≤ 999) (har : ∀ f, 0 ≤ arP l f ∧ arP l f ≤ 99) (hS : Syms w B As l.length l) (hI : Ints w B Ac n) (hi : i ≤ 4) :
    Calls Tryz.prog 17 #[.agg #[.slice As l.length cs, .slice Ac n.length cc], .int .i64 (i : Int)] w fun e w' => ∃ g, e = .returned (.slice (some ⟨g, 0, none⟩) l.length l.length) ∧ Below w.heap.size w w' ∧ w.heap.size ≤ g ∧ w'.heap[g]? = some (.cells (iC (rkLs l n (i : Int) l.length)) 3) := by
  obtain ⟨i0, hi1, hz0, hz1, hz2⟩ := info_parts infoI
  have hmk : ∀ w : World, (Instr.makeSlice 36 (.int .i64 (l.length : Int)) (.int .i64 (l.length : Int))).run Tryz.prog w = .ok (.slice (some ⟨w.heap.size, 0, none⟩) l.length l.length) (w.alloc (.cells (iC (upTo 0 l.length)) 3)) := fun w => by
    rw [← made_iC]; exact run_make_row _ _ i0 _ Tryz.underlying36 hi1 hz0 hz1 rfl _ _ l.length (by rw [hz2]; omega) (by omega) w
  have Hmk := Lib.hid hmk
  obtain ⟨W1, hW1⟩ : ∃ W1, w.alloc (.cells #[.slice As l.length cs, .slice Ac n.length cc] 61) = W1 := ⟨_, rfl⟩
  obtain ⟨W2, hW2⟩ : ∃ W2, W1.alloc (.cells (iC (upTo 0 l.length)) 3) = W2 := ⟨_, rfl⟩
  have q1 : W1.heap[w.heap.size]? = some (.cells #[.slice As l.length cs, .slice Ac n.length cc] 61) := by rw [← hW1]; exact heap_alloc_new w _
  have z1 : W1.heap.size = w.heap.size + 1 := by rw [← hW1]; simp
  have z2 : W2.heap.size = w.heap.size + 2 := by rw [← hW2]; simp; omega
  have q2 : W2.heap[W1.heap.size]? = some (.cells (iC (upTo 0 l.length)) 3) := by rw [← hW2]; exact heap_alloc_new W1 _
  have hB1 : Below w.heap.size w W1 := by rw [← hW1]; exact (Below.refl _ _).alloc (Nat.le_refl _) _
  have hB2 : Below W1.heap.size W1 W2 := by rw [← hW2]; exact (Below.refl _ _).alloc (Nat.le_refl _) _
  have HW1 := Lib.hid hW1
  have HW2 := Lib.hid hW2
  have Hm := Lib.hid hm
  have HL := Lib.hid hlen
  have HZ := Lib.hid (And.intro z1 z2)
  have HQ := Lib.hid (And.intro q1 q2)
  have HB := Lib.hid (And.intro hB1 hB2)
  have hl64 : l.length ≤ 1000 := by omega
  clear hm hlen hW1 hW2 z1 z2 q1 q2 hB1 hB2 hi1 hz0 hz1 hz2
  go_enter Tryz.func17, Tryz.ntmps17
  go_upto_region 1 with fail
  rw [HW1.out]
  have c0 := (cells_two HQ.out.1).1
  go_upto_region 2 with fail
  rw [HW2.out]
  clear c0 hmk
  go_wp2
  go_loopw [16] (fun s16 wr => ∃ k : Nat, k ≤ l.length ∧ s16 = .int .i64 (k : Int) ∧ Hid (Below W1.heap.size W1 wr ∧ wr.heap.size = W2.heap.size ∧ wr.heap[W1.heap.size]? = some (.cells (iC (upTo k l.length)) 3))) (fun s16 _ => l.length - (intOf s16).toNat)
  case atStart => exact ⟨0, Nat.zero_le _, rfl, HB.out.2, rfl, HQ.out.2⟩
  case round =>
    obtain ⟨k, hk, rfl, HR⟩ := hrel
    by_cases hlt : k < l.length
    · have hx : (upTo k l.length)[k]? = some 0 := by unfold upTo; rw [List.getElem?_map, List.getElem?_range hlt]; simp
      obtain ⟨c1, f1⟩ := iC_cell HR.out.2.2 hx
      clear hx
      have HN : Hid (Below W1.heap.size W1 (wr.setCell ⟨W1.heap.size, k, none⟩ (.int .i64 (k : Int))) ∧ (wr.setCell ⟨W1.heap.size, k, none⟩ (.int .i64 (k : Int))).heap.size = W2.heap.size ∧ (wr.setCell ⟨W1.heap.size, k, none⟩ (.int .i64 (k : Int))).heap[W1.heap.size]? = some (.cells (iC (upTo (k + 1) l.length)) 3)) :=
        Lib.hid ⟨HR.out.1.setCell (Nat.le_refl _) _, by rw [← HR.out.2.1]; simp, by rw [iC_set HR.out.2.2, upTo_set hlt]⟩
      go_wp2
      go_roundw
      case rel => exact ⟨k + 1, by omega, by go_num, HN⟩
      case measure => simp [intOf]; omega
    · obtain rfl : k = l.length := by omega
      go_wp2_with fail
      have hBd : Below wr.heap.size wr wr.drew := (Below.refl _ _).drew
      have hw1 : Below w.heap.size w wr := HB.out.1.trans (HR.out.1.mono HB.out.1.size)
      have hG : w.heap.size ≤ W1.heap.size := by have := HZ.out.1; omega
      have hGr : W1.heap.size < wr.heap.size := by have := HR.out.2.1; have := HZ.out; omega
      have hSd : Syms wr.drew B As l.length l := (hS.keep fun p hp => hw1.cell (Nat.lt_of_lt_of_le hp hB))
      have hId : Ints wr.drew B Ac n := (hI.keep fun p hp => hw1.cell (Nat.lt_of_lt_of_le hp hB))
      have hbox : wr.drew.heap[w.heap.size]? = some (.cells #[.slice As l.length cs, .slice Ac n.length cc] 61) := (HR.out.1.block w.heap.size (by have := HZ.out.1; omega)).trans HQ.out.1
      refine wp_region_facts3 5 (fun _ _ => True) 46 [[(5, none)], [(24, some 0)], [(2, none)], [(1, none)], [(26, some 2), (27, some 3)]]
        [Fct.eq (.slice (some ⟨W1.heap.size, 0, none⟩) l.length l.length), Fct.eq (.slice (some ⟨W1.heap.size, if l.length = 1 then 0 else 1, none⟩) (l.length - 1) (l.length - 1)), Fct.eq (.agg #[.slice As l.length cs, .slice Ac n.length cc]), Fct.eq (.int .i64 (i : Int)), rkF (byR l n (i : Int)) l.length W1.heap.size] (by kernel_rfl) (by decide +kernel) (by decide +kernel) (by kernel_rfl) trivial ?_ ?_
      · exact ⟨pg_out rfl, pg_tail (by have := Hm.out; omega) rfl, pg_load2 rfl hbox, pg_out rfl, pg_ranking (show B ≤ wr.drew.heap.size from Nat.le_trans hB hw1.size) (Nat.le_trans hB hG) (show W1.heap.size < wr.drew.heap.size from hGr) HL.out hl64 har hSd hId hi rfl rfl, trivial⟩
      intro w4 hb4
      generalize hA0 : ({ tmps := _, defers := _ } : Act) = a0
      simp only [List.take_succ_cons, List.take_zero, List.drop_succ_cons, List.drop_zero]
      refine FinS.some rfl (fun u0 (e0 : u0 = _) => ?_)
      subst e0
      refine FinS.some rfl (fun u1 (e1 : u1 = _) => ?_)
      subst e1
      refine FinS.some rfl (fun u2 (e2 : u2 = _) => ?_)
      subst e2
      refine FinS.some rfl (fun u3 (e3 : u3 = _) => ?_)
      subst e3
      refine FinS.some rfl (fun u4 (e4 : FnC (byR l n (i : Int)) l.length (fun a => w4.grownBy a (some W1.heap.size)) u4) => FinS.nil fun _ => ?_)
      refine ⟨?_⟩
      subst hA0
      simp only [Act.put, List.setIfInBounds_toArray, List.set_cons_succ, List.set_cons_zero]
      have hL1 : l.length - 1 + 1 = l.length := by have := Hm.out; omega
      have hrow4 : w4.heap[W1.heap.size]? = some (.cells (iC (upTo (l.length - 1 + 1) (l.length - 1 + 1))) 3) := by rw [hL1]; exact (hb4.block _ hGr).trans HR.out.2.2
      have hsort := sortO_any (m := l.length - 1) (c := l.length - 1) hi (fun f => (har f).2) (by omega) (by rw [hL1]; exact e4) hrow4
      rw [hL1] at hsort
      obtain ⟨o, ho⟩ : ∃ o, (if l.length = 1 then 0 else 1) = o := ⟨_, rfl⟩
      rw [ho] at hsort ⊢
      clear ho
      obtain ⟨_, kf, cv, rfl, hent, _⟩ := e4
      obtain ⟨KK, hKK⟩ : ∃ KK : Value → World → Prop, KK = fun _ w' => ∃ s : List Nat, s.Perm (List.range' 1 (l.length - 1)) ∧ (s.Pairwise fun f q => abvR l n (i : Int) q f = true) ∧ w4.grownBy w' (some W1.heap.size) ∧ w'.heap[W1.heap.size]? = some (.cells (iC ((0 :: s).map fun (k : Nat) => (k : Int))) 3) := ⟨_, rfl⟩
      have hsort2 : Calls Tryz.prog 32 #[.slice (some ⟨W1.heap.size, o, none⟩) (l.length - 1) (l.length - 1), .func (.func kf) #[] cv] w4 fun e w' => ∃ v, e = .returned v ∧ KK v w' := hsort.mono fun e w' h => ⟨_, h.1, by rw [hKK]; exact h.2⟩
      refine leaves_wp (K := KK) ?_ ?_
      · clear hL1 hrow4
        simp [go_sem, leaves]
        exact hsort2
      · intro v w5 hkk
        rw [hKK] at hkk
        obtain ⟨s, hp, hsr, hgr, hrow⟩ := hkk
        clear hKK hsort2
        unfold tailWp
        simp only [Act.put, List.setIfInBounds_toArray, List.set_cons_succ, List.set_cons_zero]
        have hW1w5 : Below w.heap.size w w5 := (hw1.trans ((hBd.trans (show Below wr.heap.size wr.drew w4 from hb4)).mono hw1.size)).trans ⟨hgr.os, hgr.tape, hgr.output, hgr.size, fun k hk => hgr.block k (by have := hb4.size; have : wr.heap.size ≤ w4.heap.size := hb4.size; have := HZ.out.1; omega) (by have := HZ.out.1; simp; omega)⟩
        obtain ⟨W6, hW6⟩ : ∃ W6, w5.alloc (.cells (iC (upTo 0 l.length)) 3) = W6 := ⟨_, rfl⟩
        have HW6 := Lib.hid hW6
        have g5 : W1.heap.size < w5.heap.size := (Array.getElem?_eq_some_iff.1 hrow).1
        have q6 : W6.heap[w5.heap.size]? = some (.cells (iC (rkTo (0 :: s) 0 l.length (rnkR l n (i : Int) l.length))) 3) := by rw [rkTo_zero, ← hW6]; exact heap_alloc_new w5 _
        have r6 : W6.heap[W1.heap.size]? = some (.cells (iC ((0 :: s).map fun (k : Nat) => (k : Int))) 3) := by rw [← hW6, Below.heap_alloc _ _ _ g5]; exact hrow
        have b6 : Below w.heap.size w W6 := by rw [← hW6]; exact hW1w5.alloc hW1w5.size _
        have HX := Lib.hid (And.intro q6 (And.intro r6 b6))
        have HP := Lib.hid (And.intro hp hsr)
        have HG := Lib.hid (And.intro g5 hW1w5.size)
        have hlen2 : Hid ((0 :: s).length = l.length) := Lib.hid (by have := hp.length_eq; rw [List.length_range'] at this; rw [List.length_cons]; omega)
        have hmk2 := Lib.hid (show (Instr.makeSlice 36 (.int .i64 (l.length : Int)) (.int .i64 (l.length : Int))).run Tryz.prog w5 = .ok (.slice (some ⟨w5.heap.size, 0, none⟩) l.length l.length) W6 from by rw [Hmk.out w5, hW6])
        clear hW6 q6 r6 b6 hp hsr hgr hrow g5 hW1w5 hsort hrow4 hbox hSd hId hG hGr hw1 hBd hb4 hent
        have hmk3 := hmk2.out
        go_upto_region 9 with fail
        clear hmk3
        go_wp2
        go_loopw [35] (fun s35 wr2 => ∃ k : Nat, k ≤ l.length ∧ s35 = .int .i64 (k : Int) ∧ Hid (wr2.heap[w5.heap.size]? = some (.cells (iC (rkTo (0 :: s) k l.length (rnkR l n (i : Int) l.length))) 3) ∧ wr2.heap[W1.heap.size]? = some (.cells (iC ((0 :: s).map fun (k : Nat) => (k : Int))) 3) ∧ Below w.heap.size w wr2)) (fun s35 _ => l.length - (intOf s35).toNat)
        case atStart => exact ⟨0, Nat.zero_le _, rfl, HX⟩
        case round =>
          obtain ⟨k, hk, rfl, HR2⟩ := hrel
          by_cases hlt : k < l.length
          · have hlt2 : k < (0 :: s).length := by rw [hlen2.out]; exact hlt
            obtain ⟨x, hx⟩ : ∃ x, (0 :: s)[k]? = some x := ⟨_, List.getElem?_eq_getElem hlt2⟩
            have hfx : rnkR l n (i : Int) l.length x = k := by
              cases k with
              | zero => simp at hx; subst hx; rfl
              | succ j => exact rnkR_at HP.out.1 HP.out.2 (by simpa using hx)
            have hxl : x < l.length := by
              rcases List.mem_cons.1 (List.mem_of_getElem? hx) with rfl | hm
              · omega
              · have := HP.out.1.mem_iff.1 hm
                rw [List.mem_range'_1] at this; omega
            have hxr : (rkTo (0 :: s) k l.length (rnkR l n (i : Int) l.length))[x]? = some ((rkTo (0 :: s) k l.length (rnkR l n (i : Int) l.length)).getD x 0) := by
              have : x < (rkTo (0 :: s) k l.length (rnkR l n (i : Int) l.length)).length := by simp [rkTo, hxl]
              rw [List.getD_eq_getElem?_getD, List.getElem?_eq_getElem this]; rfl
            obtain ⟨c1, f1⟩ := iC_cell HR2.out.1 hxr
            obtain ⟨c2, _⟩ := iC_cell HR2.out.2.1 (show ((0 :: s).map fun (k : Nat) => (k : Int))[k]? = some (x : Int) by rw [List.getElem?_map, hx]; rfl)
            have hx64 : (x : Int) < (l.length : Int) := by omega
            have HN := Lib.hid (show (wr.setCell ⟨w5.heap.size, x, none⟩ (.int .i64 (k : Int))).heap[w5.heap.size]? = some (.cells (iC (rkTo (0 :: s) (k + 1) l.length (rnkR l n (i : Int) l.length))) 3) ∧ (wr.setCell ⟨w5.heap.size, x, none⟩ (.int .i64 (k : Int))).heap[W1.heap.size]? = some (.cells (iC ((0 :: s).map fun (k : Nat) => (k : Int))) 3) ∧ Below w.heap.size w (wr.setCell ⟨w5.heap.size, x, none⟩ (.int .i64 (k : Int))) from
              ⟨by rw [iC_set HR2.out.1, rkTo_set hx hfx hxl], (Below.heap_setCell _ _ _ _ (by have := HG.out.1; simp; omega)).trans HR2.out.2.1, HR2.out.2.2.setCell (by have := HG.out.2; simp; omega) _⟩)
            clear hx hfx hxr hlt2
            go_wp2
            go_roundw
            case rel => exact ⟨k + 1, by omega, by go_num, HN⟩
            case measure => simp [intOf]; omega
          · obtain rfl : k = l.length := by omega
            go_wp2
            go_ret
            refine ⟨w5.heap.size, rfl, HR2.out.2.2, HG.out.2, ?_⟩
            have hfin := rkTo_all (l := l) (n := n) (b := (i : Int)) HP.out.1
            have hL2 : l.length - 1 + 1 = l.length := by have := Hm.out; omega
            rw [hL2] at hfin
            rw [← hfin]
            exact HR2.out.1
end Go.Proofs.YthgglobfkkcdgaaGreatDoor
namespace Go.Proofs.YthgglobfkkcdgaaGreatDoor
open Go Go.RowKit
set_option maxRecDepth 100000
def WgF (q : Nat → Int) (M : Nat) (P : World → Prop) (v : Value) : Prop := ∃ k cv, v = .func (.func k) #[] cv ∧ (∀ (args : Array Value) (w : World), (callFunc k args).run Tryz.prog w = .ok (.enter k args) w) ∧
  ∀ w, P w → ∀ x : Nat, x < M → Calls Tryz.prog k (#[.int .i64 (x : Int)] ++ cv) w fun e w' => e = .returned (.int .i64 (q x)) ∧ w' = w
theorem wg1_any (x : Nat) (w : World) : Calls Tryz.prog 63 #[.int .i64 (x : Int)] w fun e w' => e = .returned (.int .i64 1) ∧ w' = w := by
  go_enter Tryz.func63, Tryz.ntmps63
  go_wp2
  go_ret
  exact ⟨rfl, rfl⟩
set_option maxHeartbeats 1000000 in
theorem wg2_any {w : World} {B bs cs x : Nat} {l : List Sm} {As : Option Addr} (c0 : w.cell? ⟨bs, 0, none⟩ = some (.slice As l.length cs)) (hS : Syms w B As l.length l) (hl : l.length ≤ 1000) (har : arP l x ≤ 99 ∧ 0 ≤ arP l x) (hx : x < l.length) :
    Calls Tryz.prog 64 #[.int .i64 (x : Int), .pointer (some ⟨bs, 0, none⟩)] w fun e w' => e = .returned (.int .i64 (arP l x + 1)) ∧ w' = w := by
  obtain ⟨b, off, rfl, hb, hf⟩ := hS.ad (by omega)
  have hg : l[x]? = some l[x] := List.getElem?_eq_getElem hx
  have e1 := (hf x _ hg).2.1
  have ha : l[x].arity = arP l x := by unfold arP; rw [hg]; rfl
  rw [ha] at e1
  have hx' : (x : Int) < (l.length : Int) := by omega
  have hw : IntKind.i64.wrap (arP l x + 1) = arP l x + 1 := by rw [IntKind.wrap_i64]; omega
  clear hf hg ha hS
  go_enter Tryz.func64, Tryz.ntmps64
  go_wp2
  go_ret
  exact ⟨rfl, rfl⟩
set_option maxHeartbeats 1000000 in
theorem wg3_any {w : World} {B br c x : Nat} {rk : List Int} {A : Option Addr} (c0 : w.cell? ⟨br, 0, none⟩ = some (.slice A rk.length c)) (hI : Ints w B A rk) (hl : rk.length ≤ 1000) (hr : -1000000 ≤ rk.getD x 0 ∧ rk.getD x 0 ≤ 1000000) (hx : x < rk.length) :
    Calls Tryz.prog 65 #[.int .i64 (x : Int), .pointer (some ⟨br, 0, none⟩)] w fun e w' => e = .returned (.int .i64 (rk.getD x 0 + 1)) ∧ w' = w := by
  obtain ⟨b, off, rfl, hb, hf⟩ := hI.ad (by omega)
  have hg : rk[x]? = some (rk.getD x 0) := by rw [List.getD_eq_getElem?_getD, List.getElem?_eq_getElem hx]; rfl
  have e1 := hf x _ hg
  obtain ⟨y, hy⟩ : ∃ y, rk.getD x 0 = y := ⟨_, rfl⟩
  rw [hy] at e1 hr ⊢
  have hx' : (x : Int) < (rk.length : Int) := by omega
  have hw : IntKind.i64.wrap (y + 1) = y + 1 := by rw [IntKind.wrap_i64]; omega
  clear hf hg hI hy
  go_enter Tryz.func65, Tryz.ntmps65
  go_wp2
  go_ret
  exact ⟨rfl, rfl⟩
set_option maxHeartbeats 1000000 in
theorem wg4_any {w : World} {B bs c x : Nat} {n : List Int} {A : Option Addr} (c0 : w.cell? ⟨bs, 1, none⟩ = some (.slice A n.length c)) (hI : Ints w B A n) (hl : n.length ≤ 1000) (hr : 0 ≤ cnP n x ∧ cnP n x ≤ 1152921504606846976) (hx : x < n.length) :
    Calls Tryz.prog 66 #[.int .i64 (x : Int), .pointer (some ⟨bs, 0, none⟩)] w fun e w' => e = .returned (.int .i64 (cnP n x + 1)) ∧ w' = w := by
  obtain ⟨b, off, rfl, hb, hf⟩ := hI.ad (by omega)
  have hg : n[x]? = some (cnP n x) := by unfold cnP; rw [List.getD_eq_getElem?_getD, List.getElem?_eq_getElem hx]; rfl
  have e1 := hf x _ hg
  obtain ⟨y, hy⟩ : ∃ y, cnP n x = y := ⟨_, rfl⟩
  rw [hy] at e1 hr ⊢
  have hx' : (x : Int) < (n.length : Int) := by omega
  have hw : IntKind.i64.wrap (y + 1) = y + 1 := by rw [IntKind.wrap_i64]; omega
  clear hf hg hI hy
  go_enter Tryz.func66, Tryz.ntmps66
  go_wp2
  go_ret
  exact ⟨rfl, rfl⟩
set_option maxHeartbeats 4000000 in
theorem weighing_any {w : World} {B wb : Nat} {l : List Sm} {n rk : List Int} {As Ac Ar : Option Addr} {cs cc cr : Nat} (hB : B ≤ w.heap.size) (hlen : n.length = l.length) (hrl : rk.length = l.length) (hs : l.length ≤ 1000) (har : ∀ f, 0 ≤ arP l f ∧ arP l f ≤ 99) (hcn : ∀ f, 0 ≤ cnP n f ∧ cnP n f ≤ 1152921504606846976) (hrk : ∀ x, -1000000 ≤ rk.getD x 0 ∧ rk.getD x 0 ≤ 1000000)
    (hS : Syms w B As l.length l) (hI : Ints w B Ac n) (hR : Ints w w.heap.size Ar rk) (hi : wb ≤ 3) :
    Calls Tryz.prog 34 #[.agg #[.slice As l.length cs, .slice Ac n.length cc], .int .i64 (wb : Int), .slice Ar rk.length cr] w fun e w' => ∃ v, e = .returned v ∧ Below w.heap.size w w' ∧ WgF (wgX l n (wb : Int) rk) l.length (fun a => Below w'.heap.size w' a) v := by
  obtain ⟨W2, hW2⟩ : ∃ W2, (w.alloc (.cells #[.slice As l.length cs, .slice Ac n.length cc] 61)).alloc (.cells #[.slice Ar rk.length cr] 36) = W2 := ⟨_, rfl⟩
  have hW2' := hW2
  obtain ⟨q1, q2⟩ := heap2p w (.cells #[.slice As l.length cs, .slice Ac n.length cc] 61) (.cells #[.slice Ar rk.length cr] 36)
  rw [hW2] at q1 q2
  have z2 : W2.heap.size = w.heap.size + 2 := by rw [← hW2]; simp
  have hB2 : Below w.heap.size w W2 := by rw [← hW2]; exact ((Below.refl _ _).alloc (Nat.le_refl _) _).alloc (by simp) _
  have HQ := Lib.hid (And.intro q1 (And.intro q2 (And.intro z2 hB2)))
  have HL := Lib.hid (And.intro hlen hrl)
  have HW2 := Lib.hid hW2'
  have HF : Hid (∀ w', Below W2.heap.size W2 w' → ∀ a, Below w'.heap.size w' a → a.heap[w.heap.size]? = some (.cells #[.slice As l.length cs, .slice Ac n.length cc] 61) ∧ a.heap[w.heap.size + 1]? = some (.cells #[.slice Ar rk.length cr] 36) ∧ Below w.heap.size w a) := Lib.hid fun w' h1 a h2 => by
    have h3 : Below W2.heap.size W2 a := h1.trans (h2.mono h1.size)
    exact ⟨(h3.block _ (by omega)).trans q1, (h3.block _ (by omega)).trans q2, hB2.trans (h3.mono hB2.size)⟩
  clear hW2 hW2' q1 q2 z2 hB2 hlen hrl
  have hi : wb = 0 ∨ wb = 1 ∨ wb = 2 ∨ wb = 3 := by omega
  rcases hi with rfl | rfl | rfl | rfl
  all_goals
    go_enter Tryz.func34, Tryz.ntmps34
    go_upto_region 1 with fail
    rw [HW2.out]
    go_wp2
    go_ret
  · refine ⟨_, rfl, HQ.out.2.2.2.alloc HQ.out.2.2.2.size _, _, #[], rfl, enters_of Tryz.func63 (by kernel_rfl) rfl, fun a _ x _ => ?_⟩
    exact wg1_any x a
  · refine ⟨_, rfl, HQ.out.2.2.2.alloc HQ.out.2.2.2.size _, _, #[.pointer (some ⟨w.heap.size, 0, none⟩)], rfl, enters_of Tryz.func64 (by kernel_rfl) rfl, fun a ha x hx => ?_⟩
    obtain ⟨a1, a2, a3⟩ := HF.out _ ((Below.refl _ _).alloc (Nat.le_refl _) _) a ha
    exact wg2_any (cells_two a1).1 (hS.keep fun p hp => a3.cell (Nat.lt_of_lt_of_le hp hB)) hs ⟨(har x).2, (har x).1⟩ hx
  · refine ⟨_, rfl, HQ.out.2.2.2.alloc HQ.out.2.2.2.size _, _, #[.pointer (some ⟨w.heap.size + 1, 0, none⟩)], rfl, enters_of Tryz.func65 (by kernel_rfl) rfl, fun a ha x hx => ?_⟩
    obtain ⟨a1, a2, a3⟩ := HF.out _ ((Below.refl _ _).alloc (Nat.le_refl _) _) a ha
    exact wg3_any (cells_one a2).1 (hR.keep fun p hp => a3.cell hp) (by rw [HL.out.2]; exact hs) (hrk x) (by rw [HL.out.2]; exact hx)
  · refine ⟨_, rfl, HQ.out.2.2.2.alloc HQ.out.2.2.2.size _, _, #[.pointer (some ⟨w.heap.size, 0, none⟩)], rfl, enters_of Tryz.func66 (by kernel_rfl) rfl, fun a ha x hx => ?_⟩
    obtain ⟨a1, a2, a3⟩ := HF.out _ ((Below.refl _ _).alloc (Nat.le_refl _) _) a ha
    exact wg4_any (cells_two a1).2.1 (hI.keep fun p hp => a3.cell (Nat.lt_of_lt_of_le hp hB)) (by rw [HL.out.1]; exact hs) (hcn x) (by rw [HL.out.1]; exact hx)
end Go.Proofs.YthgglobfkkcdgaaGreatDoor
namespace Go.Proofs.YthgglobfkkcdgaaGreatDoor
open Go Go.RowKit
set_option maxRecDepth 100000
theorem idx_from : ∀ (xs : List Int) (x : Int) (k : Nat), (∀ j, j < k → xs[j]? ≠ some x) → (xs[k]? = some x → Lib.idxOf xs x = k) := by
  intro xs x k h hx
  have hlt := (List.getElem?_eq_some_iff.1 hx).1
  have := Lib.idxOf_hit xs xs.length k x hlt (Nat.le_refl _) (by rw [List.getD_eq_getElem?_getD, hx]; rfl) (fun j hj e => by
    have hj' : j < xs.length := by omega
    rw [List.getD_eq_getElem?_getD, List.getElem?_eq_getElem hj'] at e
    exact h j hj (by rw [List.getElem?_eq_getElem hj']; exact congrArg some e))
  rwa [List.take_length] at this
set_option maxHeartbeats 1000000 in
theorem idxP_any (xs : List Int) (x : Int) (h : Nat) (A : Option Addr) (c : Nat) (w : World) (hA : Ints w w.heap.size A xs) (hx : Lib.idxOf xs x = h) :
    Calls Tryz.prog 35 #[.slice A xs.length c, .int .i64 x] w fun e w' => e = .returned (.int .i64 (h : Int)) ∧ Below w.heap.size w w' := by
  have hlen := hA.len
  have HA := Lib.hid hA
  have HX := Lib.hid hx
  clear hA hx
  go_enter Tryz.func35, Tryz.ntmps35
  go_wp2
  go_loopw [8] (fun i wr => ∃ k q : Nat, k ≤ xs.length ∧ i = .int .i64 (k : Int) ∧ wr = w.drewN q ∧ Hid (∀ j, j < k → xs[j]? ≠ some x)) (fun i _ => xs.length - (intOf i).toNat)
  case atStart => exact ⟨0, 0, Nat.zero_le _, rfl, rfl, fun j h0 => absurd h0 (Nat.not_lt_zero _)⟩
  case round =>
    obtain ⟨k, q, hk, rfl, rfl, HB⟩ := hrel
    by_cases hlt : k < xs.length
    · obtain ⟨y, hy⟩ : ∃ y, xs[k]? = some y := ⟨_, List.getElem?_eq_getElem hlt⟩
      obtain ⟨b, off, rfl, _, hc⟩ := HA.out.ad (by omega)
      have hck := hc k y hy
      by_cases h0 : x = y
      · subst h0
        have hfin := Lib.hid (show (k : Int) = (h : Int) by rw [← idx_from xs x k HB.out hy, HX.out])
        clear hc hy
        go_wp2
        go_ret
        exact ⟨ret_int hfin.out, bl_drewN (Below.refl _ _) _⟩
      · have HN := Lib.hid (show ∀ j, j < k + 1 → xs[j]? ≠ some x from fun j hj e => by
          rcases Nat.lt_or_ge j k with h1 | h1
          · exact HB.out j h1 e
          · obtain rfl : j = k := by omega
            rw [hy] at e; exact h0 (Option.some.inj e).symm)
        clear hc hy
        go_wp2
        go_roundw
        case rel => exact ⟨k + 1, _, by omega, by go_num, rfl, HN⟩
        case measure => simp [intOf]; omega
    · exfalso
      obtain rfl : k = xs.length := by omega
      have := Lib.idxOf_miss xs xs.length x (fun j hj e => by
        rw [List.getD_eq_getElem?_getD, List.getElem?_eq_getElem hj] at e
        exact HB.out j hj (by rw [List.getElem?_eq_getElem hj]; exact congrArg some e))
      rw [List.take_length, HX.out] at this
      omega
def wgTo (q : Nat → Int) (k m : Nat) : List Int := (List.range m).map fun j => if j < k then min (q j) 1000 else 0
theorem wgTo_zero (q : Nat → Int) (m : Nat) : wgTo q 0 m = upTo 0 m := by simp [wgTo, upTo]
theorem wgTo_all (q : Nat → Int) (m : Nat) : wgTo q m m = (List.range m).map fun j => min (q j) 1000 := by
  unfold wgTo
  apply List.map_congr_left
  intro j hj
  rw [if_pos (List.mem_range.1 hj)]
theorem wgTo_set {q : Nat → Int} {k m : Nat} (h : k < m) : (wgTo q k m).set k (min (q k) 1000) = wgTo q (k + 1) m := by
  unfold wgTo
  apply List.ext_getElem?
  intro t
  rw [List.getElem?_set]
  rcases Nat.lt_or_ge t m with ht | ht
  · rw [List.getElem?_map, List.getElem?_map, List.getElem?_range ht]
    by_cases hkt : k = t
    · subst hkt; simp [ht]
    · rw [if_neg hkt]
      simp only [Option.map_some]
      by_cases h1 : t < k
      · rw [if_pos h1, if_pos (by omega)]
      · rw [if_neg h1, if_neg (by omega)]
  · have : ¬ k = t := by omega
    rw [if_neg this, List.getElem?_eq_none (by simpa using ht), List.getElem?_eq_none (by simpa using ht)]
theorem wgTo_len (q : Nat → Int) (k m : Nat) : (wgTo q k m).length = m := by simp [wgTo]
theorem iC_at {w : World} {g : Nat} {xs : List Int} (h : w.heap[g]? = some (.cells (iC xs) 3)) {j : Nat} (hj : j < xs.length) : w.cell? ⟨g, j, none⟩ = some (.int .i64 xs[j]) ∧ w.frozen? ⟨g, j, none⟩ = false := iC_cell h (List.getElem?_eq_getElem hj)
set_option maxHeartbeats 4000000 in
theorem weights_any {w : World} {B wb h : Nat} {b : Int} {lpo top : Bool} {l : List Sm} {n rk : List Int} {As Ac Ar : Option Addr} {cs cc cr : Nat} (hB : B ≤ w.heap.size) (hlen : n.length = l.length) (hrl : rk.length = l.length) (h1 : 1 ≤ l.length) (hs : l.length ≤ 1000) (har : ∀ f, 0 ≤ arP l f ∧ arP l f ≤ 99) (hcn : ∀ f, 0 ≤ cnP n f ∧ cnP n f ≤ 1152921504606846976) (hrk : ∀ x, -1000000 ≤ rk.getD x 0 ∧ rk.getD x 0 ≤ 1000000)
    (hh : h < l.length) (hx : Lib.idxOf rk ((l.length : Int) - 1) = h) (hS : Syms w B As l.length l) (hI : Ints w B Ac n) (hR : Ints w w.heap.size Ar rk) (hi : wb ≤ 3) :
    Calls Tryz.prog 18 #[.agg #[.slice As l.length cs, .slice Ac n.length cc], .agg #[.bool lpo, .int .i64 b, .int .i64 (wb : Int), .bool top], .slice Ar rk.length cr] w fun e w' => ∃ g, e = .returned (.slice (some ⟨g, 0, none⟩) l.length l.length) ∧ Below w.heap.size w w' ∧ w.heap.size ≤ g ∧ w'.heap[g]? = some (.cells (iC (wtP l n (wb : Int) top rk h)) 3) := by
  obtain ⟨W2, hW2⟩ : ∃ W2, (w.alloc (.cells #[.slice As l.length cs, .slice Ac n.length cc] 61)).alloc (.cells #[.bool lpo, .int .i64 b, .int .i64 (wb : Int), .bool top] 29) = W2 := ⟨_, rfl⟩
  obtain ⟨q1, q2⟩ := heap2p w (.cells #[.slice As l.length cs, .slice Ac n.length cc] 61) (.cells #[.bool lpo, .int .i64 b, .int .i64 (wb : Int), .bool top] 29)
  rw [hW2] at q1 q2
  have z2 : W2.heap.size = w.heap.size + 2 := by rw [← hW2]; simp
  have hB2 : Below w.heap.size w W2 := by rw [← hW2]; exact ((Below.refl _ _).alloc (Nat.le_refl _) _).alloc (by simp) _
  have hwg := weighing_any (w := W2) (wb := wb) (cs := cs) (cc := cc) (cr := cr) (Nat.le_trans hB hB2.size) hlen hrl hs har hcn hrk (hS.keep fun p hp => hB2.cell (Nat.lt_of_lt_of_le hp hB)) (hI.keep fun p hp => hB2.cell (Nat.lt_of_lt_of_le hp hB)) (hR.on hB2) hi
  have c0 := (cells_two q1).1
  have c1 := (cells_two q1).2.1
  have d2 : W2.cell? ⟨w.heap.size + 1, 2, none⟩ = some (.int .i64 (wb : Int)) := by simp [World.cell?, q2]
  have HWG := Lib.hid hwg
  have HQ := Lib.hid (And.intro q1 (And.intro q2 (And.intro z2 hB2)))
  have HL := Lib.hid (And.intro hlen hrl)
  have HW2 := Lib.hid hW2
  have HX := Lib.hid hx
  clear hW2 q1 q2 z2 hB2 hlen hrl hwg hx
  go_enter Tryz.func18, Tryz.ntmps18
  go_upto_region 1 with fail
  rw [HW2.out]
  obtain ⟨i0, hi1, hz0, hz1, hz2⟩ := info_parts infoI
  have hmk : ∀ w : World, (Instr.makeSlice 36 (.int .i64 (rk.length : Int)) (.int .i64 (rk.length : Int))).run Tryz.prog w = .ok (.slice (some ⟨w.heap.size, 0, none⟩) rk.length rk.length) (w.alloc (.cells (iC (upTo 0 rk.length)) 3)) := fun w => by
    rw [← made_iC]; exact run_make_row _ _ i0 _ Tryz.underlying36 hi1 hz0 hz1 rfl _ _ rk.length (by rw [hz2]; have := HL.out.2; omega) (by have := HL.out.2; omega) w
  clear hi1 hz0 hz1 hz2
  go_wp2_with (first
    | ((with_reducible refine HWG.out.mono ?_); go_must (rintro e w3 ⟨v, rfl, hb3, kf, cv, rfl, hent, hcall⟩; have HV := Lib.hid hcall; clear hcall c0 c1 d2))
    | fail)
  clear hmk
  have HB3 := Lib.hid hb3
  clear hb3
  have hrl64 : rk.length ≤ 1000 := by rw [HL.out.2]; exact hs
  obtain ⟨q, hq⟩ : ∃ q, wgX l n (wb : Int) rk = q := ⟨_, rfl⟩
  rw [hq] at HV
  have Hq := Lib.hid hq
  clear hq
  go_loopw [21] (fun s21 wr => ∃ k : Nat, k ≤ rk.length ∧ s21 = .int .i64 (k : Int) ∧ Hid (Below w3.heap.size w3 wr ∧ w3.heap.size < wr.heap.size ∧ wr.heap[w3.heap.size]? = some (.cells (iC (wgTo q k rk.length)) 3))) (fun s21 _ => rk.length - (intOf s21).toNat)
  case atStart => exact ⟨0, Nat.zero_le _, rfl, (Below.refl _ _).alloc (Nat.le_refl _) _, by simp, by rw [wgTo_zero]; exact heap_alloc_new w3 _⟩
  case round =>
    obtain ⟨k, hk, rfl, HR⟩ := hrel
    by_cases hlt : k < rk.length
    · obtain ⟨c1, f1⟩ := iC_at HR.out.2.2 (j := k) (by rw [wgTo_len]; exact hlt)
      have HC := HV.out wr HR.out.1 k (by rw [← HL.out.2]; exact hlt)
      obtain ⟨y, hy⟩ : ∃ y, q k = y := ⟨_, rfl⟩
      rw [hy] at HC
      replace HC := Lib.hid HC
      have HN := Lib.hid (show Below w3.heap.size w3 (wr.setCell ⟨w3.heap.size, k, none⟩ (.int .i64 (min y 1000))) ∧ w3.heap.size < (wr.setCell ⟨w3.heap.size, k, none⟩ (.int .i64 (min y 1000))).heap.size ∧ (wr.setCell ⟨w3.heap.size, k, none⟩ (.int .i64 (min y 1000))).heap[w3.heap.size]? = some (.cells (iC (wgTo q (k + 1) rk.length)) 3) from
        ⟨HR.out.1.setCell (Nat.le_refl _) _, by simpa using HR.out.2.1, by rw [iC_set HR.out.2.2, ← hy, wgTo_set hlt]⟩)
      clear hy
      go_wp2_with (first
        | ((with_reducible refine HC.out.mono ?_); go_must (rintro e w5 ⟨rfl, rfl⟩))
        | fail)
      go_roundw
      case rel => exact ⟨k + 1, by omega, by go_num, HN⟩
      case measure => simp [intOf]; omega
    · obtain rfl : k = rk.length := by omega
      have hL1 : 1 ≤ rk.length := by rw [HL.out.2]; exact h1
      obtain ⟨c1, f1⟩ := iC_at HR.out.2.2 (j := 0) (by rw [wgTo_len]; omega)
      obtain ⟨W5, hW5⟩ : ∃ W5, wr.setCell ⟨w3.heap.size, 0, none⟩ (.int .i64 1) = W5 := ⟨_, rfl⟩
      have q5 : W5.heap[w3.heap.size]? = some (.cells (iC ((wgTo q rk.length rk.length).set 0 1)) 3) := by rw [← hW5, iC_set HR.out.2.2]
      have b5 : Below w3.heap.size w3 W5 := by rw [← hW5]; exact HR.out.1.setCell (Nat.le_refl _) _
      have s5 : w3.heap.size < W5.heap.size := (Array.getElem?_eq_some_iff.1 q5).1
      have bw : Below w.heap.size w W5 := HQ.out.2.2.2.trans ((HB3.out.trans (b5.mono HB3.out.size)).mono HQ.out.2.2.2.size)
      have bW2 : Below W2.heap.size W2 W5 := HB3.out.trans (b5.mono HB3.out.size)
      have Hix := Lib.hid (idxP_any rk ((rk.length : Int) - 1) h Ar cr W5 (hR.on bw) (by rw [HL.out.2]; exact HX.out))
      have H5 := Lib.hid (And.intro q5 (And.intro b5 (And.intro s5 (And.intro bw bW2))))
      have HU : Hid (∀ w6, Below W5.heap.size W5 w6 → Calls Tryz.prog 36 #[.agg #[.slice As l.length cs, .slice Ac n.length cc], .int .i64 (h : Int)] w6 fun e w' => e = .returned (.int .i64 (unI (arP l h))) ∧ On w6 w') := Lib.hid fun w6 hb6 => unary_any (B := B) (Nat.le_trans hB (Nat.le_trans bw.size hb6.size)) (hS.keep fun p hp => (bw.trans (hb6.mono bw.size)).cell (Nat.lt_of_lt_of_le hp hB)) hs hh
      have HM : Hid (∀ w6, Below W5.heap.size W5 w6 → w6.cell? ⟨w.heap.size, 0, none⟩ = some (.slice As l.length cs) ∧ w6.cell? ⟨w.heap.size, 1, none⟩ = some (.slice Ac n.length cc) ∧ w6.cell? ⟨w.heap.size + 1, 3, none⟩ = some (.bool top) ∧ w6.heap[w3.heap.size]? = some (.cells (iC ((wgTo q rk.length rk.length).set 0 1)) 3)) := Lib.hid fun w6 hb6 => by
        have e1 := ((bW2.trans (hb6.mono bW2.size)).block w.heap.size (by have := HQ.out.2.2.1; omega)).trans HQ.out.1
        have e2 := ((bW2.trans (hb6.mono bW2.size)).block (w.heap.size + 1) (by have := HQ.out.2.2.1; omega)).trans HQ.out.2.1
        exact ⟨(cells_two e1).1, (cells_two e1).2.1, by simp [World.cell?, e2], (hb6.block _ s5).trans q5⟩
      have hwr : IntKind.i64.wrap ((rk.length : Int) - 1) = (rk.length : Int) - 1 := by rw [IntKind.wrap_i64]; omega
      have HW5 := Lib.hid hW5
      have Hh9 := Lib.hid (show (h : Int) < (rk.length : Int) by have := HL.out.2; omega)
      have hset := Lib.hid (show wtP l n (wb : Int) top rk h = (if top = true ∧ arP l h = 1 then ((wgTo q rk.length rk.length).set 0 1).set h 0 else (wgTo q rk.length rk.length).set 0 1) by unfold wtP; rw [wgTo_all, ← Hq.out])
      have hgl := Lib.hid (show w.heap.size ≤ w3.heap.size from Nat.le_trans HQ.out.2.2.2.size HB3.out.size)
      clear q5 b5 s5 bw bW2 hW5
      cases htop : top with
      | false =>
        go_upto_region 9 with fail
        rw [HW5.out]
        go_wp2_with (first
          | ((with_reducible refine Hix.out.mono ?_); go_must (rintro e w6 ⟨rfl, hb6⟩; obtain ⟨m0, m1, m2, m3⟩ := HM.out w6 hb6; have HM3 := Lib.hid m3; have HB6 := Lib.hid hb6; have HU6 := Lib.hid (HU.out w6 hb6); clear m3 hb6))
          | fail)
        go_ret
        refine ⟨w3.heap.size, by rw [← HL.out.2]; rfl, H5.out.2.2.2.1.trans (HB6.out.mono H5.out.2.2.2.1.size), hgl.out, ?_⟩
        rw [hset.out, if_neg (by rw [htop]; simp)]
        exact HM3.out
      | true =>
        by_cases hu : arP l h = 1
        · have hu1 : unI (arP l h) = 1 := by unfold unI; rw [if_pos hu]
          rw [hu1] at HU
          go_upto_region 9 with fail
          rw [HW5.out]
          go_wp2_with (first
            | ((with_reducible refine Hix.out.mono ?_); go_must (rintro e w6 ⟨rfl, hb6⟩; obtain ⟨m0, m1, m2, m3⟩ := HM.out w6 hb6; have HM3 := Lib.hid m3; have HB6 := Lib.hid hb6; have HU6 := Lib.hid (HU.out w6 hb6); clear m3 hb6))
            | ((with_reducible refine HU6.out.mono ?_); go_must (rintro e w7 ⟨rfl, hon⟩; have m7 := blk_st hon.b HM3.out; have HB7 := Lib.hid (H5.out.2.2.2.1.trans ((HB6.out.trans (hon.b.mono HB6.out.size)).mono H5.out.2.2.2.1.size)); have HM7 := Lib.hid m7; obtain ⟨c9, f9⟩ := iC_at m7 (j := h) (by have e1 := HL.out.2; simp only [List.length_set, wgTo_len]; omega); have hh9 := Hh9.out; clear hon m7 m0 m1 m2))
            | fail)
          go_ret
          refine ⟨w3.heap.size, by rw [← HL.out.2]; rfl, HB7.out.setCell hgl.out _, hgl.out, ?_⟩
          rw [hset.out, if_pos ⟨htop, hu⟩]
          exact iC_set HM7.out h 0
        · have hu1 : unI (arP l h) = 0 := by unfold unI; rw [if_neg hu]
          rw [hu1] at HU
          go_upto_region 9 with fail
          rw [HW5.out]
          go_wp2_with (first
            | ((with_reducible refine Hix.out.mono ?_); go_must (rintro e w6 ⟨rfl, hb6⟩; obtain ⟨m0, m1, m2, m3⟩ := HM.out w6 hb6; have HM3 := Lib.hid m3; have HB6 := Lib.hid hb6; have HU6 := Lib.hid (HU.out w6 hb6); clear m3 hb6))
            | ((with_reducible refine HU6.out.mono ?_); go_must (rintro e w7 ⟨rfl, hon⟩; have m7 := blk_st hon.b HM3.out; have HB7 := Lib.hid (H5.out.2.2.2.1.trans ((HB6.out.trans (hon.b.mono HB6.out.size)).mono H5.out.2.2.2.1.size)); have HM7 := Lib.hid m7; clear hon m7 m0 m1 m2))
            | fail)
          go_ret
          refine ⟨w3.heap.size, by rw [← HL.out.2]; rfl, HB7.out, hgl.out, ?_⟩
          rw [hset.out, if_neg (fun e => hu e.2)]
          exact HM7.out
end Go.Proofs.YthgglobfkkcdgaaGreatDoor
namespace Go.Proofs.YthgglobfkkcdgaaGreatDoor
open Go Go.RowKit
set_option maxRecDepth 100000
def nameB (b wb : Int) : Bool := decide (0 ≤ b ∧ b ≤ 4 ∧ 0 ≤ wb ∧ wb ≤ 3)
theorem nameB_yes {b wb : Int} (h : 0 ≤ b ∧ b ≤ 4 ∧ 0 ≤ wb ∧ wb ≤ 3) : nameB b wb = true := decide_eq_true h
theorem nameB_no {b wb : Int} (h : ¬ (0 ≤ b ∧ b ≤ 4 ∧ 0 ≤ wb ∧ wb ≤ 3)) : nameB b wb = false := decide_eq_false h
set_option maxHeartbeats 1000000 in
theorem named_any (lpo top : Bool) (b wb : Int) (w : World) :
    Calls Tryz.prog 16 #[.agg #[.bool lpo, .int .i64 b, .int .i64 wb, .bool top]] w fun e w' => e = .returned (.bool (nameB b wb)) ∧ Below w.heap.size w w' := by
  have hb : Below w.heap.size w (w.alloc (.cells #[.bool lpo, .int .i64 b, .int .i64 wb, .bool top] 29)) := (Below.refl _ _).alloc (Nat.le_refl _) _
  have HB := Lib.hid hb
  clear hb
  by_cases h0 : 0 ≤ b
  · by_cases h1 : b ≤ 4
    · by_cases h2 : 0 ≤ wb
      · by_cases h3 : wb ≤ 3
        · have hf := Lib.hid (nameB_yes ⟨h0, h1, h2, h3⟩)
          go_enter Tryz.func16, Tryz.ntmps16
          go_wp2
          go_ret
          exact ⟨ret_bool hf.out.symm, HB.out⟩
        · have hf := Lib.hid (nameB_no (b := b) (wb := wb) (by omega))
          go_enter Tryz.func16, Tryz.ntmps16
          go_wp2
          go_ret
          exact ⟨ret_bool hf.out.symm, HB.out⟩
      · have hf := Lib.hid (nameB_no (b := b) (wb := wb) (by omega))
        go_enter Tryz.func16, Tryz.ntmps16
        go_wp2
        go_ret
        exact ⟨ret_bool hf.out.symm, HB.out⟩
    · have hf := Lib.hid (nameB_no (b := b) (wb := wb) (by omega))
      go_enter Tryz.func16, Tryz.ntmps16
      go_wp2
      go_ret
      exact ⟨ret_bool hf.out.symm, HB.out⟩
  · have hf := Lib.hid (nameB_no (b := b) (wb := wb) (by omega))
    go_enter Tryz.func16, Tryz.ntmps16
    go_wp2
    go_ret
    exact ⟨ret_bool hf.out.symm, HB.out⟩
theorem ints_of {w : World} {g : Nat} {n : List Int} (h : w.heap[g]? = some (.cells (iC n) 3)) (hl : n.length ≤ 9223372036854775807) (hi : ∀ x ∈ n, I64 x) : Ints w (g + 1) (some ⟨g, 0, none⟩) n :=
  ⟨hl, hi, fun _ => ⟨g, 0, rfl, Nat.lt_succ_self _, fun i x hx => by rw [Nat.zero_add]; exact (iC_cell h hx).1⟩⟩
def CountsPost (l : List Sm) (no : Bool) (n : List Int) (w : World) (e : Ending) (w' : World) : Prop := Below w.heap.size w w' ∧ if no = true then e = .returned (.tuple #[.slice none 0 0, .int .i64 2]) else ∃ g, e = .returned (.tuple #[.slice (some ⟨g, 0, none⟩) l.length l.length, .int .i64 0]) ∧ w.heap.size ≤ g ∧ w'.heap[g]? = some (.cells (iC n) 3)
end Go.Proofs.YthgglobfkkcdgaaGreatDoor
namespace Go.Proofs.YthgglobfkkcdgaaGreatDoor
open Go Go.RowKit
set_option maxRecDepth 100000
theorem four_cells {W : World} {b : Nat} {x y z u : Value} {t : TypeId} (h : W.heap[b]? = some (.cells #[x, y, z, u] t)) : (W.cell? ⟨b, 0, none⟩ = some x ∧ W.cell? ⟨b, 1, none⟩ = some y ∧ W.cell? ⟨b, 2, none⟩ = some z ∧ W.cell? ⟨b, 3, none⟩ = some u) ∧
    W.frozen? ⟨b, 0, none⟩ = false ∧ W.frozen? ⟨b, 1, none⟩ = false ∧ W.frozen? ⟨b, 2, none⟩ = false ∧ W.frozen? ⟨b, 3, none⟩ = false := by
  simp [World.cell?, World.frozen?, h]
def MakePost (l : List Sm) (no lpo top : Bool) (n : List Int) (b wb : Int) (w : World) (e : Ending) (w' : World) : Prop := Below w.heap.size w w' ∧
  if no = true ∨ nameB b wb = false then e = .returned (.tuple #[.agg #[.bool false, .slice none 0 0, .slice none 0 0, .int .i64 0], .int .i64 2])
  else if lpo = true then ∃ g, e = .returned (.tuple #[.agg #[.bool true, .slice (some ⟨g, 0, none⟩) l.length l.length, .slice none 0 0, .int .i64 0], .int .i64 0]) ∧ w.heap.size ≤ g ∧ w'.heap[g]? = some (.cells (iC (rkLs l n b l.length)) 3)
  else ∃ g g2, e = .returned (.tuple #[.agg #[.bool false, .slice (some ⟨g, 0, none⟩) l.length l.length, .slice (some ⟨g2, 0, none⟩) l.length l.length, .int .i64 1], .int .i64 0]) ∧ w.heap.size ≤ g ∧ w.heap.size ≤ g2 ∧ w'.heap[g]? = some (.cells (iC (rkLs l n b l.length)) 3) ∧
    w'.heap[g2]? = some (.cells (iC (wtL l n wb top (rkLs l n b l.length))) 3)
theorem heap3p (w : World) (o1 o2 o3 : Obj) : (((w.alloc o1).alloc o2).alloc o3).heap[w.heap.size]? = some o1 ∧ (((w.alloc o1).alloc o2).alloc o3).heap[w.heap.size + 1]? = some o2 ∧ (((w.alloc o1).alloc o2).alloc o3).heap[w.heap.size + 2]? = some o3 := by
  obtain ⟨e1, e2⟩ := heap2p w o1 o2
  have e3 := heap_alloc_new ((w.alloc o1).alloc o2) o3
  have hz : ((w.alloc o1).alloc o2).heap.size = w.heap.size + 2 := by simp
  rw [hz] at e3
  refine ⟨?_, ?_, e3⟩
  · rw [Below.heap_alloc _ _ _ (by simp; omega)]; exact e1
  · rw [Below.heap_alloc _ _ _ (by simp)]; exact e2
theorem set4_other (W : World) {b k : Nat} (x y z u : Value) (h : k ≠ b) : ((((W.setCell ⟨b, 0, none⟩ x).setCell ⟨b, 1, none⟩ y).setCell ⟨b, 2, none⟩ z).setCell ⟨b, 3, none⟩ u).heap[k]? = W.heap[k]? :=
  (Below.heap_setCell _ _ _ _ (by exact h)).trans ((Below.heap_setCell _ _ _ _ (by exact h)).trans ((Below.heap_setCell _ _ _ _ (by exact h)).trans (Below.heap_setCell _ _ _ _ (by exact h))))
set_option maxHeartbeats 4000000 in
theorem make_of {w : World} {l : List Sm} {n : List Int} {b wb : Int} {lpo top no : Bool} {As Aq : Option Addr} {cs nq cq m : Nat} (hm : l.length = m + 1) (hs : m ≤ 999) (hlen : n.length = l.length) (har : ∀ f, 0 ≤ arP l f ∧ arP l f ≤ 99) (hcn : ∀ f, 0 ≤ cnP n f ∧ cnP n f ≤ 1152921504606846976) (hS : Syms w w.heap.size As l.length l)
    (hC : ∀ w1, Below w.heap.size w w1 → Calls Tryz.prog 15 #[.agg #[.slice As l.length cs], .slice Aq nq cq] w1 (CountsPost l no n w1)) :
    Calls Tryz.prog 5 #[.agg #[.slice As l.length cs], .slice Aq nq cq, .agg #[.bool lpo, .int .i64 b, .int .i64 wb, .bool top]] w (MakePost l no lpo top n b wb w) := by
  obtain ⟨W3, hW3⟩ : ∃ W3, ((w.alloc (.cells #[.slice As l.length cs] 24)).alloc (.cells #[.bool lpo, .int .i64 b, .int .i64 wb, .bool top] 29)).alloc (.cells #[.bool false, .slice none 0 0, .slice none 0 0, .int .i64 0] 38) = W3 := ⟨_, rfl⟩
  obtain ⟨q1, q2, q3⟩ := heap3p w (.cells #[.slice As l.length cs] 24) (.cells #[.bool lpo, .int .i64 b, .int .i64 wb, .bool top] 29) (.cells #[.bool false, .slice none 0 0, .slice none 0 0, .int .i64 0] 38)
  rw [hW3] at q1 q2 q3
  have z3 : W3.heap.size = w.heap.size + 3 := by rw [← hW3]; simp
  have hB3 : Below w.heap.size w W3 := by rw [← hW3]; exact (((Below.refl _ _).alloc (Nat.le_refl _) _).alloc (by simp) _).alloc (by simp; omega) _
  have HW3 := Lib.hid hW3
  have HC := Lib.hid (hC W3 hB3)
  have HM : Hid (∀ w4, Below W3.heap.size W3 w4 → Below w.heap.size w w4 ∧ (w4.cell? ⟨w.heap.size, 0, none⟩ = some (.slice As l.length cs)) ∧ (((w4.cell? ⟨w.heap.size + 1, 0, none⟩ = some (.bool lpo)) ∧ (w4.cell? ⟨w.heap.size + 1, 1, none⟩ = some (.int .i64 b)) ∧ (w4.cell? ⟨w.heap.size + 1, 2, none⟩ = some (.int .i64 wb)) ∧ (w4.cell? ⟨w.heap.size + 1, 3, none⟩ = some (.bool top)))) ∧
      w4.heap[w.heap.size + 2]? = some (.cells #[.bool false, .slice none 0 0, .slice none 0 0, .int .i64 0] 38)) := Lib.hid fun w4 h4 => by
    have e1 := (h4.block w.heap.size (by omega)).trans q1
    have e2 := (h4.block (w.heap.size + 1) (by omega)).trans q2
    have e3 := (h4.block (w.heap.size + 2) (by omega)).trans q3
    exact ⟨hB3.trans (h4.mono hB3.size), (cells_one e1).1, (four_cells e2).1, e3⟩
  have c0 := (cells_one q1).1
  have Hm := Lib.hid (And.intro hm (And.intro hs (And.intro hlen z3)))
  clear hC hW3 q1 q2 q3 z3 hB3 hm hs hlen
  cases no with
  | true =>
    go_enter Tryz.func5, Tryz.ntmps5
    go_upto_region 1 with fail
    rw [HW3.out]
    go_wp2_with (first
      | ((with_reducible refine HC.out.mono ?_); go_must (rintro e w4 ⟨hb4, hp⟩; rw [if_pos rfl] at hp; subst hp; obtain ⟨hbw, m0, _, m3⟩ := HM.out w4 hb4; obtain ⟨⟨x0, x1, x2, x3⟩, y0, y1, y2, y3⟩ := four_cells m3; have HBw := Lib.hid hbw; clear m0 m3 hb4 hbw))
      | fail)
    refine bodyPost_ret (v := .tuple #[.agg #[.bool false, .slice none 0 0, .slice none 0 0, .int .i64 0], .int .i64 2]) (by simp [results, Tryz.results5, go_sem, x0, x1, x2, x3]) rfl ⟨?_, ?_⟩
    · exact (((HBw.out.setCell (by simp; omega) _).setCell (by simp; omega) _).setCell (by simp; omega) _).setCell (by simp; omega) _
    · rw [if_pos (.inl rfl)]
  | false =>
    by_cases hnm : nameB b wb = false
    · go_enter Tryz.func5, Tryz.ntmps5
      go_upto_region 1 with fail
      rw [HW3.out]
      have HN : Hid (∀ w4, Calls Tryz.prog 16 #[.agg #[.bool lpo, .int .i64 b, .int .i64 wb, .bool top]] w4 fun e w' => e = .returned (.bool false) ∧ Below w4.heap.size w4 w') := Lib.hid fun w4 => by rw [← hnm]; exact named_any lpo top b wb w4
      go_wp2_with (first
        | ((with_reducible refine HC.out.mono ?_); go_must (rintro e w4 ⟨hb4, hp⟩; rw [if_neg (by decide)] at hp; obtain ⟨g, rfl, hg, hrow⟩ := hp; have HB4 := Lib.hid hb4; obtain ⟨hbw, m0, ⟨p0, p1, p2, p3⟩, m3⟩ := HM.out w4 hb4; clear m0 m3 hb4 hbw hg hrow))
        | (go_at_call 16; (with_reducible refine (HN.out _).mono ?_); go_must (rintro e w5 ⟨rfl, hb5⟩; obtain ⟨hbw, m0, _, m3⟩ := HM.out w5 (HB4.out.trans (hb5.mono HB4.out.size)); obtain ⟨⟨x0, x1, x2, x3⟩, y0, y1, y2, y3⟩ := four_cells m3; have HBw := Lib.hid hbw; clear m0 m3 hb5 hbw p0 p1 p2 p3))
        | fail)
      refine bodyPost_ret (v := .tuple #[.agg #[.bool false, .slice none 0 0, .slice none 0 0, .int .i64 0], .int .i64 2]) (by simp [results, Tryz.results5, go_sem, x0, x1, x2, x3]) rfl ⟨?_, ?_⟩
      · exact (((HBw.out.setCell (by simp; omega) _).setCell (by simp; omega) _).setCell (by simp; omega) _).setCell (by simp; omega) _
      · rw [if_pos (.inr hnm)]
    · have hnm : nameB b wb = true := by simpa using hnm
      obtain ⟨b0, b4, w0, w3⟩ := of_decide_eq_true hnm
      obtain ⟨i, rfl⟩ : ∃ i : Nat, b = (i : Int) := ⟨b.toNat, by omega⟩
      obtain ⟨j, rfl⟩ : ∃ j : Nat, wb = (j : Int) := ⟨wb.toNat, by omega⟩
      have hi : i ≤ 4 := by omega
      have hj : j ≤ 3 := by omega
      clear b0 b4 w0 w3
      have HN : Hid (∀ w4, Calls Tryz.prog 16 #[.agg #[.bool lpo, .int .i64 (i : Int), .int .i64 (j : Int), .bool top]] w4 fun e w' => e = .returned (.bool true) ∧ Below w4.heap.size w4 w') := Lib.hid fun w4 => by rw [← hnm]; exact named_any lpo top (i : Int) (j : Int) w4
      have hn64 : ∀ x ∈ n, I64 x := by
        intro x hx
        obtain ⟨f, hf, rfl⟩ := List.getElem_of_mem hx
        have := hcn f
        unfold cnP at this
        rw [List.getD_eq_getElem?_getD, List.getElem?_eq_getElem hf] at this
        simp only [Option.getD_some] at this
        unfold I64; omega
      have HRn : Hid (∀ w5 g, Below W3.heap.size W3 w5 → w5.heap[g]? = some (.cells (iC n) 3) → Calls Tryz.prog 17 #[.agg #[.slice As l.length cs, .slice (some ⟨g, 0, none⟩) l.length l.length], .int .i64 (i : Int)] (w5.alloc (.cells #[.slice As l.length cs, .slice (some ⟨g, 0, none⟩) l.length l.length] 61)) fun e w' =>
          ∃ g7, e = .returned (.slice (some ⟨g7, 0, none⟩) l.length l.length) ∧ Below (w5.heap.size + 1) (w5.alloc (.cells #[.slice As l.length cs, .slice (some ⟨g, 0, none⟩) l.length l.length] 61)) w' ∧ w5.heap.size + 1 ≤ g7 ∧ w'.heap[g7]? = some (.cells (iC (rkLs l n (i : Int) l.length)) 3)) := Lib.hid fun w5 g h5 hg => by
        have hbl : Below w5.heap.size w5 (w5.alloc (.cells #[.slice As l.length cs, .slice (some ⟨g, 0, none⟩) l.length l.length] 61)) := (Below.refl _ _).alloc (Nat.le_refl _) _
        have hbw := (HM.out w5 h5).1
        have hz : (w5.alloc (.cells #[.slice As l.length cs, .slice (some ⟨g, 0, none⟩) l.length l.length] 61)).heap.size = w5.heap.size + 1 := by simp
        have hI := (ints_of (blk_st hbl hg) (by have := Hm.out; omega) hn64).more (show g + 1 ≤ (w5.alloc (.cells #[.slice As l.length cs, .slice (some ⟨g, 0, none⟩) l.length l.length] 61)).heap.size by have := (Array.getElem?_eq_some_iff.1 hg).1; simp; omega)
        have hr := ranks_any (w := w5.alloc (.cells #[.slice As l.length cs, .slice (some ⟨g, 0, none⟩) l.length l.length] 61)) (cs := cs) (cc := l.length) (Nat.le_refl _) Hm.out.2.2.1 Hm.out.1 Hm.out.2.1 har ((hS.on hbw).on hbl) hI hi
        rw [Hm.out.2.2.1, hz] at hr
        exact hr
      cases lpo with
      | true =>
        go_enter Tryz.func5, Tryz.ntmps5
        go_upto_region 1 with fail
        rw [HW3.out]
        go_wp2_with (first
          | ((with_reducible refine HC.out.mono ?_); go_must (rintro e w4 ⟨hb4, hp⟩; rw [if_neg (by decide)] at hp; obtain ⟨g, rfl, hg, hrow⟩ := hp; have HB4 := Lib.hid hb4; have HRow := Lib.hid (And.intro hg hrow); obtain ⟨hbw, m0, ⟨p0, p1, p2, p3⟩, m3⟩ := HM.out w4 hb4; clear m3 hb4 hbw hg hrow))
          | (go_at_call 16; (with_reducible refine (HN.out _).mono ?_); go_must (rintro e w5 ⟨rfl, hb5⟩; have HB5 := Lib.hid (HB4.out.trans (hb5.mono HB4.out.size)); have HRow5 := Lib.hid (And.intro HRow.out.1 (blk_st hb5 HRow.out.2)); obtain ⟨hbw, m0', ⟨p0', p1', p2', p3'⟩, m3⟩ := HM.out w5 HB5.out; have HRK := Lib.hid (HRn.out w5 g HB5.out HRow5.out.2); have pA : ∀ o, (w5.alloc o).cell? ⟨w.heap.size + 1, 1, none⟩ = some (.int .i64 (i : Int)) := fun o => (World.cell?_of_block (Below.heap_alloc w5 o (w.heap.size + 1) (by (have := HB5.out.size); (have := Hm.out.2.2.2); omega))).trans p1'; clear m0 m3 hb5 hbw p0 p1 p2 p3))
          | ((with_reducible refine HRK.out.mono ?_); go_must (rintro e w7 ⟨g7, rfl, hb7, hg7, hrow7⟩; have HB7 := Lib.hid (HB5.out.trans ((((Below.refl w5.heap.size w5).alloc (Nat.le_refl _) _).trans (hb7.mono (by simp))).mono HB5.out.size)); have HRow7 := Lib.hid (And.intro hg7 hrow7); obtain ⟨hbw, _, ⟨p0, p1, p2, p3⟩, m3⟩ := HM.out w7 HB7.out; obtain ⟨⟨x0, x1, x2, x3⟩, y0, y1, y2, y3⟩ := four_cells m3; have HBw := Lib.hid hbw; clear pA hb7 hg7 hrow7 m3 m0' p0' p1' p2' p3' hbw))
          | fail)
        refine bodyPost_ret (v := .tuple #[.agg #[.bool true, .slice (some ⟨g7, 0, none⟩) l.length l.length, .slice none 0 0, .int .i64 0], .int .i64 0]) (by simp [results, Tryz.results5, go_sem, x0, x1, x2, x3]) rfl ⟨?_, ?_⟩
        · exact (((HBw.out.setCell (by simp; omega) _).setCell (by simp; omega) _).setCell (by simp; omega) _).setCell (by simp; omega) _
        · rw [if_neg (by rw [hnm]; simp), if_pos rfl]
          have hgw : w.heap.size + 3 ≤ w5.heap.size := by have := HB5.out.size; have := Hm.out.2.2.2; omega
          exact ⟨g7, rfl, by have := HRow7.out.1; omega, (set4_other w7 _ _ _ _ (by have := HRow7.out.1; omega)).trans HRow7.out.2⟩
      | false =>
        have HWn : Hid (∀ w7 g g7, Below w.heap.size w w7 → w7.heap[g]? = some (.cells (iC n) 3) → w7.heap[g7]? = some (.cells (iC (rkLs l n (i : Int) l.length)) 3) → Calls Tryz.prog 18 #[.agg #[.slice As l.length cs, .slice (some ⟨g, 0, none⟩) l.length l.length], .agg #[.bool false, .int .i64 (i : Int), .int .i64 (j : Int), .bool top], .slice (some ⟨g7, 0, none⟩) l.length l.length] w7 fun e w' =>
            ∃ g2, e = .returned (.slice (some ⟨g2, 0, none⟩) l.length l.length) ∧ Below w7.heap.size w7 w' ∧ w7.heap.size ≤ g2 ∧ w'.heap[g2]? = some (.cells (iC (wtL l n (j : Int) top (rkLs l n (i : Int) l.length))) 3)) := Lib.hid fun w7 g g7 hbw hg hg7 => by
          have h1 : 1 ≤ l.length := by have := Hm.out.1; omega
          have hl : l.length ≤ 1000 := by have := Hm.out; omega
          obtain ⟨h, hh, ht⟩ := rnkR_top l n (i : Int) h1
          have hIn := (ints_of hg (by have := Hm.out; omega) hn64).more (show g + 1 ≤ w7.heap.size from (Array.getElem?_eq_some_iff.1 hg).1)
          have hrk : ∀ x, 0 ≤ (rkLs l n (i : Int) l.length).getD x 0 ∧ (rkLs l n (i : Int) l.length).getD x 0 ≤ 1000 := fun x => by
            rcases Nat.lt_or_ge x l.length with hx | hx
            · rw [rkL_getD hx]; have := rnkR_less l n (i : Int) hx; omega
            · rw [List.getD_eq_getElem?_getD, List.getElem?_eq_none (by rw [rkL_len]; exact hx)]; simp
          have hr64 : ∀ x ∈ rkLs l n (i : Int) l.length, I64 x := by
            intro x hx
            obtain ⟨t, ht', rfl⟩ := List.getElem_of_mem hx
            have := hrk t
            rw [List.getD_eq_getElem?_getD, List.getElem?_eq_getElem ht'] at this
            simp only [Option.getD_some] at this
            unfold I64; omega
          have hIr := (ints_of hg7 (by rw [rkL_len]; omega) hr64).more (show g7 + 1 ≤ w7.heap.size from (Array.getElem?_eq_some_iff.1 hg7).1)
          have hw := weights_any (w := w7) (b := (i : Int)) (lpo := false) (top := top) (cs := cs) (cc := l.length) (cr := l.length) (Nat.le_refl _) Hm.out.2.2.1 (rkL_len l n (i : Int) l.length) h1 hl har hcn (fun x => by have := hrk x; omega) hh (rkL_idx hh ht) (hS.on hbw) hIn hIr hj
          rw [Hm.out.2.2.1, rkL_len, wtP_eq hh ht] at hw
          exact hw
        go_enter Tryz.func5, Tryz.ntmps5
        go_upto_region 1 with fail
        rw [HW3.out]
        go_wp2_with (first
          | ((with_reducible refine HC.out.mono ?_); go_must (rintro e w4 ⟨hb4, hp⟩; rw [if_neg (by decide)] at hp; obtain ⟨g, rfl, hg, hrow⟩ := hp; have HB4 := Lib.hid hb4; have HRow := Lib.hid (And.intro hg hrow); obtain ⟨hbw, m0, ⟨p0, p1, p2, p3⟩, m3⟩ := HM.out w4 hb4; clear m3 hb4 hbw hg hrow))
          | (go_at_call 16; (with_reducible refine (HN.out _).mono ?_); go_must (rintro e w5 ⟨rfl, hb5⟩; have HB5 := Lib.hid (HB4.out.trans (hb5.mono HB4.out.size)); have HRow5 := Lib.hid (And.intro HRow.out.1 (blk_st hb5 HRow.out.2)); obtain ⟨hbw, m0', ⟨p0', p1', p2', p3'⟩, m3⟩ := HM.out w5 HB5.out; have HRK := Lib.hid (HRn.out w5 g HB5.out HRow5.out.2); have pA : ∀ o, (w5.alloc o).cell? ⟨w.heap.size + 1, 1, none⟩ = some (.int .i64 (i : Int)) := fun o => (World.cell?_of_block (Below.heap_alloc w5 o (w.heap.size + 1) (by (have := HB5.out.size); (have := Hm.out.2.2.2); omega))).trans p1'; clear m0 m3 hb5 hbw p0 p1 p2 p3))
          | ((with_reducible refine HRK.out.mono ?_); go_must (rintro e w7 ⟨g7, rfl, hb7, hg7, hrow7⟩; have HB7 := Lib.hid (HB5.out.trans ((((Below.refl w5.heap.size w5).alloc (Nat.le_refl _) _).trans (hb7.mono (by simp))).mono HB5.out.size)); have HRow7 := Lib.hid (And.intro hg7 hrow7); obtain ⟨hbw, _, ⟨p0, p1, p2, p3⟩, m3⟩ := HM.out w7 HB7.out; have bx := (hb7.block w5.heap.size (Nat.lt_succ_self _)).trans (heap_alloc_new w5 _); obtain ⟨u0, u1, _⟩ := cells_two bx; have HWt := Lib.hid (HWn.out w7 g g7 hbw ((hb7.block g (Nat.lt_succ_of_lt (Array.getElem?_eq_some_iff.1 HRow5.out.2).1)).trans (blk_st ((Below.refl _ _).alloc (Nat.le_refl _) _) HRow5.out.2)) hrow7); clear bx pA hb7 hg7 hrow7 m3 m0' p0' p1' p2' p3' hbw))
          | ((with_reducible refine HWt.out.mono ?_); go_must (rintro e w8 ⟨g2, rfl, hb8, hg2, hrow2⟩; have HRow2 := Lib.hid (And.intro hg2 hrow2); have HRow8 := Lib.hid (blk_st hb8 HRow7.out.2); have HB8 := Lib.hid (HB7.out.trans (hb8.mono HB7.out.size)); obtain ⟨hbw, _, _, m3⟩ := HM.out w8 HB8.out; obtain ⟨⟨x0, x1, x2, x3⟩, y0, y1, y2, y3⟩ := four_cells m3; have HBw := Lib.hid hbw; clear hb8 hg2 hrow2 m3 hbw p0 p1 p2 p3 u0 u1))
          | fail)
        refine bodyPost_ret (v := .tuple #[.agg #[.bool false, .slice (some ⟨g7, 0, none⟩) l.length l.length, .slice (some ⟨g2, 0, none⟩) l.length l.length, .int .i64 1], .int .i64 0]) (by simp [results, Tryz.results5, go_sem, x0, x1, x2, x3]) rfl ⟨?_, ?_⟩
        · exact (((HBw.out.setCell (by simp; omega) _).setCell (by simp; omega) _).setCell (by simp; omega) _).setCell (by simp; omega) _
        · rw [if_neg (by rw [hnm]; simp), if_neg (by decide)]
          have hgw : w.heap.size + 3 ≤ w5.heap.size := by have := HB5.out.size; have := Hm.out.2.2.2; omega
          have hg7w : w.heap.size + 3 ≤ w7.heap.size := by have := HB7.out.size; have := Hm.out.2.2.2; omega
          exact ⟨g7, g2, rfl, by have := HRow7.out.1; omega, by have := HRow2.out.1; omega, (set4_other w8 _ _ _ _ (by have := HRow7.out.1; omega)).trans HRow8.out, (set4_other w8 _ _ _ _ (by have := HRow2.out.1; omega)).trans HRow2.out.2⟩
end Go.Proofs.YthgglobfkkcdgaaGreatDoor
