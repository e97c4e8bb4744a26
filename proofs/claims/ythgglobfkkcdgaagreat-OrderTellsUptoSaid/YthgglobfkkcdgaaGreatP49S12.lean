import Derived.Test.YthgglobfkkcdgaaGreatP49S11
import Derived.Test.YthgglobfkkcdgaaGreatP49S10
import Derived.Maps.OwnIn
import Derived.DeepKeys5
import Derived.Deep.LoopGhost
namespace Go.Proofs.YthgglobfkkcdgaaGreat
open Go.RowKit Go.Shelf Go.Maps
set_option maxRecDepth 100000
def hiB (rk : List Int) (x y : Hd) : Bool := !decide (x.fn < 0) && (!decide (y.fn < 0) && decide (rkI rk y.fn < rkI rk x.fn))
section
variable {bp : Nat} {P : Option Addr} {rk : List Int} {pc : Nat} {A : Option Addr} {H : List Hd} {hc : Nat} {ml mf : Value}
set_option maxHeartbeats 2000000 in
theorem lpoHigher_any {a1 a2 : Nat} {x y : Hd} (w : World) (hP : PairR w bp P rk pc A H hc ml mf) (hx : H[a1]? = some x) (hy : H[a2]? = some y) (hxr : x.fn < (rk.length : Int)) (hyr : y.fn < (rk.length : Int)) :
    Calls Tryz.prog 100 #[.agg #[.pointer (some ⟨bp, 0, none⟩), .int .i64 (a1 : Int)], .agg #[.pointer (some ⟨bp, 0, none⟩), .int .i64 (a2 : Int)]] w fun e w' => e = .returned (.bool (hiB rk x y)) ∧ Below w.heap.size w w' := by
  obtain ⟨W, hW⟩ : ∃ W, (w.alloc (.cells #[.pointer (some ⟨bp, 0, none⟩), .int .i64 (a1 : Int)] 74)).alloc (.cells #[.pointer (some ⟨bp, 0, none⟩), .int .i64 (a2 : Int)] 74) = W := ⟨_, rfl⟩
  obtain ⟨q0, q1⟩ := heap2 w (.cells #[.pointer (some ⟨bp, 0, none⟩), .int .i64 (a1 : Int)] 74) (.cells #[.pointer (some ⟨bp, 0, none⟩), .int .i64 (a2 : Int)] 74)
  have hb : Below w.heap.size w W := by rw [← hW]; exact ((Below.refl _ _).alloc (Nat.le_refl _) _).alloc (by simp) _
  rw [hW] at q0 q1
  have hPW := hP.on hb
  have hlt := (Array.getElem?_eq_some_iff.1 q1).1
  obtain ⟨z0, z1, _, _⟩ := cells_two q0
  obtain ⟨y0, y1, _, _⟩ := cells_two q1
  obtain ⟨p0, _, _, _⟩ := cells_four hPW.box
  have hbl := hPW.lt
  have H1 := Lib.hid fun y : Later W.heap.size W => lpoHead_any y.w (hPW.on y.h) hx
  have H2 := Lib.hid fun z : Later W.heap.size W => lpoHead_any z.w (hPW.on z.h) hy
  have V1 := fun y : Later W.heap.size W => lpoVariable_any y.w (hPW.on y.h) hx
  have V2 := fun z : Later W.heap.size W => lpoVariable_any z.w (hPW.on z.h) hy
  have HW := Lib.hid hW
  have hf1 : ∀ w : World, (Instr.field 97 (.agg #[.int .i64 x.fn, .int .i64 x.sz, .int .i64 x.no]) 0).run Tryz.prog w = .ok (.int .i64 x.fn) w := fun w => by kernel_rfl
  have hf2 : ∀ w : World, (Instr.field 97 (.agg #[.int .i64 y.fn, .int .i64 y.sz, .int .i64 y.no]) 0).run Tryz.prog w = .ok (.int .i64 y.fn) w := fun w => by kernel_rfl
  have m0 : ∀ y : Later W.heap.size W, y.w.cell? ⟨w.heap.size, 0, none⟩ = some (.pointer (some ⟨bp, 0, none⟩)) := fun y => cell_on y.h (by omega) z0
  have m1 : ∀ y : Later W.heap.size W, y.w.cell? ⟨w.heap.size, 1, none⟩ = some (.int .i64 (a1 : Int)) := fun y => cell_on y.h (by omega) z1
  have m2 : ∀ y : Later W.heap.size W, y.w.cell? ⟨w.heap.size + 1, 0, none⟩ = some (.pointer (some ⟨bp, 0, none⟩)) := fun y => cell_on y.h hlt y0
  have m3 : ∀ y : Later W.heap.size W, y.w.cell? ⟨w.heap.size + 1, 1, none⟩ = some (.int .i64 (a2 : Int)) := fun y => cell_on y.h hlt y1
  by_cases hx0 : x.fn < 0
  · have hfin := Lib.hid (show hiB rk x y = false by unfold hiB; rw [decide_eq_true hx0]; rfl)
    simp only [decide_eq_true hx0] at V1
    have HV1 := Lib.hid V1
    clear hW q0 q1 hP hx hy hPW z0 z1 y0 y1 hlt V1 V2 p0 hbl
    go_enter Tryz.func100, Tryz.ntmps100
    go_upto_region 1 with fail
    rw [HW.out]
    refine wp_region_later W.heap.size W (by kernel_rfl) (by kernel_rfl) (bl_drewN (Below.refl _ _) 1) ?_
    repeat (go_big_quiet_step (first
      | (go_at_call 97; with_reducible refine calls_later _ (Nat.le_refl _) (HV1.out _))
      | fail))
    refine wpQuiet_nil ?_
    rintro _ ⟨z, rfl⟩
    clear m0 m1 m2 m3
    go_wp2
    go_ret
    exact ⟨ret_bool hfin.out.symm, hb.trans (z.h.mono hb.size)⟩
  · simp only [decide_eq_false hx0] at V1
    have HV1 := Lib.hid V1
    by_cases hy0 : y.fn < 0
    · have hfin := Lib.hid (show hiB rk x y = false by unfold hiB; rw [decide_eq_true hy0]; simp)
      simp only [decide_eq_true hy0] at V2
      have HV2 := Lib.hid V2
      clear hW q0 q1 hP hx hy hPW z0 z1 y0 y1 hlt V1 V2 p0 hbl
      go_enter Tryz.func100, Tryz.ntmps100
      go_upto_region 1 with fail
      rw [HW.out]
      refine wp_region_later W.heap.size W (by kernel_rfl) (by kernel_rfl) (bl_drewN (Below.refl _ _) 1) ?_
      repeat (go_big_quiet_step (first
        | (go_at_call 97; first
          | (with_reducible refine calls_later _ (Nat.le_refl _) (HV1.out _))
          | (with_reducible refine calls_later _ (Nat.le_refl _) (HV2.out _)))
        | fail))
      refine wpQuiet_nil ?_
      rintro _ ⟨z, rfl⟩
      clear m0 m1 m2 m3
      go_wp2
      go_ret
      exact ⟨ret_bool hfin.out.symm, hb.trans (z.h.mono hb.size)⟩
    · simp only [decide_eq_false hy0] at V2
      have HV2 := Lib.hid V2
      obtain ⟨i, hi⟩ : ∃ i : Nat, x.fn = (i : Int) := ⟨x.fn.toNat, by omega⟩
      obtain ⟨j, hj⟩ : ∃ j : Nat, y.fn = (j : Int) := ⟨y.fn.toNat, by omega⟩
      have hil : i < rk.length := by omega
      have hjl : j < rk.length := by omega
      obtain ⟨u, hu⟩ : ∃ u, rk[i]? = some u := ⟨_, List.getElem?_eq_getElem hil⟩
      obtain ⟨v, hv⟩ : ∃ v, rk[j]? = some v := ⟨_, List.getElem?_eq_getElem hjl⟩
      have hfin := Lib.hid (show hiB rk x y = decide (v < u) by
        unfold hiB rkI
        rw [decide_eq_false hx0, decide_eq_false hy0, hi, hj, Int.toNat_natCast, Int.toNat_natCast, getD_of hu, getD_of hv]; rfl)
      obtain ⟨br, or, rfl, hbr, hcr⟩ := hPW.rks.ad (by omega)
      have n1 : ∀ y : Later W.heap.size W, y.w.cell? ⟨br, or + i, none⟩ = some (.int .i64 u) := fun y => cell_on y.h hbr (hcr i u hu)
      have n2 : ∀ y : Later W.heap.size W, y.w.cell? ⟨br, or + j, none⟩ = some (.int .i64 v) := fun y => cell_on y.h hbr (hcr j v hv)
      have n3 : ∀ y : Later W.heap.size W, y.w.cell? ⟨bp, 0, none⟩ = some (.slice (some ⟨br, or, none⟩) rk.length pc) := fun y => cell_on y.h hbl p0
      rw [hi] at H1 hf1
      rw [hj] at H2 hf2
      clear hW q0 q1 hP hx hy hPW z0 z1 y0 y1 hlt V1 V2 p0 hbl hcr hu hv hbr hx0 hy0 hxr hyr hi hj
      go_enter Tryz.func100, Tryz.ntmps100
      go_upto_region 1 with fail
      rw [HW.out]
      refine wp_region_later W.heap.size W (by kernel_rfl) (by kernel_rfl) (bl_drewN (Below.refl _ _) 1) ?_
      repeat (go_big_quiet_step (first
        | (go_at_call 97; first
          | (with_reducible refine calls_later _ (Nat.le_refl _) (HV1.out _))
          | (with_reducible refine calls_later _ (Nat.le_refl _) (HV2.out _)))
        | (go_at_call 65; first
          | (with_reducible refine calls_later _ (Nat.le_refl _) (H1.out _))
          | (with_reducible refine calls_later _ (Nat.le_refl _) (H2.out _)))
        | fail))
      refine wpQuiet_nil ?_
      rintro _ ⟨z, rfl⟩
      clear m0 m1 m2 m3 n1 n2 n3
      go_wp2
      go_ret
      exact ⟨ret_bool hfin.out.symm, hb.trans (z.h.mono hb.size)⟩
end
end Go.Proofs.YthgglobfkkcdgaaGreat
namespace Go.Proofs.YthgglobfkkcdgaaGreat
open Go.RowKit Go.Shelf Go.Maps
set_option maxRecDepth 100000
theorem laidOutL : laidOutB Tryz.prog = true := by kernel_rfl
theorem lnkLaw : Keyed Tryz.prog 132 := Keyed.of_law (deep_law_gate laidOutL (by decide +kernel) (by decide +kernel) (by kernel_rfl) (by kernel_rfl))
theorem idx_app {a : Int × Int} {M : List (Int × Int)} : ∀ {L : List (Int × Int)}, (L ++ M).idxOf a = if a ∈ L then L.idxOf a else L.length + M.idxOf a
  | [] => by simp
  | b :: L => by
    rw [List.cons_append, List.idxOf_cons, List.idxOf_cons, idx_app (L := L)]
    by_cases e : b = a
    · subst e; simp
    · have hbe : (b == a) = false := by simpa using e
      have hm : (a ∈ b :: L) ↔ a ∈ L := ⟨fun h => (List.mem_cons.1 h).resolve_left fun h => e h.symm, fun h => List.mem_cons_of_mem _ h⟩
      rw [hbe, cond_false, cond_false]
      by_cases h : a ∈ L
      · rw [if_pos h, if_pos (hm.2 h)]
      · rw [if_neg h, if_neg (fun h' => h (hm.1 h')), List.length_cons]; omega
def pvL (x : Int × Int) : Value := .agg #[.int .i64 x.1, .int .i64 x.2]
theorem keyOf_lnk {x : Int × Int} (h1 : I64 x.1) (h2 : I64 x.2) : ∃ kl, keyOf Tryz.prog 132 (pvL x) = some kl := by
  have hT : Tryz.prog.keyType 132 = true := by kernel_rfl
  obtain ⟨m, hm⟩ : ∃ m, Tryz.prog.types.size + 1 = m + 1 + 1 := ⟨Tryz.prog.types.size - 1, by
    have : 0 < Tryz.prog.types.size := by decide +kernel
    omega⟩
  have hC : Tryz.prog.cellsOf 132 = 2 := by kernel_rfl
  have hC2 : Tryz.prog.cellsOf 3 = 1 := by kernel_rfl
  have hw1 : (Lit.int .i64 x.1).wf = true := WalkArith.wf_i64 ⟨by have := h1.1; omega, by have := h1.2; omega⟩
  have hw2 : (Lit.int .i64 x.2).wf = true := WalkArith.wf_i64 ⟨by have := h2.1; omega, by have := h2.2; omega⟩
  refine ⟨.string (keyBytes [.int .i64 x.1, .int .i64 x.2]), ?_⟩
  simp only [keyOf, Tryz.underlying132, hT, hm, pvL, Value.formed, hC]
  simp [Program.keyLits, Tryz.underlying132, hC, hC2, Value.cells, Tryz.underlying3, hw1, hw2]
def LMap (w : World) (b R : Nat) (L : List (Int × Int)) : Prop :=
  ∃ D : DataW Unit, w.ownsMap Tryz.prog 132 (plainElem Tryz.prog 3) b L.length D ∧ Maps.size D = L.length ∧ ∀ x kl, keyOf Tryz.prog 132 (pvL x) = some kl → ∀ z, D.atKey kl z = if x ∈ L then .lit (.int .i64 ((R : Int) + (L.idxOf x : Nat))) else z
theorem LMap.made (w : World) (R : Nat) : LMap (w.alloc (.map #[] 0)) w.heap.size R [] :=
  ⟨_, World.ownsMap_made w _ _ _, rfl, fun _ _ _ _ => rfl⟩
theorem LMap.lt {w : World} {b R : Nat} {L : List (Int × Int)} (h : LMap w b R L) : b < w.heap.size := h.elim fun _ h => h.1.lt
theorem LMap.kept {w w' : World} {b R : Nat} {L : List (Int × Int)} (h : LMap w b R L) (hk : w'.heap[b]? = w.heap[b]?) : LMap w' b R L := by
  obtain ⟨D, ⟨es, clock, hb, F, hs, hD⟩, hat⟩ := h
  exact ⟨D, ⟨es, clock, hk.trans hb, F, hs, hD⟩, hat⟩
theorem zeroIntL (w : World) : (zeroValue 3).run Tryz.prog w = .ok (.int .i64 0) w := by kernel_rfl
theorem LMap.look {w : World} {b R : Nat} {L : List (Int × Int)} (h : LMap w b R L) {x y : Int} (h1 : I64 x) (h2 : I64 y) :
    (Instr.lookup 90 (.map (some b)) (.agg #[.int .i64 x, .int .i64 y]) true).run Tryz.prog w = .ok (.tuple #[.int .i64 (if (x, y) ∈ L then (R : Int) + (L.idxOf (x, y) : Nat) else 0), .bool (decide ((x, y) ∈ L))]) w := by
  obtain ⟨D, hown, _, hat⟩ := h
  obtain ⟨kl, hk⟩ := keyOf_lnk (x := (x, y)) h1 h2
  obtain ⟨v, ps, hrun, hv⟩ := hown.look_ok lnkLaw Tryz.underlying90 (zeroIntL w) (plainElem_int Tryz.underlying3 (by decide)) hk
  obtain ⟨c, rfl, hc, _⟩ := plainElem_int_inv Tryz.underlying3 hv
  have e := hat (x, y) kl hk
  have e0 := e (.lit (.int .i64 0))
  have hc' := congrArg Prod.fst hc
  simp only at hc'
  rw [hc'] at e0
  by_cases hf : (x, y) ∈ L
  · rw [if_pos hf] at e0
    rw [if_pos hf, decide_eq_true hf]
    injection e0 with e0; injection e0 with _ e0; subst e0
    rw [has_true_of_atKey (y := .lit (.int .i64 ((R : Int) + (L.idxOf (x, y) : Nat)))) (fun z => by rw [e z, if_pos hf])] at hrun
    exact hrun
  · rw [if_neg hf] at e0
    rw [if_neg hf, decide_eq_false hf]
    injection e0 with e0; injection e0 with _ e0; subst e0
    rw [has_false_of_atKey (fun z => by rw [e z, if_neg hf])] at hrun
    exact hrun
theorem LMap.len {w : World} {b R : Nat} {L : List (Int × Int)} (h : LMap w b R L) (ty : TypeId) : (Builtin.len_ #[90] ty #[.map (some b)]).run Tryz.prog w = .ok (.int .i64 (L.length : Int)) w := by
  obtain ⟨D, hown, hsz, _⟩ := h
  rw [hown.len Tryz.underlying90 ty, hsz]
theorem LMap.put {w : World} {b R : Nat} {L : List (Int × Int)} (h : LMap w b R L) (hn : (R : Int) + (L.length : Int) < 9223372036854775807) {x y : Int} (h1 : I64 x) (h2 : I64 y) (hx : (x, y) ∉ L) :
    ∃ w', (Instr.mapUpdate 90 (.map (some b)) (.agg #[.int .i64 x, .int .i64 y]) (.int .i64 ((R : Int) + (L.length : Int)))).run Tryz.prog w = .ok () w' ∧ LMap w' b R (L ++ [(x, y)]) ∧ w.grownBy w' (some b) := by
  obtain ⟨D, hown, hsz, hat⟩ := h
  obtain ⟨kl, hk⟩ := keyOf_lnk (x := (x, y)) h1 h2
  obtain ⟨w', hrun, hown', hgr⟩ := hown.update lnkLaw Tryz.underlying90 (by unfold maxLen; omega) hk (plainElem_int Tryz.underlying3 (a := (R : Int) + (L.length : Int)) (WalkArith.wf_i64 ⟨by omega, by omega⟩))
  refine ⟨w', hrun, ⟨_, by rw [List.length_append]; exact hown', ?_, fun z kz hz d => ?_⟩, hgr⟩
  · rw [size_put (hown.tidy lnkLaw), has_false_of_atKey (fun z => by rw [hat (x, y) kl hk z, if_neg hx]), hsz, List.length_append]; rfl
  · by_cases e : z = (x, y)
    · subst e
      rw [hk] at hz
      injection hz with hz
      subst hz
      rw [atKey_put_same (hown.tidy lnkLaw).isMap (lnkLaw.key hk), if_pos (by simp), idx_app, if_neg hx]
      simp
    · have hne : kz ≠ kl := by
        rintro rfl
        have := lnkLaw.inj hz hk
        simp only [pvL, Value.agg.injEq] at this
        simp at this
        exact e (Prod.ext this.1 this.2)
      rw [atKey_put_other hne, hat z kz hz d]
      by_cases hz' : z ∈ L
      · rw [if_pos hz', if_pos (by simp [hz']), idx_app, if_pos hz']
      · rw [if_neg hz', if_neg (by simp [hz', e])]
end Go.Proofs.YthgglobfkkcdgaaGreat
namespace Go.Proofs.YthgglobfkkcdgaaGreat
open Go.RowKit Go.Shelf Go.Maps
set_option maxRecDepth 100000
def LnkPost (w : World) (bm R : Nat) (r : Int × List (Int × Int)) (e : Ending) (w' : World) : Prop :=
  e = .returned (.int .i64 r.1) ∧ LMap w' bm R r.2 ∧ KeepsC (· = bm) w w'
section
variable {bp : Nat} {P : Option Addr} {rk : List Int} {pc : Nat} {A : Option Addr} {H : List Hd} {hc : Nat} {bm : Nat} {mf : Value}
set_option maxHeartbeats 2000000 in
theorem link_old (w : World) (hP : PairR w bp P rk pc A H hc (.map (some bm)) mf) {L : List (Int × Int)} (hM : LMap w bm rk.length L) {x y : Int} (h1 : I64 x) (h2 : I64 y) (hx : (x, y) ∈ L) :
    Calls Tryz.prog 81 #[.pointer (some ⟨bp, 0, none⟩), .int .i64 x, .int .i64 y] w (LnkPost w bm rk.length (lkN rk.length L x y)) := by
  have hlk : lkN rk.length L x y = ((rk.length : Int) + (L.idxOf (x, y) : Nat), L) := by unfold lkN; rw [if_pos hx]
  rw [hlk]
  obtain ⟨W, hW⟩ : ∃ W, w.alloc (.cells #[.int .i64 x, .int .i64 y] 132) = W := ⟨_, rfl⟩
  have q0 := heap_alloc_new w (.cells #[.int .i64 x, .int .i64 y] 132)
  have hB : Below w.heap.size w W := by rw [← hW]; exact (Below.refl _ _).alloc (Nat.le_refl _) _
  rw [hW] at q0
  obtain ⟨a0, a1, _, _⟩ := cells_two q0
  obtain ⟨p0, p1, p2, p3⟩ := cells_four (hP.on hB).box
  have hMW := hM.kept (hB.block bm hM.lt)
  have g1 := (show LMap W.drew bm rk.length L from hMW).look h1 h2
  rw [if_pos hx, decide_eq_true hx] at g1
  have hk : KeepsC (· = bm) w W.drew := KeepsC.trans (KeepsC.of_below hB) (KeepsC.of_below (bl_drewN (Below.refl _ _) 1))
  have Hk := Lib.hid hk
  have HMd : Hid (LMap W.drew bm rk.length L) := Lib.hid hMW
  have HW := Lib.hid hW
  obtain ⟨n, hn⟩ : ∃ n : Int, (rk.length : Int) + (L.idxOf (x, y) : Nat) = n := ⟨_, rfl⟩
  rw [hn] at g1 ⊢
  clear hW hP hM hMW q0 hB hk
  go_enter Tryz.func81, Tryz.ntmps81
  go_upto_region 2 with fail
  rw [HW.out]
  go_region
  go_wp2
  go_ret
  exact ⟨rfl, HMd.out, Hk.out⟩
set_option maxHeartbeats 2000000 in
theorem link_new (w : World) (hP : PairR w bp P rk pc A H hc (.map (some bm)) mf) {L : List (Int × Int)} (hM : LMap w bm rk.length L) (hL : (rk.length : Int) + (L.length : Int) < 9223372036854775807) {x y : Int} (h1 : I64 x) (h2 : I64 y) (hx : (x, y) ∉ L) :
    Calls Tryz.prog 81 #[.pointer (some ⟨bp, 0, none⟩), .int .i64 x, .int .i64 y] w (LnkPost w bm rk.length (lkN rk.length L x y)) := by
  have hlk : lkN rk.length L x y = ((rk.length : Int) + (L.length : Nat), L ++ [(x, y)]) := by unfold lkN; rw [if_neg hx]
  rw [hlk]
  obtain ⟨W, hW⟩ : ∃ W, w.alloc (.cells #[.int .i64 x, .int .i64 y] 132) = W := ⟨_, rfl⟩
  have q0 := heap_alloc_new w (.cells #[.int .i64 x, .int .i64 y] 132)
  have hB : Below w.heap.size w W := by rw [← hW]; exact (Below.refl _ _).alloc (Nat.le_refl _) _
  rw [hW] at q0
  obtain ⟨a0, a1, _, _⟩ := cells_two q0
  obtain ⟨p0, p1, p2, p3⟩ := cells_four (hP.on hB).box
  have hMW := hM.kept (hB.block bm hM.lt)
  have g1 := (show LMap W.drew bm rk.length L from hMW).look h1 h2
  rw [if_neg hx, decide_eq_false hx] at g1
  have g2 := fun ty => (show LMap W.drew.drew bm rk.length L from hMW).len ty
  obtain ⟨w9, g3, hM9, hgr⟩ := (show LMap W.drew.drew.drew bm rk.length L from hMW).put hL h1 h2 hx
  have hwr : IntKind.i64.wrap ((rk.length : Int) + (L.length : Int)) = (rk.length : Int) + (L.length : Int) := by rw [IntKind.wrap_i64]; omega
  have hk3 : KeepsC (· = bm) w W.drew.drew.drew := KeepsC.trans (KeepsC.of_below hB) (KeepsC.of_below (bl_drewN (Below.refl _ _) 3))
  have hk : KeepsC (· = bm) w w9 := Keeps.trans hk3 ((Keeps.of_grown hgr).mono fun g hg => ⟨by have := hB.size; show g < W.heap.size; omega, by have := hg.2; simp; intro e; exact this e⟩)
  have Hk := Lib.hid hk
  have HM9 := Lib.hid hM9
  have HW := Lib.hid hW
  obtain ⟨n, hn⟩ : ∃ n : Int, (rk.length : Int) + (L.length : Int) = n := ⟨_, rfl⟩
  rw [hn] at g3 hwr ⊢
  clear hW hP hM hMW q0 hB hk hk3 hgr hM9
  go_enter Tryz.func81, Tryz.ntmps81
  go_upto_region 2 with fail
  rw [HW.out]
  go_region
  go_upto_region 4 with fail
  go_region
  go_upto_region 5 with fail
  go_region_law (fail)
  all_goals
    go_wp2
    go_ret
    exact ⟨rfl, HM9.out, Hk.out⟩
theorem link_any (w : World) (hP : PairR w bp P rk pc A H hc (.map (some bm)) mf) {L : List (Int × Int)} (hM : LMap w bm rk.length L) (hL : (rk.length : Int) + (L.length : Int) < 9223372036854775807) {x y : Int} (h1 : I64 x) (h2 : I64 y) :
    Calls Tryz.prog 81 #[.pointer (some ⟨bp, 0, none⟩), .int .i64 x, .int .i64 y] w (LnkPost w bm rk.length (lkN rk.length L x y)) := by
  by_cases hx : (x, y) ∈ L
  · exact link_old w hP hM h1 h2 hx
  · exact link_new w hP hM hL h1 h2 hx
end
end Go.Proofs.YthgglobfkkcdgaaGreat
namespace Go.Proofs.YthgglobfkkcdgaaGreat
open Go.RowKit
set_option maxRecDepth 20000
mutual
def hdT (R : Nat) : List (Int × Int) → Tm → List Hd
  | L, .node f xs => ⟨f, ((Tm.node f xs).size : Int), (nmT R L (.node f xs)).1⟩ :: hdL R L f xs
def hdL (R : Nat) : List (Int × Int) → Int → List Tm → List Hd
  | _, _, [] => []
  | L, n, x :: xs => hdT R L x ++ hdL R (lkN R (nmT R L x).2 n (nmT R L x).1).2 (lkN R (nmT R L x).2 n (nmT R L x).1).1 xs
end
mutual
theorem hdT_len (R : Nat) : ∀ (L : List (Int × Int)) (t : Tm), (hdT R L t).length = t.size
  | L, .node f xs => by rw [hdT, List.length_cons, hdL_len R L f xs, Tm.size]
theorem hdL_len (R : Nat) : ∀ (L : List (Int × Int)) (n : Int) (xs : List Tm), (hdL R L n xs).length = sizes xs
  | _, _, [] => by rw [hdL, sizes]; rfl
  | L, n, x :: xs => by rw [hdL, List.length_append, hdT_len R L x, hdL_len, sizes]
end
theorem hdT_top (R : Nat) (L : List (Int × Int)) (t : Tm) : (hdT R L t)[0]? = some ⟨t.fn, (t.size : Int), (nmT R L t).1⟩ := by
  cases t; rw [hdT]; rfl
mutual
noncomputable def hsT (R : Nat) (M : List (Int × Int)) : Tm → List Hd
  | .node f xs => ⟨f, ((Tm.node f xs).size : Int), numO R M (.node f xs)⟩ :: hsL R M xs
noncomputable def hsL (R : Nat) (M : List (Int × Int)) : List Tm → List Hd
  | [] => []
  | x :: xs => hsT R M x ++ hsL R M xs
end
section
variable {R : Nat} {M : List (Int × Int)}
mutual
theorem hd_hs (hM : M.Nodup) : ∀ (t : Tm) (L : List (Int × Int)), L.Nodup → rkT R t = true → (nmT R L t).2 <+: M → hdT R L t = hsT R M t
  | .node f xs, L, hL, hr, hp => by
    have hsp := nm_spec (.node f xs) L hL hr
    rw [hdT, hsT, ← num_of hM (hsp.2.2.mono hp)]
    rw [rkT, Bool.and_eq_true, decide_eq_true_eq] at hr
    rw [nmT] at hp
    rw [hdL_hs hM xs L f f [] hL (.sym f hr.1) hr.2 hp]
theorem hdL_hs (hM : M.Nodup) : ∀ (xs : List Tm) (L : List (Int × Int)) (n f : Int) (pre : List Tm), L.Nodup → Dec R L n f pre → rkL R xs = true → (nmL R L n xs).2 <+: M → hdL R L n xs = hsL R M xs
  | [], _, _, _, _, _, _, _, _ => by rw [hdL, hsL]
  | x :: xs, L, n, f, pre, hL, hD, hr, hp => by
    rw [rkL, Bool.and_eq_true] at hr
    rw [nmL] at hp
    rw [hdL, hsL]
    obtain ⟨h1, h2, h3⟩ := nm_spec x L hL hr.1
    obtain ⟨h4, h5, k, h6, h7⟩ := lk_spec (R := R) h1 n (nmT R L x).1
    have hx : Dec R (lkN R (nmT R L x).2 n (nmT R L x).1).2 (lkN R (nmT R L x).2 n (nmT R L x).1).1 f (pre ++ [x]) := by
      have e : pre ++ [x] = pre ++ [.node x.fn x.args] := by cases x; rfl
      rw [h6, e]
      exact .lk k _ _ f x.fn pre x.args h7 ((hD.mono h2).mono h5) (h3.mono h5)
    have h8 := nmL_spec xs _ _ f (pre ++ [x]) h4 hx hr.2
    rw [hd_hs hM x L hL hr.1 (h5.trans (h8.2.1.trans hp)), hdL_hs hM xs _ _ f (pre ++ [x]) h4 hx hr.2 hp]
end
mutual
theorem hsT_len : ∀ t : Tm, (hsT R M t).length = t.size
  | .node f xs => by rw [hsT, List.length_cons, hsL_len xs, Tm.size]
theorem hsL_len : ∀ xs : List Tm, (hsL R M xs).length = sizes xs
  | [] => by rw [hsL, sizes]; rfl
  | x :: xs => by rw [hsL, List.length_append, hsT_len x, hsL_len xs, sizes]
end
def AtT (R : Nat) (M : List (Int × Int)) (H : List Hd) (i : Nat) (t : Tm) : Prop := ∃ pre post, H = pre ++ hsT R M t ++ post ∧ pre.length = i
def AtL (R : Nat) (M : List (Int × Int)) (H : List Hd) (i j : Nat) (xs : List Tm) : Prop := ∃ pre post, H = pre ++ hsL R M xs ++ post ∧ pre.length = i ∧ j = i + sizes xs
theorem AtT.top {H : List Hd} {i : Nat} {t : Tm} (h : AtT R M H i t) : H[i]? = some ⟨t.fn, (t.size : Int), numO R M t⟩ := by
  obtain ⟨pre, post, rfl, rfl⟩ := h
  cases t
  rw [hsT]; simp [Tm.fn]
theorem AtT.args {H : List Hd} {i : Nat} {t : Tm} (h : AtT R M H i t) : AtL R M H (i + 1) (i + t.size) t.args := by
  obtain ⟨pre, post, rfl, rfl⟩ := h
  cases t with
  | node f xs =>
    rw [hsT]
    refine ⟨pre ++ [⟨f, ((Tm.node f xs).size : Int), numO R M (.node f xs)⟩], post, by simp [Tm.args], by simp, ?_⟩
    rw [Tm.size, Tm.args]; omega
theorem AtL.first {H : List Hd} {i j : Nat} {x : Tm} {xs : List Tm} (h : AtL R M H i j (x :: xs)) : AtT R M H i x := by
  obtain ⟨pre, post, rfl, rfl, _⟩ := h
  rw [hsL]
  exact ⟨pre, hsL R M xs ++ post, by simp, rfl⟩
theorem AtL.rest {H : List Hd} {i j : Nat} {x : Tm} {xs : List Tm} (h : AtL R M H i j (x :: xs)) : AtL R M H (i + x.size) j xs := by
  obtain ⟨pre, post, rfl, rfl, hj⟩ := h
  rw [hsL]
  refine ⟨pre ++ hsT R M x, post, by simp, by rw [List.length_append, hsT_len], ?_⟩
  rw [sizes] at hj; omega
theorem AtL.empty {H : List Hd} {i j : Nat} (h : AtL R M H i j []) : j = i := by
  obtain ⟨_, _, _, _, hj⟩ := h
  rw [sizes] at hj; omega
theorem AtT.two {s t : Tm} : AtT R M (hsT R M s ++ hsT R M t) 0 s ∧ AtT R M (hsT R M s ++ hsT R M t) s.size t :=
  ⟨⟨[], hsT R M t, by simp, rfl⟩, ⟨hsT R M s, [], by simp, hsT_len s⟩⟩
end
end Go.Proofs.YthgglobfkkcdgaaGreat
namespace Go.Proofs.YthgglobfkkcdgaaGreat
open Go.RowKit Go.Shelf
set_option maxRecDepth 100000
def Hd.cells (x : Hd) : List Value := [.int .i64 x.fn, .int .i64 x.sz, .int .i64 x.no]
theorem hc_get (l : List Hd) (i r : Nat) (hr : r < 3) : (l.flatMap Hd.cells)[i * 3 + r]? = (l[i]?).bind fun x => x.cells[r]? := by
  induction l generalizing i with
  | nil => simp
  | cons x l ih =>
    have hlen : x.cells.length = 3 := rfl
    rw [List.flatMap_cons]
    cases i with
    | zero => rw [List.getElem?_append_left (by omega)]; simp
    | succ i =>
      rw [List.getElem?_append_right (by omega), hlen, show (i + 1) * 3 + r - 3 = i * 3 + r from by omega, ih]
      simp
theorem hc_len (l : List Hd) : (l.flatMap Hd.cells).length = l.length * 3 := by
  induction l with
  | nil => rfl
  | cons x l ih =>
    have hlen : x.cells.length = 3 := rfl
    rw [List.flatMap_cons, List.length_append, ih, hlen, List.length_cons]
    omega
structure RowH (w : World) (base : Nat) (v : Value) (l : List Hd) : Prop where
  row : w.ownsRow base 97 3 v l.length (l.flatMap Hd.cells)
  i64 : ∀ x ∈ l, I64 x.fn ∧ I64 x.sz ∧ I64 x.no
section
variable {w w' : World} {base : Nat} {v : Value} {l : List Hd}
theorem RowH.nil_ (w : World) (base : Nat) : RowH w base (.slice none 0 0) [] := ⟨World.ownsRow_nil w _ _ _, fun x hx => by simp at hx⟩
theorem RowH.keep (h : RowH w base v l) (hv : ∀ g, v.ownBlock = some g → w'.heap[g]? = w.heap[g]?) : RowH w' base v l := ⟨row_keep h.row hv, h.i64⟩
theorem RowH.push {x : Hd} {v' : Value} (h : RowH w base v l) (hrow : w'.ownsRow base 97 3 v' (l.length + 1) (l.flatMap Hd.cells ++ x.cells)) (hx : I64 x.fn ∧ I64 x.sz ∧ I64 x.no) : RowH w' base v' (l ++ [x]) := by
  refine ⟨?_, ?_⟩
  · rw [List.length_append, List.flatMap_append]
    simpa using hrow
  · intro y hy
    rcases List.mem_append.1 hy with hy | hy
    · exact h.i64 y hy
    · simp only [List.mem_cons, List.not_mem_nil, or_false] at hy
      subst hy; exact hx
theorem RowH.heads (h : RowH w base v l) (hl : l.length ≤ 9223372036854775807) : ∃ A c, v = .slice A l.length c ∧ Heads w w.heap.size A l := by
  rcases h.row.2 with ⟨rfl, h0⟩ | ⟨g, cap, cur, rfl, hb, hg, _⟩
  · obtain rfl : l = [] := List.eq_nil_of_length_eq_zero h0
    exact ⟨none, 0, rfl, ⟨by simp, by simp, fun h => by simp at h⟩⟩
  · refine ⟨_, _, rfl, hl, h.i64, fun hn => ⟨g, 0, rfl, (Array.getElem?_eq_some_iff.1 hg).1, fun i x hx => ?_⟩⟩
    have hlt := (List.getElem?_eq_some_iff.1 hx).1
    have q0 := hc_get l i 0 (by omega)
    have q1 := hc_get l i 1 (by omega)
    have q2 := hc_get l i 2 (by omega)
    have c0 := h.row.cellAt (i * 3) (by omega)
    have c1 := h.row.cellAt (i * 3 + 1) (by omega)
    have c2 := h.row.cellAt (i * 3 + 2) (by omega)
    rw [Nat.add_zero, hx] at q0
    rw [hx] at q1 q2
    rw [q0] at c0
    rw [q1] at c1
    rw [q2] at c2
    rw [Nat.zero_add]
    exact ⟨c0, c1, c2⟩
end
def setH (w : World) (g i : Nat) (s n : Int) : World := (w.setCell ⟨g, i * 3 + 1, none⟩ (.int .i64 s)).setCell ⟨g, i * 3 + 1 + 1, none⟩ (.int .i64 n)
theorem hflat_set (l : List Hd) (i t : Nat) (x : Hd) (hi : i < l.length) : ((l.set i x).flatMap Hd.cells)[t]? = if t / 3 = i then x.cells[t % 3]? else (l.flatMap Hd.cells)[t]? := by
  have h1 := hc_get (l.set i x) (t / 3) (t % 3) (Nat.mod_lt _ (by omega))
  have h2 := hc_get l (t / 3) (t % 3) (Nat.mod_lt _ (by omega))
  rw [show t / 3 * 3 + t % 3 = t by omega] at h1 h2
  rw [h1, h2, List.getElem?_set]
  by_cases e : i = t / 3
  · rw [if_pos e, if_pos (by omega), if_pos e.symm]; rfl
  · rw [if_neg e, if_neg fun h => e h.symm]
theorem RowH.set {w : World} {base g cap n : Nat} {l : List Hd} {x : Hd} {i : Nat} {s m : Int} (h : RowH w base (.slice (some ⟨g, 0, none⟩) n cap) l) (hi : l[i]? = some x) (hs64 : I64 s) (hm64 : I64 m) : RowH (setH w g i s m) base (.slice (some ⟨g, 0, none⟩) n cap) (l.set i ⟨x.fn, s, m⟩) := by
  have hil := (List.getElem?_eq_some_iff.1 hi).1
  refine ⟨⟨by rw [hc_len], ?_⟩, fun y hy => ?_⟩
  · rcases h.row.2 with ⟨e, _⟩ | ⟨g', cap', cur, e, hb, hg, hc, hm, hs, ht⟩
    · cases e
    · injection e with e1 e2 e3
      injection e1 with e1
      injection e1 with e1
      subst e1; subst e2; subst e3
      refine .inr ⟨g, cap, (cur.setIfInBounds (i * 3 + 1) (.int .i64 s)).setIfInBounds (i * 3 + 1 + 1) (.int .i64 m), by rw [List.length_set], hb, ?_, by rw [List.length_set]; exact hc, hm, by simp [hs], ?_⟩
      · exact heap_setCell_same _ _ _ _ _ _ (heap_setCell_same _ _ _ _ _ _ hg)
      · apply List.ext_getElem?
        intro t
        rw [hflat_set l i t _ hil, List.getElem?_take, List.length_set, Array.getElem?_toList, ← ht, List.getElem?_take]
        have hsz : l.length * 3 ≤ cur.size := by rw [hs]; exact Nat.mul_le_mul_right 3 hc
        by_cases hlt : t < l.length * 3
        · rw [if_pos hlt, if_pos hlt, Array.getElem?_setIfInBounds, Array.getElem?_setIfInBounds]
          simp only [Array.size_setIfInBounds]
          by_cases e : t / 3 = i
          · rw [if_pos e]
            have h3 : t % 3 < 3 := Nat.mod_lt _ (by omega)
            obtain e0 | e0 | e0 : t % 3 = 0 ∨ t % 3 = 1 ∨ t % 3 = 2 := by omega
            · rw [if_neg (by omega), if_neg (by omega), e0]
              have q0 := hc_get l i 0 (by omega)
              rw [Nat.add_zero, hi, ← ht, List.getElem?_take, if_pos (by omega), Array.getElem?_toList] at q0
              rw [show t = i * 3 by omega, q0]; rfl
            · rw [if_neg (by omega), if_pos (by omega), if_pos (by omega), e0]; rfl
            · rw [if_pos (by omega), if_pos (by omega), e0]; rfl
          · rw [if_neg e, if_neg (by omega), if_neg (by omega), Array.getElem?_toList]
        · rw [if_neg hlt, if_neg hlt, if_neg (by omega)]
  · rcases List.mem_or_eq_of_mem_set hy with hy | rfl
    · exact h.i64 y hy
    · exact ⟨(h.i64 x (List.mem_of_getElem? hi)).1, hs64, hm64⟩
theorem RowH.own {w : World} {base : Nat} {v : Value} {l : List Hd} (h : RowH w base v l) (hn : 0 < l.length) : ∃ g cap, v = .slice (some ⟨g, 0, none⟩) l.length cap ∧ base ≤ g ∧ g < w.heap.size ∧ v.ownBlock = some g := by
  rcases h.row.2 with ⟨rfl, h0⟩ | ⟨g, cap, cur, rfl, hb, hg, _⟩
  · omega
  · exact ⟨g, cap, rfl, hb, (Array.getElem?_eq_some_iff.1 hg).1, rfl⟩
end Go.Proofs.YthgglobfkkcdgaaGreat
namespace Go.Proofs.YthgglobfkkcdgaaGreat
open Go.RowKit Go.Shelf
set_option maxRecDepth 20000
mutual
def layK (R : Nat) : Tm → Bool
  | .node f xs => !(decide ((R : Int) ≤ f) || (decide (f < 0) && decide (0 < xs.length))) && layKL R xs
def layKL (R : Nat) : List Tm → Bool
  | [] => true
  | t :: ts => layK R t && layKL R ts
end
mutual
theorem layK_rk {R : Nat} : ∀ t : Tm, layK R t = true → rkT R t = true
  | .node f xs, h => by
    rw [layK, Bool.and_eq_true] at h
    rw [rkT, Bool.and_eq_true]
    refine ⟨?_, layKL_rk xs h.2⟩
    have h1 := h.1
    rw [Bool.not_eq_true', Bool.or_eq_false_iff, decide_eq_false_iff_not] at h1
    exact decide_eq_true (by omega)
theorem layKL_rk {R : Nat} : ∀ xs : List Tm, layKL R xs = true → rkL R xs = true
  | [], _ => by rw [rkL]
  | x :: xs, h => by
    rw [layKL, Bool.and_eq_true] at h
    rw [rkL, Bool.and_eq_true]
    exact ⟨layK_rk x h.1, layKL_rk xs h.2⟩
end
theorem layKL_take {R : Nat} : ∀ (xs : List Tm), layKL R xs = true ↔ ∀ x ∈ xs, layK R x = true
  | [] => by rw [layKL]; simp
  | x :: xs => by rw [layKL, Bool.and_eq_true, layKL_take xs]; simp
theorem nmL_snoc (R : Nat) : ∀ (ys : List Tm) (L : List (Int × Int)) (n : Int) (x : Tm), nmL R L n (ys ++ [x]) = lkN R (nmT R (nmL R L n ys).2 x).2 (nmL R L n ys).1 (nmT R (nmL R L n ys).2 x).1
  | [], L, n, x => by rw [List.nil_append, nmL, nmL, nmL]
  | y :: ys, L, n, x => by rw [List.cons_append, nmL, nmL, nmL_snoc R ys]
theorem hdL_snoc (R : Nat) : ∀ (ys : List Tm) (L : List (Int × Int)) (n : Int) (x : Tm), hdL R L n (ys ++ [x]) = hdL R L n ys ++ hdT R (nmL R L n ys).2 x
  | [], L, n, x => by rw [List.nil_append, hdL, hdL, hdL, nmL, List.append_nil, List.nil_append]
  | y :: ys, L, n, x => by rw [List.cons_append, hdL, hdL, nmL, hdL_snoc R ys, List.append_assoc]
theorem lk_len (R : Nat) (L : List (Int × Int)) (b l : Int) : (lkN R L b l).2.length ≤ L.length + 1 ∧ L.length ≤ (lkN R L b l).2.length := by
  unfold lkN
  by_cases h : (b, l) ∈ L
  · rw [if_pos h]; exact ⟨Nat.le_succ _, Nat.le_refl _⟩
  · rw [if_neg h]; simp
theorem lk_num (R : Nat) (L : List (Int × Int)) (b l : Int) : 0 ≤ (lkN R L b l).1 ∧ (lkN R L b l).1 < (R : Int) + ((lkN R L b l).2.length : Int) := by
  unfold lkN
  by_cases h : (b, l) ∈ L
  · rw [if_pos h]
    have := List.idxOf_lt_length_of_mem h
    exact ⟨by show (0 : Int) ≤ (R : Int) + (L.idxOf (b, l) : Nat); omega, by show (R : Int) + (L.idxOf (b, l) : Nat) < (R : Int) + (L.length : Nat); omega⟩
  · rw [if_neg h]
    refine ⟨by show (0 : Int) ≤ (R : Int) + (L.length : Nat); omega, ?_⟩
    show (R : Int) + (L.length : Nat) < (R : Int) + ((L ++ [(b, l)]).length : Nat)
    rw [List.length_append, List.length_singleton]; omega
mutual
theorem nm_len (R : Nat) : ∀ (t : Tm) (L : List (Int × Int)), (nmT R L t).2.length + 1 ≤ L.length + t.size
  | .node f xs, L => by
    have := nmL_len R xs L f
    rw [nmT, Tm.size]; omega
theorem nmL_len (R : Nat) : ∀ (xs : List Tm) (L : List (Int × Int)) (n : Int), (nmL R L n xs).2.length ≤ L.length + sizes xs
  | [], L, n => by rw [nmL, sizes]; simp
  | x :: xs, L, n => by
    have h1 := nm_len R x L
    have h2 := lk_len R (nmT R L x).2 n (nmT R L x).1
    have h3 := nmL_len R xs (lkN R (nmT R L x).2 n (nmT R L x).1).2 (lkN R (nmT R L x).2 n (nmT R L x).1).1
    rw [nmL, sizes]; omega
end
theorem set_at (H hs : List Hd) (x y : Hd) : (H ++ x :: hs).set H.length y = H ++ y :: hs := by
  rw [List.set_append_right _ _ (Nat.le_refl _), Nat.sub_self, List.set_cons_zero]
def CsP (bp bm : Nat) (v : Value) (g : Nat) : Prop := g = bp ∨ g = bm ∨ v.ownBlock = some g
def NewV (w : World) (v v' : Value) : Prop := ∀ g, v'.ownBlock = some g → v.ownBlock = some g ∨ w.heap.size ≤ g
theorem NewV.refl (w : World) (v : Value) : NewV w v v := fun _ h => .inl h
theorem NewV.trans {w w1 : World} {v v1 v2 : Value} (h : NewV w v v1) (k : NewV w1 v1 v2) (hs : w.heap.size ≤ w1.heap.size) : NewV w v v2 := fun g e => by
  rcases k g e with e | e
  · exact h g e
  · exact .inr (Nat.le_trans hs e)
theorem keepsP_trans {bp bm : Nat} {w w1 w2 : World} {v v1 : Value} (h : KeepsC (CsP bp bm v) w w1) (hn : NewV w v v1) (k : KeepsC (CsP bp bm v1) w1 w2) : KeepsC (CsP bp bm v) w w2 :=
  Keeps.trans h (Keeps.mono k fun g e => ⟨Nat.lt_of_lt_of_le e.1 h.size, fun c => by
    rcases c with c | c | c
    · exact e.2 (.inl c)
    · exact e.2 (.inr (.inl c))
    · rcases hn g c with c | c
      · exact e.2 (.inr (.inr c))
      · have := e.1; omega⟩)
structure PrL (w : World) (B0 bp bm : Nat) (P : Option Addr) (rk : List Int) (pc : Nat) (mf : Value) (v : Value) (H : List Hd) (L : List (Int × Int)) : Prop where
  box : w.heap[bp]? = some (.cells #[.slice P rk.length pc, v, .map (some bm), mf] 94)
  rks : Ints w B0 P rk
  row : RowH w B0 v H
  map : LMap w bm rk.length L
  ne : bm ≠ bp
  vp : v.ownBlock ≠ some bp
  vm : v.ownBlock ≠ some bm
  lp : B0 ≤ bp
  lm : B0 ≤ bm
section
variable {w w' : World} {B0 bp bm : Nat} {P : Option Addr} {rk : List Int} {pc : Nat} {mf v : Value} {H : List Hd} {L : List (Int × Int)}
theorem PrL.lt (h : PrL w B0 bp bm P rk pc mf v H L) : bp < w.heap.size ∧ bm < w.heap.size := ⟨(Array.getElem?_eq_some_iff.1 h.box).1, h.map.lt⟩
theorem PrL.keep (h : PrL w B0 bp bm P rk pc mf v H L) (hk : ∀ g, g < B0 ∨ CsP bp bm v g → w'.heap[g]? = w.heap[g]?) : PrL w' B0 bp bm P rk pc mf v H L :=
  ⟨(hk bp (.inr (.inl rfl))).trans h.box, h.rks.keep fun p hp => World.cell?_of_block (hk p.block (.inl hp)), h.row.keep fun g e => hk g (.inr (.inr (.inr e))), h.map.kept (hk bm (.inr (.inr (.inl rfl)))), h.ne, h.vp, h.vm, h.lp, h.lm⟩
theorem PrL.own (h : PrL w B0 bp bm P rk pc mf v H L) {g : Nat} (e : v.ownBlock = some g) : B0 ≤ g ∧ g < w.heap.size := row_lt h.row.row g e
theorem PrL.on (h : PrL w B0 bp bm P rk pc mf v H L) (hb : Below w.heap.size w w') : PrL w' B0 bp bm P rk pc mf v H L :=
  h.keep fun g hg => hb.block g (by
    have h1 := h.lt
    have h2 := h.lp
    rcases hg with e | e | e | e
    · omega
    · omega
    · omega
    · exact (h.own e).2)
theorem PrL.pair (h : PrL w B0 bp bm P rk pc mf v H L) (hl : H.length ≤ 9223372036854775807) : ∃ A c, v = .slice A H.length c ∧ PairR w bp P rk pc A H c (.map (some bm)) mf := by
  obtain ⟨A, c, rfl, hH⟩ := h.row.heads hl
  exact ⟨A, c, rfl, h.box, h.rks.more (by have := h.lt; have := h.lp; omega), hH⟩
theorem link_at (h : PrL w B0 bp bm P rk pc mf v H L) (hl : H.length ≤ 9223372036854775807) (hL : (rk.length : Int) + (L.length : Int) < 9223372036854775807) {x y : Int} (h1 : I64 x) (h2 : I64 y) :
    Calls Tryz.prog 81 #[.pointer (some ⟨bp, 0, none⟩), .int .i64 x, .int .i64 y] w fun e w' => e = .returned (.int .i64 (lkN rk.length L x y).1) ∧ PrL w' B0 bp bm P rk pc mf v H (lkN rk.length L x y).2 ∧ KeepsC (CsP bp bm v) w w' := by
  obtain ⟨A, c, rfl, hP⟩ := h.pair hl
  refine (link_any w hP h.map hL h1 h2).mono fun e w1 ⟨he, hM, hk⟩ => ⟨he, ?_, hk.mono fun g e => .inr (.inl e)⟩
  have hb : ∀ g, g < w.heap.size → g ≠ bm → w1.heap[g]? = w.heap[g]? := fun g h1 h2 => hk.block h1 h2
  have h5 := h.lt
  have h6 := h.lm
  exact ⟨(hb bp h5.1 fun e => h.ne e.symm).trans h.box, h.rks.keep fun p hp => World.cell?_of_block (hb p.block (by omega) (by omega)), h.row.keep fun g e => hb g (h.own e).2 (fun e' => h.vm (e' ▸ e)), hM, h.ne, h.vp, h.vm, h.lp, h.lm⟩
end
def LayPost (w : World) (B0 bp bm : Nat) (P : Option Addr) (rk : List Int) (pc : Nat) (mf v : Value) (H : List Hd) (L : List (Int × Int)) (t : Tm) (e : Ending) (w' : World) : Prop :=
  e = .returned (.bool (layK rk.length t)) ∧ ∃ v' H' L', PrL w' B0 bp bm P rk pc mf v' H' L' ∧ KeepsC (CsP bp bm v) w w' ∧ NewV w v v' ∧ (layK rk.length t = true → H' = H ++ hdT rk.length L t ∧ L' = (nmT rk.length L t).2)
end Go.Proofs.YthgglobfkkcdgaaGreat
namespace Go.Proofs.YthgglobfkkcdgaaGreat
open Go.RowKit Go.Shelf
set_option maxRecDepth 100000
theorem layK_no {R : Nat} {f : Int} {xs : List Tm} (h : (R : Int) ≤ f ∨ f < 0 ∧ 0 < xs.length) : layK R (.node f xs) = false := by
  rw [layK]
  rcases h with h | ⟨h1, h2⟩
  · rw [decide_eq_true h]; rfl
  · rw [decide_eq_true h1, decide_eq_true h2, Bool.true_and, Bool.or_true]; rfl
section
variable {w : World} {B0 bp bm : Nat} {P : Option Addr} {rk : List Int} {pc : Nat} {mf v : Value} {H : List Hd} {L : List (Int × Int)}
set_option maxHeartbeats 2000000 in
theorem lay_no (h : PrL w B0 bp bm P rk pc mf v H L) (f : Int) (xs : List Tm) (A : Option Addr) (c : Nat) (hx : (rk.length : Int) ≤ f ∨ f < 0 ∧ 0 < xs.length) :
    Calls Tryz.prog 64 #[.pointer (some ⟨bp, 0, none⟩), .agg #[.int .i64 f, .slice A xs.length c]] w (LayPost w B0 bp bm P rk pc mf v H L (.node f xs)) := by
  unfold LayPost
  rw [layK_no hx]
  obtain ⟨W, hW⟩ : ∃ W, w.alloc (.cells #[.int .i64 f, .slice A xs.length c] 36) = W := ⟨_, rfl⟩
  have q0 := heap_alloc_new w (.cells #[.int .i64 f, .slice A xs.length c] 36)
  have hB : Below w.heap.size w W := by rw [← hW]; exact (Below.refl _ _).alloc (Nat.le_refl _) _
  rw [hW] at q0
  obtain ⟨a0, a1, _, _⟩ := cells_two q0
  have hPW := h.on hB
  obtain ⟨p0, p1, p2, p3⟩ := cells_four hPW.box
  have hd := bl_drewN (Below.refl W.heap.size W) 1
  have HE : Hid (PrL W.drew B0 bp bm P rk pc mf v H L ∧ KeepsC (CsP bp bm v) w W.drew) := Lib.hid ⟨hPW.on hd, KeepsC.trans (KeepsC.of_below hB) (KeepsC.of_below hd)⟩
  have HW := Lib.hid hW
  clear hW h q0 hPW hB hd
  go_enter Tryz.func64, Tryz.ntmps64
  go_upto_region 1 with fail
  rw [HW.out]
  rcases hx with hx | ⟨h1, h2⟩
  · have d1 : decide (f ≥ (rk.length : Int)) = true := decide_eq_true hx
    go_region
    go_wp2
    go_ret
    exact ⟨rfl, v, H, L, HE.out.1, HE.out.2, NewV.refl _ _, fun e => by cases e⟩
  · have d1 : decide (f ≥ (rk.length : Int)) = false := decide_eq_false (by omega)
    have d2 : decide (f < 0) = true := decide_eq_true h1
    have d3 : decide ((xs.length : Int) > 0) = true := decide_eq_true (by omega)
    go_region
    go_wp2
    go_ret
    exact ⟨rfl, v, H, L, HE.out.1, HE.out.2, NewV.refl _ _, fun e => by cases e⟩
end
end Go.Proofs.YthgglobfkkcdgaaGreat
namespace Go.Proofs.YthgglobfkkcdgaaGreat
open Go.RowKit Go.Shelf
set_option maxRecDepth 100000
theorem info_head : (Tryz.prog.info? 97).map (fun i => (i.zero, i.size, i.bytes)) = some (some (.agg #[.int .i64 0, .int .i64 0, .int .i64 0]), 3, 24) := by kernel_rfl
theorem cells_new_head (w : World) (x y z : Value) (t : TypeId) : ∀ j u, [x, y, z][j]? = some u → (w.alloc (.cells #[x, y, z] t)).cell? ((⟨w.heap.size, 0, none⟩ : Addr).add j) = some u := by
  intro j u hj
  match j, hj with
  | 0, hj => simp at hj; subst hj; simp [Addr.add]
  | 1, hj => simp at hj; subst hj; simp [Addr.add]
  | 2, hj => simp at hj; subst hj; simp [Addr.add]
  | j + 3, hj => simp at hj
section
variable {w : World} {B0 bp bm : Nat} {P : Option Addr} {rk : List Int} {pc : Nat} {mf v : Value} {H : List Hd} {L : List (Int × Int)}
theorem PrL.push {v5 : Value} {w5 : World} {x : Hd} {o : Obj} (h : PrL w B0 bp bm P rk pc mf v H L) (hx : I64 x.fn ∧ I64 x.sz ∧ I64 x.no) (hown : w5.ownsRow B0 97 3 v5 (H.length + 1) (H.flatMap Hd.cells ++ x.cells)) (hgr : (w.alloc o).grownBy w5 v.ownBlock) (hat : v5.ownBlock = v.ownBlock ∨ v5.ownBlock = some (w.alloc o).heap.size) :
    PrL (w5.setCell ⟨bp, 1, none⟩ v5) B0 bp bm P rk pc mf v5 (H ++ [x]) L ∧ KeepsC (CsP bp bm v) w (w5.setCell ⟨bp, 1, none⟩ v5) ∧ NewV w v v5 ∧ w5.heap[bp]? = some (.cells #[.slice P rk.length pc, v, .map (some bm), mf] 94) := by
  have hl := h.lt
  have hlp := h.lp
  have hlm := h.lm
  have hK : ∀ g, g < w.heap.size → v.ownBlock ≠ some g → w5.heap[g]? = w.heap[g]? := fun g h1 h2 => (hgr.block g (by simp; omega) (fun e => h2 e.symm)).trans (Below.heap_alloc w o g h1)
  have hb := (hK bp hl.1 h.vp).trans h.box
  have hsz : w.heap.size + 1 ≤ w5.heap.size := by simpa using hgr.size
  have hset : ∀ g, g ≠ bp → (w5.setCell ⟨bp, 1, none⟩ v5).heap[g]? = w5.heap[g]? := fun g hg => heap_setCell_other _ _ _ _ hg
  have hnew : NewV w v v5 := fun g e => by
    rcases hat with a | a
    · rw [a] at e; exact .inl e
    · rw [a] at e; injection e with e; simp at e; exact .inr (by omega)
  have hvp : v5.ownBlock ≠ some bp := fun e => by
    rcases hnew _ e with a | a
    · exact h.vp a
    · omega
  have hvm : v5.ownBlock ≠ some bm := fun e => by
    rcases hnew _ e with a | a
    · exact h.vm a
    · omega
  have hblk : ∀ g, g < w.heap.size → ¬ CsP bp bm v g → (w5.setCell ⟨bp, 1, none⟩ v5).heap[g]? = w.heap[g]? := fun g h1 h2 => (hset g fun e => h2 (.inl e)).trans (hK g h1 fun e => h2 (.inr (.inr e)))
  refine ⟨⟨heap_setCell_same w5 _ 1 _ _ _ hb, h.rks.keep fun p hp => World.cell?_of_block (hblk p.block (by omega) ?_), (h.row.push hown hx).keep fun g e => hset g fun e' => hvp (e' ▸ e), h.map.kept ((hset bm h.ne).trans (hK bm hl.2 h.vm)), h.ne, hvp, hvm, hlp, hlm⟩, ?_, hnew, hb⟩
  · rintro (e | e | e)
    · omega
    · omega
    · have := (h.own e).1; omega
  · exact ⟨hgr.os, hgr.tape, hgr.output, by simp; omega, fun g hg => hblk g hg.1 hg.2⟩
end
end Go.Proofs.YthgglobfkkcdgaaGreat
namespace Go.Proofs.YthgglobfkkcdgaaGreat
open Go.RowKit Go.Shelf
set_option maxRecDepth 100000
theorem layK_top {R : Nat} {f : Int} {xs : List Tm} (h : ¬ ((R : Int) ≤ f ∨ f < 0 ∧ 0 < xs.length)) : layK R (.node f xs) = layKL R xs := by
  rw [layK, decide_eq_false (show ¬ (R : Int) ≤ f by omega), Bool.false_or]
  by_cases h1 : f < 0
  · rw [decide_eq_true h1, decide_eq_false (show ¬ 0 < xs.length by omega)]; rfl
  · rw [decide_eq_false h1]; rfl
theorem nmL_i64 (R : Nat) : ∀ (xs : List Tm) (L : List (Int × Int)) (n : Int), I64 n → R + L.length + sizes xs ≤ 4611686018427387904 → I64 (nmL R L n xs).1
  | [], L, n, h, _ => by rw [nmL]; exact h
  | x :: xs, L, n, _, hb => by
    rw [nmL]
    rw [sizes] at hb
    have h1 := nm_len R x L
    have h2 := lk_len R (nmT R L x).2 n (nmT R L x).1
    have h3 := lk_num R (nmT R L x).2 n (nmT R L x).1
    have hp := size_pos x
    exact nmL_i64 R xs _ _ ⟨by omega, by omega⟩ (by omega)
structure LpI (W wr : World) (tb B0 bp bm : Nat) (P : Option Addr) (rk : List Int) (pc : Nat) (mf v : Value) (H : List Hd) (L : List (Int × Int)) (f : Int) (xs : List Tm) (A : Option Addr) (c k : Nat) (v' : Value) : Prop where
  p : PrL wr B0 bp bm P rk pc mf v' (H ++ ⟨f, 0, 0⟩ :: hdL rk.length L f (xs.take k)) (nmL rk.length L f (xs.take k)).2
  kp : KeepsC (CsP bp bm v) W wr
  nw : NewV W v v'
  tm : wr.heap[tb]? = some (.cells #[.int .i64 f, .slice A xs.length c] 36)
  ok : ∀ x ∈ xs.take k, layK rk.length x = true
def LpLayAt (B0 bp bm : Nat) (P : Option Addr) (rk : List Int) (pc : Nat) (mf : Value) (t : Tm) : Prop := ∀ (w : World) (v : Value) (H : List Hd) (L : List (Int × Int)) (A : Option Addr) (c : Nat), PrL w B0 bp bm P rk pc mf v H L → H.length + t.size ≤ 1099511627776 → rk.length + L.length + t.size ≤ 4611686018427387904 → I64 t.fn → ArgsN w (· < B0) A t.args →
  Calls Tryz.prog 64 #[.pointer (some ⟨bp, 0, none⟩), .agg #[.int .i64 t.fn, .slice A t.args.length c]] w (LayPost w B0 bp bm P rk pc mf v H L t)
section
variable {W wr : World} {tb B0 bp bm : Nat} {P : Option Addr} {rk : List Int} {pc : Nat} {mf v v' : Value} {H : List Hd} {L : List (Int × Int)} {f : Int} {xs : List Tm} {A : Option Addr} {c k : Nat}
theorem LpI.args (h : LpI W wr tb B0 bp bm P rk pc mf v H L f xs A c k v') (hA : ArgsN W (· < B0) A xs) (hv : ∀ g, v.ownBlock = some g → B0 ≤ g) (hW : B0 ≤ W.heap.size) : ArgsN wr (· < B0) A xs :=
  hA.keep fun g hg => h.kp.block (Nat.lt_of_lt_of_le hg hW) (by
    have h1 := h.p.lp
    have h2 := h.p.lm
    rintro (e | e | e)
    · omega
    · omega
    · have := hv g e; omega)
theorem LpI.next {o : Obj} {w4 w6 : World} {u : Tm} {v4 : Value} {H4 : List Hd} {L4 : List (Int × Int)} (h : LpI W wr tb B0 bp bm P rk pc mf v H L f xs A c k v') (hu : xs[k]? = some u) (hk : layK rk.length u = true)
    (k4 : KeepsC (CsP bp bm v') (wr.alloc o) w4) (n4 : NewV (wr.alloc o) v' v4) (e4 : H4 = (H ++ ⟨f, 0, 0⟩ :: hdL rk.length L f (xs.take k)) ++ hdT rk.length (nmL rk.length L f (xs.take k)).2 u) (l4 : L4 = (nmT rk.length (nmL rk.length L f (xs.take k)).2 u).2)
    (h6 : PrL w6 B0 bp bm P rk pc mf v4 H4 (lkN rk.length L4 (nmL rk.length L f (xs.take k)).1 (nmT rk.length (nmL rk.length L f (xs.take k)).2 u).1).2) (k6 : KeepsC (CsP bp bm v4) w4 w6)
    (hb : tb ≠ bp) (hm : tb ≠ bm) (hv : v.ownBlock ≠ some tb) (htW : tb < W.heap.size) :
    LpI W w6 tb B0 bp bm P rk pc mf v H L f xs A c (k + 1) v4 := by
  have ht : xs.take (k + 1) = xs.take k ++ [u] := by rw [List.take_add_one, hu]; rfl
  have hka : KeepsC (CsP bp bm v') wr (wr.alloc o) := KeepsC.of_below ((Below.refl _ _).alloc (Nat.le_refl _) _)
  have hs1 : wr.heap.size ≤ (wr.alloc o).heap.size := hka.size
  have n4' : NewV wr v' v4 := fun g e => by
    rcases n4 g e with a | a
    · exact .inl a
    · exact .inr (Nat.le_trans hs1 a)
  have k46 : KeepsC (CsP bp bm v') wr w6 := keepsP_trans (hka.trans k4) n4' k6
  have hv' : v'.ownBlock ≠ some tb := fun e => by
    rcases h.nw tb e with a | a
    · exact hv a
    · omega
  have htr : tb < wr.heap.size := (Array.getElem?_eq_some_iff.1 h.tm).1
  refine ⟨?_, keepsP_trans h.kp h.nw k46, NewV.trans h.nw n4' h.kp.size, (k46.block htr ?_).trans h.tm, fun x hx => ?_⟩
  · rw [ht, hdL_snoc, nmL_snoc]
    rw [l4, e4] at h6
    rw [List.append_assoc, List.cons_append] at h6
    exact h6
  · rintro (e | e | e)
    · exact hb e
    · exact hm e
    · exact hv' e
  · rw [ht] at hx
    rcases List.mem_append.1 hx with hx | hx
    · exact h.ok x hx
    · simp at hx; subst hx; exact hk
theorem LpI.out {w w4 : World} {o : Obj} {v4 : Value} (h : LpI W wr tb B0 bp bm P rk pc mf v H L f xs A c k v') (hB : Below w.heap.size w W) (k4 : KeepsC (CsP bp bm v') (wr.alloc o) w4) (n4 : NewV (wr.alloc o) v' v4) : KeepsC (CsP bp bm v) w w4 ∧ NewV w v v4 := by
  have hka : KeepsC (CsP bp bm v') wr (wr.alloc o) := KeepsC.of_below ((Below.refl _ _).alloc (Nat.le_refl _) _)
  have hs1 : wr.heap.size ≤ (wr.alloc o).heap.size := hka.size
  have hs2 := h.kp.size
  have hs3 := hB.size
  refine ⟨(KeepsC.of_below hB).trans (keepsP_trans h.kp h.nw (hka.trans k4)), fun g e => ?_⟩
  rcases n4 g e with a | a
  · rcases h.nw g a with b | b
    · exact .inl b
    · exact .inr (by omega)
  · exact .inr (by omega)
theorem LpI.fin {w w4 : World} (h : LpI W wr tb B0 bp bm P rk pc mf v H L f xs A c k v') (hB : Below w.heap.size w W) (k4 : KeepsC (CsP bp bm v') wr w4) : KeepsC (CsP bp bm v) w w4 ∧ NewV w v v' := by
  have hs3 := hB.size
  refine ⟨(KeepsC.of_below hB).trans (keepsP_trans h.kp h.nw k4), fun g e => ?_⟩
  rcases h.nw g e with b | b
  · exact .inl b
  · exact .inr (by omega)
end
theorem PrL.fill {w : World} {B0 bp bm g n cap i : Nat} {P : Option Addr} {rk : List Int} {pc : Nat} {mf : Value} {H : List Hd} {L : List (Int × Int)} {x : Hd} {s m : Int} (h : PrL w B0 bp bm P rk pc mf (.slice (some ⟨g, 0, none⟩) n cap) H L) (hi : H[i]? = some x) (hs : I64 s) (hm : I64 m) :
    PrL (setH w g i s m) B0 bp bm P rk pc mf (.slice (some ⟨g, 0, none⟩) n cap) (H.set i ⟨x.fn, s, m⟩) L ∧ KeepsC (CsP bp bm (.slice (some ⟨g, 0, none⟩) n cap)) w (setH w g i s m) := by
  have hoth : ∀ k, k ≠ g → (setH w g i s m).heap[k]? = w.heap[k]? := fun k e => (heap_setCell_other _ _ _ _ e).trans (heap_setCell_other _ _ _ _ e)
  have h1 := h.own (g := g) rfl
  have hgp : bp ≠ g := fun e => h.vp (by rw [e]; rfl)
  have hgm : bm ≠ g := fun e => h.vm (by rw [e]; rfl)
  refine ⟨⟨(hoth bp hgp).trans h.box, h.rks.keep fun p hp => World.cell?_of_block (hoth p.block (by omega)), h.row.set hi hs hm, h.map.kept (hoth bm hgm), h.ne, h.vp, h.vm, h.lp, h.lm⟩, ?_⟩
  exact ⟨rfl, rfl, rfl, by simp [setH], fun k hk => hoth k fun e => hk.2 (.inr (.inr (by rw [e]; rfl)))⟩
end Go.Proofs.YthgglobfkkcdgaaGreat
namespace Go.Proofs.YthgglobfkkcdgaaGreat
open Go.RowKit Go.Shelf Go.Maps
set_option maxRecDepth 100000
theorem plcLaw : Keyed Tryz.prog 100 := Keyed.of_law (deep_law_gate laidOutL (by decide +kernel) (by decide +kernel) (by kernel_rfl) (by kernel_rfl))
theorem keyOf_plc {x : Int × Int} (h1 : I64 x.1) (h2 : I64 x.2) : ∃ kl, keyOf Tryz.prog 100 (pvL x) = some kl := by
  have hT : Tryz.prog.keyType 100 = true := by kernel_rfl
  obtain ⟨m, hm⟩ : ∃ m, Tryz.prog.types.size + 1 = m + 1 + 1 := ⟨Tryz.prog.types.size - 1, by
    have : 0 < Tryz.prog.types.size := by decide +kernel
    omega⟩
  have hC : Tryz.prog.cellsOf 100 = 2 := by kernel_rfl
  have hC2 : Tryz.prog.cellsOf 3 = 1 := by kernel_rfl
  have hw1 : (Lit.int .i64 x.1).wf = true := WalkArith.wf_i64 ⟨by have := h1.1; omega, by have := h1.2; omega⟩
  have hw2 : (Lit.int .i64 x.2).wf = true := WalkArith.wf_i64 ⟨by have := h2.1; omega, by have := h2.2; omega⟩
  refine ⟨.string (keyBytes [.int .i64 x.1, .int .i64 x.2]), ?_⟩
  simp only [keyOf, Tryz.underlying100, hT, hm, pvL, Value.formed, hC]
  simp [Program.keyLits, Tryz.underlying100, hC, hC2, Value.cells, Tryz.underlying3, hw1, hw2]
theorem nodup_leq {α : Type} [BEq α] [LawfulBEq α] : ∀ (K M : List α), K.Nodup → (∀ x ∈ K, x ∈ M) → K.length ≤ M.length
  | [], M, _, _ => Nat.zero_le _
  | x :: K, M, h, hm => by
    have hx : x ∈ M := hm x (by simp)
    rw [List.nodup_cons] at h
    have h1 := nodup_leq K (M.erase x) h.2 fun y hy => (List.mem_erase_of_ne (fun e => h.1 (by rw [← e]; exact hy))).2 (hm y (by simp [hy]))
    rw [List.length_erase_of_mem hx] at h1
    have := List.length_pos_of_mem hx
    rw [List.length_cons]; omega
def prs (N : List Int) : List (Int × Int) := N.flatMap fun a => N.map fun b => (a, b)
theorem prs_len (N : List Int) : (prs N).length = N.length * N.length := by
  unfold prs
  have : ∀ L : List Int, (L.flatMap fun a => N.map fun b => (a, b)).length = L.length * N.length := by
    intro L
    induction L with
    | nil => simp
    | cons a L ih => rw [List.flatMap_cons, List.length_append, ih, List.length_map, List.length_cons, Nat.add_mul]; omega
  exact this N
theorem prs_mem {N : List Int} {a b : Int} (ha : a ∈ N) (hb : b ∈ N) : (a, b) ∈ prs N := by
  unfold prs
  rw [List.mem_flatMap]
  exact ⟨a, ha, List.mem_map.2 ⟨b, hb, rfl⟩⟩
def FMap (w : World) (b : Nat) (K : List (Int × Int)) (F : Int × Int → Int) : Prop :=
  ∃ D : DataW Unit, w.ownsMap Tryz.prog 100 (plainElem Tryz.prog 30) b K.length D ∧ Maps.size D = K.length ∧ ∀ x kl, keyOf Tryz.prog 100 (pvL x) = some kl → ∀ z, D.atKey kl z = if x ∈ K then .lit (.int .i64 (F x)) else z
theorem FMap.made (w : World) (F : Int × Int → Int) : FMap (w.alloc (.map #[] 0)) w.heap.size [] F :=
  ⟨_, World.ownsMap_made w _ _ _, rfl, fun _ _ _ _ => rfl⟩
theorem FMap.kept {w w' : World} {b : Nat} {K : List (Int × Int)} {F : Int × Int → Int} (h : FMap w b K F) (hk : w'.heap[b]? = w.heap[b]?) : FMap w' b K F := by
  obtain ⟨D, ⟨es, clock, hb, F, hs, hD⟩, hat⟩ := h
  exact ⟨D, ⟨es, clock, hk.trans hb, F, hs, hD⟩, hat⟩
theorem zeroRel (w : World) : (zeroValue 30).run Tryz.prog w = .ok (.int .i64 0) w := by kernel_rfl
theorem FMap.look {w : World} {b : Nat} {K : List (Int × Int)} {F : Int × Int → Int} (h : FMap w b K F) {x y : Int} (h1 : I64 x) (h2 : I64 y) :
    (Instr.lookup 91 (.map (some b)) (.agg #[.int .i64 x, .int .i64 y]) true).run Tryz.prog w = .ok (.tuple #[.int .i64 (if (x, y) ∈ K then F (x, y) else 0), .bool (decide ((x, y) ∈ K))]) w := by
  obtain ⟨D, hown, _, hat⟩ := h
  obtain ⟨kl, hk⟩ := keyOf_plc (x := (x, y)) h1 h2
  obtain ⟨v, ps, hrun, hv⟩ := hown.look_ok plcLaw Tryz.underlying91 (zeroRel w) (plainElem_int Tryz.underlying30 (by decide)) hk
  obtain ⟨c, rfl, hc, _⟩ := plainElem_int_inv Tryz.underlying30 hv
  have e := hat (x, y) kl hk
  have e0 := e (.lit (.int .i64 0))
  have hc' := congrArg Prod.fst hc
  simp only at hc'
  rw [hc'] at e0
  by_cases hf : (x, y) ∈ K
  · rw [if_pos hf] at e0
    rw [if_pos hf, decide_eq_true hf]
    injection e0 with e0; injection e0 with _ e0; subst e0
    rw [has_true_of_atKey (y := .lit (.int .i64 (F (x, y)))) (fun z => by rw [e z, if_pos hf])] at hrun
    exact hrun
  · rw [if_neg hf] at e0
    rw [if_neg hf, decide_eq_false hf]
    injection e0 with e0; injection e0 with _ e0; subst e0
    rw [has_false_of_atKey (fun z => by rw [e z, if_neg hf])] at hrun
    exact hrun
theorem FMap.put {w : World} {b : Nat} {K : List (Int × Int)} {F : Int × Int → Int} (h : FMap w b K F) (hn : K.length < 9223372036854775807) {x y : Int} (h1 : I64 x) (h2 : I64 y) (hx : (x, y) ∉ K) (hF : I64 (F (x, y))) :
    ∃ w', (Instr.mapUpdate 91 (.map (some b)) (.agg #[.int .i64 x, .int .i64 y]) (.int .i64 (F (x, y)))).run Tryz.prog w = .ok () w' ∧ FMap w' b (K ++ [(x, y)]) F ∧ w.grownBy w' (some b) := by
  obtain ⟨D, hown, hsz, hat⟩ := h
  obtain ⟨kl, hk⟩ := keyOf_plc (x := (x, y)) h1 h2
  obtain ⟨w', hrun, hown', hgr⟩ := hown.update plcLaw Tryz.underlying91 (by unfold maxLen; omega) hk (plainElem_int Tryz.underlying30 (a := F (x, y)) (WalkArith.wf_i64 ⟨by have := hF.1; omega, by have := hF.2; omega⟩))
  refine ⟨w', hrun, ⟨_, by rw [List.length_append]; exact hown', ?_, fun z kz hz d => ?_⟩, hgr⟩
  · rw [size_put (hown.tidy plcLaw), has_false_of_atKey (fun z => by rw [hat (x, y) kl hk z, if_neg hx]), hsz, List.length_append]; rfl
  · by_cases e : z = (x, y)
    · subst e
      rw [hk] at hz
      injection hz with hz
      subst hz
      rw [atKey_put_same (hown.tidy plcLaw).isMap (plcLaw.key hk), if_pos (by simp)]
    · have hne : kz ≠ kl := by
        rintro rfl
        have := plcLaw.inj hz hk
        simp only [pvL, Value.agg.injEq] at this
        simp at this
        exact e (Prod.ext this.1 this.2)
      rw [atKey_put_other hne, hat z kz hz d]
      by_cases hz' : z ∈ K
      · rw [if_pos hz', if_pos (by simp [hz'])]
      · rw [if_neg hz', if_neg (by simp [hz', e])]
end Go.Proofs.YthgglobfkkcdgaaGreat
namespace Go.Proofs.YthgglobfkkcdgaaGreat
open Go.RowKit Go.Shelf Go.Maps
set_option maxRecDepth 100000
section
variable {R : Nat} {M : List (Int × Int)}
theorem Dec.arg {n f : Int} {xs : List Tm} (h : Dec R M n f xs) : ∀ x ∈ xs, ∃ m, Dec R M m x.fn x.args := by
  induction h with
  | sym n h => intro x hx; simp at hx
  | lk k b l f g xs ys h h1 h2 ih1 ih2 =>
    intro x hx
    rcases List.mem_append.1 hx with hx | hx
    · exact ih1 x hx
    · rw [List.mem_singleton] at hx
      subst hx
      exact ⟨l, h2⟩
theorem rkL_mem : ∀ {xs : List Tm} {x : Tm}, rkL R xs = true → x ∈ xs → rkT R x = true
  | [], _, _, h => by simp at h
  | y :: ys, x, h, hx => by
    rw [rkL, Bool.and_eq_true] at h
    rcases List.mem_cons.1 hx with rfl | hx
    · exact h.1
    · exact rkL_mem h.2 hx
structure OkT (R : Nat) (M : List (Int × Int)) (t : Tm) : Prop where
  vn : vnT t = true
  rk : rkT R t = true
  dc : ∃ n, Dec R M n t.fn t.args
theorem OkT.arg {t x : Tm} (h : OkT R M t) (hx : x ∈ t.args) : OkT R M x := by
  obtain ⟨f, xs⟩ := t
  obtain ⟨n, hn⟩ := h.dc
  have h2 := h.rk
  rw [rkT, Bool.and_eq_true] at h2
  exact ⟨vn_args h.vn hx, rkL_mem h2.2 hx, hn.arg x hx⟩
theorem OkT.fn_lt {t : Tm} (h : OkT R M t) : t.fn < (R : Int) := by
  obtain ⟨f, xs⟩ := t
  have h2 := h.rk
  rw [rkT, Bool.and_eq_true, decide_eq_true_eq] at h2
  exact h2.1
theorem OkT.inj (hM : M.Nodup) {s t : Tm} (hs : OkT R M s) (ht : OkT R M t) (h : numO R M s = numO R M t) : s = t := by
  obtain ⟨n, hn⟩ := hs.dc
  obtain ⟨m, hm⟩ := ht.dc
  exact num_inj hM hn hm h
noncomputable def topH (R : Nat) (M : List (Int × Int)) (t : Tm) : Hd := ⟨t.fn, (t.size : Int), numO R M t⟩
theorem topH_same (hM : M.Nodup) {s t : Tm} (hs : OkT R M s) (ht : OkT R M t) : hdB (topH R M s) (topH R M t) = decide (cmpT s t = 0) := by
  by_cases e : s = t
  · subst e
    rw [decide_eq_true (cmp_zero_iff.2 rfl)]
    simp [hdB]
  · have hn : ¬ numO R M s = numO R M t := fun h => e (hs.inj hM ht h)
    rw [decide_eq_false fun h => e (cmp_zero_iff.1 h)]
    simp [hdB, topH, hn]
noncomputable def fdF (p : List Int) (R : Nat) (M : List (Int × Int)) (x : Int × Int) : Int := open Classical in
  if ∃ s t, OkT R M s ∧ OkT R M t ∧ numO R M s = x.1 ∧ numO R M t = x.2 ∧ lpT p s t = true then 3 else 0
theorem fdF_eq {p : List Int} (hM : M.Nodup) {s t : Tm} (hs : OkT R M s) (ht : OkT R M t) : fdF p R M (numO R M s, numO R M t) = if lpT p s t = true then 3 else 0 := by
  unfold fdF
  by_cases h : lpT p s t = true
  · rw [if_pos h, if_pos ⟨s, t, hs, ht, rfl, rfl, h⟩]
  · rw [if_neg h, if_neg]
    rintro ⟨s', t', hs', ht', e1, e2, h'⟩
    have h1 := hs'.inj hM hs e1
    have h2 := ht'.inj hM ht e2
    subst h1 h2
    exact h h'
theorem fdF_i64 (p : List Int) (R : Nat) (M : List (Int × Int)) (x : Int × Int) : I64 (fdF p R M x) := by
  unfold fdF
  split <;> exact ⟨by decide, by decide⟩
theorem AtT.top' {H : List Hd} {i : Nat} {t : Tm} (h : AtT R M H i t) : H[i]? = some (topH R M t) := h.top
theorem AtT.lt {H : List Hd} {i : Nat} {t : Tm} (h : AtT R M H i t) : i + t.size ≤ H.length := by
  obtain ⟨pre, post, rfl, rfl⟩ := h
  rw [List.length_append, List.length_append, hsT_len]; omega
theorem AtL.le {H : List Hd} {i j : Nat} {xs : List Tm} (h : AtL R M H i j xs) : j ≤ H.length ∧ j = i + sizes xs := by
  obtain ⟨pre, post, rfl, rfl, hj⟩ := h
  refine ⟨?_, hj⟩
  rw [List.length_append, List.length_append, hsL_len]; omega
end
structure FdW (w : World) (n bp bf : Nat) (P : Option Addr) (rk : List Int) (pc : Nat) (A : Option Addr) (H : List Hd) (hc : Nat) (ml : Value) (F : Int × Int → Int) : Prop where
  pr : PairR w bp P rk pc A H hc ml (.map (some bf))
  nl : n ≤ w.heap.size
  rb : 0 < rk.length → ∀ b off, P = some ⟨b, off, none⟩ → b < n ∧ b ≠ bf
  hb : ∀ b off, A = some ⟨b, off, none⟩ → b < n ∧ b ≠ bf
  lp : bp < n
  lf : bf < n
  ne : bf ≠ bp
  mp : ∃ K, K.Nodup ∧ (∀ x ∈ K, x ∈ prs (H.map Hd.no)) ∧ FMap w bf K F
  cp : H.length ≤ hc
section
variable {w w' : World} {n bp bf : Nat} {P : Option Addr} {rk : List Int} {pc : Nat} {A : Option Addr} {H : List Hd} {hc : Nat} {ml : Value} {F : Int × Int → Int}
theorem FdW.keep (h : FdW w n bp bf P rk pc A H hc ml F) (hs : w.heap.size ≤ w'.heap.size) (hk : ∀ g, g < n → g ≠ bf → w'.heap[g]? = w.heap[g]?) (hm : ∃ K, K.Nodup ∧ (∀ x ∈ K, x ∈ prs (H.map Hd.no)) ∧ FMap w' bf K F) : FdW w' n bp bf P rk pc A H hc ml F := by
  refine ⟨⟨(hk bp h.lp fun e => h.ne e.symm).trans h.pr.box, ⟨h.pr.rks.len, h.pr.rks.i64, fun hn => ?_⟩, ⟨h.pr.hds.len, h.pr.hds.i64, fun hn => ?_⟩⟩, Nat.le_trans h.nl hs, h.rb, h.hb, h.lp, h.lf, h.ne, hm, h.cp⟩
  · obtain ⟨b, off, hA, hb, hc⟩ := h.pr.rks.ad hn
    obtain ⟨h1, h2⟩ := h.rb hn b off hA
    exact ⟨b, off, hA, by omega, fun i x hx => (World.cell?_of_block (hk b h1 h2)).trans (hc i x hx)⟩
  · obtain ⟨b, off, hA, hb, hc⟩ := h.pr.hds.ad hn
    obtain ⟨h1, h2⟩ := h.hb b off hA
    exact ⟨b, off, hA, by omega, fun i x hx => ⟨(World.cell?_of_block (hk b h1 h2)).trans (hc i x hx).1, (World.cell?_of_block (hk b h1 h2)).trans (hc i x hx).2.1, (World.cell?_of_block (hk b h1 h2)).trans (hc i x hx).2.2⟩⟩
theorem FdW.stay (h : FdW w n bp bf P rk pc A H hc ml F) (hk : Keeps (· < n) w w') : FdW w' n bp bf P rk pc A H hc ml F := by
  obtain ⟨K, h1, h2, h3⟩ := h.mp
  exact h.keep hk.size (fun g hg _ => hk.block g hg) ⟨K, h1, h2, h3.kept (hk.block bf h.lf)⟩
theorem FdW.on (h : FdW w n bp bf P rk pc A H hc ml F) (hb : Below w.heap.size w w') : FdW w' n bp bf P rk pc A H hc ml F := h.stay ((Keeps.of_below hb).mono fun _ hg => Nat.lt_of_lt_of_le hg h.nl)
end
structure LatF (W : World) (bf : Nat) (I : World → Prop) where
  w : World
  h : KeepsC (· = bf) W w
  i : I W → I w
instance (W : World) (bf : Nat) (I : World → Prop) : Nonempty (LatF W bf I) := ⟨⟨W, KeepsC.refl _ _, id⟩⟩
theorem wp_region_lat {P : Program} {id : Nat} {Q : Exit → Act → World → Prop} {a : Act} {w : World} {l : List Oper} (W : World) (bf : Nat) (I : World → Prop) (hm : P.follows .mixedOrders = true) (hB : Region.lexB .any l.toArray = true) (h0 : KeepsC (· = bf) W w.drew) (h1 : I W → I w.drew)
    (h : wpQuiet P l.toArray (fun w' => ∃ x : LatF W bf I, w' = x.w) (fun a' => ∀ w', (∃ x : LatF W bf I, w' = x.w) → Q .normal a' w') l a) : (Code.region id l.toArray true).wp P Q a w :=
  wp_region_quiet (C := fun w' => ∃ x : LatF W bf I, w' = x.w) hm hB ⟨⟨_, h0, h1⟩, rfl⟩ (by simpa using h)
theorem calls_latB {P : Program} {f : FuncId} {args : Array Value} {W : World} {bf : Nat} {I : World → Prop} {v : Value} (x : LatF W bf I) (hI : ∀ a b, I a → Below a.heap.size a b → I b) (h : Calls P f args x.w fun e w' => e = .returned v ∧ Below x.w.heap.size x.w w') :
    Calls P f args x.w fun e w' => e = .returned v ∧ ∃ y : LatF W bf I, w' = y.w :=
  h.mono fun _ _ ⟨he, hb⟩ => ⟨he, ⟨_, x.h.trans (KeepsC.of_below hb), fun k => hI _ _ (x.i k) hb⟩, rfl⟩
theorem calls_latF {P : Program} {f : FuncId} {args : Array Value} {W : World} {bf : Nat} {I : World → Prop} {v : Value} (x : LatF W bf I) (h : Calls P f args x.w fun e w' => e = .returned v ∧ KeepsC (· = bf) x.w w' ∧ (I x.w → I w')) :
    Calls P f args x.w fun e w' => e = .returned v ∧ ∃ y : LatF W bf I, w' = y.w :=
  h.mono fun _ _ ⟨he, hb, hi⟩ => ⟨he, ⟨_, x.h.trans hb, fun k => hi (x.i k)⟩, rfl⟩
theorem LatF.cell {W : World} {bf : Nat} {I : World → Prop} (x : LatF W bf I) {g : Nat} (hg : g < W.heap.size) (hne : g ≠ bf) {o : Nat} {v : Value} (h : W.cell? ⟨g, o, none⟩ = some v) : x.w.cell? ⟨g, o, none⟩ = some v := (World.cell?_of_block (x.h.block hg hne)).trans h
end Go.Proofs.YthgglobfkkcdgaaGreat
namespace Go.Proofs.YthgglobfkkcdgaaGreat
open Go.RowKit Go.Shelf Go.Maps
set_option maxRecDepth 100000
structure HldC (k : FuncId) (fs cv : Array Value) (q : Tm → Bool) (S : Tm → Prop) (I : World → Prop) (n bp bf : Nat) (P : Option Addr) (rk : List Int) (pc : Nat) (A : Option Addr) (H : List Hd) (hc : Nat) (ml : Value) (M : List (Int × Int)) : Prop where
  ent : ∀ (args : Array Value) (w : World), (callFunc k args).run Tryz.prog w = .ok (.enter k args) w
  call : ∀ (x : Tm) (i : Nat) (w : World), S x → AtT rk.length M H i x → n ≤ w.heap.size → I w → Calls Tryz.prog k (fs.push (.agg #[.pointer (some ⟨bp, 0, none⟩), .int .i64 (i : Int)]) ++ cv) w fun e w' => e = .returned (.bool (q x)) ∧ KeepsC (· = bf) w w' ∧ I w'
  stay : ∀ w w', I w → Keeps (· < n) w w' → I w'
  pr : ∀ w, I w → PairR w bp P rk pc A H hc ml (.map (some bf))
section
variable {k : FuncId} {fs cv : Array Value} {q : Tm → Bool} {S : Tm → Prop} {I : World → Prop} {n bp bf : Nat} {P : Option Addr} {rk : List Int} {pc : Nat} {A : Option Addr} {H : List Hd} {hc : Nat} {ml : Value} {M : List (Int × Int)}
set_option maxHeartbeats 2000000 in
theorem lpoSome_any (hN : HldC k fs cv q S I n bp bf P rk pc A H hc ml M) (hbf : bf < n) (hH : H.length ≤ 1099511627776) (xs : List Tm) (i j : Nat) (w : World) (hat : AtL rk.length M H i j xs) (hS : ∀ x ∈ xs, S x) (hn : n ≤ w.heap.size) (hI : I w) :
    Calls Tryz.prog 107 #[.agg #[.pointer (some ⟨bp, 0, none⟩), .int .i64 (i : Int), .int .i64 (j : Int)], .func (.func k) fs cv] w fun e w' => e = .returned (.bool (xs.any q)) ∧ KeepsC (· = bf) w w' ∧ I w' := by
  have q0 := heap_alloc_new w (.cells #[.pointer (some ⟨bp, 0, none⟩), .int .i64 (i : Int), .int .i64 (j : Int)] 137)
  obtain ⟨W, hW⟩ : ∃ W, w.alloc (.cells #[.pointer (some ⟨bp, 0, none⟩), .int .i64 (i : Int), .int .i64 (j : Int)] 137) = W := ⟨_, rfl⟩
  have hB : Below w.heap.size w W := by rw [← hW]; exact (Below.refl _ _).alloc (Nat.le_refl _) _
  rw [hW] at q0
  have hIW : I W := hN.stay w W hI ((Keeps.of_below hB).mono fun _ hg => Nat.lt_of_lt_of_le hg hn)
  have hWb : w.heap.size < W.heap.size := (Array.getElem?_eq_some_iff.1 q0).1
  have H0 : Hid (∃ (ys : List Tm) (i' : Nat), W.heap[w.heap.size]? = some (.cells #[.pointer (some ⟨bp, 0, none⟩), .int .i64 (i' : Int), .int .i64 (j : Int)] 137) ∧ AtL rk.length M H i' j ys ∧ xs.any q = ys.any q ∧ (∀ x ∈ ys, S x) ∧ I W ∧ ys.length ≤ xs.length) :=
    Lib.hid ⟨xs, i, q0, hat, rfl, hS, hIW, Nat.le_refl _⟩
  have hK0 : KeepsC (· = bf) w W := KeepsC.of_below hB
  have hent := hN.ent
  have HN := Lib.hid hN
  have HW := Lib.hid hW
  clear hW hat hS hI hIW q0 hB hN
  go_enter Tryz.func107, Tryz.ntmps107
  go_upto_region 1 with fail
  rw [HW.out]
  go_loopg [] xs.length (fun gk wr => KeepsC (· = bf) w wr ∧ Hid (∃ (ys : List Tm) (i' : Nat), wr.heap[w.heap.size]? = some (.cells #[.pointer (some ⟨bp, 0, none⟩), .int .i64 (i' : Int), .int .i64 (j : Int)] 137) ∧ AtL rk.length M H i' j ys ∧ xs.any q = ys.any q ∧ (∀ x ∈ ys, S x) ∧ I wr ∧ ys.length ≤ gk))
  case atStart => exact ⟨hK0, H0⟩
  case round =>
    obtain ⟨hKr, Hr⟩ := hrel
    obtain ⟨ys, i', r0, hat, hev, hS, hI, hsz⟩ := Hr.out
    obtain ⟨y0, y1, y2, f0, f1, f2⟩ := cells3 r0
    have hrb : w.heap.size < wr.heap.size := (Array.getElem?_eq_some_iff.1 r0).1
    have hnr : n ≤ wr.heap.size := Nat.le_trans hn hKr.size
    match ys, hat, hev, hS, hsz with
    | [], hat, hev, _, _ =>
      have hji := hat.empty
      have hE := lpoEmpty_any (i' : Int) (j : Int) (.pointer (some ⟨bp, 0, none⟩)) wr
      rw [decide_eq_true (show (j : Int) ≤ (i' : Int) by omega)] at hE
      have HE := Lib.hid hE
      have Hev := Lib.hid hev
      have HI := Lib.hid hI
      clear hE hev hat hji Hr r0 hI
      go_wp2_with (first
        | (go_at_call 104; go_must ((with_reducible refine HE.out.mono ?_); rintro e w1 ⟨rfl, hb1⟩))
        | fail)
      go_ret
      exact ⟨ret_bool (by rw [Hev.out]; rfl), hKr.trans (KeepsC.of_below hb1), HN.out.stay _ _ HI.out ((Keeps.of_below hb1).mono fun _ hg => Nat.lt_of_lt_of_le hg hnr)⟩
    | y :: ys, hat, hev, hS, hsz =>
      have hy := hat.first
      have hrest := hat.rest
      have hle := hat.le
      have hzy := size_pos y
      have hle2 := hrest.le
      rw [sizes] at hle
      have hE := lpoEmpty_any (i' : Int) (j : Int) (.pointer (some ⟨bp, 0, none⟩)) wr
      rw [decide_eq_false (show ¬ (j : Int) ≤ (i' : Int) by omega)] at hE
      have HE := Lib.hid hE
      have Hev := Lib.hid hev
      have HI := Lib.hid hI
      have Hr0 := Lib.hid r0
      have Hy := Lib.hid hy
      have Hrest := Lib.hid hrest
      have HS := Lib.hid hS
      have hlt : i' < j := by omega
      have hj64 : j ≤ 1099511627776 := by omega
      have hys : ys.length < gk := by rw [List.length_cons] at hsz; omega
      have hiy : i' + y.size ≤ 1099511627776 := by omega
      clear hE hev hat Hr r0 hI hy hrest hS hsz hle hle2
      cases hq : q y with
      | true =>
        have hfin := Lib.hid (show xs.any q = true by rw [Hev.out, List.any_cons, hq]; rfl)
        have Hq := Lib.hid hq
        clear hq
        go_wp2_with (first
          | (go_at_call 104; go_must ((with_reducible refine HE.out.mono ?_); rintro e w1 ⟨rfl, hb1⟩; obtain ⟨z0, z1, z2, _, _, _⟩ := cells3 ((hb1.block _ hrb).trans Hr0.out)))
          | (go_at_call 105; go_must (refine (lpoFirst_any _ _ w1).mono ?_; rintro e w2 ⟨rfl, hb2⟩; have hB2 := hb1.trans (hb2.mono hb1.size); have hC := HN.out.call y i' w2 (HS.out y (by simp)) Hy.out (Nat.le_trans hnr hB2.size) (HN.out.stay _ _ HI.out ((Keeps.of_below hB2).mono fun _ hg => Nat.lt_of_lt_of_le hg hnr)); rw [Hq.out] at hC; have HC := Lib.hid hC; clear hC))
          | ((with_reducible refine HC.out.mono ?_); go_must (rintro e w3 ⟨rfl, hk3, hI3⟩; have HI3 := Lib.hid hI3; clear hI3))
          | fail)
        go_ret
        exact ⟨ret_bool hfin.out.symm, (hKr.trans (KeepsC.of_below hB2)).trans hk3, HI3.out⟩
      | false =>
        have hfin := Lib.hid (show xs.any q = ys.any q by rw [Hev.out, List.any_cons, hq]; rfl)
        have Hq := Lib.hid hq
        clear hq
        go_wp2_with (first
          | (go_at_call 104; go_must ((with_reducible refine HE.out.mono ?_); rintro e w1 ⟨rfl, hb1⟩; obtain ⟨z0, z1, z2, _, _, _⟩ := cells3 ((hb1.block _ hrb).trans Hr0.out)))
          | (go_at_call 105; go_must (refine (lpoFirst_any _ _ w1).mono ?_; rintro e w2 ⟨rfl, hb2⟩; have hB2 := hb1.trans (hb2.mono hb1.size); have hC := HN.out.call y i' w2 (HS.out y (by simp)) Hy.out (Nat.le_trans hnr hB2.size) (HN.out.stay _ _ HI.out ((Keeps.of_below hB2).mono fun _ hg => Nat.lt_of_lt_of_le hg hnr)); rw [Hq.out] at hC; have HC := Lib.hid hC; clear hC))
          | ((with_reducible refine HC.out.mono ?_); go_must (rintro e w3 ⟨rfl, hk3, hI3⟩; have hk13 := (KeepsC.of_below (C := (· = bf)) hB2).trans hk3; have r3 := (hk13.block hrb (show ¬ w.heap.size = bf by omega)).trans Hr0.out; obtain ⟨v0, v1, v2, g0, g1, g2⟩ := cells3 r3; have hR := lpoRest_any (to' := j) w3 (HN.out.pr w3 hI3) Hy.out.top' (show I64 ((i' : Int) + (y.size : Int)) from ⟨by omega, by omega⟩) hlt; have HR := Lib.hid hR; have HI3 := Lib.hid hI3; have R3 := Lib.hid r3; have hs3 : w.heap.size < w3.heap.size := Nat.lt_of_lt_of_le hrb hk13.size; clear hI3 hR r3))
          | (go_at_call 106; go_must ((with_reducible refine HR.out.mono ?_); rintro e w4 ⟨rfl, hb4⟩; have R4 := Lib.hid ((hb4.block _ hs3).trans R3.out); obtain ⟨u0, u1, u2, l0, l1, l2⟩ := cells3 R4.out))
          | fail)
        go_roundg ys.length
        case measure => exact hys
        case rel =>
          have hk4 : KeepsC (· = bf) w w4 := (hKr.trans hk13).trans (KeepsC.of_below hb4)
          have hset := set3 (x' := .pointer (some ⟨bp, 0, none⟩)) (y' := .int .i64 ((i' : Int) + (y.size : Int))) (z' := .int .i64 (j : Int)) R4.out
          refine ⟨((hk4.set (p := ⟨w.heap.size, 0, none⟩) (Nat.le_refl _) _).set (p := ⟨w.heap.size, 1, none⟩) (Nat.le_refl _) _).set (p := ⟨w.heap.size, 2, none⟩) (Nat.le_refl _) _, Lib.hid ⟨ys, i' + y.size, ?_, Hrest.out, hfin.out, fun x hx => HS.out x (by simp [hx]), ?_, Nat.le_refl _⟩⟩
          · rw [Int.natCast_add]; exact hset
          · refine HN.out.stay w3 _ HI3.out ?_
            have h1 : Below w3.heap.size w3 w4 := hb4
            have h2 := below3 (x := .pointer (some ⟨bp, 0, none⟩)) (y := .int .i64 ((i' : Int) + (y.size : Int))) (z := .int .i64 (j : Int)) (h1.mono (show n ≤ w3.heap.size by omega)) (show n ≤ w.heap.size from hn)
            exact Keeps.of_below h2
end
end Go.Proofs.YthgglobfkkcdgaaGreat
namespace Go.Proofs.YthgglobfkkcdgaaGreat
open Go.RowKit Go.Shelf Go.Maps
set_option maxRecDepth 100000
section
variable {k : FuncId} {fs cv : Array Value} {q : Tm → Bool} {S : Tm → Prop} {I : World → Prop} {n bp bf : Nat} {P : Option Addr} {rk : List Int} {pc : Nat} {A : Option Addr} {H : List Hd} {hc : Nat} {ml : Value} {M : List (Int × Int)}
set_option maxHeartbeats 1000000 in
theorem lpoEach1_any (hN : HldC k fs cv q S I n bp bf P rk pc A H hc ml M) (vb : Nat) (hvf : vb ≠ bf) (x : Tm) (i : Nat) (w : World) (hS : S x) (hat : AtT rk.length M H i x) (hn : n ≤ w.heap.size) (hI : I w) (hv : Boxed w vb 77 (.func (.func k) fs cv)) :
    Calls Tryz.prog 116 #[.agg #[.pointer (some ⟨bp, 0, none⟩), .int .i64 (i : Int)], .pointer (some ⟨vb, 0, none⟩)] w fun e w' => e = .returned (.bool (!q x)) ∧ KeepsC (· = bf) w w' ∧ (I w' ∧ Boxed w' vb 77 (.func (.func k) fs cv)) := by
  have q0 := heap_alloc_new w (.cells #[.pointer (some ⟨bp, 0, none⟩), .int .i64 (i : Int)] 74)
  obtain ⟨W, hW⟩ : ∃ W, w.alloc (.cells #[.pointer (some ⟨bp, 0, none⟩), .int .i64 (i : Int)] 74) = W := ⟨_, rfl⟩
  have hB : Below w.heap.size w W := by rw [← hW]; exact (Below.refl _ _).alloc (Nat.le_refl _) _
  rw [hW] at q0
  obtain ⟨x0, x1, _, _⟩ := cells_two q0
  have hvW : Boxed W vb _ _ := (hB.block _ hv.lt).trans hv
  have y0 := hvW.cell
  have hlt := hvW.lt
  have HC := Lib.hid (hN.call x i W hS hat (Nat.le_trans hn hB.size) (hN.stay w W hI ((Keeps.of_below hB).mono fun _ hg => Nat.lt_of_lt_of_le hg hn)))
  have hent := hN.ent
  have HvW := Lib.hid hvW
  have HW := Lib.hid hW
  clear hW q0 hN hI hv hvW
  go_enter Tryz.func116, Tryz.ntmps116
  go_upto_region 1 with fail
  rw [HW.out]
  go_wp2_with (first
    | ((with_reducible refine HC.out.mono ?_); go_must (rintro e w1 ⟨rfl, hk1, hI1⟩; have hI1 := Lib.hid hI1))
    | fail)
  go_ret
  exact ⟨rfl, (KeepsC.of_below hB).trans hk1, hI1.out, (hk1.block hlt hvf).trans HvW.out⟩
theorem lpoEach1_hld (hN : HldC k fs cv q S I n bp bf P rk pc A H hc ml M) (vb : Nat) (hvf : vb ≠ bf) (hnv : n ≤ vb) :
    HldC 116 #[] #[.pointer (some ⟨vb, 0, none⟩)] (fun x => !q x) S (fun w => I w ∧ Boxed w vb 77 (.func (.func k) fs cv)) (vb + 1) bp bf P rk pc A H hc ml M where
  ent := fun args w => by rfl
  call := fun x i w hS hat hn hI => lpoEach1_any hN vb hvf x i w hS hat (by omega) hI.1 hI.2
  stay := fun w w' hI hk => ⟨hN.stay w w' hI.1 (hk.mono fun g hg => by show g < vb + 1; omega), (hk.block vb (Nat.lt_succ_self _)).trans hI.2⟩
  pr := fun w hI => hN.pr w hI.1
@[local go_sem] theorem run_store_part {P : Program} {w : World} {a : Addr} {m : Mode} (f : Fn) (ts cs : Array Value) : (store a (.func f ts cs) m).run P w = stored P w a (.func f ts cs) m := run_store P w a _ m rfl
set_option maxHeartbeats 1000000 in
theorem lpoEach_any (hN : HldC k fs cv q S I n bp bf P rk pc A H hc ml M) (hbf : bf < n) (hH : H.length ≤ 1099511627776) (xs : List Tm) (i j : Nat) (w : World) (hat : AtL rk.length M H i j xs) (hS : ∀ x ∈ xs, S x) (hn : n ≤ w.heap.size) (hI : I w) :
    Calls Tryz.prog 102 #[.agg #[.pointer (some ⟨bp, 0, none⟩), .int .i64 (i : Int), .int .i64 (j : Int)], .func (.func k) fs cv] w fun e w' => e = .returned (.bool (xs.all q)) ∧ KeepsC (· = bf) w w' ∧ I w' := by
  obtain ⟨q0, q1⟩ := heap2 w (.cells #[.pointer (some ⟨bp, 0, none⟩), .int .i64 (i : Int), .int .i64 (j : Int)] 137) (.cells #[.func (.func k) fs cv] 77)
  obtain ⟨W, hW⟩ : ∃ W, (w.alloc (.cells #[.pointer (some ⟨bp, 0, none⟩), .int .i64 (i : Int), .int .i64 (j : Int)] 137)).alloc (.cells #[.func (.func k) fs cv] 77) = W := ⟨_, rfl⟩
  have hB : Below w.heap.size w W := by rw [← hW]; exact ((Below.refl _ _).alloc (Nat.le_refl _) _).alloc (by simp) _
  rw [hW] at q0 q1
  have hWz : W.heap.size = w.heap.size + 1 + 1 := by rw [← hW]; simp
  obtain ⟨x0, x1, x2, _, _, _⟩ := cells3 q0
  have hIW := hN.stay w W hI ((Keeps.of_below hB).mono fun _ hg => Nat.lt_of_lt_of_le hg hn)
  have hal : xs.all q = !xs.any fun x => !q x := List.all_eq_not_any_not
  have HC := Lib.hid (lpoSome_any (lpoEach1_hld hN (w.heap.size + 1) (by omega) (by omega)) (by omega) hH xs i j W hat hS (by omega) ⟨hIW, q1⟩)
  have Hal := Lib.hid hal
  have HW := Lib.hid hW
  clear hW q0 q1 hN hI hIW hal hWz
  go_enter Tryz.func102, Tryz.ntmps102
  go_upto_region 1 with fail
  rw [HW.out]
  go_wp2_with (first
    | (go_at_call 107; (with_reducible refine HC.out.mono ?_); go_must (rintro e w1 ⟨rfl, hk1, hI1⟩; have hI1 := Lib.hid hI1))
    | fail)
  go_ret
  exact ⟨ret_bool Hal.out.symm, (KeepsC.of_below hB).trans hk1, hI1.out.1⟩
end
end Go.Proofs.YthgglobfkkcdgaaGreat
namespace Go.Proofs.YthgglobfkkcdgaaGreat
open Go.RowKit
set_option maxRecDepth 20000
section
variable {R : Nat} {M : List (Int × Int)}
mutual
theorem hs_var (hM : M.Nodup) {t : Tm} (ht : OkT R M t) (hv : t.fn < 0) : ∀ s : Tm, OkT R M s → (hsT R M s).any (hdB (topH R M t)) = decide (0 < ofT t.fn s)
  | .node f xs, hs => by
    have h1 : hdB (topH R M t) ⟨f, ((Tm.node f xs).size : Int), numO R M (.node f xs)⟩ = decide (f = t.fn) := by
      have h0 := topH_same hM ht hs
      change hdB (topH R M t) ⟨f, ((Tm.node f xs).size : Int), numO R M (.node f xs)⟩ = _ at h0
      rw [h0, decide_eq_decide, cmp_zero_iff]
      constructor
      · intro e; rw [e]; rfl
      · intro e
        have e1 := vn_var ht.vn hv
        have e2 := vn_var hs.vn (show (Tm.node f xs).fn < 0 by rw [Tm.fn, e]; exact hv)
        rw [e1, e2]
        show Tm.node t.fn [] = Tm.node f []
        rw [e]
    rw [hsT, List.any_cons, h1, hsL_var hM ht hv xs fun x hx => hs.arg hx, ofT, ← Bool.decide_or]
    rw [decide_eq_decide]
    by_cases e : f = t.fn
    · rw [if_pos e]; exact ⟨fun _ => by omega, fun _ => .inl e⟩
    · rw [if_neg e, Nat.zero_add]; exact ⟨fun h => h.resolve_left e, .inr⟩
theorem hsL_var (hM : M.Nodup) {t : Tm} (ht : OkT R M t) (hv : t.fn < 0) : ∀ xs : List Tm, (∀ x ∈ xs, OkT R M x) → (hsL R M xs).any (hdB (topH R M t)) = decide (0 < ofL t.fn xs)
  | [], _ => by rw [hsL, ofL]; rfl
  | x :: xs, h => by
    rw [hsL, List.any_append, hs_var hM ht hv x (h x (by simp)), hsL_var hM ht hv xs fun y hy => h y (by simp [hy]), ofL, ← Bool.decide_or, decide_eq_decide]
    omega
end
theorem AtT.part {H : List Hd} {i : Nat} {t : Tm} (h : AtT R M H i t) : (H.drop i).take t.size = hsT R M t := by
  obtain ⟨pre, post, rfl, rfl⟩ := h
  rw [List.append_assoc, List.drop_left, ← hsT_len (R := R) (M := M) t, List.take_left]
end
end Go.Proofs.YthgglobfkkcdgaaGreat
