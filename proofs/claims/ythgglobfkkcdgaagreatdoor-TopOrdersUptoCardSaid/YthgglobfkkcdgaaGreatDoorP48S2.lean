import Derived.Test.YthgglobfkkcdgaaGreatDoorP48S1
import Derived.ProofKit
import Derived.SizedLaws
import Derived.Deep.Slices
import Derived.Carry
import Derived.Test.YthgglobfkkcdgaaGreatDoorRows
namespace Go.Proofs.YthgglobfkkcdgaaGreatDoor
open Go.RowKit Go.Shelf
set_option maxRecDepth 100000
section
variable {σ : Type} (vs : σ → Tm → σ × Bool)
mutual
def evT : σ → Tm → σ × Bool
  | s, .node f xs => if (vs s (.node f xs)).2 then evL (vs s (.node f xs)).1 xs else ((vs s (.node f xs)).1, false)
def evL : σ → List Tm → σ × Bool
  | s, [] => (s, true)
  | s, t :: ts => if (evT s t).2 then evL (evT s t).1 ts else ((evT s t).1, false)
end
end
section
variable {σ : Type} (V : σ → Tm → Prop) (vs : σ → Tm → σ × Bool)
mutual
def okT : σ → Tm → Prop
  | s, .node f xs => V s (.node f xs) ∧ ((vs s (.node f xs)).2 = true → okL (vs s (.node f xs)).1 xs)
def okL : σ → List Tm → Prop
  | _, [] => True
  | s, t :: ts => okT s t ∧ ((evT vs s t).2 = true → okL (evT vs s t).1 ts)
end
end
theorem okL_drop {σ : Type} {V : σ → Tm → Prop} {vs : σ → Tm → σ × Bool} {s : σ} {xs : List Tm} {k : Nat} {u : Tm} (h : xs[k]? = some u) (hk : okL V vs s (xs.drop k)) : okT V vs s u ∧ ((evT vs s u).2 = true → okL V vs (evT vs s u).1 (xs.drop (k + 1))) := by
  obtain ⟨h1, h2⟩ := List.getElem?_eq_some_iff.1 h
  rw [List.drop_eq_getElem_cons h1, h2, okL] at hk
  exact hk
theorem evL_drop {σ : Type} {vs : σ → Tm → σ × Bool} {s : σ} {xs : List Tm} {k : Nat} {u : Tm} (h : xs[k]? = some u) : evL vs s (xs.drop k) = if (evT vs s u).2 then evL vs (evT vs s u).1 (xs.drop (k + 1)) else ((evT vs s u).1, false) := by
  obtain ⟨h1, h2⟩ := List.getElem?_eq_some_iff.1 h
  rw [List.drop_eq_getElem_cons h1, h2, evL]
structure VisC {σ : Type} (V : σ → Tm → Prop) (vs : σ → Tm → σ × Bool) (k : FuncId) (cv : Array Value) (C D N : Nat → Prop) (I : σ → World → Prop) (B0 : Nat) : Prop where
  ent : ∀ (args : Array Value) (w : World), (callFunc k args).run Tryz.prog w = .ok (.enter k args) w
  call : ∀ (s : σ) (t : Tm) (A : Option Addr) (c : Nat) (W : World), B0 ≤ W.heap.size → I s W → I64 t.fn → V s t → ArgsN W N A t.args → Calls Tryz.prog k (#[.agg #[.int .i64 t.fn, .slice A t.args.length c]] ++ cv) W fun e W' => e = .returned (.bool (vs s t).2) ∧ I (vs s t).1 W' ∧ KeepsC C W W'
  stay : ∀ s W W', I s W → Keeps D W W' → I s W'
  cb : ∀ g, C g → g < B0
  db : ∀ g, D g → g < B0
  nb : ∀ g, N g → g < B0
  nc : ∀ g, N g → ¬ C g
def VisPost {σ : Type} (C : Nat → Prop) (I : σ → World → Prop) (r : σ × Bool) (w : World) (e : Ending) (w' : World) : Prop := e = .returned (.bool r.2) ∧ I r.1 w' ∧ KeepsC C w w'
section
variable {σ : Type} {V : σ → Tm → Prop} {vs : σ → Tm → σ × Bool} {k : FuncId} {cv : Array Value} {C D N : Nat → Prop} {I : σ → World → Prop} {B0 : Nat}
def EachAt (V : σ → Tm → Prop) (vs : σ → Tm → σ × Bool) (k : FuncId) (cv : Array Value) (C N : Nat → Prop) (I : σ → World → Prop) (B0 vb wb : Nat) (t : Tm) : Prop :=
  ∀ (s : σ) (A : Option Addr) (c : Nat) (w : World), B0 ≤ w.heap.size → Boxed w vb 106 (.func (.func k) #[] cv) → Boxed w wb 106 (.func (.func 106) #[] #[.pointer (some ⟨vb, 0, none⟩), .pointer (some ⟨wb, 0, none⟩)]) →
    I s w → I64 t.fn → okT V vs s t → ArgsN w N A t.args →
    Calls Tryz.prog 106 #[.agg #[.int .i64 t.fn, .slice A t.args.length c], .pointer (some ⟨vb, 0, none⟩), .pointer (some ⟨wb, 0, none⟩)] w (VisPost C I (evT vs s t) w)
set_option maxHeartbeats 2000000 in
theorem each1_any (hN : VisC V vs k cv C D N I B0) (vb wb : Nat) (hvC : ¬ C vb) (hwC : ¬ C wb) (t : Tm) : EachAt V vs k cv C N I B0 vb wb t := by
  refine Tm.ind (P := EachAt V vs k cv C N I B0 vb wb) (fun f xs ih => ?_) t
  intro s A c w hB0 hvb hwb hs hf hV hA
  rw [okT] at hV
  obtain ⟨hV0, hVx⟩ := hV
  simp only [Tm.fn, Tm.args] at hf hA ⊢
  have hlen := hA.len
  have q0 := heap_alloc_new w (.cells #[.int .i64 f, .slice A xs.length c] 32)
  obtain ⟨W, hW⟩ : ∃ W, w.alloc (.cells #[.int .i64 f, .slice A xs.length c] 32) = W := ⟨_, rfl⟩
  have hB : Below w.heap.size w W := by rw [← hW]; exact (Below.refl _ _).alloc (Nat.le_refl _) _
  rw [hW] at q0
  have hWs : w.heap.size < W.heap.size := (Array.getElem?_eq_some_iff.1 q0).1
  have hnC : ∀ g, w.heap.size ≤ g → ¬ C g := fun g h e => by have := hN.cb _ e; omega
  have hnD : ∀ g, D g → g < w.heap.size := fun g e => by have := hN.db _ e; omega
  have hkW : KeepsC C w W := KeepsC.of_below hB
  obtain ⟨x0, x1, _, _⟩ := cells_two q0
  have hcv := Boxed.cell (show Boxed W vb _ _ from (hB.block _ hvb.lt).trans hvb)
  have H1 := Lib.hid (hN.call s (.node f xs) A c W (by omega) (hN.stay s w W hs ((Keeps.of_below hB).mono fun g e => hnD g e)) hf hV0 (hA.keep fun g e => hB.block g (by have := hN.nb g e; omega)))
  have hent := hN.ent
  have HW := Lib.hid hW
  have HN := Lib.hid hN
  have HA := Lib.hid hA
  have hev : evT vs s (.node f xs) = if (vs s (.node f xs)).2 then evL vs (vs s (.node f xs)).1 xs else ((vs s (.node f xs)).1, false) := by rw [evT]
  have Hev := Lib.hid hev
  obtain ⟨r0, hr0⟩ : ∃ r0, vs s (.node f xs) = r0 := ⟨_, rfl⟩
  have H1 : Hid (Calls Tryz.prog k (#[.agg #[.int .i64 f, .slice A xs.length c]] ++ cv) W fun e W' => e = .returned (.bool r0.2) ∧ I r0.1 W' ∧ KeepsC C W W') := by rw [← hr0]; exact H1
  rw [hr0] at Hev hVx
  clear hW hA hs hN hev hr0
  rcases hr : r0.2 with _ | _
  · have Hr := Lib.hid hr
    clear hr hVx
    go_enter Tryz.func106, Tryz.ntmps106
    go_upto_region 1 with fail
    rw [HW.out]
    go_wp2_with (first
      | ((with_reducible refine H1.out.mono ?_); go_must (rintro e w1 ⟨rfl, hI1, hk1⟩; rw [Hr.out]; have hI1 := Lib.hid hI1))
      | fail)
    go_ret
    exact ⟨by rw [Hev.out, Hr.out]; rfl, by rw [Hev.out, Hr.out]; exact hI1.out, hkW.trans hk1⟩
  · have Hr := Lib.hid hr
    have HV0 : Hid (okL V vs r0.1 (xs.drop 0)) := Lib.hid (hVx hr)
    clear hr hVx
    have Hev : Hid (evT vs s (.node f xs) = evL vs r0.1 xs) := Lib.hid (by rw [Hev.out, Hr.out]; rfl)
    have Hvb := Lib.hid hvb
    have Hwb := Lib.hid hwb
    clear hvb hwb
    go_enter Tryz.func106, Tryz.ntmps106
    go_upto_region 1 with fail
    rw [HW.out]
    go_wp2_with (first
      | ((with_reducible refine H1.out.mono ?_); go_must (rintro e w1 ⟨rfl, hI1, hk1⟩; rw [Hr.out]; have hI1 := Lib.hid hI1; obtain ⟨y0, y1, _, _⟩ := cells_two ((hk1.block hWs (hnC _ (Nat.le_refl _))).trans q0)))
      | fail)
    have hK1 := hkW.trans hk1
    have HE0 : Hid (evL vs r0.1 xs = evL vs r0.1 (xs.drop 0)) := Lib.hid rfl
    clear x0 x1 hcv
    go_loopw [14] (fun i wr => ∃ (j : Nat) (s' : σ), j ≤ xs.length ∧ i = .int .i64 (j : Int) ∧ KeepsC C w wr ∧ Hid (I s' wr) ∧ Hid (evL vs r0.1 xs = evL vs s' (xs.drop j)) ∧ Hid (okL V vs s' (xs.drop j))) (fun i _ => xs.length - (intOf i).toNat)
    case atStart => exact ⟨0, r0.1, Nat.zero_le _, rfl, hK1, hI1, HE0, HV0⟩
    case round =>
      obtain ⟨j, s', hj, rfl, hKr, HI, HE, HV⟩ := hrel
      by_cases hlt : j < xs.length
      · obtain ⟨u, hu⟩ : ∃ u, xs[j]? = some u := ⟨_, List.getElem?_eq_getElem hlt⟩
        obtain ⟨bb, off, A1, c1, rfl, ha⟩ := (HA.out.keep fun g e => hKr.block (by have := HN.out.nb g e; omega) (HN.out.nc g e)).get hu
        have e0 := ha.c0
        have e1 := ha.c1
        have hzr := hKr.size
        have r0' := heap_alloc_new wr (.cells #[.int .i64 u.fn, .slice A1 u.args.length c1] 32)
        obtain ⟨W1, hW1⟩ : ∃ W1, wr.alloc (.cells #[.int .i64 u.fn, .slice A1 u.args.length c1] 32) = W1 := ⟨_, rfl⟩
        have hB1 : Below wr.heap.size wr W1 := by rw [← hW1]; exact (Below.refl _ _).alloc (Nat.le_refl _) _
        rw [hW1] at r0'
        have hW1s : wr.heap.size < W1.heap.size := (Array.getElem?_eq_some_iff.1 r0').1
        obtain ⟨z0, z1, _, _⟩ := cells_two r0'
        have hKW1 : KeepsC C w W1 := hKr.trans (KeepsC.of_below hB1)
        have hvb1 : Boxed W1 vb 106 (.func (.func k) #[] cv) := (hKW1.block Hvb.out.lt hvC).trans Hvb.out
        have hwb1 : Boxed W1 wb 106 (.func (.func 106) #[] #[.pointer (some ⟨vb, 0, none⟩), .pointer (some ⟨wb, 0, none⟩)]) := (hKW1.block Hwb.out.lt hwC).trans Hwb.out
        have hcw := hwb1.cell
        have hmem := List.mem_of_getElem? hu
        obtain ⟨hVu, hVn⟩ := okL_drop hu HV.out
        have hcall := Lib.hid (ih u hmem s' A1 c1 W1 (by omega) hvb1 hwb1 (HN.out.stay s' wr W1 HI.out ((Keeps.of_below hB1).mono fun g e => by have := hnD g e; show g < wr.heap.size; omega)) ha.hi hVu (ha.sub.keep fun g e => hB1.block g (by have := HN.out.nb g e; omega)))
        have hd := evL_drop (vs := vs) (s := s') hu
        have HW1 := Lib.hid hW1
        obtain ⟨r1, hr1⟩ : ∃ r1, evT vs s' u = r1 := ⟨_, rfl⟩
        rw [hr1] at hcall hd hVn
        have HVn := Lib.hid hVn
        have Hd := Lib.hid hd
        clear hW1 ha hu hd hr1 hvb1 hwb1 hVu hVn
        rcases hr : r1.2 with _ | _
        · have Hr1 := Lib.hid hr
          clear hr
          go_upto_region 6 with fail
          rw [HW1.out]
          go_wp2_with (first
            | (go_at_call 106; (with_reducible refine hcall.out.mono ?_); go_must (rintro e w2 ⟨rfl, hI2, hk2⟩; rw [Hr1.out]; have hI2 := Lib.hid hI2))
            | fail)
          go_ret
          have hfin : evT vs s (.node f xs) = (r1.1, false) := by rw [Hev.out, HE.out, Hd.out, Hr1.out]; rfl
          exact ⟨ret_bool (by rw [hfin]), by rw [hfin]; exact hI2.out, hKW1.trans hk2⟩
        · have Hr1 := Lib.hid hr
          have HE2 : Hid (evL vs r0.1 xs = evL vs r1.1 (xs.drop (j + 1))) := Lib.hid (by rw [HE.out, Hd.out, hr]; rfl)
          have HV2 : Hid (okL V vs r1.1 (xs.drop (j + 1))) := Lib.hid (HVn.out hr)
          clear hr
          go_upto_region 6 with fail
          rw [HW1.out]
          go_wp2_with (first
            | (go_at_call 106; (with_reducible refine hcall.out.mono ?_); go_must (rintro e w2 ⟨rfl, hI2, hk2⟩; rw [Hr1.out]; have hI2 := Lib.hid hI2; have hK2 := hKW1.trans hk2))
            | fail)
          go_roundw
          case rel => exact ⟨j + 1, r1.1, by omega, by go_num, hK2, hI2, HE2, HV2⟩
          case measure => simp [intOf]; omega
      · obtain rfl : j = xs.length := by omega
        have hfin : Hid (evT vs s (.node f xs) = (s', true)) := Lib.hid (by rw [Hev.out, HE.out, List.drop_length, evL])
        go_wp2
        go_ret
        exact ⟨ret_bool (by rw [hfin.out]), by rw [hfin.out]; exact HI.out, hKr⟩
@[local go_sem] theorem run_store_visit {P : Program} {w : World} {a : Addr} {m : Mode} (f : Fn) (ts cs : Array Value) : (store a (.func f ts cs) m).run P w = stored P w a (.func f ts cs) m := run_store P w a _ m rfl
set_option maxHeartbeats 1000000 in
theorem each_any (hN : VisC V vs k cv C D N I B0) (t : Tm) (s : σ) (A : Option Addr) (c : Nat) (w : World) (hB0 : B0 ≤ w.heap.size) (hs : I s w) (hf : I64 t.fn) (hV : okT V vs s t) (hA : ArgsN w N A t.args) :
    Calls Tryz.prog 75 #[.agg #[.int .i64 t.fn, .slice A t.args.length c], .func (.func k) #[] cv] w (VisPost C I (evT vs s t) w) := by
  obtain ⟨q0, q1, q2⟩ := heap3 w (.cells #[.int .i64 t.fn, .slice A t.args.length c] 32) (.cells #[.func (.func k) #[] cv] 106) (.cells #[.func (.func 106) #[] #[.pointer (some ⟨w.heap.size + 1, 0, none⟩), .pointer (some ⟨w.heap.size + 1 + 1, 0, none⟩)]] 106)
  obtain ⟨W, hW⟩ : ∃ W, (((w.alloc (.cells #[.int .i64 t.fn, .slice A t.args.length c] 32)).alloc (.cells #[.func (.func k) #[] cv] 106)).alloc (.cells #[.func (.func 106) #[] #[.pointer (some ⟨w.heap.size + 1, 0, none⟩), .pointer (some ⟨w.heap.size + 1 + 1, 0, none⟩)]] 106)) = W := ⟨_, rfl⟩
  have hB : Below w.heap.size w W := by rw [← hW]; exact (((Below.refl _ _).alloc (Nat.le_refl _) _).alloc (by simp) _).alloc (by simp; omega) _
  rw [hW] at q0 q1 q2
  have hWs : w.heap.size + 1 + 1 < W.heap.size := (Array.getElem?_eq_some_iff.1 q2).1
  have hnC : ∀ g, w.heap.size ≤ g → ¬ C g := fun g h e => by have := hN.cb _ e; omega
  obtain ⟨x0, x1, _, _⟩ := cells_two q0
  have y0 := Boxed.cell (show Boxed W (w.heap.size + 1 + 1) _ _ from q2)
  have H1 := Lib.hid (each1_any hN (w.heap.size + 1) (w.heap.size + 1 + 1) (hnC _ (by omega)) (hnC _ (by omega)) t s A c W (by omega) q1 q2 (hN.stay s w W hs ((Keeps.of_below hB).mono fun g e => by have := hN.db _ e; show g < w.heap.size; omega)) hf hV (hA.keep fun g e => hB.block g (by have := hN.nb g e; omega)))
  have HW := Lib.hid hW
  clear hW hA hs hN
  go_enter Tryz.func75, Tryz.ntmps75
  go_upto_region 3 with fail
  rw [HW.out]
  go_wp2_with (first
    | (go_at_call 106; (with_reducible refine H1.out.mono ?_); go_must (rintro e w2 ⟨rfl, hI2, hk2⟩; have hI2 := Lib.hid hI2))
    | fail)
  go_ret
  exact ⟨rfl, hI2.out, (KeepsC.of_below hB).trans hk2⟩
end
end Go.Proofs.YthgglobfkkcdgaaGreatDoor
namespace Go.Proofs.YthgglobfkkcdgaaGreatDoor
open Go.RowKit Go.Shelf
set_option maxRecDepth 100000
structure Odr where
  lpo : Bool
  prec : List Int
  wts : List Int
  var : Int
structure OdrM (w : World) (B : Nat) (o : Odr) (P Q : Option Addr) : Prop where
  p : Ints w B P o.prec
  q : Ints w B Q o.wts
  v : I64 o.var
theorem OdrM.on {w w' : World} {o : Odr} {P Q : Option Addr} (h : OdrM w w.heap.size o P Q) (hb : Below w.heap.size w w') : OdrM w' w'.heap.size o P Q := ⟨h.p.on hb, h.q.on hb, h.v⟩
theorem Ints.get {w : World} {B : Nat} {A : Option Addr} {l : List Int} (h : Ints w B A l) {i : Nat} {x : Int} (hx : l[i]? = some x) : ∃ b off, A = some ⟨b, off, none⟩ ∧ b < B ∧ w.cell? ⟨b, off + i, none⟩ = some (.int .i64 x) := by
  have hlt := (List.getElem?_eq_some_iff.1 hx).1
  obtain ⟨b, off, hA, hb, hc⟩ := h.ad (by omega)
  exact ⟨b, off, hA, hb, hc i x hx⟩
def capI (n : Int) : Int := max 0 (min n 2147483647)
theorem capI_bd (n : Int) : 0 ≤ capI n ∧ capI n ≤ 2147483647 := by unfold capI; omega
def wtI (o : Odr) (f : Int) : Int := capI (if f < 0 then o.var else o.wts.getD f.toNat 0)
theorem wtI_bd (o : Odr) (f : Int) : 0 ≤ wtI o f ∧ wtI o f ≤ 2147483647 := capI_bd _
theorem capped_any (n : Int) (w : World) : Calls Tryz.prog 79 #[.int .i64 n] w fun e w' => e = .returned (.int .i64 (capI n)) ∧ w' = w := by
  by_cases h1 : 2147483647 < n
  · go_enter Tryz.func79, Tryz.ntmps79
    go_wp2
    go_ret
    exact ⟨ret_int (by unfold capI; omega), rfl⟩
  · by_cases h2 : 0 < n
    · go_enter Tryz.func79, Tryz.ntmps79
      go_wp2
      go_ret
      exact ⟨ret_int (by unfold capI; omega), rfl⟩
    · go_enter Tryz.func79, Tryz.ntmps79
      go_wp2
      go_ret
      exact ⟨ret_int (by unfold capI; omega), rfl⟩
set_option maxHeartbeats 1000000 in
theorem kboWeight1_any (o : Odr) (t : Tm) (P Q A : Option Addr) (pc qc c : Nat) (w : World) (hM : OdrM w w.heap.size o P Q) (hk : t.fn < 0 ∨ t.fn < (o.wts.length : Int)) :
    Calls Tryz.prog 133 #[.agg #[.bool o.lpo, .slice P o.prec.length pc, .slice Q o.wts.length qc, .int .i64 o.var], .agg #[.int .i64 t.fn, .slice A t.args.length c]] w fun e w' => e = .returned (.int .i64 (wtI o t.fn)) ∧ Below w.heap.size w w' := by
  have hB : Below w.heap.size w ((w.alloc (.cells #[.bool o.lpo, .slice P o.prec.length pc, .slice Q o.wts.length qc, .int .i64 o.var] 38)).alloc (.cells #[.int .i64 t.fn, .slice A t.args.length c] 32)) := ((Below.refl _ _).alloc (Nat.le_refl _) _).alloc (by simp) _
  by_cases hneg : t.fn < 0
  · have hw := Lib.hid (show wtI o t.fn = capI o.var by unfold wtI; rw [if_pos hneg])
    go_enter Tryz.func133, Tryz.ntmps133
    go_wp2_with (first
      | (go_at_call 79; refine (capped_any _ _).mono ?_; go_must (rintro e w1 ⟨rfl, rfl⟩))
      | fail)
    go_ret
    exact ⟨by rw [hw.out]; rfl, hB⟩
  · obtain ⟨k, hk0⟩ : ∃ k : Nat, t.fn = (k : Int) := ⟨t.fn.toNat, by omega⟩
    rw [hk0] at hneg hk ⊢
    have hkl : k < o.wts.length := by omega
    obtain ⟨x, hx⟩ : ∃ x, o.wts[k]? = some x := ⟨_, List.getElem?_eq_getElem hkl⟩
    have hw := Lib.hid (show wtI o (k : Int) = capI x by unfold wtI; rw [if_neg hneg, List.getD_eq_getElem?_getD, show ((k : Int).toNat) = k from rfl, hx]; rfl)
    obtain ⟨b, off, rfl, hb, hc⟩ := hM.q.get hx
    rw [hk0] at hB
    have hkl' : (k : Int) < (o.wts.length : Int) := by omega
    have hc2 := cell_on hB hb hc
    go_enter Tryz.func133, Tryz.ntmps133
    go_wp2_with (first
      | (go_at_call 79; refine (capped_any _ _).mono ?_; go_must (rintro e w1 ⟨rfl, rfl⟩))
      | fail)
    go_ret
    exact ⟨by rw [hw.out]; rfl, hB⟩
def relT (r : Int) : Int := if r = 1 then 3 else if r = 3 then 1 else r
theorem turned_any (r : Int) (h0 : 0 ≤ r) (h3 : r ≤ 3) (w : World) : Calls Tryz.prog 112 #[.int .i64 r] w fun e w' => e = .returned (.int .i64 (relT r)) ∧ w' = w := by
  have hc : r = 0 ∨ r = 1 ∨ r = 2 ∨ r = 3 := by omega
  rcases hc with rfl | rfl | rfl | rfl
  · have hix : (Instr.index 184 (.agg #[.int .i64 0, .int .i64 3, .int .i64 2, .int .i64 1]) (.int .i64 0)).run Tryz.prog w = .ok (.int .i64 0) w := by kernel_rfl
    go_enter Tryz.func112, Tryz.ntmps112
    go_wp2
    go_ret
    exact ⟨rfl, rfl⟩
  · have hix : (Instr.index 184 (.agg #[.int .i64 0, .int .i64 3, .int .i64 2, .int .i64 1]) (.int .i64 1)).run Tryz.prog w = .ok (.int .i64 3) w := by kernel_rfl
    go_enter Tryz.func112, Tryz.ntmps112
    go_wp2
    go_ret
    exact ⟨rfl, rfl⟩
  · have hix : (Instr.index 184 (.agg #[.int .i64 0, .int .i64 3, .int .i64 2, .int .i64 1]) (.int .i64 2)).run Tryz.prog w = .ok (.int .i64 2) w := by kernel_rfl
    go_enter Tryz.func112, Tryz.ntmps112
    go_wp2
    go_ret
    exact ⟨rfl, rfl⟩
  · have hix : (Instr.index 184 (.agg #[.int .i64 0, .int .i64 3, .int .i64 2, .int .i64 1]) (.int .i64 3)).run Tryz.prog w = .ok (.int .i64 1) w := by kernel_rfl
    go_enter Tryz.func112, Tryz.ntmps112
    go_wp2
    go_ret
    exact ⟨rfl, rfl⟩
def relC (c : Int) : Int := if c > 0 then 3 else if c < 0 then 1 else 2
theorem relation_pos (c : Int) (h : c ≥ 0) (w : World) : Calls Tryz.prog 80 #[.int .i64 c] w fun e w' => e = .returned (.int .i64 (relC c)) ∧ w' = w := by
  by_cases hp : c > 0
  · have hr := Lib.hid (show relC c = 3 by unfold relC; rw [if_pos hp])
    go_enter Tryz.func80, Tryz.ntmps80
    go_wp2
    go_ret
    exact ⟨by rw [hr.out]; rfl, rfl⟩
  · obtain rfl : c = 0 := by omega
    go_enter Tryz.func80, Tryz.ntmps80
    go_wp2
    go_ret
    exact ⟨rfl, rfl⟩
theorem relation_any (c : Int) (hlo : -9223372036854775807 ≤ c) (hhi : c ≤ 9223372036854775807) (w : World) : Calls Tryz.prog 80 #[.int .i64 c] w fun e w' => e = .returned (.int .i64 (relC c)) ∧ w' = w := by
  by_cases h : c ≥ 0
  · exact relation_pos c h w
  · have hr := Lib.hid (show relC c = 1 by unfold relC; rw [if_neg (by omega), if_pos (by omega)])
    have hr2 : relC (-c) = 3 := by unfold relC; rw [if_pos (by omega)]
    have h1 := Lib.hid (relation_pos (-c) (by omega) w)
    have h2 := Lib.hid (turned_any 3 (by omega) (by omega) w)
    rw [hr2] at h1
    have hn1 : ¬ c > 0 := by omega
    have hn2 : c < 0 := by omega
    clear hr2 h
    go_enter Tryz.func80, Tryz.ntmps80
    go_wp2_with (first
      | (go_at_call 80; (with_reducible refine h1.out.mono ?_); go_must (rintro e w1 ⟨rfl, rfl⟩))
      | (go_at_call 112; (with_reducible refine h2.out.mono ?_); go_must (rintro e w1 ⟨rfl, rfl⟩))
      | fail)
    go_ret
    exact ⟨by rw [hr.out]; rfl, rfl⟩
def knowTop (o : Odr) (f : Int) (n : Nat) : Bool := if f < 0 then decide (n = 0) else decide (f < (o.prec.length : Int)) && decide (f < (o.wts.length : Int))
mutual
def knowT (o : Odr) : Tm → Bool
  | .node f xs => knowTop o f xs.length && knowL o xs
def knowL (o : Odr) : List Tm → Bool
  | [] => true
  | t :: ts => knowT o t && knowL o ts
end
set_option maxHeartbeats 1000000 in
theorem knows1_any (o : Odr) (t : Tm) (P Q A : Option Addr) (pc qc c bo : Nat) (w : World) (hbo : w.heap[bo]? = some (.cells #[.bool o.lpo, .slice P o.prec.length pc, .slice Q o.wts.length qc, .int .i64 o.var] 38)) :
    Calls Tryz.prog 76 #[.agg #[.int .i64 t.fn, .slice A t.args.length c], .pointer (some ⟨bo, 0, none⟩)] w fun e w' => e = .returned (.bool (knowTop o t.fn t.args.length)) ∧ Below w.heap.size w w' := by
  have hlt := (Array.getElem?_eq_some_iff.1 hbo).1
  have hB : Below w.heap.size w (w.alloc (.cells #[.int .i64 t.fn, .slice A t.args.length c] 32)) := (Below.refl _ _).alloc (Nat.le_refl _) _
  have q0 := (hB.block bo hlt).trans hbo
  have c1 : (w.alloc (.cells #[.int .i64 t.fn, .slice A t.args.length c] 32)).cell? ⟨bo, 1, none⟩ = some (.slice P o.prec.length pc) := by simp only [World.cell?, q0]; rfl
  have c2 : (w.alloc (.cells #[.int .i64 t.fn, .slice A t.args.length c] 32)).cell? ⟨bo, 2, none⟩ = some (.slice Q o.wts.length qc) := by simp only [World.cell?, q0]; rfl
  clear q0 hbo
  by_cases hneg : t.fn < 0
  · have hk := Lib.hid (show knowTop o t.fn t.args.length = decide (t.args.length = 0) by unfold knowTop; rw [if_pos hneg])
    go_enter Tryz.func76, Tryz.ntmps76
    go_wp2
    go_ret
    exact ⟨ret_bool (by rw [hk.out, Bool.eq_iff_iff, beq_iff_eq, decide_eq_true_eq]; omega), hB⟩
  · by_cases h1 : t.fn < (o.prec.length : Int)
    · have hk := Lib.hid (show knowTop o t.fn t.args.length = decide (t.fn < (o.wts.length : Int)) by unfold knowTop; rw [if_neg hneg, decide_eq_true h1, Bool.true_and])
      go_enter Tryz.func76, Tryz.ntmps76
      go_wp2
      go_ret
      exact ⟨ret_bool (by rw [hk.out]), hB⟩
    · have hk := Lib.hid (show knowTop o t.fn t.args.length = false by unfold knowTop; rw [if_neg hneg, decide_eq_false h1, Bool.false_and])
      go_enter Tryz.func76, Tryz.ntmps76
      go_wp2
      go_ret
      exact ⟨ret_bool (by rw [hk.out]), hB⟩
theorem cells_four {W : World} {b : Nat} {x y z u : Value} {t : TypeId} (h : W.heap[b]? = some (.cells #[x, y, z, u] t)) : W.cell? ⟨b, 0, none⟩ = some x ∧ W.cell? ⟨b, 1, none⟩ = some y ∧ W.cell? ⟨b, 2, none⟩ = some z ∧ W.cell? ⟨b, 3, none⟩ = some u := by
  refine ⟨?_, ?_, ?_, ?_⟩ <;> simp [World.cell?, h]
def kvis (o : Odr) (s : Unit) (t : Tm) : Unit × Bool := (s, knowTop o t.fn t.args.length)
theorem knows1_vis (o : Odr) (P Q : Option Addr) (pc qc bo B0 : Nat) (hbo : bo < B0) :
    VisC (fun _ _ => True) (kvis o) 76 #[.pointer (some ⟨bo, 0, none⟩)] (fun _ => False) (· < B0) (· < B0)
      (fun _ W => W.heap[bo]? = some (.cells #[.bool o.lpo, .slice P o.prec.length pc, .slice Q o.wts.length qc, .int .i64 o.var] 38)) B0 where
  ent := enters_of Tryz.func76 (by kernel_rfl) rfl
  call := fun s t A c W hB0 hI hf _ hA => (knows1_any o t P Q A pc qc c bo W hI).mono fun e w' ⟨he, hb⟩ => ⟨he, (hb.block bo (Nat.lt_of_lt_of_le hbo hB0)).trans hI, KeepsC.of_below hb⟩
  stay := fun s W W' h hk => (hk.block bo hbo).trans h
  cb := fun g e => e.elim
  db := fun g e => e
  nb := fun g e => e
  nc := fun g _ e => e
theorem ev_know (o : Odr) (t : Tm) : (evT (kvis o) () t).2 = knowT o t := by
  have key : ∀ xs : List Tm, (∀ t ∈ xs, (evT (kvis o) () t).2 = knowT o t) → (evL (kvis o) () xs).2 = knowL o xs := by
    intro xs
    induction xs with
    | nil => intro _; simp only [evL, knowL]
    | cons x xs ih =>
      intro h
      simp only [evL, knowL, ← h x (by simp)]
      split
      · rename_i hh
        rw [ih fun t ht => h t (by simp [ht]), hh, Bool.true_and]
      · rename_i hh
        rw [Bool.not_eq_true] at hh
        rw [hh, Bool.false_and]
  refine Tm.ind (P := fun t => (evT (kvis o) () t).2 = knowT o t) (fun f xs ih => ?_) t
  have e : (kvis o () (.node f xs)).2 = knowTop o f xs.length := rfl
  rw [evT, knowT, ← e]
  split
  · rename_i hh
    rw [hh, Bool.true_and]
    exact key xs ih
  · rename_i hh
    rw [Bool.not_eq_true] at hh
    rw [hh, Bool.false_and]
theorem ok_true {σ : Type} (vs : σ → Tm → σ × Bool) (t : Tm) : ∀ s, okT (fun _ _ => True) vs s t := by
  have key : ∀ xs : List Tm, (∀ t ∈ xs, ∀ s, okT (fun _ _ => True) vs s t) → ∀ s, okL (fun _ _ => True) vs s xs := by
    intro xs
    induction xs with
    | nil => intro _ s; simp only [okL]
    | cons x xs ih => intro h s; rw [okL]; exact ⟨h x (by simp) s, fun _ => ih (fun t ht => h t (by simp [ht])) _⟩
  refine Tm.ind (P := fun t => ∀ s, okT (fun _ _ => True) vs s t) (fun f xs ih s => ?_) t
  rw [okT]
  exact ⟨trivial, fun _ => key xs ih _⟩
set_option maxHeartbeats 1000000 in
theorem kboKnows_any (o : Odr) (t : Tm) (P Q A : Option Addr) (pc qc c : Nat) (w : World) (hf : I64 t.fn) (hA : Args w w.heap.size A t.args) :
    Calls Tryz.prog 43 #[.agg #[.bool o.lpo, .slice P o.prec.length pc, .slice Q o.wts.length qc, .int .i64 o.var], .agg #[.int .i64 t.fn, .slice A t.args.length c]] w fun e w' => e = .returned (.bool (knowT o t)) ∧ Below w.heap.size w w' := by
  obtain ⟨q0, q1⟩ := heap2 w (.cells #[.bool o.lpo, .slice P o.prec.length pc, .slice Q o.wts.length qc, .int .i64 o.var] 38) (.cells #[.int .i64 t.fn, .slice A t.args.length c] 32)
  obtain ⟨W, hW⟩ : ∃ W, ((w.alloc (.cells #[.bool o.lpo, .slice P o.prec.length pc, .slice Q o.wts.length qc, .int .i64 o.var] 38)).alloc (.cells #[.int .i64 t.fn, .slice A t.args.length c] 32)) = W := ⟨_, rfl⟩
  have hB : Below w.heap.size w W := by rw [← hW]; exact ((Below.refl _ _).alloc (Nat.le_refl _) _).alloc (by simp) _
  rw [hW] at q0 q1
  have hWs : w.heap.size + 1 < W.heap.size := (Array.getElem?_eq_some_iff.1 q1).1
  obtain ⟨x0, x1, _, _⟩ := cells_two q1
  have H1 := Lib.hid (each_any (knows1_vis o P Q pc qc w.heap.size W.heap.size (by omega)) t () A c W (Nat.le_refl _) q0 hf (ok_true _ t ()) (hA.on hB).toN)
  have hev := Lib.hid (ev_know o t)
  have HW := Lib.hid hW
  clear hW hA q0 q1
  go_enter Tryz.func43, Tryz.ntmps43
  go_upto_region 1 with fail
  rw [HW.out]
  go_wp2_with (first
    | (go_at_call 75; (with_reducible refine H1.out.mono ?_); go_must (rintro e w1 ⟨rfl, _, hk1⟩))
    | fail)
  go_ret
  exact ⟨by rw [hev.out]; rfl, hB.trans (Keeps.below hk1 fun g hg => ⟨by omega, fun e => e⟩)⟩
end Go.Proofs.YthgglobfkkcdgaaGreatDoor
namespace Go.Proofs.YthgglobfkkcdgaaGreatDoor
open Go.RowKit
set_option maxRecDepth 100000
theorem sizes_snoc : ∀ (xs : List Tm) (u : Tm), sizes (xs ++ [u]) = sizes xs + u.size
  | [], u => by simp [sizes]
  | x :: xs, u => by simp only [List.cons_append, sizes, sizes_snoc xs u]; omega
theorem depths_snoc : ∀ (xs : List Tm) (u : Tm), depths (xs ++ [u]) = max (depths xs) u.depth
  | [], u => by simp [depths]
  | x :: xs, u => by simp only [List.cons_append, depths, depths_snoc xs u]; omega
theorem sizes_take {xs : List Tm} {k : Nat} {u : Tm} (h : xs[k]? = some u) : sizes (xs.take (k + 1)) = sizes (xs.take k) + u.size := by
  rw [List.take_add_one, h]; exact sizes_snoc _ _
theorem depths_take {xs : List Tm} {k : Nat} {u : Tm} (h : xs[k]? = some u) : depths (xs.take (k + 1)) = max (depths (xs.take k)) u.depth := by
  rw [List.take_add_one, h]; exact depths_snoc _ _
theorem sizes_le (xs : List Tm) (k : Nat) : sizes (xs.take k) ≤ sizes xs := by
  have key : ∀ (ys zs : List Tm), sizes zs ≤ sizes (zs ++ ys) := by
    intro ys zs
    induction zs with
    | nil => simp [sizes]
    | cons z zs ih => simp only [List.cons_append, sizes]; omega
  have := key (xs.drop k) (xs.take k)
  rwa [List.take_append_drop] at this
theorem depth_le_size (t : Tm) : t.depth ≤ t.size := by
  refine Tm.ind (P := fun t => t.depth ≤ t.size) (fun f xs ih => ?_) t
  simp only [Tm.depth, Tm.size]
  have key : ∀ ys : List Tm, (∀ t ∈ ys, t.depth ≤ t.size) → depths ys ≤ sizes ys := by
    intro ys
    induction ys with
    | nil => intro _; simp [depths]
    | cons y ys ihy =>
      intro h
      have h1 := h y (by simp)
      have h2 := ihy fun t ht => h t (by simp [ht])
      simp only [depths, sizes]
      omega
  have := key xs ih
  omega
theorem depths_le (xs : List Tm) (k : Nat) : depths (xs.take k) ≤ depths xs := by
  have key : ∀ (ys zs : List Tm), depths zs ≤ depths (zs ++ ys) := by
    intro ys zs
    induction zs with
    | nil => simp [depths]
    | cons z zs ih => simp only [List.cons_append, depths]; omega
  have := key (xs.drop k) (xs.take k)
  rwa [List.take_append_drop] at this
theorem box_term {w W : World} {f : Int} {A : Option Addr} {n c : Nat} (hW : w.alloc (.cells #[.int .i64 f, .slice A n c] 32) = W) : Below w.heap.size w W ∧ w.heap.size < W.heap.size ∧ ∀ w', Below W.heap.size W w' → w'.cell? ⟨w.heap.size, 0, none⟩ = some (.int .i64 f) ∧ w'.cell? ⟨w.heap.size, 1, none⟩ = some (.slice A n c) := by
  have hb : W.heap[w.heap.size]? = some (.cells #[.int .i64 f, .slice A n c] 32) := by rw [← hW]; exact heap_alloc_new w _
  have hlt := (Array.getElem?_eq_some_iff.1 hb).1
  refine ⟨by rw [← hW]; exact (Below.refl _ _).alloc (Nat.le_refl _) _, hlt, fun w' h => ?_⟩
  obtain ⟨h0, h1, _, _⟩ := cells_two ((h.block _ hlt).trans hb)
  exact ⟨h0, h1⟩
def RSize (t : Tm) : Prop := t.size ≤ 4611686018427387904 → ∀ (A : Option Addr) (c : Nat) (w : World), I64 t.fn → Args w w.heap.size A t.args →
  Calls Tryz.prog 20 #[.agg #[.int .i64 t.fn, .slice A t.args.length c]] w fun e w' => e = .returned (.int .i64 (t.size : Int)) ∧ Below w.heap.size w w'
set_option maxHeartbeats 1000000 in
theorem refSize_any (t : Tm) : RSize t := by
  refine Tm.ind (P := RSize) (fun f xs ih => ?_) t
  intro hsz A c w hf hA
  simp only [Tm.fn, Tm.args] at hf hA ⊢
  have hlen := hA.len
  obtain ⟨W, hW⟩ : ∃ W, w.alloc (.cells #[.int .i64 f, .slice A xs.length c] 32) = W := ⟨_, rfl⟩
  obtain ⟨hB, hlt, hS⟩ := box_term hW
  have HW := Lib.hid hW
  have hszs : sizes xs + 1 ≤ 4611686018427387904 := by simpa only [Tm.size] using hsz
  clear hW
  go_enter Tryz.func20, Tryz.ntmps20
  go_upto_region 1 with fail
  rw [HW.out]
  go_wp2
  go_loopw [3, 4] (fun n i wr => ∃ k : Nat, k ≤ xs.length ∧ i = .int .i64 (k : Int) ∧ n = .int .i64 ((sizes (xs.take k) + 1 : Nat) : Int) ∧ Below W.heap.size W wr) (fun _ i _ => xs.length - (intOf i).toNat)
  case atStart => exact ⟨0, Nat.zero_le _, rfl, by simp [sizes], Below.refl _ _⟩
  case round =>
    obtain ⟨k, hk, rfl, rfl, hBr⟩ := hrel
    obtain ⟨_, x1⟩ := hS _ hBr
    have hsk := sizes_le xs k
    by_cases hkl : k < xs.length
    · obtain ⟨u, hu⟩ : ∃ u, xs[k]? = some u := ⟨_, List.getElem?_eq_getElem hkl⟩
      obtain ⟨bb, off, A1, c1, rfl, ha⟩ := (hA.on (hB.trans (hBr.mono hB.size))).get hu
      have e0 := ha.c0
      have e1 := ha.c1
      have hmem := List.mem_of_getElem? hu
      have hsu := size_mem hmem
      have hst := Lib.hid (sizes_take hu)
      have hsk1 := sizes_le xs (k + 1)
      have hst' := sizes_take hu
      have hsub := Lib.hid ha.sub
      have hu64 := ha.hi
      clear hu ha
      go_wp2_with (first
        | (go_at_call 20
           go_must (
           refine (ih u hmem (by omega) A1 c1 wr hu64 hsub.out).mono ?_
           rintro e w2 ⟨rfl, hb2⟩))
        | fail)
      refine ⟨⟨k + 1, by omega, by go_num, ?_, hBr.trans (hb2.mono hBr.size)⟩, by simp [intOf]; omega⟩
      rw [hst']
      go_num
    · obtain rfl : k = xs.length := by omega
      go_wp2
      go_ret
      exact ⟨by rw [List.take_length]; rfl, hB.trans (hBr.mono hB.size)⟩
def RDepth (t : Tm) : Prop := t.depth ≤ 4611686018427387904 → ∀ (A : Option Addr) (c : Nat) (w : World), I64 t.fn → Args w w.heap.size A t.args →
  Calls Tryz.prog 70 #[.agg #[.int .i64 t.fn, .slice A t.args.length c]] w fun e w' => e = .returned (.int .i64 (t.depth : Int)) ∧ Below w.heap.size w w'
set_option maxHeartbeats 1000000 in
theorem refDepth_any (t : Tm) : RDepth t := by
  refine Tm.ind (P := RDepth) (fun f xs ih => ?_) t
  intro hsz A c w hf hA
  simp only [Tm.fn, Tm.args] at hf hA ⊢
  have hlen := hA.len
  obtain ⟨W, hW⟩ : ∃ W, w.alloc (.cells #[.int .i64 f, .slice A xs.length c] 32) = W := ⟨_, rfl⟩
  obtain ⟨hB, hlt, hS⟩ := box_term hW
  have HW := Lib.hid hW
  have hszs : depths xs + 1 ≤ 4611686018427387904 := by simpa only [Tm.depth] using hsz
  clear hW
  go_enter Tryz.func70, Tryz.ntmps70
  go_upto_region 1 with fail
  rw [HW.out]
  go_wp2
  go_loopw [3, 4] (fun n i wr => ∃ k : Nat, k ≤ xs.length ∧ i = .int .i64 (k : Int) ∧ n = .int .i64 ((depths (xs.take k) : Nat) : Int) ∧ Below W.heap.size W wr) (fun _ i _ => xs.length - (intOf i).toNat)
  case atStart => exact ⟨0, Nat.zero_le _, rfl, by simp [depths], Below.refl _ _⟩
  case round =>
    obtain ⟨k, hk, rfl, rfl, hBr⟩ := hrel
    obtain ⟨_, x1⟩ := hS _ hBr
    have hsk := depths_le xs k
    by_cases hkl : k < xs.length
    · obtain ⟨u, hu⟩ : ∃ u, xs[k]? = some u := ⟨_, List.getElem?_eq_getElem hkl⟩
      obtain ⟨bb, off, A1, c1, rfl, ha⟩ := (hA.on (hB.trans (hBr.mono hB.size))).get hu
      have e0 := ha.c0
      have e1 := ha.c1
      have hmem := List.mem_of_getElem? hu
      have hsu := depth_mem hmem
      have hst' := depths_take hu
      have hsub := Lib.hid ha.sub
      have hu64 := ha.hi
      clear hu ha
      go_wp2_with (first
        | (go_at_call 70
           go_must (
           refine (ih u hmem (by omega) A1 c1 wr hu64 hsub.out).mono ?_
           rintro e w2 ⟨rfl, hb2⟩))
        | fail)
      all_goals
        refine ⟨⟨k + 1, by omega, by go_num, ?_, hBr.trans (hb2.mono hBr.size)⟩, by simp [intOf]; omega⟩
        rw [hst']
        congr 1
        omega
    · obtain rfl : k = xs.length := by omega
      go_wp2
      go_ret
      exact ⟨by rw [List.take_length]; rfl, hB.trans (hBr.mono hB.size)⟩
end Go.Proofs.YthgglobfkkcdgaaGreatDoor
namespace Go.Proofs.YthgglobfkkcdgaaGreatDoor
open Go.RowKit
set_option maxRecDepth 100000
set_option maxRecDepth 100000
end Go.Proofs.YthgglobfkkcdgaaGreatDoor
namespace Go.Proofs.YthgglobfkkcdgaaGreatDoor
open Go.ChangeShapes Go.WideShapes Go.ChangeAt Go.RowKit
section
variable {H : Type} {enc : TypeId × Value → H} {W : World} {base : Nat} {sp : Nat → Bool} {held : Bool}
theorem cellsSym : Tryz.prog.cellsOf 67 = 3 := by kernel_rfl
theorem cellsStr : Tryz.prog.cellsOf 9 = 1 := by kernel_rfl
theorem cellsInt : Tryz.prog.cellsOf 3 = 1 := by kernel_rfl
theorem cellsBool : Tryz.prog.cellsOf 4 = 1 := by kernel_rfl
theorem cellsSlice : Tryz.prog.cellsOf 22 = 1 := by kernel_rfl
theorem cellsSig : Tryz.prog.cellsOf 24 = 1 := by kernel_rfl
set_option maxRecDepth 20000 in
theorem trod_sym {n : Nat} {cs : List Value} {x : DataW H × List MemPlace} (h : DataW.trod enc Tryz.prog W base sp held n 67 cs = some x) :
    ∃ s : Sm, cs = [.string s.name, .int .i64 s.arity, .bool s.pred] ∧ s.Ok ∧ x.1 = .agg [.lit (.string s.name.data.toList), .lit (.int .i64 s.arity), .lit (.bool s.pred)] := by
  obtain ⟨xs, n', _, hx, hlen, hxs, hf⟩ := DataW.trod_struct Tryz.underlying67 h
  rw [cellsSym] at hlen
  match cs, hlen with
  | [c0, c1, c2], _ =>
    have hx3 : xs.length = 3 := by rw [hxs]; rfl
    match xs, hx3 with
    | [x0, x1, x2], _ =>
      have g0 := hf 0 _ rfl
      have g1 := hf 1 _ rfl
      have g2 := hf 2 _ rfl
      simp [cellsStr] at g0
      simp [cellsInt] at g1
      simp [cellsBool] at g2
      obtain ⟨a, ha, ea, hs⟩ := DataW.trod_string Tryz.underlying9 g0
      obtain ⟨b, hb, eb, hw⟩ := DataW.trod_int Tryz.underlying3 g1
      obtain ⟨c, hc, ec⟩ := DataW.trod_bool Tryz.underlying4 g2
      injection ha with ha; injection hb with hb; injection hc with hc
      subst ha; subst hb; subst hc
      have hw' : -9223372036854775808 ≤ b ∧ b ≤ 9223372036854775807 := by
        have := hw
        simp [Lit.wf, IntKind.min, IntKind.max, IntKind.signed, IntKind.bits] at this
        exact this
      exact ⟨⟨a, b, c⟩, rfl, ⟨hs, hw'.1, hw'.2⟩, by rw [hx]; simp [ea, eb, ec]⟩
theorem cell_spot {W : World} {a : Addr} {v : Value} (h : W.cell? a = some v) : a.spot = none := by
  unfold World.cell? at h
  split at h
  · split at h
    · cases h
    · rename_i hs; simpa using hs
  · cases h
theorem trod_syms {n : Nat} {v : Value} {x : DataW H × List MemPlace} (h : DataW.trod enc Tryz.prog W base (fun _ => true) held n 22 [v] = some x) :
    ∃ (A : Option Addr) (len c : Nat) (l : List Sm), v = .slice A len c ∧ Syms W W.heap.size A len l ∧ (len = 0 ∨ ∃ elems spare, x.1 = .slice elems spare ∧ elems.length = len) := by
  rcases Go.Deep.open_slice Tryz.underlying22 h with ⟨hv, _⟩ | ⟨a, len, cap, m, n', D, Pl, hv, hb, hl, hm, hmm, hx, hi⟩
  · injection hv with hv
    subst hv
    exact ⟨none, 0, 0, [], rfl, Syms.nil_ _ _ _, .inl rfl⟩
  · injection hv with hv
    subst hv
    have hcap : m = cap := by simpa using hmm
    subst hcap
    have each : ∀ i, i < len → ∃ s : Sm, s.Ok ∧ W.cell? (a.add (i * 3)) = some (.string s.name) ∧ W.cell? ((a.add (i * 3)).add 1) = some (.int .i64 s.arity) ∧ W.cell? ((a.add (i * 3)).add 2) = some (.bool s.pred) := by
      intro i hlt
      obtain ⟨cs', hc, ht⟩ := hi i (by omega)
      rw [cellsSym] at hc
      obtain ⟨_, _, hat⟩ := World.cells?_some hc
      obtain ⟨s, rfl, hok, _⟩ := trod_sym ht
      refine ⟨s, hok, ?_, hat 1 (by omega), hat 2 (by omega)⟩
      have := hat 0 (by omega)
      simpa [Addr.add] using this
    obtain ⟨q, hq⟩ := Go.Deep.choose_lt each
    refine ⟨some a, len, m, (List.range len).map q, rfl, ⟨by simp, fun s hs => ?_, fun hpos => ?_⟩, .inr ⟨(List.range len).map D, _, by rw [hx], by simp⟩⟩
    · obtain ⟨i, hir, rfl⟩ := List.mem_map.1 hs
      exact (hq i (List.mem_range.1 hir)).1
    · have c0 := (hq 0 hpos).2.1
      simp only [Nat.zero_mul, Addr.add, if_true] at c0
      obtain ⟨blk, off, spot⟩ := a
      obtain rfl : spot = none := cell_spot c0
      refine ⟨blk, off, rfl, ?_, fun i s hs => ?_⟩
      · unfold World.cell? at c0
        rcases Nat.lt_or_ge blk W.heap.size with h1 | h1
        · exact h1
        · simp [Array.getElem?_eq_none h1] at c0
      · have hilt : i < len := by
          have := (List.getElem?_eq_some_iff.1 hs).1
          simpa using this
        have he : q i = s := by
          rw [List.getElem?_map, List.getElem?_range hilt] at hs
          simpa using hs
        obtain ⟨_, h1, h2, h3⟩ := hq i hilt
        rw [he] at h1 h2 h3
        rw [Addr.add_lit] at h1 h2 h3
        rw [Addr.add_lit] at h2 h3
        exact ⟨h1, h2, h3⟩
set_option maxRecDepth 20000 in
theorem open_sig {r : Reach} {b0 : Nat} {v : Value} {d : DataW H} {ps : List MemPlace} (hv : Value.okWide Tryz.prog W r b0 24 v) (h : DataW.Trod enc Tryz.prog W base (fun _ => true) held 24 v d ps) :
    ∃ (A : Option Addr) (len c : Nat) (l : List Sm), v = .agg #[.slice A len c] ∧ Syms W W.heap.size A len l ∧ (len = 0 ∨ ∃ elems spare, d = .agg [.slice elems spare] ∧ elems.length = len) := by
  obtain ⟨cs, rfl, hsz⟩ := okWide_struct Tryz.underlying24 hv
  rw [cellsSig] at hsz
  obtain ⟨fuel, hf⟩ := h
  obtain ⟨xs, n, _, hx, _, hxs, hg⟩ := DataW.trod_struct Tryz.underlying24 hf
  obtain ⟨cl⟩ := cs
  match cl, hsz with
  | [c0], _ =>
    have hx1 : xs.length = 1 := by rw [hxs]; rfl
    match xs, hx1 with
    | [x0], _ =>
      have g0 := hg 0 _ rfl
      simp [Value.cells, cellsSlice] at g0
      obtain ⟨A, len, c, l, rfl, hS, hd⟩ := trod_syms g0
      refine ⟨A, len, c, l, rfl, hS, ?_⟩
      rcases hd with h0 | ⟨elems, spare, he, hl⟩
      · exact .inl h0
      · right
        simp only [Prod.mk.injEq] at hx
        exact ⟨elems, spare, by rw [hx.1]; simp [he], hl⟩
end
end Go.Proofs.YthgglobfkkcdgaaGreatDoor
namespace Go.Proofs.YthgglobfkkcdgaaGreatDoor
open Go.ChangeShapes Go.WideShapes Go.ChangeAt Go.RowKit
set_option maxRecDepth 20000
section
variable {H : Type} {enc : TypeId × Value → H} {W : World} {base : Nat} {held : Bool}
theorem cellsTerm : Tryz.prog.cellsOf 32 = 2 := by kernel_rfl
theorem cellsTerms : Tryz.prog.cellsOf 30 = 1 := by kernel_rfl
theorem bulk_all : ∀ (ts : List Tm) (ds : List (DataW H)), ts.length = ds.length → (∀ (i : Nat) (t : Tm) (d : DataW H), ts[i]? = some t → ds[i]? = some d → t.size ≤ Rows.uptoBulk d) → sizes ts ≤ Rows.uptoBulkAll ds
  | [], [], _, _ => by simp [sizes]
  | [], _ :: _, h, _ => by simp at h
  | _ :: _, [], h, _ => by simp at h
  | t :: ts, d :: ds, h, hh => by
    have h1 := hh 0 t d rfl rfl
    have h2 := bulk_all ts ds (by simpa using h) fun i t' d' e1 e2 => hh (i + 1) t' d' (by simpa using e1) (by simpa using e2)
    simp only [sizes, Rows.uptoBulkAll]
    omega
theorem trod_term : ∀ (n : Nat) (cs : List Value) (x : DataW H × List MemPlace), DataW.trod enc Tryz.prog W base (fun _ => true) held n 32 cs = some x →
    ∃ (t : Tm) (A : Option Addr) (c : Nat), cs = [.int .i64 t.fn, .slice A t.args.length c] ∧ I64 t.fn ∧ Args W W.heap.size A t.args ∧ t.size ≤ Rows.uptoBulk x.1 := by
  intro n
  induction n using Nat.strongRecOn with
  | ind n ih =>
    intro cs x h
    obtain ⟨xs, n', rfl, hx, hlen, hxs, hf⟩ := DataW.trod_struct Tryz.underlying32 h
    rw [cellsTerm] at hlen
    match cs, hlen with
    | [c0, c1], _ =>
      have hx2 : xs.length = 2 := by rw [hxs]; rfl
      match xs, hx2 with
      | [x0, x1], _ =>
        have g0 := hf 0 _ rfl
        have g1 := hf 1 _ rfl
        simp [cellsInt] at g0
        simp [cellsTerms] at g1
        obtain ⟨f, hfv, ef, hw⟩ := DataW.trod_int Tryz.underlying3 g0
        injection hfv with hfv
        subst hfv
        have hf64 : I64 f := by
          have := hw
          simp [Lit.wf, IntKind.min, IntKind.max, IntKind.signed, IntKind.bits] at this
          exact this
        rcases DataW.trod_slice Tryz.underlying30 g1 with ⟨hv, e1⟩ | ⟨a, len, cap, elems, rest, m, hm, hv, e1, _, hl, hmax, hlenE, hel, _, _⟩
        · injection hv with hv
          subst hv
          refine ⟨.node f [], none, 0, rfl, hf64, .nil none, ?_⟩
          subst hx
          simp [ef, e1, Tm.size, sizes, Rows.uptoBulk, Rows.uptoBulkAll]
        · injection hv with hv
          subst hv
          have each : ∀ i, i < len → ∃ q : Tm × Option Addr × Nat × DataW H, I64 q.1.fn ∧ W.cell? (a.add (i * 2)) = some (.int .i64 q.1.fn) ∧ W.cell? ((a.add (i * 2)).add 1) = some (.slice q.2.1 q.1.args.length q.2.2.1) ∧ Args W W.heap.size q.2.1 q.1.args ∧ q.1.size ≤ Rows.uptoBulk q.2.2.2 ∧ (elems.map (·.1))[i]? = some q.2.2.2 := by
            intro i hi
            have h1 := hel i hi
            rw [cellsTerm] at h1
            rw [List.getElem?_eq_getElem (by omega)] at h1
            cases hc : W.cells? base (a.add (i * 2)) 2 with
            | none => rw [hc] at h1; cases h1
            | some cs' =>
              rw [hc] at h1
              simp only [Option.bind_some] at h1
              obtain ⟨t, A, c, rfl, ht64, hA, hb⟩ := ih m (by omega) cs' _ h1
              obtain ⟨_, _, hat⟩ := World.cells?_some hc
              refine ⟨(t, A, c, (elems[i]'(by omega)).1), ht64, ?_, hat 1 (by omega), hA, hb, by rw [List.getElem?_map, List.getElem?_eq_getElem (show i < elems.length by omega)]; rfl⟩
              have := hat 0 (by omega)
              simpa [Addr.add] using this
          haveI : Inhabited (Tm × Option Addr × Nat × DataW H) := ⟨(.node 0 [], none, 0, .nil)⟩
          obtain ⟨q, hq⟩ := Go.Deep.choose_lt each
          have hget : ∀ (i : Nat) (t : Tm), ((List.range len).map fun i => (q i).1)[i]? = some t → i < len ∧ t = (q i).1 := by
            intro i t e
            have hi : i < len := by have := (List.getElem?_eq_some_iff.1 e).1; simpa using this
            rw [List.getElem?_map, List.getElem?_range hi] at e
            simp at e
            exact ⟨hi, e.symm⟩
          refine ⟨.node f ((List.range len).map fun i => (q i).1), some a, cap, by simp [Tm.fn, Tm.args], hf64, ?_, ?_⟩
          · rcases Nat.eq_zero_or_pos len with h0 | h0
            · subst h0; exact .nil _
            · have c00 := (hq 0 h0).2.1
              simp only [Nat.zero_mul, Addr.add, if_true] at c00
              obtain ⟨blk, off, spot⟩ := a
              obtain rfl : spot = none := cell_spot c00
              have hblk : blk < W.heap.size := by
                unfold World.cell? at c00
                rcases Nat.lt_or_ge blk W.heap.size with h1 | h1
                · exact h1
                · simp [Array.getElem?_eq_none h1] at c00
              simp only [Tm.args]
              refine .row blk off _ (fun i => (q i).2.1) (fun i => (q i).2.2.1) hblk (by unfold maxLen at hmax; simp; omega) (fun i t e => ?_) (fun i t e => ?_) (fun i t e => ?_) (fun i t e => ?_)
              · obtain ⟨hi, rfl⟩ := hget i t e
                exact (hq i hi).1
              · obtain ⟨hi, rfl⟩ := hget i t e
                have := (hq i hi).2.1
                rwa [Addr.add_lit] at this
              · obtain ⟨hi, rfl⟩ := hget i t e
                have := (hq i hi).2.2.1
                rwa [Addr.add_lit, Addr.add_lit] at this
              · obtain ⟨hi, rfl⟩ := hget i t e
                exact (hq i hi).2.2.2.1
          · subst hx
            have hb : sizes ((List.range len).map fun i => (q i).1) ≤ Rows.uptoBulkAll (elems.map (·.1)) := by
              refine bulk_all _ _ (by simp [hlenE]) fun i t d e1 e2 => ?_
              obtain ⟨hi, rfl⟩ := hget i t e1
              have h5 := (hq i hi).2.2.2.2
              rw [h5.2] at e2
              cases e2
              exact h5.1
            simp only [ef, e1, Tm.size, List.map_cons, List.map_nil, Rows.uptoBulk, Rows.uptoBulkAll]
            omega
end
end Go.Proofs.YthgglobfkkcdgaaGreatDoor
namespace Go.Proofs.YthgglobfkkcdgaaGreatDoor
open Go.ChangeShapes Go.WideShapes Go.ChangeAt Go.RowKit
set_option maxRecDepth 20000
inductive ArgsK (w : World) (N : Nat → Prop) : Option Addr → Nat → List Tm → Prop
  | nil (A : Option Addr) (c : Nat) : ArgsK w N A c []
  | row (b off c : Nat) (xs : List Tm) (A' : Nat → Option Addr) (c' : Nat → Nat) (hc : xs.length ≤ c) (hb : N b) (hlen : xs.length ≤ 9223372036854775807) (hi : ∀ (i : Nat) (t : Tm), xs[i]? = some t → I64 t.fn)
      (h0 : ∀ (i : Nat) (t : Tm), xs[i]? = some t → w.cell? ⟨b, off + i * 2, none⟩ = some (.int .i64 t.fn))
      (h1 : ∀ (i : Nat) (t : Tm), xs[i]? = some t → w.cell? ⟨b, off + i * 2 + 1, none⟩ = some (.slice (A' i) t.args.length (c' i)))
      (hs : ∀ (i : Nat) (t : Tm), xs[i]? = some t → ArgsK w N (A' i) (c' i) t.args) : ArgsK w N (some ⟨b, off, none⟩) c xs
section
variable {w w' : World} {N M : Nat → Prop} {A : Option Addr} {c : Nat} {xs : List Tm}
theorem ArgsK.toN (h : ArgsK w N A c xs) : ArgsN w N A xs := by
  induction h with
  | nil A c => exact .nil A
  | row b off c xs A' c' hc hb hlen hi h0 h1 _ ih => exact .row b off xs A' c' hb hlen hi h0 h1 ih
theorem ArgsK.keep (h : ArgsK w N A c xs) (hk : ∀ g, N g → w'.heap[g]? = w.heap[g]?) : ArgsK w' N A c xs := by
  induction h with
  | nil A c => exact .nil A c
  | row b off c xs A' c' hc hb hlen hi h0 h1 _ ih => exact .row b off c xs A' c' hc hb hlen hi (fun i t e => (cell_of_heap (hk b hb)).trans (h0 i t e)) (fun i t e => (cell_of_heap (hk b hb)).trans (h1 i t e)) ih
theorem ArgsK.wide (h : ArgsK w N A c xs) (hk : ∀ g, N g → M g) : ArgsK w M A c xs := by
  induction h with
  | nil A c => exact .nil A c
  | row b off c xs A' c' hc hb hlen hi h0 h1 _ ih => exact .row b off c xs A' c' hc (hk b hb) hlen hi h0 h1 ih
structure ConsK (w : World) (N : Nat → Prop) (A : Option Addr) (c : Nat) (x : Tm) (xs : List Tm) (b off : Nat) (A1 : Option Addr) (c1 : Nat) : Prop where
  ad : A = some ⟨b, off, none⟩
  hb : N b
  hc : xs.length + 1 ≤ c
  hi : I64 x.fn
  v0 : w.cell? ⟨b, off, none⟩ = some (.int .i64 x.fn)
  v1 : w.cell? ⟨b, off + 1, none⟩ = some (.slice A1 x.args.length c1)
  sub : ArgsK w N A1 c1 x.args
  rest : ArgsK w N (some (if c = 1 then ⟨b, off, none⟩ else ⟨b, off + 2, none⟩)) (c - 1) xs
theorem ArgsK.cons {x : Tm} (h : ArgsK w N A c (x :: xs)) : ∃ b off A1 c1, ConsK w N A c x xs b off A1 c1 := by
  obtain _ | ⟨b, off, _, _, A', c', hc, hb, hlen, hi, h0, h1, hs⟩ := h
  have e0 := h0 0 x rfl
  have e1 := h1 0 x rfl
  rw [Nat.zero_mul, Nat.add_zero] at e0 e1
  refine ⟨b, off, A' 0, c' 0, rfl, hb, hc, hi 0 x rfl, e0, e1, hs 0 x rfl, ?_⟩
  simp only [List.length_cons] at hc hlen
  by_cases hc1 : c = 1
  · obtain rfl : xs = [] := List.eq_nil_of_length_eq_zero (by omega)
    exact .nil _ _
  · rw [if_neg hc1]
    refine .row b (off + 2) (c - 1) xs (fun i => A' (i + 1)) (fun i => c' (i + 1)) (by omega) hb (by omega) (fun i t e => hi (i + 1) t e) (fun i t e => ?_) (fun i t e => ?_) (fun i t e => hs (i + 1) t e)
    · rw [show off + 2 + i * 2 = off + (i + 1) * 2 by omega]; exact h0 (i + 1) t e
    · rw [show off + 2 + i * 2 + 1 = off + (i + 1) * 2 + 1 by omega]; exact h1 (i + 1) t e
theorem ArgsK.len (h : ArgsK w N A c xs) : xs.length ≤ 9223372036854775807 := h.toN.len
theorem ArgsK.get (h : ArgsK w N A c xs) {i : Nat} {t : Tm} (ht : xs[i]? = some t) : ∃ b off A1 c1, A = some ⟨b, off, none⟩ ∧ N b ∧ I64 t.fn ∧ w.cell? ⟨b, off + i * 2, none⟩ = some (.int .i64 t.fn) ∧ w.cell? ⟨b, off + i * 2 + 1, none⟩ = some (.slice A1 t.args.length c1) ∧ ArgsK w N A1 c1 t.args := by
  obtain _ | ⟨b, off, _, _, A', c', hc, hb, hlen, hi, h0, h1, hs⟩ := h
  · simp at ht
  · exact ⟨b, off, A' i, c' i, rfl, hb, hi i t ht, h0 i t ht, h1 i t ht, hs i t ht⟩
end
end Go.Proofs.YthgglobfkkcdgaaGreatDoor
namespace Go.Proofs.YthgglobfkkcdgaaGreatDoor
open Go.RowKit Go.Shelf Go.Maps
set_option maxRecDepth 100000
set_option maxRecDepth 100000
theorem ArgsK.on {w w' : World} {A : Option Addr} {c : Nat} {xs : List Tm} (h : ArgsK w (· < w.heap.size) A c xs) (hb : Below w.heap.size w w') : ArgsK w' (· < w'.heap.size) A c xs :=
  (h.keep fun g e => hb.block g e).wide fun _ e => Nat.lt_of_lt_of_le e hb.size
theorem ArgsK.toA {w : World} {B : Nat} {A : Option Addr} {c : Nat} {xs : List Tm} (h : ArgsK w (· < B) A c xs) : Args w B A xs := by
  induction h with
  | nil A c => exact .nil A
  | row b off c xs A' c' hc hb hlen hi h0 h1 _ ih => exact .row b off xs A' c' hb hlen hi h0 h1 ih
theorem argsK_one {w : World} {N : Nat → Prop} {b : Nat} {t : Tm} {A : Option Addr} {c : Nat} {e : TypeId} (h : w.heap[b]? = some (.cells #[.int .i64 t.fn, .slice A t.args.length c] e)) (hN : N b) (h64 : I64 t.fn) (hA : ArgsK w N A c t.args) : ArgsK w N (some ⟨b, 0, none⟩) 1 [t] := by
  obtain ⟨z0, z1, _, _⟩ := cells_two h
  refine .row b 0 1 [t] (fun _ => A) (fun _ => c) (by simp) hN (by simp) (fun i u e => ?_) (fun i u e => ?_) (fun i u e => ?_) (fun i u e => ?_)
  all_goals
    match i, e with
    | 0, e =>
      simp only [List.getElem?_cons_zero, Option.some.injEq] at e
      subst e
      first
        | exact h64
        | exact z0
        | exact z1
        | exact hA
    | i + 1, e => simp at e
end Go.Proofs.YthgglobfkkcdgaaGreatDoor
namespace Go.Proofs.YthgglobfkkcdgaaGreatDoor
open Go.RowKit Go.Shelf
set_option maxRecDepth 100000
set_option maxRecDepth 100000
theorem row_slice {W : World} {base n : Nat} {e : TypeId} {size : Nat} {v : Value} {vs : List Value} (h : W.ownsRow base e size v n vs) : ∃ A c, v = .slice A n c := by
  rcases h.2 with ⟨hv, h0⟩ | ⟨g, cap, cur, hv, _⟩
  · exact ⟨none, 0, by rw [hv, h0]⟩
  · exact ⟨_, cap, hv⟩
theorem frozen_9 {W : World} {b : Nat} {cs : Array Value} {t : TypeId} (h : W.heap[b]? = some (.cells cs t)) (o : Nat) : W.frozen? ⟨b, o, none⟩ = false := by simp [World.frozen?, h]
end Go.Proofs.YthgglobfkkcdgaaGreatDoor
namespace Go.Proofs.YthgglobfkkcdgaaGreatDoor
open Go.RowKit Go.Shelf
set_option maxRecDepth 100000
set_option maxRecDepth 100000
end Go.Proofs.YthgglobfkkcdgaaGreatDoor
namespace Go.Proofs.YthgglobfkkcdgaaGreatDoor
open Go.RowKit Go.Shelf Go.Maps
set_option maxRecDepth 100000
set_option maxRecDepth 100000
end Go.Proofs.YthgglobfkkcdgaaGreatDoor
namespace Go.Proofs.YthgglobfkkcdgaaGreatDoor
open Go.RowKit Go.Shelf Go.Maps
set_option maxRecDepth 100000
end Go.Proofs.YthgglobfkkcdgaaGreatDoor
namespace Go.Proofs.YthgglobfkkcdgaaGreatDoor
open Go.RowKit
set_option maxRecDepth 20000
def trnI (r : Int) : Int := if r = 1 then 3 else if r = 3 then 1 else r
def strike {α : Type} (rel : α → α → Int) (a : α) : List α → Option (List α)
  | [] => none
  | x :: l => if rel a x = 2 then some l else (strike rel a l).map (x :: ·)
def leftM {α : Type} (rel : α → α → Int) : List α → List α → List α × List α
  | [], n => ([], n)
  | a :: m, n =>
    match strike rel a n with
    | some n' => leftM rel m n'
    | none => (a :: (leftM rel m n).1, (leftM rel m n).2)
def relM {α : Type} (rel : α → α → Int) (r c : List α) : Int :=
  if r.isEmpty && c.isEmpty then 2
  else if c.all (fun y => r.any (fun x => rel x y == 3)) then 3
  else if r.all (fun x => c.any (fun y => rel x y == 1)) then 1 else 0
def mulR {α : Type} (rel : α → α → Int) (m n : List α) : Int := relM rel (leftM rel m n).1 (leftM rel m n).2
def In4 (r : Int) : Prop := r = 0 ∨ r = 1 ∨ r = 2 ∨ r = 3
structure OrdOn {α : Type} (rel : α → α → Int) (D : α → Prop) : Prop where
  self : ∀ {x}, D x → rel x x = 2
  turn : ∀ {x y}, D x → D y → rel y x = trnI (rel x y)
  trans : ∀ {x y z}, D x → D y → D z → rel x y = 3 → rel y z = 3 → rel x z = 3
  cong : ∀ {x y z}, D x → D y → D z → rel x y = 2 → rel x z = rel y z
  in4 : ∀ {x y}, D x → D y → In4 (rel x y)
section
variable {α : Type} {rel : α → α → Int} {D : α → Prop}
theorem OrdOn.congR (h : OrdOn rel D) {x y z : α} (hx : D x) (hy : D y) (hz : D z) (e : rel x y = 2) : rel z x = rel z y := by
  rw [h.turn hx hz, h.turn hy hz, h.cong hx hy hz e]
theorem OrdOn.one (h : OrdOn rel D) {x y : α} (hx : D x) (hy : D y) : rel x y = 1 ↔ rel y x = 3 := by
  rw [h.turn hx hy]
  rcases h.in4 hx hy with e | e | e | e <;> rw [e] <;> decide
def cntM (rel : α → α → Int) (z : α) (l : List α) : Nat := l.countP fun x => rel z x == 2
theorem cnt_nil (z : α) : cntM rel z [] = 0 := rfl
theorem cnt_cons (z x : α) (l : List α) : cntM rel z (x :: l) = cntM rel z l + if rel z x = 2 then 1 else 0 := by
  unfold cntM
  rw [List.countP_cons]
  by_cases h : rel z x = 2 <;> simp [h]
theorem cnt_pos {z : α} {l : List α} : 0 < cntM rel z l ↔ ∃ x ∈ l, rel z x = 2 := by
  unfold cntM
  rw [List.countP_pos_iff]
  simp
theorem cnt_cong (h : OrdOn rel D) {x y : α} {l : List α} (hx : D x) (hy : D y) (hl : ∀ z ∈ l, D z) (e : rel x y = 2) : cntM rel x l = cntM rel y l := by
  induction l with
  | nil => rfl
  | cons z l ih =>
    rw [cnt_cons, cnt_cons, ih (fun u hu => hl u (by simp [hu])), h.cong hx hy (hl z (by simp)) e]
theorem maxM (h : OrdOn rel D) : ∀ (l : List α), (∀ x ∈ l, D x) → l ≠ [] → ∃ x ∈ l, ∀ y ∈ l, rel y x ≠ 3
  | [], _, hn => absurd rfl hn
  | [a], hl, _ => ⟨a, by simp, fun y hy => by
      rw [List.mem_singleton] at hy; subst hy
      rw [h.self (hl y (by simp))]; decide⟩
  | a :: b :: l, hl, _ => by
    obtain ⟨x, hx, hm⟩ := maxM h (b :: l) (fun y hy => hl y (List.mem_cons_of_mem _ hy)) (by simp)
    have hDx := hl x (List.mem_cons_of_mem _ hx)
    have hDa := hl a (by simp)
    by_cases e : rel a x = 3
    · refine ⟨a, by simp, fun y hy => ?_⟩
      rcases List.mem_cons.1 hy with rfl | hy
      · rw [h.self hDa]; decide
      · exact fun e2 => hm y hy (h.trans (hl y (List.mem_cons_of_mem _ hy)) hDa hDx e2 e)
    · refine ⟨x, List.mem_cons_of_mem _ hx, fun y hy => ?_⟩
      rcases List.mem_cons.1 hy with rfl | hy
      · exact e
      · exact hm y hy
theorem maxS (h : OrdOn rel D) {S : α → Prop} {l : List α} (hl : ∀ x ∈ l, D x) (hS : ∀ x, D x → S x → 0 < cntM rel x l) (hc : ∀ x y, D x → D y → rel x y = 2 → S x → S y) (hx : ∃ x, D x ∧ S x) :
    ∃ x, D x ∧ S x ∧ ∀ y, D y → S y → rel y x ≠ 3 := by
  classical
  obtain ⟨x, hDx, hSx⟩ := hx
  obtain ⟨x', hx', e⟩ := cnt_pos.1 (hS x hDx hSx)
  have hSx' := hc x x' hDx (hl x' hx') e hSx
  obtain ⟨u, hu, hm⟩ := maxM h (l.filter fun x => decide (S x)) (fun y hy => hl y (List.mem_filter.1 hy).1) (fun e => by
    have : x' ∈ l.filter fun x => decide (S x) := List.mem_filter.2 ⟨hx', by simpa using hSx'⟩
    rw [e] at this; simp at this)
  obtain ⟨hul, huS⟩ := List.mem_filter.1 hu
  refine ⟨u, hl u hul, by simpa using huS, fun y hDy hSy => ?_⟩
  obtain ⟨y', hy', e'⟩ := cnt_pos.1 (hS y hDy hSy)
  have hSy' := hc y y' hDy (hl y' hy') e' hSy
  have := hm y' (List.mem_filter.2 ⟨hy', by simpa using hSy'⟩)
  rwa [h.cong hDy (hl y' hy') (hl u hul) e']
theorem strike_none {a : α} : ∀ {l : List α}, strike rel a l = none → ∀ x ∈ l, rel a x ≠ 2
  | [], _, x, hx => by simp at hx
  | y :: l, e, x, hx => by
    unfold strike at e
    split at e
    · simp at e
    · rename_i hy
      rcases List.mem_cons.1 hx with rfl | hx
      · exact hy
      · exact strike_none (by simpa using e) x hx
theorem strike_sub {a : α} : ∀ {l l' : List α}, strike rel a l = some l' → ∀ x ∈ l', x ∈ l
  | [], l', e, x, hx => by simp [strike] at e
  | y :: l, l', e, x, hx => by
    unfold strike at e
    split at e
    · simp only [Option.some.injEq] at e; subst e; simp [hx]
    · simp only [Option.map_eq_some_iff] at e
      obtain ⟨l2, e2, rfl⟩ := e
      rcases List.mem_cons.1 hx with rfl | hx
      · simp
      · exact List.mem_cons_of_mem _ (strike_sub e2 x hx)
theorem strike_cnt (h : OrdOn rel D) {f : α → α} (hfD : ∀ x, D x → D (f x)) (hf : ∀ x y, D x → D y → rel x y = 2 → rel (f x) (f y) = 2) {a z : α} (ha : D a) (hz : D z) :
    ∀ {l l' : List α}, (∀ x ∈ l, D x) → strike rel a l = some l' → cntM rel z (l.map f) = cntM rel z (l'.map f) + if rel z (f a) = 2 then 1 else 0
  | [], l', _, e => by simp [strike] at e
  | y :: l, l', hl, e => by
    have hy := hl y (by simp)
    unfold strike at e
    split at e
    · rename_i e2
      simp only [Option.some.injEq] at e; subst e
      rw [List.map_cons, cnt_cons, h.congR (hfD a ha) (hfD y hy) hz (hf a y ha hy e2)]
    · simp only [Option.map_eq_some_iff] at e
      obtain ⟨l2, e2, rfl⟩ := e
      rw [List.map_cons, List.map_cons, cnt_cons, cnt_cons, strike_cnt h hfD hf ha hz (fun x hx => hl x (by simp [hx])) e2]
      omega
theorem left_sub : ∀ (m n : List α), (∀ x ∈ (leftM rel m n).1, x ∈ m) ∧ (∀ x ∈ (leftM rel m n).2, x ∈ n)
  | [], n => ⟨fun x hx => by simp [leftM] at hx, fun x hx => by simpa [leftM] using hx⟩
  | a :: m, n => by
    unfold leftM
    split
    · rename_i n' e
      obtain ⟨h1, h2⟩ := left_sub m n'
      exact ⟨fun x hx => List.mem_cons_of_mem _ (h1 x hx), fun x hx => strike_sub e x (h2 x hx)⟩
    · obtain ⟨h1, h2⟩ := left_sub m n
      refine ⟨fun x hx => ?_, h2⟩
      rcases List.mem_cons.1 hx with rfl | hx
      · simp
      · exact List.mem_cons_of_mem _ (h1 x hx)
theorem left_apart : ∀ (m n : List α), ∀ x ∈ (leftM rel m n).1, ∀ y ∈ (leftM rel m n).2, rel x y ≠ 2
  | [], n, x, hx, _, _ => by simp [leftM] at hx
  | a :: m, n, x, hx, y, hy => by
    unfold leftM at hx hy
    split at hx
    · rename_i n' e
      rw [e] at hy
      exact left_apart m n' x hx y hy
    · rename_i e
      rw [e] at hy
      rcases List.mem_cons.1 hx with rfl | hx
      · exact strike_none e y ((left_sub m n).2 y hy)
      · exact left_apart m n x hx y hy
theorem left_cnt (h : OrdOn rel D) {f : α → α} (hfD : ∀ x, D x → D (f x)) (hf : ∀ x y, D x → D y → rel x y = 2 → rel (f x) (f y) = 2) {z : α} (hz : D z) :
    ∀ (m n : List α), (∀ x ∈ m, D x) → (∀ x ∈ n, D x) → cntM rel z (m.map f) + cntM rel z ((leftM rel m n).2.map f) = cntM rel z (n.map f) + cntM rel z ((leftM rel m n).1.map f)
  | [], n, _, _ => by simp [leftM, cnt_nil]
  | a :: m, n, hm, hn => by
    have ha := hm a (by simp)
    have hm' : ∀ x ∈ m, D x := fun x hx => hm x (by simp [hx])
    unfold leftM
    split
    · rename_i n' e
      have ih := left_cnt h hfD hf hz m n' hm' (fun x hx => hn x (strike_sub e x hx))
      have := strike_cnt h hfD hf ha hz hn e
      rw [List.map_cons, cnt_cons]
      omega
    · have ih := left_cnt h hfD hf hz m n hm' hn
      simp only [List.map_cons, cnt_cons]
      omega
theorem left_cnt1 (h : OrdOn rel D) {z : α} (hz : D z) (m n : List α) (hm : ∀ x ∈ m, D x) (hn : ∀ x ∈ n, D x) : cntM rel z m + cntM rel z (leftM rel m n).2 = cntM rel z n + cntM rel z (leftM rel m n).1 := by
  have := left_cnt h (f := id) (fun _ h => h) (fun _ _ _ _ e => e) hz m n hm hn
  simpa only [List.map_id] using this
theorem left_zero (h : OrdOn rel D) {z : α} (hz : D z) (m n : List α) (hm : ∀ x ∈ m, D x) (hn : ∀ x ∈ n, D x) : cntM rel z (leftM rel m n).1 = 0 ∨ cntM rel z (leftM rel m n).2 = 0 := by
  rcases Nat.eq_zero_or_pos (cntM rel z (leftM rel m n).1) with h1 | h1
  · exact .inl h1
  rcases Nat.eq_zero_or_pos (cntM rel z (leftM rel m n).2) with h2 | h2
  · exact .inr h2
  obtain ⟨x, hx, e1⟩ := cnt_pos.1 h1
  obtain ⟨y, hy, e2⟩ := cnt_pos.1 h2
  have hDx := hm x ((left_sub m n).1 x hx)
  have hDy := hn y ((left_sub m n).2 y hy)
  exact absurd (by rw [← h.cong hz hDx hDy e1]; exact e2) (left_apart m n x hx y hy)
def GtM (rel : α → α → Int) (D : α → Prop) (m n : List α) : Prop :=
  (∃ z, D z ∧ cntM rel z m ≠ cntM rel z n) ∧ ∀ y, D y → cntM rel y m < cntM rel y n → ∃ x, D x ∧ rel x y = 3 ∧ cntM rel x n < cntM rel x m
def EqM (rel : α → α → Int) (D : α → Prop) (m n : List α) : Prop := ∀ z, D z → cntM rel z m = cntM rel z n
theorem gt_asym (h : OrdOn rel D) {m n : List α} (hm : ∀ x ∈ m, D x) (hn : ∀ x ∈ n, D x) (h1 : GtM rel D m n) (h2 : GtM rel D n m) : False := by
  have hmn : ∀ x ∈ m ++ n, D x := fun x hx => (List.mem_append.1 hx).elim (hm x) (hn x)
  obtain ⟨u, hu, hS, hmx⟩ := maxS h (S := fun x => cntM rel x m ≠ cntM rel x n) hmn
    (fun x _ hx => by
      have : cntM rel x (m ++ n) = cntM rel x m + cntM rel x n := by unfold cntM; rw [List.countP_append]
      omega)
    (fun x y hx hy e hS => by rwa [← cnt_cong h hx hy hm e, ← cnt_cong h hx hy hn e]) h1.1
  rcases Nat.lt_or_gt_of_ne hS with hlt | hgt
  · obtain ⟨x, hx, e, hc⟩ := h1.2 u hu hlt
    exact hmx x hx (by omega) e
  · obtain ⟨x, hx, e, hc⟩ := h2.2 u hu hgt
    exact hmx x hx (by omega) e
theorem isE_iff (m n : List α) : ((leftM rel m n).1.isEmpty && (leftM rel m n).2.isEmpty) = true ↔ ((leftM rel m n).1 = [] ∧ (leftM rel m n).2 = []) := by
  rw [Bool.and_eq_true, List.isEmpty_iff, List.isEmpty_iff]
section
variable (h : OrdOn rel D) {m n : List α} (hm : ∀ x ∈ m, D x) (hn : ∀ x ∈ n, D x)
include h hm hn
theorem left_empty : ((leftM rel m n).1 = [] ∧ (leftM rel m n).2 = []) ↔ EqM rel D m n := by
  constructor
  · intro ⟨h1, h2⟩ z hz
    have := left_cnt1 h hz m n hm hn
    rw [h1, h2, cnt_nil] at this
    omega
  · intro e
    constructor
    · cases hr : (leftM rel m n).1 with
      | nil => rfl
      | cons x r =>
        have hxm : x ∈ (leftM rel m n).1 := by rw [hr]; simp
        have hx := hm x ((left_sub m n).1 x hxm)
        have h1 : 0 < cntM rel x (leftM rel m n).1 := cnt_pos.2 ⟨x, hxm, h.self hx⟩
        have h2 := left_cnt1 h hx m n hm hn
        have h3 := left_zero h hx m n hm hn
        have := e x hx
        omega
    · cases hr : (leftM rel m n).2 with
      | nil => rfl
      | cons x r =>
        have hxm : x ∈ (leftM rel m n).2 := by rw [hr]; simp
        have hx := hn x ((left_sub m n).2 x hxm)
        have h1 : 0 < cntM rel x (leftM rel m n).2 := cnt_pos.2 ⟨x, hxm, h.self hx⟩
        have h2 := left_cnt1 h hx m n hm hn
        have h3 := left_zero h hx m n hm hn
        have := e x hx
        omega
theorem left_gt (hne : ¬ ((leftM rel m n).1 = [] ∧ (leftM rel m n).2 = [])) : (∀ y ∈ (leftM rel m n).2, ∃ x ∈ (leftM rel m n).1, rel x y = 3) ↔ GtM rel D m n := by
  have hcn := fun z hz => left_cnt1 h (z := z) hz m n hm hn
  have hcz := fun z hz => left_zero h (z := z) hz m n hm hn
  have hr := fun x hx => hm x ((left_sub (rel := rel) m n).1 x hx)
  have hc := fun x hx => hn x ((left_sub (rel := rel) m n).2 x hx)
  constructor
  · intro ha
    refine ⟨?_, fun y hy hlt => ?_⟩
    · refine Classical.byContradiction fun hno => hne ((left_empty h hm hn).2 fun z hz => Classical.byContradiction fun e => hno ⟨z, hz, e⟩)
    · have h1 := hcn y hy
      obtain ⟨y', hy', e⟩ := cnt_pos.1 (show 0 < cntM rel y (leftM rel m n).2 by omega)
      obtain ⟨x, hx, e3⟩ := ha y' hy'
      refine ⟨x, hr x hx, by rw [h.congR hy (hc y' hy') (hr x hx) e]; exact e3, ?_⟩
      have h2 := hcn x (hr x hx)
      have h3 := hcz x (hr x hx)
      have h4 : 0 < cntM rel x (leftM rel m n).1 := cnt_pos.2 ⟨x, hx, h.self (hr x hx)⟩
      omega
  · intro ⟨_, hg⟩ y hy
    have hDy := hc y hy
    have h1 := hcn y hDy
    have h2 := hcz y hDy
    have h3 : 0 < cntM rel y (leftM rel m n).2 := cnt_pos.2 ⟨y, hy, h.self hDy⟩
    obtain ⟨x, hx, e, hlt⟩ := hg y hDy (by omega)
    have h4 := hcn x hx
    have h5 := hcz x hx
    obtain ⟨x', hx', e'⟩ := cnt_pos.1 (show 0 < cntM rel x (leftM rel m n).1 by omega)
    exact ⟨x', hx', by rw [← h.cong hx (hr x' hx') hDy e']; exact e⟩
theorem left_lt (hne : ¬ ((leftM rel m n).1 = [] ∧ (leftM rel m n).2 = [])) : (∀ x ∈ (leftM rel m n).1, ∃ y ∈ (leftM rel m n).2, rel x y = 1) ↔ GtM rel D n m := by
  have hcn := fun z hz => left_cnt1 h (z := z) hz m n hm hn
  have hcz := fun z hz => left_zero h (z := z) hz m n hm hn
  have hr := fun x hx => hm x ((left_sub (rel := rel) m n).1 x hx)
  have hc := fun x hx => hn x ((left_sub (rel := rel) m n).2 x hx)
  constructor
  · intro ha
    refine ⟨?_, fun y hy hlt => ?_⟩
    · refine Classical.byContradiction fun hno => hne ((left_empty h hm hn).2 fun z hz => Classical.byContradiction fun e => hno ⟨z, hz, fun e2 => e e2.symm⟩)
    · have h1 := hcn y hy
      obtain ⟨y', hy', e⟩ := cnt_pos.1 (show 0 < cntM rel y (leftM rel m n).1 by omega)
      obtain ⟨x, hx, e3⟩ := ha y' hy'
      refine ⟨x, hc x hx, ?_, ?_⟩
      · rw [h.congR hy (hr y' hy') (hc x hx) e]
        exact (h.one (hr y' hy') (hc x hx)).1 e3
      · have h2 := hcn x (hc x hx)
        have h3 := hcz x (hc x hx)
        have h4 : 0 < cntM rel x (leftM rel m n).2 := cnt_pos.2 ⟨x, hx, h.self (hc x hx)⟩
        omega
  · intro ⟨_, hg⟩ y hy
    have hDy := hr y hy
    have h1 := hcn y hDy
    have h2 := hcz y hDy
    have h3 : 0 < cntM rel y (leftM rel m n).1 := cnt_pos.2 ⟨y, hy, h.self hDy⟩
    obtain ⟨x, hx, e, hlt⟩ := hg y hDy (by omega)
    have h4 := hcn x hx
    have h5 := hcz x hx
    obtain ⟨x', hx', e'⟩ := cnt_pos.1 (show 0 < cntM rel x (leftM rel m n).2 by omega)
    refine ⟨x', hx', (h.one hDy (hc x' hx')).2 ?_⟩
    rw [← h.cong hx (hc x' hx') hDy e']; exact e
theorem mul_two : mulR rel m n = 2 ↔ EqM rel D m n := by
  rw [← left_empty h hm hn, ← isE_iff m n]
  unfold mulR relM
  constructor
  · intro e
    split at e
    · assumption
    · split at e
      · cases e
      · split at e <;> cases e
  · intro e; rw [if_pos e]
theorem mul_three : mulR rel m n = 3 ↔ GtM rel D m n := by
  by_cases he : (leftM rel m n).1 = [] ∧ (leftM rel m n).2 = []
  · have e2 := (mul_two h hm hn).2 ((left_empty h hm hn).1 he)
    rw [e2]
    refine ⟨fun e => (by cases e), fun ⟨⟨z, hz, hne⟩, _⟩ => absurd ((left_empty h hm hn).1 he z hz) hne⟩
  · rw [← left_gt h hm hn he]
    unfold mulR relM
    rw [if_neg (fun e => he ((isE_iff m n).1 e))]
    constructor
    · intro e
      split at e
      · rename_i ha
        simpa [List.all_eq_true, List.any_eq_true] using ha
      · split at e <;> cases e
    · intro ha
      rw [if_pos (by simpa [List.all_eq_true, List.any_eq_true] using ha)]
theorem mul_one : mulR rel m n = 1 ↔ GtM rel D n m := by
  by_cases he : (leftM rel m n).1 = [] ∧ (leftM rel m n).2 = []
  · have e2 := (mul_two h hm hn).2 ((left_empty h hm hn).1 he)
    rw [e2]
    refine ⟨fun e => (by cases e), fun ⟨⟨z, hz, hne⟩, _⟩ => absurd ((left_empty h hm hn).1 he z hz).symm hne⟩
  · have h3 := mul_three h hm hn
    have has := fun a b => gt_asym h hm hn a b
    rw [← left_lt h hm hn he]
    constructor
    · intro e
      unfold mulR relM at e
      rw [if_neg (fun e => he ((isE_iff m n).1 e))] at e
      split at e
      · cases e
      · split at e
        · rename_i ha
          simpa [List.all_eq_true, List.any_eq_true] using ha
        · cases e
    · intro ha
      have hno : ¬ mulR rel m n = 3 := fun e => has (h3.1 e) ((left_lt h hm hn he).1 ha)
      unfold mulR relM at hno ⊢
      rw [if_neg (fun e => he ((isE_iff m n).1 e))] at hno ⊢
      split at hno
      · exact absurd rfl hno
      · rename_i h4
        rw [if_neg h4, if_pos (by simpa [List.all_eq_true, List.any_eq_true] using ha)]
end
end
end Go.Proofs.YthgglobfkkcdgaaGreatDoor
