/- walk's closure that calls itself. -/
import Derived.Test.YtimgomoafeaoiaaDoorR2
import Derived.Shelf.Abstract
import Derived.Shelf.RegionOpen
import Derived.WalkKit
import Derived.OwnWalkIn
import Derived.TacticsInMore
import Derived.LoopNIn
import Derived.LoopIn
import Derived.Maps.AppendAt
namespace Go.Proofs.YtimgomoafeaoiaaDoor
open Go.RowKit Go.Shelf
attribute [local go_sem] Oper.semAt_some
set_option maxRecDepth 100000

theorem infoInt : (Tryd.prog.info? 3).map (fun i => (i.zero, i.size, i.bytes)) = some (some (.int .i64 0), 1, 8) := by kernel_rfl

/-- 'append' in a fence; and the row lies where it lay, or in a new block. -/
theorem wpListIn_append_at {F : Fence} {n : Nat} {P : Program} (w : World) {ops : Array Oper} {rest : List Oper} {o : Oper} {a : Act} {Q : Exit → Act → World → Prop}
    (hg : o.guard = none) (s x : Operand) (t : TypeId) (hop : o.op = Op.call { callee := Callee.builtin Builtin.append, args := #[s, x], argTypes := #[t, t] })
    (base : Nat) (e : TypeId) (i : TypeInfo) (z : Value) (size bytes : Nat) (h1 : P.underlying t = some (.slice e)) (h2 : P.info? e = some i) (h3 : i.zero = some z) (h4 : i.size = size) (h5 : i.bytes = bytes) (h6 : z.cells.size = size) (h7 : 0 < size)
    (v : Value) (k : Nat) (xs : List Value) (hs : a.eval s = v) (hown : w.ownsRow base e size v k xs) (ad : Addr) (m c : Nat) (news : List Value) (hx : a.eval x = .slice (some ad) m c) (hn : news.length = m * size)
    (hc : ∀ j u, news[j]? = some u → w.cell? (ad.add j) = some u) (h1c : ∀ u ∈ news, u.oneCell' = true) (b1 : k + m ≤ maxLen) (b2 : (k + m) * bytes ≤ 140737488355328) (b3 : base ≤ w.heap.size)
    (hK : ∀ v' w', w'.ownsRow base e size v' (k + m) (xs ++ news) → w.grownBy w' v.ownBlock → (v'.ownBlock = v.ownBlock ∨ v'.ownBlock = some w.heap.size) → wpListIn F n P ops Q rest (a.put o.dst v') w') :
    wpListIn F n P ops Q (o :: rest) a w := by
  obtain ⟨v', w', hrun, r1, r2, _, r4⟩ := run_append_own_at (P := P) w base t o.type e i z size bytes h1 h2 h3 h4 h5 h6 h7 v k xs hown ad m c news hn hc h1c b1 b2 b3
  refine wpListIn_plain hg fun K hK' => ⟨?_, ?_⟩
  · simp [Oper.about, hop, resolve, Target.leads, Sem.run_pure]
  · rw [Oper.semAt_plain F _ _ (by rw [hop]; intro c hc'; cases hc')]
    simp [execOp, hop, resolve, invoke, builtin, hs, hx, hrun, Result.andThen]
    exact hK' _ _ (hK v' w' r1 r2 r4)

theorem room_of_none {F : Fence} (hd : F.depth = none) (k : Nat) : F.room k := fun d h => by rw [hd] at h; cases h

theorem row_pop {W : World} {base n g cap : Nat} {e : TypeId} {vs : List Value} {x : Value} (h : W.ownsRow base e 1 (.slice (some ⟨g, 0, none⟩) (n + 1) cap) (n + 1) (vs ++ [x])) : W.ownsRow base e 1 (.slice (some ⟨g, 0, none⟩) n cap) n vs := by
  have hl : vs.length = n := by have := h.1; simp at this; omega
  refine ⟨by simpa using hl, .inr ?_⟩
  rcases h.2 with ⟨h0, _⟩ | ⟨g', cap', cur, hv, hb, hg, h1, h2, h3, h4⟩
  · cases h0
  · injection hv with e1 e2 e3
    injection e1 with e1
    injection e1 with e1 _ _
    subst e1; subst e3
    refine ⟨g, cap, cur, rfl, hb, hg, by omega, h2, h3, ?_⟩
    have h5 := congrArg (List.take n) h4
    rw [List.take_take, Nat.min_eq_left (by omega)] at h5
    rw [Nat.mul_one, h5]
    exact List.take_left' hl
/-- One number more stands behind the place. -/
theorem ItSt.pushed {wr w1 : World} {C : World → Nat → Prop} {l b c k : Nat} {pos : List Int} {A : Option Addr} {v1 : Value} (h : ItSt wr C l b pos) (hrow : w1.ownsRow (b + 3) 3 1 v1 (pos.length + 1) (pos.map (Value.int .i64) ++ [.int .i64 (k : Int)]))
    (hK : Keeps (fun g => g < wr.heap.size ∧ some g ≠ (Value.slice A pos.length c).ownBlock) wr w1) (hro : ∀ g, (Value.slice A pos.length c).ownBlock = some g → b + 3 ≤ g) (hC : ∀ g, C (w1.setCell ⟨b + 1, 0, none⟩ v1) g → C wr g) (hbd : ∀ g, C wr g → g < wr.heap.size)
    (hp : w1.heap[b + 1]? = wr.heap[b + 1]?) (hv1 : ∀ g, v1.ownBlock = some g → some g = (Value.slice A pos.length c).ownBlock ∨ wr.heap.size ≤ g) (hnr : ∀ g, (Value.slice A pos.length c).ownBlock = some g → ¬ C wr g) :
    ItSt (w1.setCell ⟨b + 1, 0, none⟩ v1) C l b (pos ++ [(k : Int)]) := by
  have lt : ∀ {g : Nat} {o : Obj}, wr.heap[g]? = some o → g < wr.heap.size := fun e => (Array.getElem?_eq_some_iff.1 e).1
  obtain ⟨g, cap, rfl⟩ := ownsRow_succ hrow
  obtain ⟨A0, c0, q1, q2, q3⟩ := h.cp
  have hg := (row_lt hrow g rfl).1
  refine ⟨?_, ⟨some ⟨g, 0, none⟩, cap, ?_, ?_, ?_⟩, ?_, fun e => h.nc.1 (hC _ e), fun e => h.nc.2.1 (hC _ e), fun e => h.nc.2.2 (hC _ e)⟩
  · rw [heap_setCell_other _ _ _ _ (by show b ≠ b + 1; omega)]
    exact (hK.block b ⟨lt h.cy, fun e => by have := hro b e.symm; omega⟩).trans h.cy
  · have := heap_setCell_same w1 (b + 1) 0 _ _ (.slice (some ⟨g, 0, none⟩) (pos.length + 1) cap) (hp.trans q1)
    simpa using this
  · have := ownsRow_keep (w' := w1.setCell ⟨b + 1, 0, none⟩ (.slice (some ⟨g, 0, none⟩) (pos.length + 1) cap)) (g := g) hrow (fun g' e => by simp [Value.ownBlock] at e; exact e.symm) (heap_setCell_other _ _ _ _ (by show g ≠ b + 1; omega))
    simpa using this
  · intro g' e hc
    simp [Value.ownBlock] at e
    subst e
    have hc' := hC _ hc
    rcases hv1 g rfl with e | e
    · exact hnr g e.symm hc'
    · have := hbd _ hc'; omega
  · rw [heap_setCell_other _ _ _ _ (by show b + 2 ≠ b + 1; omega)]
    exact (hK.block (b + 2) ⟨lt h.cv, fun e => by have := hro _ e.symm; omega⟩).trans h.cv
/-- The last number of the place goes. -/
theorem ItSt.popped {wr : World} {C : World → Nat → Prop} {l b : Nat} {pos : List Int} {x : Int} (h : ItSt wr C l b (pos ++ [x])) : ∃ g cap, wr.heap[b + 1]? = some (.cells #[.slice (some ⟨g, 0, none⟩) (pos.length + 1) cap] 26) ∧ pos.length + 1 ≤ cap ∧
    ((∀ e, C (wr.setCell ⟨b + 1, 0, none⟩ (.slice (some ⟨g, 0, none⟩) pos.length cap)) e → C wr e) → ItSt (wr.setCell ⟨b + 1, 0, none⟩ (.slice (some ⟨g, 0, none⟩) pos.length cap)) C l b pos) := by
  obtain ⟨A, c, q1, q2, q3⟩ := h.cp
  simp only [List.length_append, List.length_cons, List.length_nil, Nat.zero_add, List.map_append, List.map_cons, List.map_nil] at q1 q2 q3
  obtain ⟨g, cap, hv⟩ := ownsRow_succ q2
  injection hv with e1 _ e3
  subst e1; subst e3
  have hg := (row_lt q2 g rfl).1
  have hcap : pos.length + 1 ≤ c := by
    rcases q2.2 with ⟨h0, _⟩ | ⟨g', cap', cur, hv, _, _, h1, _⟩
    · cases h0
    · injection hv with e1 e2 e3; subst e3; exact h1
  refine ⟨g, c, q1, hcap, fun hC => ⟨?_, ⟨some ⟨g, 0, none⟩, c, ?_, ?_, ?_⟩, ?_, fun e => h.nc.1 (hC _ e), fun e => h.nc.2.1 (hC _ e), fun e => h.nc.2.2 (hC _ e)⟩⟩
  · rw [heap_setCell_other _ _ _ _ (by show b ≠ b + 1; omega)]; exact h.cy
  · exact heap_setCell_same wr (b + 1) 0 _ _ _ q1
  · exact ownsRow_keep (g := g) (row_pop q2) (fun g' e => by simp [Value.ownBlock] at e; exact e.symm) (heap_setCell_other _ _ _ _ (by show g ≠ b + 1; omega))
  · intro g' e hc
    simp [Value.ownBlock] at e
    subst e
    exact q3 g rfl (hC _ hc)
  · rw [heap_setCell_other _ _ _ _ (by show b + 2 ≠ b + 1; omega)]; exact h.cv

/-- What a walk from this term on does. -/
def VisitAt (F : Fence) (l b D : Nat) (N : Nat → Prop) (C : World → Nat → Prop) (J Jx : List Vis → World → Prop) (V : List (List Int × Tm)) (t : Tm) : Prop :=
  ∀ (n : Nat) (pos : List Int) (pre : List Vis) (A : Option Addr) (c : Nat) (W : World), I64 t.fn → ArgsN W N A t.args → J pre W → ItSt W C l b pos → (∀ x ∈ pos, I64 x) → pos.length + t.depth ≤ D → (pre.map Vis.key ++ vis pos t <+: V) →
    CallsIn F n Tryd.prog 36 #[.agg #[.int .i64 t.fn, .slice A t.args.length c], .pointer (some ⟨b, 0, none⟩), .pointer (some ⟨b + 1, 0, none⟩), .pointer (some ⟨b + 2, 0, none⟩)] W fun e W' =>
      (e = .returned (.bool true) ∧ ∃ q : List Vis, q.map Vis.key = vis pos t ∧ J (pre ++ q) W' ∧ ItSt W' C l b pos ∧ Keeps N W W') ∨
      (e = .returned (.bool false) ∧ ∃ q : List Vis, (pre ++ q).map Vis.key <+: V ∧ Jx (pre ++ q) W')

theorem visit_in (F : Fence) (hd : F.depth = none) (h65 : F.fn 36) (hro : F.round = none) (l b D : Nat) (hD : D ≤ 1099511627776) (N : Nat → Prop) (C : World → Nat → Prop) (J Jx : List Vis → World → Prop) (V : List (List Int × Tm))
    (hJ : FrameC C J) (hB : BoundC C J) (hNb : ∀ g, N g → g < b)
    (hY : ∀ m pre x W1, J pre W1 → (pre ++ [x]).map Vis.key <+: V → VisFx x W1 → YieldAt F m Tryd.prog l (visEnc x) W1 fun e W' =>
      (e = .returned (.bool true) ∧ J (pre ++ [x]) W' ∧ Stp N C W1 W') ∨ (e = .returned (.bool false) ∧ Jx (pre ++ [x]) W')) (t : Tm) :
    VisitAt F l b D N C J Jx V t := by
  refine Tm.ind (P := VisitAt F l b D N C J Jx V) (fun f xs ih => ?_) t
  intro n pos pre A c W hf hA hJ0 hI hpi hdp hV
  have hdd : ∀ k : Nat, (F.depth.isSome = true → 1 ≤ k) := fun k h => by rw [hd] at h; cases h
  simp only [Tm.fn, Tm.args] at hf hA ⊢
  have hl64 := hA.len
  have hpl : pos.length ≤ 9223372036854775807 := by omega
  obtain ⟨i0, hi, hz0, hz1, hz2⟩ := info_parts infoInt
  -- the box of the term, and the first round
  obtain ⟨W1, hW1⟩ : ∃ W1, W.alloc (.cells #[.int .i64 f, .slice A xs.length c] 24) = W1 := ⟨_, rfl⟩
  have hK1 : Keeps (· < W.heap.size) W W1 := by rw [← hW1]; exact Keeps.alloc _ _
  have hbox : W1.heap[W.heap.size]? = some (.cells #[.int .i64 f, .slice A xs.length c] 24) := by rw [← hW1]; exact heap_alloc_new _ _
  obtain ⟨hJ1, hC1⟩ := hJ pre W W1 hJ0 (hK1.mono fun g e => hB pre W hJ0 g e)
  have hI1 : ItSt W1 C l b pos := hI.keep fun g h1 h2 => ⟨hK1.block g h1, fun e => h2 (hC1 g e)⟩
  have hbl : b + 2 < W.heap.size := (Array.getElem?_eq_some_iff.1 hI.cv).1
  have hA1 : ArgsN W1 N A xs := hA.keep fun g e => hK1.block g (by have := hNb g e; show g < W.heap.size; omega)
  obtain ⟨Ap, cp, hp1, hints⟩ := hI1.ints hpi hpl
  have hfx : VisFx ⟨pos, .node f xs, Ap, cp, A, c⟩ W1 := ⟨hints, hf, hA1.args fun g e => by have := hNb g e; have := hK1.size; omega⟩
  have hV1 : (pre ++ [(⟨pos, .node f xs, Ap, cp, A, c⟩ : Vis)]).map Vis.key <+: V := by
    refine List.IsPrefix.trans ?_ hV
    rw [List.map_append, vis_eq]
    exact (List.prefix_append_right_inj _).2 (by simp [Vis.key])
  obtain ⟨fn, tmps, assign, body, hy, hR⟩ := hY (n - 1) pre _ W1 hJ1 hV1 hfx
  simp only [visEnc, Tm.fn, Tm.args] at hy
  have hcy := Boxed.cell (show Boxed W1 b _ _ from hI1.cy)
  have hcp := Boxed.cell (show Boxed W1 (b + 1) _ _ from hp1)
  have Hy := Lib.hid hI1
  have HJ1 := Lib.hid hJ1
  have Hpv := Lib.hid hV1
  have hBW := hB pre W hJ0
  have Hvis := Lib.hid (vis_eq pos (.node f xs))
  clear hI hJ0 hints hfx hV1 hp1 hI1 hJ1
  subst hW1
  refine callsIn_of_wp Tryd.func36 rfl h65 ?_ hro
  simp only [Tryd.ntmps36, List.size_toArray, List.length_cons, List.length_nil, Nat.reduceAdd, Nat.reduceSub, Array.replicate_succ, Array.replicate_zero, List.push_toArray, List.append_toArray, List.nil_append, List.cons_append]
  gi_wp2
  refine hR.mono ?_
  rintro e W2 (⟨rfl, hJ2, hst2⟩ | ⟨rfl, hJx2⟩)
  · have hb2 : ¬ C (W.alloc (.cells #[.int .i64 f, .slice A xs.length c] 24)) W.heap.size := fun e => by have := hBW _ (hC1 _ e); omega
    have hx2 : W2.heap[W.heap.size]? = some (.cells #[.int .i64 f, .slice A xs.length c] 24) := (hst2.keeps.block _ (.inr ⟨by simp, hb2⟩)).trans hbox
    obtain ⟨_, x1, _, _⟩ := cells_two hx2
    have hI2 := Hy.out.stp hst2
    have hA2 : ArgsN W2 N A xs := hA1.keep fun g e => hst2.keeps.block g (.inl e)
    have hK2 : Keeps N W W2 := (hK1.mono fun g e => by have := hNb g e; show g < W.heap.size; omega).trans (hst2.keeps.mono fun g e => .inl e)
    obtain ⟨q0, hq0⟩ : ∃ q0 : Vis, q0 = ⟨pos, .node f xs, Ap, cp, A, c⟩ := ⟨_, rfl⟩
    rw [← hq0] at hJ2
    have hq0k : q0.key = (pos, .node f xs) := by rw [hq0]; rfl
    clear hR hy hst2 hq0
    gi_wp2
    gi_loopw [16] (fun i wr => ∃ (k : Nat) (q : List Vis), k ≤ xs.length ∧ i = .int .i64 (k : Int) ∧ q.map Vis.key = (pos, .node f xs) :: visL pos 0 (xs.take k) ∧ J (pre ++ q) wr ∧ ItSt wr C l b pos ∧ Keeps N W wr) (fun i _ => xs.length - (intOf i).toNat)
    case atStart => exact ⟨0, [q0], Nat.zero_le _, rfl, by simp [hq0k, visL], hJ2, hI2, hK2⟩
    case round =>
      obtain ⟨k, q, hk, rfl, hq, hJr, hIr, hKr⟩ := hrel
      by_cases hlt : k < xs.length
      · obtain ⟨u, hu⟩ : ∃ u, xs[k]? = some u := ⟨_, List.getElem?_eq_getElem hlt⟩
        have hAr : ArgsN wr N A xs := hA.keep fun g e => hKr.block g e
        obtain ⟨bb, off, A1, c1, rfl, ha⟩ := hAr.get hu
        have e0 := ha.c0
        have e1 := ha.c1
        have hbr : b + 2 < wr.heap.size := (Array.getElem?_eq_some_iff.1 hIr.cv).1
        obtain ⟨Ar, cr, hpr, hrow, hnr⟩ := hIr.cp
        have hBr := hB _ _ hJr
        -- the box of the argument; its number as a row of one
        have hKa : Keeps (· < wr.heap.size) wr (wr.alloc (.cells #[.int .i64 u.fn, .slice A1 u.args.length c1] 24)) := Keeps.alloc _ _
        have hKb : Keeps (· < wr.heap.size) wr ((wr.alloc (.cells #[.int .i64 u.fn, .slice A1 u.args.length c1] 24)).alloc (.cells #[.int .i64 (k : Int)] 3)) := hKa.trans ((Keeps.alloc _ _).mono fun g e => by show g < _; simp; have : g < wr.heap.size := e; omega)
        have hbx0 : ((wr.alloc (.cells #[.int .i64 u.fn, .slice A1 u.args.length c1] 24)).alloc (.cells #[.int .i64 (k : Int)] 3)).heap[wr.heap.size]? = some (.cells #[.int .i64 u.fn, .slice A1 u.args.length c1] 24) := (Below.heap_alloc _ _ _ (by simp)).trans (heap_alloc_new _ _)
        have hone := cell_one_new (wr.alloc (.cells #[.int .i64 u.fn, .slice A1 u.args.length c1] 24)) (.int .i64 (k : Int)) 3
        rw [World.size_alloc] at hone
        have hpD : pos.length + 1 ≤ 1099511627776 := by have := depth_pos u; have := depth_mem (List.mem_of_getElem? hu); simp only [Tm.depth] at hdp; omega
        have Hu := Lib.hid hu
        have Ha := Lib.hid ha
        have HI := Lib.hid hIr
        have HJ := Lib.hid hJr
        have hcpr := Boxed.cell (show Boxed (wr.alloc (.cells #[.int .i64 u.fn, .slice A1 u.args.length c1] 24)) (b + 1) _ _ from (hKa.block _ (by show b + 1 < wr.heap.size; omega)).trans hpr)
        have hcvr := Boxed.cell (show Boxed wr (b + 2) _ _ from hIr.cv)
        have hfp := Boxed.frozen (show Boxed wr (b + 1) _ _ from hpr)
        clear hu ha hIr hJr hAr
        gi_wp2_with (first
          | (gi_at_builtin
             go_must (
             refine wpListIn_append_at _ rfl _ _ 26 rfl (b + 3) 3 i0 (.int .i64 0) 1 8 Tryd.underlying26 hi hz0 hz1 hz2 rfl (by decide) _ _ _ rfl ((hrow.alloc _).alloc _) ⟨wr.heap.size + 1, 0, none⟩ 1 1 [.int .i64 (k : Int)] rfl rfl hone (by simp [Value.oneCell']) (by unfold maxLen; omega) (by omega) (by simp; omega) ?_
             intro v1 w1 hown1 hgr1 hat1
             obtain ⟨g1, cap1, rfl⟩ := ownsRow_succ hown1
             have hK1' : Keeps (fun g => g < wr.heap.size ∧ some g ≠ (Value.slice Ar pos.length cr).ownBlock) wr w1 := (hKb.mono fun g e => e.1).trans ((Keeps.of_grown hgr1).mono fun g e => ⟨by have h7 := e.1; simp; omega, e.2⟩)
             have hbx1 : w1.heap[wr.heap.size]? = some (.cells #[.int .i64 u.fn, .slice A1 u.args.length c1] 24) := (hgr1.block _ (by simp; omega) (fun e => by have := (row_lt hrow _ e.symm).2; omega)).trans hbx0
             have hpb1 : w1.heap[b + 1]? = wr.heap[b + 1]? := hK1'.block _ ⟨by omega, fun e => by have := (row_lt hrow _ e.symm).1; omega⟩
             have hpv1 : w1.heap[b + 2]? = wr.heap[b + 2]? := hK1'.block _ ⟨by omega, fun e => by have := (row_lt hrow _ e.symm).1; omega⟩
             have hd1 := hJ _ wr (w1.setCell ⟨b + 1, 0, none⟩ (.slice (some ⟨g1, 0, none⟩) (pos.length + 1) cap1)) HJ.out ⟨hK1'.os, hK1'.tape, hK1'.output, by simpa using hK1'.size, fun g e => (heap_setCell_other _ _ _ _ (fun e' => HI.out.nc.2.1 (by have e'' : g = b + 1 := e'; rw [← e'']; exact e))).trans (hK1'.block g ⟨hBr g e, fun e' => hnr g e'.symm e⟩)⟩
             have hI5 := HI.out.pushed hown1 hK1' (fun g e => (row_lt hrow g e).1) hd1.2 hBr hpb1 (fun g e => hat1.elim (fun h9 => .inl (e.symm.trans h9)) (fun h9 => .inr (by rw [e] at h9; injection h9 with h9; rw [h9]; simp; omega))) hnr
             have hcv5 := Boxed.cell (show Boxed w1 (b + 2) _ _ from hpv1.trans HI.out.cv)
             obtain ⟨hb50, hb51, _, _⟩ := cells_two hbx1
             have hfr5 := Boxed.frozen (show Boxed w1 (b + 1) _ _ from hpb1.trans hpr)
             have hcc5 := Boxed.cell (show Boxed w1 (b + 1) _ _ from hpb1.trans hpr)
             have hI5 := Lib.hid hI5
             have hd1 := Lib.hid hd1
             clear hgr1 hbx1))
          | fail)
        have hKN : Keeps N wr (w1.setCell ⟨b + 1, 0, none⟩ (.slice (some ⟨g1, 0, none⟩) (pos.length + 1) cap1)) := (hK1'.mono fun g e => ⟨by have := hNb g e; omega, fun e' => by have := hNb g e; have := (row_lt hrow _ e'.symm).1; omega⟩).trans ((Keeps.set _ _ _).mono fun g e => by have := hNb g e; show g ≠ b + 1; omega)
        have hmem := List.mem_of_getElem? Hu.out
        have hk64 : I64 (k : Int) := ⟨by omega, by omega⟩
        have hVk := visL_take (p := pos) Hu.out
        have hdu := depth_mem hmem
        refine (ih u hmem (n - 1) (pos ++ [(k : Int)]) (pre ++ q) A1 c1 _ Ha.out.hi (Ha.out.sub.keep fun g e => hKN.block g e) hd1.out.1 hI5.out ?_ ?_ ?_).mono ?_
        · intro x hx
          rcases List.mem_append.1 hx with hx | hx
          · exact hpi x hx
          · simp only [List.mem_cons, List.not_mem_nil, or_false] at hx
            subst hx; exact hk64
        · simp only [Tm.depth] at hdp
          simp only [List.length_append, List.length_cons, List.length_nil]
          omega
        · refine List.IsPrefix.trans ?_ hV
          rw [List.map_append, hq, List.append_assoc, List.cons_append, ← hVk, Hvis.out]
          exact (List.prefix_append_right_inj _).2 ((List.prefix_cons_inj _).2 (visL_pre pos xs (k + 1)))
        · rintro e w6 (⟨rfl, q', hq', hJ6, hI6, hK6⟩ | ⟨rfl, q', hq', hJx6⟩)
          · obtain ⟨g6, c6, p6, hcap6, hpop⟩ := hI6.popped
            have hcap6' : ((pos.length : Nat) : Int) ≤ (c6 : Int) := by omega
            have hcp6 := Boxed.cell (show Boxed w6 (b + 1) _ _ from p6)
            have hfr6 := Boxed.frozen (show Boxed w6 (b + 1) _ _ from p6)
            have hd6 := hJ _ w6 (w6.setCell ⟨b + 1, 0, none⟩ (.slice (some ⟨g6, 0, none⟩) pos.length c6)) hJ6 ((Keeps.set _ _ _).mono fun g e e' => hI6.nc.2.1 (by have e'' : g = b + 1 := e'; rw [← e'']; exact e))
            have hI7 := Lib.hid (hpop hd6.2)
            have hJ7 := Lib.hid hd6.1
            have hK7 := Lib.hid (((hKr.trans hKN).trans hK6).trans ((Keeps.set w6 ⟨b + 1, 0, none⟩ (.slice (some ⟨g6, 0, none⟩) pos.length c6)).mono (T := N) fun g e => by have := hNb g e; show g ≠ b + 1; omega))
            have hqq := Lib.hid (show (q ++ q').map Vis.key = (pos, .node f xs) :: visL pos 0 (xs.take (k + 1)) by rw [List.map_append, hq, hq', hVk]; rfl)
            clear hK1' hKN hd6 hI6 hJ6 hK6 hpop hKr hq hq' hVk hdu
            gi_wp2
            go_roundw
            case rel => exact ⟨k + 1, q ++ q', by omega, by go_num, hqq.out, by rw [← List.append_assoc]; exact hJ7.out, hI7.out, hK7.out⟩
            case measure => simp [intOf]; omega
          · gi_wp2
            go_ret
            exact .inr ⟨rfl, q ++ q', by rw [← List.append_assoc]; exact hq', by rw [← List.append_assoc]; exact hJx6⟩
      · obtain rfl : k = xs.length := by omega
        gi_wp2
        go_ret
        exact .inl ⟨rfl, q, by rw [hq, Hvis.out, List.take_length]; rfl, hJr, hIr, hKr⟩
  · gi_wp2
    go_ret
    exact .inr ⟨rfl, _, Hpv.out, hJx2⟩
end Go.Proofs.YtimgomoafeaoiaaDoor
