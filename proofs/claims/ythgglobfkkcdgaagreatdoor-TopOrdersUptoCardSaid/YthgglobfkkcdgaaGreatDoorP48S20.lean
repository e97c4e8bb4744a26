import Derived.Test.YthgglobfkkcdgaaGreatDoorP48S5
import Derived.Test.YthgglobfkkcdgaaGreatDoorP48S2
import Derived.Deep.RegionLaw
import Derived.Test.YthgglobfkkcdgaaGreatDoorP48S13
import Derived.Test.YthgglobfkkcdgaaGreatDoorP48S16
import Derived.Test.YthgglobfkkcdgaaGreatDoorP48S19
import Derived.Test.YthgglobfkkcdgaaGreatDoorP48S15
import Derived.WideMake
import Derived.Test.YthgglobfkkcdgaaGreatDoorP48S18
import Derived.Test.YthgglobfkkcdgaaGreatDoorP48S1
import Derived.WalkMore
import Derived.RangeFuncBox
import Derived.Laws.EntriesVeiled
import Derived.Test.YthgglobfkkcdgaaGreatDoorP48S11
import Derived.Deep.OwnRows
namespace Go.Proofs.YthgglobfkkcdgaaGreatDoor
open Go.RowKit Go.Shelf Go.Maps
set_option maxRecDepth 100000
end Go.Proofs.YthgglobfkkcdgaaGreatDoor
namespace Go.Proofs.YthgglobfkkcdgaaGreatDoor
open Go.RowKit Go.Shelf Go.Maps
set_option maxRecDepth 20000
def cmpP (p : List Int) (s t : Tm) : Int := if layK p.length s && layK p.length t then (if cmpT s t = 0 then 2 else if lpT p s t then 3 else if lpT p t s then 1 else 0) else 0
mutual
theorem layK_vn {R : Nat} : ∀ t : Tm, layK R t = true → vnT t = true
  | .node f xs, h => by
    rw [layK, Bool.and_eq_true, Bool.not_eq_true', Bool.or_eq_false_iff, Bool.and_eq_false_iff, decide_eq_false_iff_not, decide_eq_false_iff_not, decide_eq_false_iff_not] at h
    rw [vnT, Bool.and_eq_true]
    refine ⟨?_, layKL_vn xs h.2⟩
    rcases h.1.2 with h1 | h1
    · rw [decide_eq_false h1]; rfl
    · rw [decide_eq_true (show xs.length = 0 by omega), Bool.or_true]
theorem layKL_vn {R : Nat} : ∀ xs : List Tm, layKL R xs = true → vnTL xs = true
  | [], _ => by rw [vnTL]
  | x :: xs, h => by
    rw [layKL, Bool.and_eq_true] at h
    rw [vnTL, Bool.and_eq_true]
    exact ⟨layK_vn x h.1, layKL_vn xs h.2⟩
end
theorem chkO_admL {l : List Sm} {o : Odr} (h : chkO l o = 0) : AdmL o.prec (arL l) := by
  unfold chkO at h
  by_cases hc : ¬ (checkI l = 0 ∧ rankB o.prec l.length = true ∧ (o.lpo = true ∨ (o.wts.length = l.length ∧ 1 ≤ o.var ∧ o.var ≤ 1000 ∧ o.wts.getD 0 0 = o.var ∧ chkW l o = true)))
  · rw [if_neg hc] at h; cases h
  replace hc := Decidable.not_not.1 hc
  obtain ⟨_, hr, _⟩ := hc
  unfold rankB at hr
  rw [Bool.and_eq_true, decide_eq_true_eq, List.all_eq_true] at hr
  have hbad : ∀ i, i < l.length → badR o.prec i = false := fun i hi => by simpa using hr.2 i (List.mem_range.2 hi)
  have hne : ∀ i k, i < l.length → k < i → ¬ o.prec.getD i 0 = o.prec.getD k 0 := fun i k hi hk e => by
    have := hbad i hi
    rw [badR_same hk e] at this; cases this
  have hlen := arL_len l
  refine ⟨by rw [hr.1, hlen], fun i k hi hk e => ?_⟩
  rw [hlen] at hi hk
  rcases Nat.lt_trichotomy i k with h | h | h
  · exact absurd e.symm (hne k i hk h)
  · exact h
  · exact absurd e (hne i k hi h)
section
variable {p : List Int} {ar : List Nat} {s t u : Tm}
theorem wf_lay (K : AdmL p ar) : ∀ t : Tm, wfT ar t = true → layK p.length t = true := by
  refine Tm.ind fun f xs ih h => ?_
  rw [layK, Bool.and_eq_true]
  refine ⟨?_, (layKL_take xs).2 fun x hx => ih x hx (wfL_mem (wf_args h) hx)⟩
  have hnp := K.np
  by_cases hf : f < 0
  · have hx : xs.length = 0 := by rw [wf_var h hf]; rfl
    rw [decide_eq_false (show ¬ (p.length : Int) ≤ f by omega), decide_eq_false (show ¬ 0 < xs.length by omega)]; simp
  · obtain ⟨h1, _⟩ := wf_sym h hf
    rw [decide_eq_false (show ¬ (p.length : Int) ≤ f by omega), decide_eq_false hf]; rfl
theorem cmpP_gd (K : AdmL p ar) (hs : Gd ar s) (ht : Gd ar t) : cmpP p s t = if cmpT s t = 0 then 2 else if lpT p s t then 3 else if lpT p t s then 1 else 0 := by
  unfold cmpP; rw [wf_lay K s hs.wf, wf_lay K t ht.wf]; rfl
theorem cmpP_two (K : AdmL p ar) (hs : Gd ar s) (ht : Gd ar t) : cmpP p s t = 2 ↔ cmpT s t = 0 := by
  rw [cmpP_gd K hs ht]
  by_cases h : cmpT s t = 0
  · simp [h]
  · simp only [h, if_false]
    constructor
    · intro e; split at e <;> (try split at e) <;> cases e
    · intro e; exact e.elim
theorem cmpP_three (K : AdmL p ar) (hs : Gd ar s) (ht : Gd ar t) : cmpP p s t = 3 ↔ lpT p s t = true := by
  rw [cmpP_gd K hs ht]
  by_cases h : cmpT s t = 0
  · have : s = t := cmp_zero_iff.1 h
    subst this
    simp only [h, if_true]
    constructor
    · intro e; cases e
    · intro e; rw [lp_irr s (wf_vn s hs.wf)] at e; cases e
  · simp only [h, if_false]
    cases h1 : lpT p s t
    · simp only [Bool.false_eq_true, if_false, iff_false]
      split <;> decide
    · simp
theorem cmpP_turn (K : AdmL p ar) (hs : Gd ar s) (ht : Gd ar t) : cmpP p t s = turnI (cmpP p s t) := by
  rw [cmpP_gd K hs ht, cmpP_gd K ht hs]
  by_cases h : cmpT s t = 0
  · have : s = t := cmp_zero_iff.1 h
    subst this
    simp [h, turnI]
  · have h' : ¬ cmpT t s = 0 := fun e => by
      rw [cmp_zero_iff] at e; subst e; exact h (cmp_zero_iff.2 rfl)
    rw [if_neg h, if_neg h']
    cases h1 : lpT p s t
    · cases h2 : lpT p t s <;> simp [turnI]
    · rw [lp_asym (wf_vn s hs.wf) (wf_vn t ht.wf) h1]; simp [turnI]
theorem cmpP_trans (K : AdmL p ar) (hs : Gd ar s) (ht : Gd ar t) (hu : Gd ar u) (h1 : cmpP p s t = 3) (h2 : cmpP p t u = 3) : cmpP p s u = 3 :=
  (cmpP_three K hs hu).2 (lp_trans (wf_vn s hs.wf) (wf_vn t ht.wf) (wf_vn u hu.wf) ((cmpP_three K hs ht).1 h1) ((cmpP_three K ht hu).1 h2))
end
end Go.Proofs.YthgglobfkkcdgaaGreatDoor
namespace Go.Proofs.YthgglobfkkcdgaaGreatDoor
open Go.RowKit Go.Shelf Go.Maps
set_option maxRecDepth 100000
theorem lpLay_all {B0 bp bm : Nat} {P : Option Addr} {rk : List Int} {pc : Nat} {mf : Value} (t : Tm) : LpLayAt B0 bp bm P rk pc mf t := by
  refine Tm.ind (P := LpLayAt B0 bp bm P rk pc mf) (fun f xs ih => ?_) t
  by_cases hx : (rk.length : Int) ≤ f ∨ f < 0 ∧ 0 < xs.length
  · intro w v H L A c h _ _ _ _
    exact lay_no h f xs A c hx
  · exact lpLay_yes f xs ih hx
theorem okT_laid {R : Nat} {L M : List (Int × Int)} {t : Tm} (hk : layK R t = true) (hv : vnT t = true) (hL : L.Nodup) (hp : (nmT R L t).2 <+: M) : OkT R M t :=
  ⟨hv, layK_rk t hk, _, ((nm_spec t L hL (layK_rk t hk)).2.2).mono hp⟩
structure Two (w w' : World) (p : List Int) (s t : Tm) (bp : Nat) (P : Option Addr) (pc : Nat) (n bf : Nat) (A : Option Addr) (H : List Hd) (hc : Nat) (ml : Value) (M : List (Int × Int)) : Prop where
  nb : w.heap.size ≤ bf
  nd : M.Nodup
  os : OkT p.length M s
  ot : OkT p.length M t
  a1 : AtT p.length M H 0 s
  a2 : AtT p.length M H s.size t
  len : H.length = s.size + t.size
  fd : FdW w' n bp bf P p pc A H hc ml (fdF p p.length M)
def LayTwo (w : World) (p : List Int) (s t : Tm) (e : Ending) (w' : World) : Prop :=
  Below w.heap.size w w' ∧ (layK p.length s = true ∧ layK p.length t = true → ∃ bp P pc n bf A H hc ml M, e = .returned (.tuple #[.agg #[.pointer (some ⟨bp, 0, none⟩), .int .i64 0], .agg #[.pointer (some ⟨bp, 0, none⟩), .int .i64 (s.size : Int)], .bool true]) ∧ Two w w' p s t bp P pc n bf A H hc ml M) ∧
    (¬ (layK p.length s = true ∧ layK p.length t = true) → e = .returned (.tuple #[.agg #[.pointer none, .int .i64 0], .agg #[.pointer none, .int .i64 0], .bool false]))
theorem prL_made {X : World} {B0 bp bm bf : Nat} {P : Option Addr} {rk : List Int} {pc : Nat} (hbox : X.heap[bp]? = some (.cells #[.slice P rk.length pc, .slice none 0 0, .map (some bm), .map (some bf)] 128)) (hr : Ints X B0 P rk) (hm : LMap X bm rk.length []) (hne : bm ≠ bp) (h1 : B0 ≤ bp) (h2 : B0 ≤ bm) :
    PrL X B0 bp bm P rk pc (.map (some bf)) (.slice none 0 0) [] [] :=
  ⟨hbox, hr, RowH.nil_ X B0, hm, hne, (fun e => by cases e), (fun e => by cases e), h1, h2⟩
theorem two_of_laid {w X w1 w2 : World} {B0 bp bm bf : Nat} {P : Option Addr} {rk : List Int} {pc : Nat} {s t : Tm} {v1 v2 : Value} {H1 H2 : List Hd} {L1 L2 : List (Int × Int)} {F : Int × Int → Int}
    (hf : w.heap.size ≤ bf) (hB0 : B0 ≤ w.heap.size) (hfX : bf < X.heap.size) (hfp : bf ≠ bp) (hmp : FMap w2 bf [] F) (hz1 : X.heap.size ≤ w1.heap.size) (hz2 : X.heap.size ≤ w2.heap.size) (hF : F = fdF rk rk.length L2)
    (hks : layK rk.length s = true) (hkt : layK rk.length t = true) (hvs : vnT s = true) (hvt : vnT t = true) (hsz : s.size + t.size ≤ 1099511627776)
    (n1 : NewV X (.slice none 0 0) v1) (e1 : H1 = hdT rk.length [] s) (l1 : L1 = (nmT rk.length [] s).2)
    (p2 : PrL w2 B0 bp bm P rk pc (.map (some bf)) v2 H2 L2) (n2 : NewV w1 v1 v2) (e2 : H2 = H1 ++ hdT rk.length L1 t) (l2 : L2 = (nmT rk.length L1 t).2) :
    ∃ A hc, Two w w2 rk s t bp P pc w2.heap.size bf A H2 hc (.map (some bm)) L2 := by
  have hs1 := nm_spec s [] (List.nodup_nil) (layK_rk s hks)
  rw [← l1] at hs1
  have hs2 := nm_spec t L1 hs1.1 (layK_rk t hkt)
  rw [← l2] at hs2
  have hH1 : H1 = hsT rk.length L2 s := by rw [e1]; exact hd_hs hs2.1 s [] List.nodup_nil (layK_rk s hks) (by rw [← l1]; exact hs2.2.1)
  have hH2 : H2 = hsT rk.length L2 s ++ hsT rk.length L2 t := by rw [e2, hH1, hd_hs hs2.1 t L1 hs1.1 (layK_rk t hkt) (by rw [← l2]; exact List.prefix_rfl)]
  have hlen : H2.length = s.size + t.size := by rw [hH2, List.length_append, hsT_len, hsT_len]
  obtain ⟨A, c, hv, hP⟩ := p2.pair (by omega)
  have hv1f : v1.ownBlock ≠ some bf := fun e => by
    rcases n1 bf e with a | a
    · cases a
    · omega
  have hv2f : v2.ownBlock ≠ some bf := fun e => by
    rcases n2 bf e with a | a
    · exact hv1f a
    · omega
  have hlt := p2.lt
  refine ⟨A, c, hf, hs2.1, okT_laid hks hvs List.nodup_nil (by rw [← l1]; exact hs2.2.1), okT_laid hkt hvt hs1.1 (by rw [← l2]; exact List.prefix_rfl), by rw [hH2]; exact AtT.two.1, by rw [hH2]; exact AtT.two.2, hlen, ⟨hP, Nat.le_refl _, fun hn b off e => ?_, fun b off e => ?_, hlt.1, by omega, hfp, ⟨[], List.nodup_nil, (fun x hx => by simp at hx), ?_⟩, ?_⟩⟩
  · obtain ⟨b', off', e', hb', _⟩ := p2.rks.ad hn
    rw [e] at e'
    injection e' with e'
    injection e' with e' _
    subst e'
    exact ⟨by have := p2.lp; omega, by omega⟩
  · have ho : v2.ownBlock = some b := by rw [hv, e]; rfl
    exact ⟨(p2.own ho).2, fun e' => hv2f (e' ▸ ho)⟩
  · rw [← hF]
    exact hmp
  · rcases p2.row.row.2 with ⟨_, h0⟩ | ⟨g, cap, cur, hvv, _, _, hcap, _⟩
    · omega
    · rw [hv] at hvv
      injection hvv with _ _ h3
      subst h3
      exact hcap
end Go.Proofs.YthgglobfkkcdgaaGreatDoor
namespace Go.Proofs.YthgglobfkkcdgaaGreatDoor
open Go.RowKit Go.Shelf Go.Maps
set_option maxRecDepth 100000
theorem cells2p {W : World} {b : Nat} {x y x' y' : Value} {t : TypeId} (h : W.heap[b]? = some (.cells #[x, y] t)) : ((W.setCell ⟨b, 0, none⟩ x').setCell ⟨b, 1, none⟩ y').heap[b]? = some (.cells #[x', y'] t) :=
  heap_setCell_same _ _ 1 _ _ _ (heap_setCell_same W _ 0 _ _ _ h)
theorem two_res {w1 : World} {b6 b7 : Nat} {a b a' b' : Value} {ty ty' : TypeId} (hne : b6 ≠ b7) (h6 : w1.heap[b6]? = some (.cells #[a, b] ty)) (h7 : w1.heap[b7]? = some (.cells #[a', b'] ty')) (x y x' y' : Value) :
    ((((w1.setCell ⟨b6, 0, none⟩ x).setCell ⟨b6, 1, none⟩ y).setCell ⟨b7, 0, none⟩ x').setCell ⟨b7, 1, none⟩ y').cell? ⟨b6, 0, none⟩ = some x ∧ ((((w1.setCell ⟨b6, 0, none⟩ x).setCell ⟨b6, 1, none⟩ y).setCell ⟨b7, 0, none⟩ x').setCell ⟨b7, 1, none⟩ y').cell? ⟨b6, 1, none⟩ = some y ∧
    ((((w1.setCell ⟨b6, 0, none⟩ x).setCell ⟨b6, 1, none⟩ y).setCell ⟨b7, 0, none⟩ x').setCell ⟨b7, 1, none⟩ y').cell? ⟨b7, 0, none⟩ = some x' ∧ ((((w1.setCell ⟨b6, 0, none⟩ x).setCell ⟨b6, 1, none⟩ y).setCell ⟨b7, 0, none⟩ x').setCell ⟨b7, 1, none⟩ y').cell? ⟨b7, 1, none⟩ = some y' := by
  have e6 := cells2p (x' := x) (y' := y) h6
  have o : ∀ W : World, ((W.setCell ⟨b7, 0, none⟩ x').setCell ⟨b7, 1, none⟩ y').heap[b6]? = W.heap[b6]? := fun W => (heap_setCell_other _ _ _ _ hne).trans (heap_setCell_other _ _ _ _ hne)
  have e7 : ((w1.setCell ⟨b6, 0, none⟩ x).setCell ⟨b6, 1, none⟩ y).heap[b7]? = some (.cells #[a', b'] ty') := ((heap_setCell_other _ _ _ _ (Ne.symm hne)).trans (heap_setCell_other _ _ _ _ (Ne.symm hne))).trans h7
  obtain ⟨c0, c1, _, _⟩ := cells_two ((o _).trans e6)
  obtain ⟨d0, d1, _, _⟩ := cells_two (cells2p (x' := x') (y' := y') e7)
  exact ⟨c0, c1, d0, d1⟩
set_option maxHeartbeats 4000000 in
theorem lpoLay_any (o : Odr) (s t : Tm) (P Q A A2 : Option Addr) (pc qc c c2 : Nat) (w : World) (hM : OdrM w w.heap.size o P Q) (hrk : o.prec.length ≤ 140737488351232) (hf : I64 s.fn) (hg : I64 t.fn) (hn : s.size + t.size ≤ 1099511627776) (hA : ArgsN w (· < w.heap.size) A s.args) (hA2 : ArgsN w (· < w.heap.size) A2 t.args) :
    Calls Tryz.prog 40 #[.agg #[.bool o.lpo, .slice P o.prec.length pc, .slice Q o.wts.length qc, .int .i64 o.var], .agg #[.int .i64 s.fn, .slice A s.args.length c], .agg #[.int .i64 t.fn, .slice A2 t.args.length c2]] w (LayTwo w o.prec s t) := by
  have hmm1 : ∀ w : World, (Instr.makeMap 124 none).run Tryz.prog w = .ok (.map (some w.heap.size)) (w.alloc (.map #[] 0)) := fun _ => run_makeMap_plain (w := _) _
  have hmm2 : ∀ w : World, (Instr.makeMap 125 none).run Tryz.prog w = .ok (.map (some w.heap.size)) (w.alloc (.map #[] 0)) := fun _ => run_makeMap_plain (w := _) _
  obtain ⟨q0, q1, q2, q3, q4⟩ := heap5 w (.cells #[.bool o.lpo, .slice P o.prec.length pc, .slice Q o.wts.length qc, .int .i64 o.var] 38) (.cells #[.int .i64 s.fn, .slice A s.args.length c] 32) (.cells #[.int .i64 t.fn, .slice A2 t.args.length c2] 32) (.cells #[.pointer none, .int .i64 0] 91) (.cells #[.pointer none, .int .i64 0] 91)
  obtain ⟨W, hW⟩ : ∃ W, (((((w.alloc (.cells #[.bool o.lpo, .slice P o.prec.length pc, .slice Q o.wts.length qc, .int .i64 o.var] 38)).alloc (.cells #[.int .i64 s.fn, .slice A s.args.length c] 32)).alloc (.cells #[.int .i64 t.fn, .slice A2 t.args.length c2] 32)).alloc (.cells #[.pointer none, .int .i64 0] 91)).alloc (.cells #[.pointer none, .int .i64 0] 91)) = W := ⟨_, rfl⟩
  have hB : Below w.heap.size w W := by rw [← hW]; exact below5 _ _ _ _ _ _
  rw [hW] at q0 q1 q2 q3 q4
  have hWz : W.heap.size = w.heap.size + 5 := by rw [← hW]; simp
  obtain ⟨x0, x1, x2, x3⟩ := cells_four q0
  obtain ⟨m0, m1, m2⟩ := heap3 W (.map #[] 0) (.map #[] 0) (.cells #[.slice P o.prec.length pc, .slice none 0 0, .map (some W.heap.size), .map (some (W.heap.size + 1))] 128)
  obtain ⟨X, hX⟩ : ∃ X, (((W.alloc (.map #[] 0)).alloc (.map #[] 0)).alloc (.cells #[.slice P o.prec.length pc, .slice none 0 0, .map (some W.heap.size), .map (some (W.heap.size + 1))] 128)) = X := ⟨_, rfl⟩
  have hBX : Below W.heap.size W X := by rw [← hX]; exact (((Below.refl _ _).alloc (Nat.le_refl _) _).alloc (by simp) _).alloc (by simp; omega) _
  rw [hX] at m0 m1 m2
  have hXz : X.heap.size = W.heap.size + 3 := by rw [← hX]; simp
  have hBwX : Below w.heap.size w X := hB.trans (hBX.mono hB.size)
  have hLM : LMap X W.heap.size o.prec.length [] := (LMap.made W o.prec.length).kept (by rw [m0, heap_alloc_new])
  have hFM : ∀ F, FMap X (W.heap.size + 1) [] F := fun F => by
    have h1 := FMap.made (W.alloc (.map #[] 0)) F
    have hz : (W.alloc (.map #[] 0)).heap.size = W.heap.size + 1 := by simp
    rw [hz] at h1
    exact h1.kept (by rw [m1, ← hz, heap_alloc_new])
  have hP := prL_made (bm := W.heap.size) (bp := W.heap.size + 1 + 1) (bf := W.heap.size + 1) (B0 := w.heap.size) m2 (hM.p.blw hBwX) hLM (by omega) (by omega) (by omega)
  have hAX := hA.keep fun g hg => hBwX.block g hg
  have hAX2 := hA2.keep fun g hg => hBwX.block g hg
  have h1 := lpLay_all (B0 := w.heap.size) (bp := W.heap.size + 1 + 1) (bm := W.heap.size) (P := P) (rk := o.prec) (pc := pc) (mf := .map (some (W.heap.size + 1))) s X _ [] [] A c hP (by simp; omega) (by simp; omega) hf hAX
  have y0 := (hBX.block (w.heap.size + 1) (by omega)).trans q1
  obtain ⟨s0, s1, _, _⟩ := cells_two y0
  have HW := Lib.hid hW
  have HX := Lib.hid hX
  have HB := Lib.hid hB
  have HBX := Lib.hid hBX
  have Q2 := Lib.hid ((hBX.block (w.heap.size + 1 + 1) (by omega)).trans q2)
  have Q3 := Lib.hid ((hBX.block (w.heap.size + 1 + 1 + 1) (by omega)).trans q3)
  have Q4 := Lib.hid ((hBX.block (w.heap.size + 1 + 1 + 1 + 1) (by omega)).trans q4)
  have HBw := Lib.hid hBwX
  have HFM := Lib.hid hFM
  have HA2 := Lib.hid hAX2
  have HM := Lib.hid hM
  have HWz := Lib.hid hWz
  have HXz := Lib.hid hXz
  unfold LayPost at h1
  have HK : ∀ (v : Value) (w1 : World), (∀ g, v.ownBlock = some g → X.heap.size ≤ g) → KeepsC (CsP (W.heap.size + 1 + 1) W.heap.size v) X w1 → ∀ g, g < W.heap.size → w1.heap[g]? = X.heap[g]? := fun v w1 hv hk g hg => hk.block (by omega) (by rintro (e | e | e); omega; omega; have := hv g e; omega)
  have HKh := Lib.hid HK
  clear hW hX hB hBX q0 q1 q2 q3 q4 m0 m1 m2 hM hA hA2 hP hAX hAX2 hLM hFM y0 HK hBwX hWz hXz
  go_enter Tryz.func40, Tryz.ntmps40
  go_upto_region 1 with fail
  rw [HW.out]
  go_upto_region 2 with fail
  rw [HX.out]
  have hb0 : ∀ (w1 : World), KeepsC (CsP (W.heap.size + 1 + 1) W.heap.size (.slice none 0 0)) X w1 → Below w.heap.size w w1 := fun w1 hk => HBw.out.trans (hk.below HBw.out.size fun g hg => by have := HWz.out; rintro (e | e | e); omega; omega; cases e)
  have Hb0 := Lib.hid hb0
  clear hb0
  have hne : ¬ w.heap.size + 1 + 1 + 1 = w.heap.size + 1 + 1 + 1 + 1 := by omega
  cases hks : layK o.prec.length s with
  | false =>
    rw [hks] at h1
    have H1 := Lib.hid h1
    have Hks := Lib.hid hks
    clear h1 hks
    go_wp2_with (first
      | (go_at_call 72; (with_reducible refine H1.out.mono ?_); go_must (rintro e w1 ⟨rfl, v1, H1, L1, p1, k1, n1, _⟩; have r3 := (HKh.out _ w1 (fun g e => by cases e) k1 _ (by have := HWz.out; omega)).trans Q3.out; have r4 := (HKh.out _ w1 (fun g e => by cases e) k1 _ (by have := HWz.out; omega)).trans Q4.out; obtain ⟨u0, u1, u2, u3⟩ := cells_two r3; obtain ⟨v0, v1, v2, v3⟩ := cells_two r4; have HR := Lib.hid (two_res hne r3 r4 (.pointer none) (.int .i64 0) (.pointer none) (.int .i64 0)); have Hbw := Lib.hid (Hb0.out w1 k1); clear p1 k1 n1 r3 r4))
      | fail)
    obtain ⟨e0, e1, e2, e3⟩ := HR.out
    refine bodyPost_ret (v := .tuple #[.agg #[.pointer none, .int .i64 0], .agg #[.pointer none, .int .i64 0], .bool false]) (by simp [results, Tryz.results40, go_sem, e0, e1, e2, e3]) rfl ⟨?_, fun h => ?_, fun _ => rfl⟩
    · exact (((Hbw.out.setCell (show w.heap.size ≤ w.heap.size + 1 + 1 + 1 by omega) _).setCell (show w.heap.size ≤ w.heap.size + 1 + 1 + 1 by omega) _).setCell (show w.heap.size ≤ w.heap.size + 1 + 1 + 1 + 1 by omega) _).setCell (show w.heap.size ≤ w.heap.size + 1 + 1 + 1 + 1 by omega) _
    · rw [Hks.out] at h; cases h.1
  | true =>
    rw [hks] at h1
    have H1 := Lib.hid h1
    have Hks := Lib.hid hks
    clear h1 hks
    go_upto_region 5 with (first
      | (go_at_call 72; (with_reducible refine H1.out.mono ?_); go_must (
        rintro e w1 ⟨rfl, v1, Hd1, L1, p1, k1, n1, e1x⟩
        obtain ⟨e1, l1⟩ := e1x rfl
        clear e1x
        rw [List.nil_append] at e1
        have hz1 := k1.size
        have hlen1 : Hd1.length = s.size := by rw [e1, hdT_len]
        have hL1 : L1.length + 1 ≤ s.size := by have := nm_len o.prec.length s []; rw [← l1] at this; simpa using this
        obtain ⟨A3, c3, rfl, _⟩ := p1.pair (by omega)
        have hv3 : ∀ g, (Value.slice A3 Hd1.length c3).ownBlock = some g → X.heap.size ≤ g := fun g e => by
          rcases n1 g e with a | a
          · cases a
          · exact a
        have r2 := (HKh.out _ w1 (fun g e => by cases e) k1 _ (by have := HWz.out; omega)).trans Q2.out
        have r3 := (HKh.out _ w1 (fun g e => by cases e) k1 _ (by have := HWz.out; omega)).trans Q3.out
        have r4 := (HKh.out _ w1 (fun g e => by cases e) k1 _ (by have := HWz.out; omega)).trans Q4.out
        obtain ⟨t0, t1, _, _⟩ := cells_two r2
        obtain ⟨_, b1, _, _⟩ := cells_four p1.box
        have hA1 := HA2.out.keep fun g (hg : g < w.heap.size) => HKh.out _ w1 (fun g e => by cases e) k1 g (by have := HWz.out; omega)
        have h2 := lpLay_all (B0 := w.heap.size) (bp := W.heap.size + 1 + 1) (bm := W.heap.size) (P := P) (rk := o.prec) (pc := pc) (mf := .map (some (W.heap.size + 1))) t w1 _ Hd1 L1 A2 c2 p1 (by omega) (by omega) hg hA1
        unfold LayPost at h2
        have P1 := Lib.hid p1
        have K1 := Lib.hid k1
        have N1 := Lib.hid n1
        have E1 := Lib.hid e1
        have F1 := Lib.hid l1
        have R3 := Lib.hid r3
        have R4 := Lib.hid r4
        have Hv3 := Lib.hid hv3
        have HL := Lib.hid hlen1
        clear p1 k1 n1 e1 l1 r2 r3 r4 hA1 hv3 hlen1))
      | fail)
    have HKK : Hid (∀ w2, KeepsC (CsP (W.heap.size + 1 + 1) W.heap.size (.slice A3 Hd1.length c3)) w1 w2 → (∀ g, g < W.heap.size → w2.heap[g]? = w1.heap[g]?) ∧ Below w.heap.size w w2) := Lib.hid fun w2 hk => by
      have h1 := HWz.out
      have h2 := HXz.out
      have hc : ∀ g, g < W.heap.size → ¬ CsP (W.heap.size + 1 + 1) W.heap.size (.slice A3 Hd1.length c3) g := fun g hg => by
        rintro (e | e | e)
        · omega
        · omega
        · have := Hv3.out g e; omega
      exact ⟨fun g hg => hk.block (by omega) (hc g hg), (Hb0.out w1 K1.out).trans (hk.below (by omega) fun g hg => hc g (by omega))⟩
    cases hkt : layK o.prec.length t with
    | false =>
      rw [hkt] at h2
      have H2 := Lib.hid h2
      have Hkt := Lib.hid hkt
      clear h2 hkt
      go_wp2_with (first
        | (go_at_call 72; (with_reducible refine H2.out.mono ?_); go_must (rintro e w2 ⟨rfl, v2, H2', L2, p2, k2, n2, _⟩; obtain ⟨kb, kw⟩ := HKK.out w2 k2; have r3 := (kb _ (by have := HWz.out; omega)).trans R3.out; have r4 := (kb _ (by have := HWz.out; omega)).trans R4.out; obtain ⟨u0, u1, u2, u3⟩ := cells_two r3; obtain ⟨v0, v1', v2', v3⟩ := cells_two r4; have HR := Lib.hid (two_res hne r3 r4 (.pointer none) (.int .i64 0) (.pointer none) (.int .i64 0)); have Hbw := Lib.hid kw; clear p2 k2 n2 r3 r4 kb kw))
        | fail)
      obtain ⟨e0, e1, e2, e3⟩ := HR.out
      refine bodyPost_ret (v := .tuple #[.agg #[.pointer none, .int .i64 0], .agg #[.pointer none, .int .i64 0], .bool false]) (by simp [results, Tryz.results40, go_sem, e0, e1, e2, e3]) rfl ⟨?_, fun h => ?_, fun _ => rfl⟩
      · exact (((Hbw.out.setCell (show w.heap.size ≤ w.heap.size + 1 + 1 + 1 by omega) _).setCell (show w.heap.size ≤ w.heap.size + 1 + 1 + 1 by omega) _).setCell (show w.heap.size ≤ w.heap.size + 1 + 1 + 1 + 1 by omega) _).setCell (show w.heap.size ≤ w.heap.size + 1 + 1 + 1 + 1 by omega) _
      · rw [Hkt.out] at h; cases h.2
    | true =>
      rw [hkt] at h2
      have H2 := Lib.hid h2
      have Hkt := Lib.hid hkt
      clear h2 hkt
      go_wp2_with (first
        | (go_at_call 72; (with_reducible refine H2.out.mono ?_); go_must (rintro e w2 ⟨rfl, v2, H2', L2, p2, k2, n2, e2x⟩; obtain ⟨e2, l2⟩ := e2x rfl; clear e2x; obtain ⟨kb, kw⟩ := HKK.out w2 k2; have r3 := (kb _ (by have := HWz.out; omega)).trans R3.out; have r4 := (kb _ (by have := HWz.out; omega)).trans R4.out; obtain ⟨u0, u1, u2, u3⟩ := cells_two r3; obtain ⟨v0, v1', v2', v3⟩ := cells_two r4; have HR := Lib.hid (two_res hne r3 r4 (.pointer (some ⟨W.heap.size + 1 + 1, 0, none⟩)) (.int .i64 0) (.pointer (some ⟨W.heap.size + 1 + 1, 0, none⟩)) (.int .i64 (Hd1.length : Int))); have Hbw := Lib.hid kw; have P2 := Lib.hid p2; have K2 := Lib.hid k2; have N2 := Lib.hid n2; have E2 := Lib.hid e2; have F2 := Lib.hid l2; clear p2 k2 n2 e2 l2 r3 r4 kb kw))
        | fail)
      obtain ⟨e0, e1, e2, e3⟩ := HR.out
      obtain ⟨Wf, hWf⟩ : ∃ Wf, ((((w2.setCell ⟨w.heap.size + 1 + 1 + 1, 0, none⟩ (.pointer (some ⟨W.heap.size + 1 + 1, 0, none⟩))).setCell ⟨w.heap.size + 1 + 1 + 1, 1, none⟩ (.int .i64 0)).setCell ⟨w.heap.size + 1 + 1 + 1 + 1, 0, none⟩ (.pointer (some ⟨W.heap.size + 1 + 1, 0, none⟩))).setCell ⟨w.heap.size + 1 + 1 + 1 + 1, 1, none⟩ (.int .i64 (Hd1.length : Int))) = Wf := ⟨_, rfl⟩
      refine bodyPost_ret (v := .tuple #[.agg #[.pointer (some ⟨W.heap.size + 1 + 1, 0, none⟩), .int .i64 0], .agg #[.pointer (some ⟨W.heap.size + 1 + 1, 0, none⟩), .int .i64 (Hd1.length : Int)], .bool true]) (by simp [results, Tryz.results40, go_sem, e0, e1, e2, e3]) rfl ⟨?_, fun h => ?_, fun h => absurd ⟨Hks.out, Hkt.out⟩ h⟩
      · exact (((Hbw.out.setCell (show w.heap.size ≤ w.heap.size + 1 + 1 + 1 by omega) _).setCell (show w.heap.size ≤ w.heap.size + 1 + 1 + 1 by omega) _).setCell (show w.heap.size ≤ w.heap.size + 1 + 1 + 1 + 1 by omega) _).setCell (show w.heap.size ≤ w.heap.size + 1 + 1 + 1 + 1 by omega) _
      · have hWzz := HWz.out
        have hXzz := HXz.out
        have k1 := K1.out
        have k2 := K2.out
        have hs1 := k1.size
        have hs2 := k2.size
        have hz : Wf.heap.size = w2.heap.size := by rw [← hWf]; simp
        have hoth : ∀ g, g ≠ w.heap.size + 1 + 1 + 1 → g ≠ w.heap.size + 1 + 1 + 1 + 1 → Wf.heap[g]? = w2.heap[g]? := fun g h3 h4 => by
          rw [← hWf]
          exact (heap_setCell_other _ _ _ _ h4).trans ((heap_setCell_other _ _ _ _ h4).trans ((heap_setCell_other _ _ _ _ h3).trans (heap_setCell_other _ _ _ _ h3)))
        have hv2 : ∀ g, v2.ownBlock = some g → X.heap.size ≤ g := fun g e => by
          rcases N2.out g e with a | a
          · exact Hv3.out g a
          · omega
        have pf : PrL Wf w.heap.size (W.heap.size + 1 + 1) W.heap.size P o.prec pc (.map (some (W.heap.size + 1))) v2 H2' L2 := P2.out.keep fun g hg => hoth g (by
          rcases hg with e | e | e | e
          · omega
          · omega
          · omega
          · have := hv2 g e; omega) (by
          rcases hg with e | e | e | e
          · omega
          · omega
          · omega
          · have := hv2 g e; omega)
        have hfm : Wf.heap[W.heap.size + 1]? = X.heap[W.heap.size + 1]? := (hoth _ (by omega) (by omega)).trans ((k2.block (by omega) (by
          rintro (e | e | e)
          · omega
          · omega
          · have := Hv3.out _ e; omega)).trans (k1.block (by omega) (by
          rintro (e | e | e)
          · omega
          · omega
          · cases e)))
        obtain ⟨A', hc', hT⟩ := two_of_laid (w := w) (X := X) (w1 := w1) (w2 := Wf) (bf := W.heap.size + 1) (F := fdF o.prec o.prec.length L2) (by omega) (Nat.le_refl _) (by omega) (by omega) ((HFM.out _).kept hfm) hs1 (by omega) rfl Hks.out Hkt.out (layK_vn s Hks.out) (layK_vn t Hkt.out) hn N1.out E1.out F1.out pf (fun g e => N2.out g e) E2.out F2.out
        rw [hWf]
        refine ⟨_, _, _, _, _, _, _, _, _, _, ?_, hT⟩
        rw [HL.out]
end Go.Proofs.YthgglobfkkcdgaaGreatDoor
namespace Go.Proofs.YthgglobfkkcdgaaGreatDoor
open Go.RowKit Go.Shelf Go.Maps
set_option maxRecDepth 100000
set_option maxHeartbeats 1000000 in
theorem lpoCmp_any (o : Odr) (s t : Tm) (P Q A A2 : Option Addr) (pc qc c c2 : Nat) (w : World) (hM : OdrM w w.heap.size o P Q) (hrk : o.prec.length ≤ 140737488351232) (hf : I64 s.fn) (hg : I64 t.fn) (hn : s.size + t.size ≤ 1073741824) (hA : ArgsK w (· < w.heap.size) A c s.args) (hA2 : ArgsK w (· < w.heap.size) A2 c2 t.args) :
    Calls Tryz.prog 22 #[.agg #[.bool o.lpo, .slice P o.prec.length pc, .slice Q o.wts.length qc, .int .i64 o.var], .agg #[.int .i64 s.fn, .slice A s.args.length c], .agg #[.int .i64 t.fn, .slice A2 t.args.length c2]] w fun e w' => e = .returned (.int .i64 (cmpP o.prec s t)) ∧ Below w.heap.size w w' := by
  obtain ⟨q0, q1, q2⟩ := heap3 w (.cells #[.bool o.lpo, .slice P o.prec.length pc, .slice Q o.wts.length qc, .int .i64 o.var] 38) (.cells #[.int .i64 s.fn, .slice A s.args.length c] 32) (.cells #[.int .i64 t.fn, .slice A2 t.args.length c2] 32)
  obtain ⟨W, hW⟩ : ∃ W, (((w.alloc (.cells #[.bool o.lpo, .slice P o.prec.length pc, .slice Q o.wts.length qc, .int .i64 o.var] 38)).alloc (.cells #[.int .i64 s.fn, .slice A s.args.length c] 32)).alloc (.cells #[.int .i64 t.fn, .slice A2 t.args.length c2] 32)) = W := ⟨_, rfl⟩
  have hB : Below w.heap.size w W := by rw [← hW]; exact (((Below.refl _ _).alloc (Nat.le_refl _) _).alloc (by simp) _).alloc (by simp; omega) _
  rw [hW] at q0 q1 q2
  obtain ⟨x0, x1, x2, x3⟩ := cells_four q0
  obtain ⟨y0, y1, _, _⟩ := cells_two q1
  obtain ⟨z0, z1, _, _⟩ := cells_two q2
  have hL := lpoLay_any o s t P Q A A2 pc qc c c2 W (hM.on hB) hrk hf hg (by omega) ((hA.on hB).toN) ((hA2.on hB).toN)
  have HL := Lib.hid hL
  have HW := Lib.hid hW
  have HB := Lib.hid hB
  clear hW hB q0 q1 q2 hM hA hA2 hL
  by_cases hk : layK o.prec.length s = true ∧ layK o.prec.length t = true
  · have hcm : cmpP o.prec s t = (if cmpT s t = 0 then 2 else if lpT o.prec s t then 3 else if lpT o.prec t s then 1 else 0) := by unfold cmpP; rw [hk.1, hk.2]; rfl
    go_enter Tryz.func22, Tryz.ntmps22
    go_upto_region 1 with fail
    rw [HW.out]
    go_upto_region 4 with (first
      | (go_at_call 40; (with_reducible refine HL.out.mono ?_); go_must (rintro e w1 ⟨hb1, hyes, _⟩; obtain ⟨bp, P3, pc3, n, bf, A3, H, hc, ml, M, rfl, hT⟩ := hyes hk; have hb1 := Lib.hid hb1; have HT := Lib.hid hT; clear hT hyes))
      | fail)
    obtain ⟨p0, p1⟩ := heap2 w1 (.cells #[.pointer (some ⟨bp, 0, none⟩), .int .i64 0] 91) (.cells #[.pointer (some ⟨bp, 0, none⟩), .int .i64 (s.size : Int)] 91)
    obtain ⟨X, hX⟩ : ∃ X, (w1.alloc (.cells #[.pointer (some ⟨bp, 0, none⟩), .int .i64 0] 91)).alloc (.cells #[.pointer (some ⟨bp, 0, none⟩), .int .i64 (s.size : Int)] 91) = X := ⟨_, rfl⟩
    have hBX : Below w1.heap.size w1 X := by rw [← hX]; exact ((Below.refl _ _).alloc (Nat.le_refl _) _).alloc (by simp) _
    rw [hX] at p0 p1 ⊢
    have hT := HT.out
    have hXl := (Array.getElem?_eq_some_iff.1 p1).1
    have hIX := hT.fd.on hBX
    have hbf1 := hT.fd.lf
    have hnl1 := hT.fd.nl
    have hnb := hT.nb
    have hWs := HB.out.size
    have hw1 := hb1.out.size
    obtain ⟨u0, u1, _, _⟩ := cells_two p0
    obtain ⟨v0, v1, _, _⟩ := cells_two p1
    have hHl : H.length ≤ 1073741824 := by rw [hT.len]; exact hn
    have AB : Hid (∀ w2, FdW w2 n bp bf P3 o.prec pc3 A3 H hc ml (fdF o.prec o.prec.length M) → Calls Tryz.prog 42 #[.agg #[.pointer (some ⟨bp, 0, none⟩), .int .i64 0], .agg #[.pointer (some ⟨bp, 0, none⟩), .int .i64 (s.size : Int)]] w2 fun e w' => e = .returned (.bool (lpT o.prec s t)) ∧ KeepsC (· = bf) w2 w' ∧ FdW w' n bp bf P3 o.prec pc3 A3 H hc ml (fdF o.prec o.prec.length M)) := Lib.hid fun w2 h2 => abv_all hT.nd hHl (s.size + t.size) s t 0 s.size w2 (Nat.le_refl _) hT.os hT.ot hT.a1 hT.a2 h2
    have BA : Hid (∀ w2, FdW w2 n bp bf P3 o.prec pc3 A3 H hc ml (fdF o.prec o.prec.length M) → Calls Tryz.prog 42 #[.agg #[.pointer (some ⟨bp, 0, none⟩), .int .i64 (s.size : Int)], .agg #[.pointer (some ⟨bp, 0, none⟩), .int .i64 0]] w2 fun e w' => e = .returned (.bool (lpT o.prec t s)) ∧ KeepsC (· = bf) w2 w' ∧ FdW w' n bp bf P3 o.prec pc3 A3 H hc ml (fdF o.prec o.prec.length M)) := Lib.hid fun w2 h2 => abv_all hT.nd hHl (t.size + s.size) t s s.size 0 w2 (Nat.le_refl _) hT.ot hT.os hT.a2 hT.a1 h2
    have hsm : Calls Tryz.prog 41 #[.agg #[.pointer (some ⟨bp, 0, none⟩), .int .i64 0], .agg #[.pointer (some ⟨bp, 0, none⟩), .int .i64 (s.size : Int)]] X fun e w' => e = .returned (.bool (decide (cmpT s t = 0))) ∧ Below X.heap.size X w' := by
      have := lpoSame_any X hIX.pr hT.a1.top' hT.a2.top'
      rwa [topH_same hT.nd hT.os hT.ot] at this
    have HIX := Lib.hid hIX
    have P0 := Lib.hid p0
    have P1 := Lib.hid p1
    have hend : Hid (∀ wf, KeepsC (· = bf) X wf → Below w.heap.size w wf) := Lib.hid fun wf hk => by
      have h1 : Below w.heap.size w X := (HB.out.trans (hb1.out.mono HB.out.size)).trans (hBX.mono (by omega))
      exact h1.trans (hk.below h1.size fun g hg => by omega)
    have hBXs := hBX.size
    clear hT hIX p0 p1 hX hBX HT hHl
    by_cases hc0 : cmpT s t = 0
    · have hfin := Lib.hid (show cmpP o.prec s t = 2 by rw [hcm, if_pos hc0])
      rw [decide_eq_true hc0] at hsm
      have HS := Lib.hid hsm
      clear hsm hc0 hcm
      go_wp2_with (first
        | (go_at_call 41; (with_reducible refine HS.out.mono ?_); go_must (rintro e w2 ⟨rfl, hb2⟩))
        | fail)
      go_ret
      exact ⟨ret_int hfin.out.symm, hend.out _ (KeepsC.of_below hb2)⟩
    · rw [decide_eq_false hc0] at hsm
      rw [if_neg hc0] at hcm
      have HS := Lib.hid hsm
      clear hsm hc0
      go_upto_region 6 with (first
        | (go_at_call 41; (with_reducible refine HS.out.mono ?_); go_must (rintro e w2 ⟨rfl, hb2⟩; obtain ⟨a0, a1, _, _⟩ := cells_two ((hb2.block _ (show w1.heap.size < X.heap.size by omega)).trans P0.out); obtain ⟨d0, d1, _, _⟩ := cells_two ((hb2.block _ hXl).trans P1.out)))
        | fail)
      have hI2 := HIX.out.on hb2
      have hA1 := AB.out w2 hI2
      have hz2 := hb2.size
      cases hst : lpT o.prec s t with
      | true =>
        rw [hst] at hA1
        rw [hst, if_pos rfl] at hcm
        have hfin := Lib.hid hcm
        have HA1 := Lib.hid hA1
        clear hcm hst hA1 hI2
        go_wp2_with (first
          | (go_at_call 42; (with_reducible refine HA1.out.mono ?_); go_must (rintro e w3 ⟨rfl, hk3, hI3⟩; have hI3 := Lib.hid hI3))
          | fail)
        go_ret
        exact ⟨ret_int hfin.out.symm, hend.out _ ((KeepsC.of_below hb2).trans hk3)⟩
      | false =>
        rw [hst] at hA1
        rw [hst, if_neg (by simp)] at hcm
        have HA1 := Lib.hid hA1
        clear hst hA1 hI2
        go_upto_region 8 with (first
          | (go_at_call 42; (with_reducible refine HA1.out.mono ?_); go_must (rintro e w3 ⟨rfl, hk3, hI3⟩; have hI3 := Lib.hid hI3; have hk23 := (KeepsC.of_below (C := (· = bf)) hb2).trans hk3; obtain ⟨r0, r1, _, _⟩ := cells_two ((hk23.block (show w1.heap.size < X.heap.size by omega) (show ¬ w1.heap.size = bf by omega)).trans P0.out); obtain ⟨s0, s1, _, _⟩ := cells_two ((hk23.block hXl (show ¬ w1.heap.size + 1 = bf by omega)).trans P1.out)))
          | fail)
        have hB1 := BA.out w3 hI3.out
        cases hts : lpT o.prec t s with
        | true =>
          rw [hts] at hB1
          rw [hts, if_pos rfl] at hcm
          have hfin := Lib.hid hcm
          have HB1 := Lib.hid hB1
          clear hcm hts hB1
          go_wp2_with (first
            | (go_at_call 42; (with_reducible refine HB1.out.mono ?_); go_must (rintro e w4 ⟨rfl, hk4, hI4⟩; have hI4 := Lib.hid hI4))
            | fail)
          go_ret
          exact ⟨ret_int hfin.out.symm, hend.out _ (hk23.trans hk4)⟩
        | false =>
          rw [hts] at hB1
          rw [hts, if_neg (by simp)] at hcm
          have hfin := Lib.hid hcm
          have HB1 := Lib.hid hB1
          clear hcm hts hB1
          go_wp2_with (first
            | (go_at_call 42; (with_reducible refine HB1.out.mono ?_); go_must (rintro e w4 ⟨rfl, hk4, hI4⟩; have hI4 := Lib.hid hI4))
            | fail)
          go_ret
          exact ⟨ret_int hfin.out.symm, hend.out _ (hk23.trans hk4)⟩
  · have hfin := Lib.hid (show cmpP o.prec s t = 0 by
      unfold cmpP
      rw [if_neg (by simpa using hk)])
    go_enter Tryz.func22, Tryz.ntmps22
    go_upto_region 1 with fail
    rw [HW.out]
    go_wp2_with (first
      | (go_at_call 40; (with_reducible refine HL.out.mono ?_); go_must (rintro e w1 ⟨hb1, _, hno⟩; obtain rfl := hno hk; have hb1 := Lib.hid hb1))
      | fail)
    go_ret
    exact ⟨ret_int hfin.out.symm, (HB.out.trans (hb1.out.mono HB.out.size)).trans (((Below.refl _ _).alloc (Nat.le_trans HB.out.size hb1.out.size) _).alloc (by simp; have := HB.out.size; have := hb1.out.size; omega) _)⟩
end Go.Proofs.YthgglobfkkcdgaaGreatDoor
namespace Go.Proofs.YthgglobfkkcdgaaGreatDoor
open Go.RowKit Go.Shelf Go.Maps
set_option maxRecDepth 100000
theorem lpoCmp_at {W : World} {o : Odr} {s t : Tm} {P Q A A2 : Option Addr} {pc qc c c2 : Nat} (hrk : o.prec.length ≤ 140737488351232) (hM : OdrM W W.heap.size o P Q) (hs : TmK W s A c) (ht : TmK W t A2 c2) (hz : s.size + t.size ≤ 1073741824) : ∀ w1, Below W.heap.size W w1 →
    Calls Tryz.prog 22 #[.agg #[.bool o.lpo, .slice P o.prec.length pc, .slice Q o.wts.length qc, .int .i64 o.var], .agg #[.int .i64 s.fn, .slice A s.args.length c], .agg #[.int .i64 t.fn, .slice A2 t.args.length c2]] w1 fun e w' => e = .returned (.int .i64 (cmpP o.prec s t)) ∧ Below w1.heap.size w1 w' := fun w1 hb => by
  exact lpoCmp_any o s t P Q A A2 pc qc c c2 w1 (hM.on hb) hrk hs.i64 ht.i64 hz (hs.on hb).args (ht.on hb).args
end Go.Proofs.YthgglobfkkcdgaaGreatDoor
namespace Go.Proofs.YthgglobfkkcdgaaGreatDoor
open Go.RowKit
set_option maxRecDepth 20000
def ordV (o : Odr) (s t : Tm) : Int := if o.lpo = true then cmpP o.prec s t else cmpR o s t
def tmI (o : Odr) (s t : Tm) : Int := if cmpT s t = 0 then 2 else ordV o s t
theorem ordV_in4 (o : Odr) (s t : Tm) : In4 (ordV o s t) := by
  unfold ordV cmpP cmpR In4
  split <;> (split <;> (try split) <;> (try split) <;> (try split) <;> simp)
section
variable {l : List Sm} {o : Odr} (hc : chkO l o = 0)
include hc
theorem ordV_two {s t : Tm} (hs : Gd (arL l) s) (ht : Gd (arL l) t) : ordV o s t = 2 ↔ cmpT s t = 0 := by
  unfold ordV
  cases h : o.lpo with
  | true => rw [if_pos rfl]; exact cmpP_two (chkO_admL hc) hs ht
  | false => rw [if_neg (by decide)]; exact cmpR_two (chkO_adm h hc) hs ht
theorem tmI_eq {s t : Tm} (hs : Gd (arL l) s) (ht : Gd (arL l) t) : tmI o s t = ordV o s t := by
  unfold tmI
  split
  · rename_i h; exact ((ordV_two hc hs ht).2 h).symm
  · rfl
theorem ord_terms : OrdOn (ordV o) (Gd (arL l)) where
  self := fun {x} hx => (ordV_two hc hx hx).2 (cmp_zero_iff.2 rfl)
  turn := fun {x y} hx hy => by
    unfold ordV
    cases h : o.lpo with
    | true => rw [if_pos rfl, if_pos rfl]; exact cmpP_turn (chkO_admL hc) hx hy
    | false => rw [if_neg (by decide), if_neg (by decide)]; exact cmpR_turn (chkO_adm h hc) hx hy
  trans := fun {x y z} hx hy hz e1 e2 => by
    unfold ordV at e1 e2 ⊢
    cases h : o.lpo with
    | true => rw [h, if_pos rfl] at e1 e2; rw [if_pos rfl]; exact cmpP_trans (chkO_admL hc) hx hy hz e1 e2
    | false => rw [h, if_neg (by decide)] at e1 e2; rw [if_neg (by decide)]; exact cmpR_trans (chkO_adm h hc) hx hy hz e1 e2
  cong := fun {x y z} hx hy hz e => by
    have := cmp_zero_iff.1 ((ordV_two hc hx hy).1 e)
    rw [this]
  in4 := fun {x y} _ _ => ordV_in4 o x y
end
end Go.Proofs.YthgglobfkkcdgaaGreatDoor
namespace Go.Proofs.YthgglobfkkcdgaaGreatDoor
open Go.RowKit Go.Shelf
set_option maxRecDepth 100000
section
variable {w w' : World} {S T : Nat → Prop} {bg : Nat} {v1 v2 v3 : Value} {rels rows : List Int} {gone : List Bool}
end
section
variable {w1 w5 : World} {S : Nat → Prop} {bg : Nat} {vr v2 v3 v5 : Value} {R rows : List Int} {gone : List Bool} {o : Obj} {x : Int}
end
end Go.Proofs.YthgglobfkkcdgaaGreatDoor
namespace Go.Proofs.YthgglobfkkcdgaaGreatDoor
open Go.RowKit Go.Shelf
set_option maxRecDepth 100000
section
variable {q : Nat → Int} {k : FuncId} {fs cv : Array Value} {N S : Nat → Prop} {bg : Nat} {v1 v2 v3 : Value} {rels rows : List Int} {gone : List Bool}
end
end Go.Proofs.YthgglobfkkcdgaaGreatDoor
namespace Go.Proofs.YthgglobfkkcdgaaGreatDoor
open Go.RowKit Go.Shelf
set_option maxRecDepth 100000
section
variable {S : Nat → Prop} {bg : Nat} {v1 v2 v3 : Value} {rels rows : List Int} {gone : List Bool}
end
end Go.Proofs.YthgglobfkkcdgaaGreatDoor
namespace Go.Proofs.YthgglobfkkcdgaaGreatDoor
open Go.RowKit Go.Shelf
set_option maxRecDepth 100000
section
variable {k : FuncId} {fs cv : Array Value} {q : Int → Bool} {l : List Int}
end
section
variable {k : FuncId} {fs cv : Array Value} {st : Int → Int → Int} {l1 l2 : List Int}
end
end Go.Proofs.YthgglobfkkcdgaaGreatDoor
namespace Go.Proofs.YthgglobfkkcdgaaGreatDoor
open Go.RowKit Go.Shelf
set_option maxRecDepth 100000
section
variable {S : Nat → Prop} {bg : Nat} {v1 v2 v3 : Value} {rels rows : List Int} {gone : List Bool}
end
end Go.Proofs.YthgglobfkkcdgaaGreatDoor
namespace Go.Proofs.YthgglobfkkcdgaaGreatDoor
open Go.RowKit Go.Shelf
set_option maxRecDepth 100000
def keepC {α : Type} : List α → List Bool → List α
  | x :: n, g :: gs => if g = true then keepC n gs else x :: keepC n gs
  | _, _ => []
section
variable {α : Type} {rel : α → α → Int}
structure GInv (rel : α → α → Int) (m n : List α) (i : Nat) (R : List α) (rels rows : List Int) (gone : List Bool) : Prop where
  gl : gone.length = n.length
  wl : rows.length = R.length
  rl : rels.length = R.length * n.length
  ri : R.length ≤ i
  ro : ∀ k, k < R.length → rows[k]? = some ((k * n.length : Nat) : Int)
  at_ : ∀ (k j : Nat) (x y : α), R[k]? = some x → n[j]? = some y → gone[j]? = some false → rels[k * n.length + j]? = some (rel x y)
  i4 : ∀ r ∈ rels, In4 r
  lf : leftM rel m n = (R ++ (leftM rel (m.drop i) (keepC n gone)).1, (leftM rel (m.drop i) (keepC n gone)).2)
section
variable {m n : List α} {i : Nat} {R : List α} {rels rows : List Int} {gone : List Bool} (h : GInv rel m n i R rels rows gone)
include h
end
end
end Go.Proofs.YthgglobfkkcdgaaGreatDoor
namespace Go.Proofs.YthgglobfkkcdgaaGreatDoor
open Go.RowKit Go.Shelf
set_option maxRecDepth 100000
section
variable {k : FuncId} {fs cv : Array Value} {n0 : Nat}
end
end Go.Proofs.YthgglobfkkcdgaaGreatDoor
namespace Go.Proofs.YthgglobfkkcdgaaGreatDoor
open Go.RowKit Go.Shelf
set_option maxRecDepth 100000
section
variable {k : FuncId} {fs cv : Array Value} {n0 : Nat}
end
end Go.Proofs.YthgglobfkkcdgaaGreatDoor
