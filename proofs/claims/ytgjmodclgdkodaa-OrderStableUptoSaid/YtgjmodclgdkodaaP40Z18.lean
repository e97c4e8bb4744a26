import Derived.Test.YtgjmodclgdkodaaP40Z15
import Derived.Test.YtgjmodclgdkodaaP40Z17
import Derived.Test.YtgjmodclgdkodaaP40Z14
import Derived.Test.YtgjmodclgdkodaaP40Z4
import Derived.WideMake
import Derived.Test.YtgjmodclgdkodaaP40Z16
import Derived.Test.YtgjmodclgdkodaaP40Z2
import Derived.Test.YtgjmodclgdkodaaP40Z11
import Derived.Test.YtgjmodclgdkodaaP40Z1
import Derived.WalkMore
import Derived.RangeFuncBox
import Derived.Laws.EntriesVeiled
/- lpo: what Cmp answers, plain; which orders may be. -/

namespace Go.Proofs.Ytgjmodclgdkodaa

open Go.RowKit Go.Shelf Go.Maps
set_option maxRecDepth 20000

def cmpP (p : List Int) (s t : Tm) : Int := if layK p.length s && layK p.length t then (if cmpT s t = 0 then 2 else if lpT p s t then 3 else if lpT p t s then 1 else 0) else 0

mutual
theorem layK_vn {R : Nat} : ∀ t : Tm, layK R t = true → vnT t = true
  | .node f xs, h => by
    rw [layK, Bool.and_eq_true, Bool.not_eq_true', Bool.or_eq_false_iff, Bool.and_eq_false_iff, decide_eq_false_iff_not, decide_eq_false_iff_not, decide_eq_false_iff_not] at h
    rw [vnT, Bool.and_eq_true]
    refine ⟨?_, layKL_vn xs h.2⟩
    rcases h.1.2 with h1 | h1
    · rw [decide_eq_false h1]; rfl
    · rw [decide_eq_true (show xs.length = 0 by omega), Bool.or_true]
theorem layKL_vn {R : Nat} : ∀ xs : List Tm, layKL R xs = true → vnTL xs = true
  | [], _ => by rw [vnTL]
  | x :: xs, h => by
    rw [layKL, Bool.and_eq_true] at h
    rw [vnTL, Bool.and_eq_true]
    exact ⟨layK_vn x h.1, layKL_vn xs h.2⟩
end

theorem chkO_admL {l : List Sm} {o : Odr} (h : chkO l o = 0) : AdmL o.prec (arL l) := by
  unfold chkO at h
  by_cases hc : ¬ (checkI l = 0 ∧ rankB o.prec l.length = true ∧ (o.lpo = true ∨ (o.wts.length = l.length ∧ 1 ≤ o.var ∧ o.var ≤ 1000 ∧ o.wts.getD 0 0 = o.var ∧ chkW l o = true)))
  · rw [if_neg hc] at h; cases h
  replace hc := Decidable.not_not.1 hc
  obtain ⟨_, hr, _⟩ := hc
  unfold rankB at hr
  rw [Bool.and_eq_true, decide_eq_true_eq, List.all_eq_true] at hr
  have hbad : ∀ i, i < l.length → badR o.prec i = false := fun i hi => by simpa using hr.2 i (List.mem_range.2 hi)
  have hne : ∀ i k, i < l.length → k < i → ¬ o.prec.getD i 0 = o.prec.getD k 0 := fun i k hi hk e => by
    have := hbad i hi
    rw [badR_same hk e] at this; cases this
  have hlen := arL_len l
  refine ⟨by rw [hr.1, hlen], fun i k hi hk e => ?_⟩
  rw [hlen] at hi hk
  rcases Nat.lt_trichotomy i k with h | h | h
  · exact absurd e.symm (hne k i hk h)
  · exact h
  · exact absurd e (hne i k hi h)

theorem fitsQ_gd {l : List Sm} {o : Odr} {ts : List Tm} (h : fitsQ l o ts = true) : ∀ t ∈ ts, Gd (arL l) t := by
  unfold fitsQ at h
  rw [Bool.and_eq_true, Bool.and_eq_true] at h
  intro t ht
  have h1 := h.2.2
  unfold fitsL at h1
  exact chkP_gd (of_decide_eq_true (List.all_eq_true.1 h1 t ht))

section

variable {p : List Int} {ar : List Nat} {s t u : Tm}

theorem wf_lay (K : AdmL p ar) : ∀ t : Tm, wfT ar t = true → layK p.length t = true := by
  refine Tm.ind fun f xs ih h => ?_
  rw [layK, Bool.and_eq_true]
  refine ⟨?_, (layKL_take xs).2 fun x hx => ih x hx (wfL_mem (wf_args h) hx)⟩
  have hnp := K.np
  by_cases hf : f < 0
  · have hx : xs.length = 0 := by rw [wf_var h hf]; rfl
    rw [decide_eq_false (show ¬ (p.length : Int) ≤ f by omega), decide_eq_false (show ¬ 0 < xs.length by omega)]; simp
  · obtain ⟨h1, _⟩ := wf_sym h hf
    rw [decide_eq_false (show ¬ (p.length : Int) ≤ f by omega), decide_eq_false hf]; rfl

theorem cmpP_gd (K : AdmL p ar) (hs : Gd ar s) (ht : Gd ar t) : cmpP p s t = if cmpT s t = 0 then 2 else if lpT p s t then 3 else if lpT p t s then 1 else 0 := by
  unfold cmpP; rw [wf_lay K s hs.wf, wf_lay K t ht.wf]; rfl

theorem cmpP_two (K : AdmL p ar) (hs : Gd ar s) (ht : Gd ar t) : cmpP p s t = 2 ↔ cmpT s t = 0 := by
  rw [cmpP_gd K hs ht]
  by_cases h : cmpT s t = 0
  · simp [h]
  · simp only [h, if_false]
    constructor
    · intro e; split at e <;> (try split at e) <;> cases e
    · intro e; exact e.elim

theorem cmpP_three (K : AdmL p ar) (hs : Gd ar s) (ht : Gd ar t) : cmpP p s t = 3 ↔ lpT p s t = true := by
  rw [cmpP_gd K hs ht]
  by_cases h : cmpT s t = 0
  · have : s = t := cmp_zero_iff.1 h
    subst this
    simp only [h, if_true]
    constructor
    · intro e; cases e
    · intro e; rw [lp_irr s (wf_vn s hs.wf)] at e; cases e
  · simp only [h, if_false]
    cases h1 : lpT p s t
    · simp only [Bool.false_eq_true, if_false, iff_false]
      split <;> decide
    · simp

theorem cmpP_self (K : AdmL p ar) (hs : Gd ar s) : cmpP p s s = 2 := (cmpP_two K hs hs).2 (cmp_zero_iff.2 rfl)

theorem cmpP_turn (K : AdmL p ar) (hs : Gd ar s) (ht : Gd ar t) : cmpP p t s = turnI (cmpP p s t) := by
  rw [cmpP_gd K hs ht, cmpP_gd K ht hs]
  by_cases h : cmpT s t = 0
  · have : s = t := cmp_zero_iff.1 h
    subst this
    simp [h, turnI]
  · have h' : ¬ cmpT t s = 0 := fun e => by
      rw [cmp_zero_iff] at e; subst e; exact h (cmp_zero_iff.2 rfl)
    rw [if_neg h, if_neg h']
    cases h1 : lpT p s t
    · cases h2 : lpT p t s <;> simp [turnI]
    · rw [lp_asym (wf_vn s hs.wf) (wf_vn t ht.wf) h1]; simp [turnI]

theorem cmpP_trans (K : AdmL p ar) (hs : Gd ar s) (ht : Gd ar t) (hu : Gd ar u) (h1 : cmpP p s t = 3) (h2 : cmpP p t u = 3) : cmpP p s u = 3 :=
  (cmpP_three K hs hu).2 (lp_trans (wf_vn s hs.wf) (wf_vn t ht.wf) (wf_vn u hu.wf) ((cmpP_three K hs ht).1 h1) ((cmpP_three K ht hu).1 h2))

end

end Go.Proofs.Ytgjmodclgdkodaa

/- lpo: lay of two terms, walked. -/

namespace Go.Proofs.Ytgjmodclgdkodaa

open Go.RowKit Go.Shelf Go.Maps
set_option maxRecDepth 100000

theorem lpLay_all {B0 bp bm : Nat} {P : Option Addr} {rk : List Int} {pc : Nat} {mf : Value} (t : Tm) : LpLayAt B0 bp bm P rk pc mf t := by
  refine Tm.ind (P := LpLayAt B0 bp bm P rk pc mf) (fun f xs ih => ?_) t
  by_cases hx : (rk.length : Int) ≤ f ∨ f < 0 ∧ 0 < xs.length
  · intro w v H L A c h _ _ _ _
    exact lay_no h f xs A c hx
  · exact lpLay_yes f xs ih hx

theorem okT_laid {R : Nat} {L M : List (Int × Int)} {t : Tm} (hk : layK R t = true) (hv : vnT t = true) (hL : L.Nodup) (hp : (nmT R L t).2 <+: M) : OkT R M t :=
  ⟨hv, layK_rk t hk, _, ((nm_spec t L hL (layK_rk t hk)).2.2).mono hp⟩

/-- What two laid terms leave. -/
structure Two (w w' : World) (p : List Int) (s t : Tm) (bp : Nat) (P : Option Addr) (pc : Nat) (n bf : Nat) (A : Option Addr) (H : List Hd) (hc : Nat) (ml : Value) (M : List (Int × Int)) : Prop where
  nb : w.heap.size ≤ bf
  nd : M.Nodup
  os : OkT p.length M s
  ot : OkT p.length M t
  a1 : AtT p.length M H 0 s
  a2 : AtT p.length M H s.size t
  len : H.length = s.size + t.size
  fd : FdW w' n bp bf P p pc A H hc ml (fdF p p.length M)

def LayTwo (w : World) (p : List Int) (s t : Tm) (e : Ending) (w' : World) : Prop :=
  Below w.heap.size w w' ∧ (layK p.length s = true ∧ layK p.length t = true → ∃ bp P pc n bf A H hc ml M, e = .returned (.tuple #[.agg #[.pointer (some ⟨bp, 0, none⟩), .int .i64 0], .agg #[.pointer (some ⟨bp, 0, none⟩), .int .i64 (s.size : Int)], .bool true]) ∧ Two w w' p s t bp P pc n bf A H hc ml M) ∧
    (¬ (layK p.length s = true ∧ layK p.length t = true) → e = .returned (.tuple #[.agg #[.pointer none, .int .i64 0], .agg #[.pointer none, .int .i64 0], .bool false]))

/-- A pair just made. -/
theorem prL_made {X : World} {B0 bp bm bf : Nat} {P : Option Addr} {rk : List Int} {pc : Nat} (hbox : X.heap[bp]? = some (.cells #[.slice P rk.length pc, .slice none 0 0, .map (some bm), .map (some bf)] 115)) (hr : Ints X B0 P rk) (hm : LMap X bm rk.length []) (hne : bm ≠ bp) (h1 : B0 ≤ bp) (h2 : B0 ≤ bm) :
    PrL X B0 bp bm P rk pc (.map (some bf)) (.slice none 0 0) [] [] :=
  ⟨hbox, hr, RowH.nil_ X B0, hm, hne, (fun e => by cases e), (fun e => by cases e), h1, h2⟩

/-- Both laid. -/
theorem two_of_laid {w X w1 w2 : World} {B0 bp bm bf : Nat} {P : Option Addr} {rk : List Int} {pc : Nat} {s t : Tm} {v1 v2 : Value} {H1 H2 : List Hd} {L1 L2 : List (Int × Int)} {F : Int × Int → Int}
    (hf : w.heap.size ≤ bf) (hB0 : B0 ≤ w.heap.size) (hfX : bf < X.heap.size) (hfp : bf ≠ bp) (hmp : FMap w2 bf [] F) (hz1 : X.heap.size ≤ w1.heap.size) (hz2 : X.heap.size ≤ w2.heap.size) (hF : F = fdF rk rk.length L2)
    (hks : layK rk.length s = true) (hkt : layK rk.length t = true) (hvs : vnT s = true) (hvt : vnT t = true) (hsz : s.size + t.size ≤ 1099511627776)
    (n1 : NewV X (.slice none 0 0) v1) (e1 : H1 = hdT rk.length [] s) (l1 : L1 = (nmT rk.length [] s).2)
    (p2 : PrL w2 B0 bp bm P rk pc (.map (some bf)) v2 H2 L2) (n2 : NewV w1 v1 v2) (e2 : H2 = H1 ++ hdT rk.length L1 t) (l2 : L2 = (nmT rk.length L1 t).2) :
    ∃ A hc, Two w w2 rk s t bp P pc w2.heap.size bf A H2 hc (.map (some bm)) L2 := by
  have hs1 := nm_spec s [] (List.nodup_nil) (layK_rk s hks)
  rw [← l1] at hs1
  have hs2 := nm_spec t L1 hs1.1 (layK_rk t hkt)
  rw [← l2] at hs2
  have hH1 : H1 = hsT rk.length L2 s := by rw [e1]; exact hd_hs hs2.1 s [] List.nodup_nil (layK_rk s hks) (by rw [← l1]; exact hs2.2.1)
  have hH2 : H2 = hsT rk.length L2 s ++ hsT rk.length L2 t := by rw [e2, hH1, hd_hs hs2.1 t L1 hs1.1 (layK_rk t hkt) (by rw [← l2]; exact List.prefix_rfl)]
  have hlen : H2.length = s.size + t.size := by rw [hH2, List.length_append, hsT_len, hsT_len]
  obtain ⟨A, c, hv, hP⟩ := p2.pair (by omega)
  have hv1f : v1.ownBlock ≠ some bf := fun e => by
    rcases n1 bf e with a | a
    · cases a
    · omega
  have hv2f : v2.ownBlock ≠ some bf := fun e => by
    rcases n2 bf e with a | a
    · exact hv1f a
    · omega
  have hlt := p2.lt
  refine ⟨A, c, hf, hs2.1, okT_laid hks hvs List.nodup_nil (by rw [← l1]; exact hs2.2.1), okT_laid hkt hvt hs1.1 (by rw [← l2]; exact List.prefix_rfl), by rw [hH2]; exact AtT.two.1, by rw [hH2]; exact AtT.two.2, hlen, ⟨hP, Nat.le_refl _, fun hn b off e => ?_, fun b off e => ?_, hlt.1, by omega, hfp, ⟨[], List.nodup_nil, (fun x hx => by simp at hx), ?_⟩, ?_⟩⟩
  · obtain ⟨b', off', e', hb', _⟩ := p2.rks.ad hn
    rw [e] at e'
    injection e' with e'
    injection e' with e' _
    subst e'
    exact ⟨by have := p2.lp; omega, by omega⟩
  · have ho : v2.ownBlock = some b := by rw [hv, e]; rfl
    exact ⟨(p2.own ho).2, fun e' => hv2f (e' ▸ ho)⟩
  · rw [← hF]
    exact hmp
  · rcases p2.row.row.2 with ⟨_, h0⟩ | ⟨g, cap, cur, hvv, _, _, hcap, _⟩
    · omega
    · rw [hv] at hvv
      injection hvv with _ _ h3
      subst h3
      exact hcap

end Go.Proofs.Ytgjmodclgdkodaa

/- lpo: lay of two terms, walked. -/

namespace Go.Proofs.Ytgjmodclgdkodaa

open Go.RowKit Go.Shelf Go.Maps
set_option maxRecDepth 100000

theorem cells2p {W : World} {b : Nat} {x y x' y' : Value} {t : TypeId} (h : W.heap[b]? = some (.cells #[x, y] t)) : ((W.setCell ⟨b, 0, none⟩ x').setCell ⟨b, 1, none⟩ y').heap[b]? = some (.cells #[x', y'] t) :=
  heap_setCell_same _ _ 1 _ _ _ (heap_setCell_same W _ 0 _ _ _ h)

theorem two_res {w1 : World} {b6 b7 : Nat} {a b a' b' : Value} {ty ty' : TypeId} (hne : b6 ≠ b7) (h6 : w1.heap[b6]? = some (.cells #[a, b] ty)) (h7 : w1.heap[b7]? = some (.cells #[a', b'] ty')) (x y x' y' : Value) :
    ((((w1.setCell ⟨b6, 0, none⟩ x).setCell ⟨b6, 1, none⟩ y).setCell ⟨b7, 0, none⟩ x').setCell ⟨b7, 1, none⟩ y').cell? ⟨b6, 0, none⟩ = some x ∧ ((((w1.setCell ⟨b6, 0, none⟩ x).setCell ⟨b6, 1, none⟩ y).setCell ⟨b7, 0, none⟩ x').setCell ⟨b7, 1, none⟩ y').cell? ⟨b6, 1, none⟩ = some y ∧
    ((((w1.setCell ⟨b6, 0, none⟩ x).setCell ⟨b6, 1, none⟩ y).setCell ⟨b7, 0, none⟩ x').setCell ⟨b7, 1, none⟩ y').cell? ⟨b7, 0, none⟩ = some x' ∧ ((((w1.setCell ⟨b6, 0, none⟩ x).setCell ⟨b6, 1, none⟩ y).setCell ⟨b7, 0, none⟩ x').setCell ⟨b7, 1, none⟩ y').cell? ⟨b7, 1, none⟩ = some y' := by
  have e6 := cells2p (x' := x) (y' := y) h6
  have o : ∀ W : World, ((W.setCell ⟨b7, 0, none⟩ x').setCell ⟨b7, 1, none⟩ y').heap[b6]? = W.heap[b6]? := fun W => (heap_setCell_other _ _ _ _ hne).trans (heap_setCell_other _ _ _ _ hne)
  have e7 : ((w1.setCell ⟨b6, 0, none⟩ x).setCell ⟨b6, 1, none⟩ y).heap[b7]? = some (.cells #[a', b'] ty') := ((heap_setCell_other _ _ _ _ (Ne.symm hne)).trans (heap_setCell_other _ _ _ _ (Ne.symm hne))).trans h7
  obtain ⟨c0, c1, _, _⟩ := cells_two ((o _).trans e6)
  obtain ⟨d0, d1, _, _⟩ := cells_two (cells2p (x' := x') (y' := y') e7)
  exact ⟨c0, c1, d0, d1⟩

set_option maxHeartbeats 4000000 in
theorem lpoLay_any (o : Odr) (s t : Tm) (P Q A A2 : Option Addr) (pc qc c c2 : Nat) (w : World) (hM : OdrM w w.heap.size o P Q) (hrk : o.prec.length ≤ 140737488351232) (hf : I64 s.fn) (hg : I64 t.fn) (hn : s.size + t.size ≤ 1099511627776) (hA : ArgsN w (· < w.heap.size) A s.args) (hA2 : ArgsN w (· < w.heap.size) A2 t.args) :
    Calls Try.prog 47 #[.agg #[.bool o.lpo, .slice P o.prec.length pc, .slice Q o.wts.length qc, .int .i64 o.var], .agg #[.int .i64 s.fn, .slice A s.args.length c], .agg #[.int .i64 t.fn, .slice A2 t.args.length c2]] w (LayTwo w o.prec s t) := by
  have hmm1 : ∀ w : World, (Instr.makeMap 111 none).run Try.prog w = .ok (.map (some w.heap.size)) (w.alloc (.map #[] 0)) := fun _ => run_makeMap_plain (w := _) _
  have hmm2 : ∀ w : World, (Instr.makeMap 112 none).run Try.prog w = .ok (.map (some w.heap.size)) (w.alloc (.map #[] 0)) := fun _ => run_makeMap_plain (w := _) _
  obtain ⟨q0, q1, q2, q3, q4⟩ := heap5 w (.cells #[.bool o.lpo, .slice P o.prec.length pc, .slice Q o.wts.length qc, .int .i64 o.var] 27) (.cells #[.int .i64 s.fn, .slice A s.args.length c] 39) (.cells #[.int .i64 t.fn, .slice A2 t.args.length c2] 39) (.cells #[.pointer none, .int .i64 0] 94) (.cells #[.pointer none, .int .i64 0] 94)
  obtain ⟨W, hW⟩ : ∃ W, (((((w.alloc (.cells #[.bool o.lpo, .slice P o.prec.length pc, .slice Q o.wts.length qc, .int .i64 o.var] 27)).alloc (.cells #[.int .i64 s.fn, .slice A s.args.length c] 39)).alloc (.cells #[.int .i64 t.fn, .slice A2 t.args.length c2] 39)).alloc (.cells #[.pointer none, .int .i64 0] 94)).alloc (.cells #[.pointer none, .int .i64 0] 94)) = W := ⟨_, rfl⟩
  have hB : Below w.heap.size w W := by rw [← hW]; exact below5 _ _ _ _ _ _
  rw [hW] at q0 q1 q2 q3 q4
  have hWz : W.heap.size = w.heap.size + 5 := by rw [← hW]; simp
  obtain ⟨x0, x1, x2, x3⟩ := cells_four q0
  -- the pair's blocks
  obtain ⟨m0, m1, m2⟩ := heap3 W (.map #[] 0) (.map #[] 0) (.cells #[.slice P o.prec.length pc, .slice none 0 0, .map (some W.heap.size), .map (some (W.heap.size + 1))] 115)
  obtain ⟨X, hX⟩ : ∃ X, (((W.alloc (.map #[] 0)).alloc (.map #[] 0)).alloc (.cells #[.slice P o.prec.length pc, .slice none 0 0, .map (some W.heap.size), .map (some (W.heap.size + 1))] 115)) = X := ⟨_, rfl⟩
  have hBX : Below W.heap.size W X := by rw [← hX]; exact (((Below.refl _ _).alloc (Nat.le_refl _) _).alloc (by simp) _).alloc (by simp; omega) _
  rw [hX] at m0 m1 m2
  have hXz : X.heap.size = W.heap.size + 3 := by rw [← hX]; simp
  have hBwX : Below w.heap.size w X := hB.trans (hBX.mono hB.size)
  have hLM : LMap X W.heap.size o.prec.length [] := (LMap.made W o.prec.length).kept (by rw [m0, heap_alloc_new])
  have hFM : ∀ F, FMap X (W.heap.size + 1) [] F := fun F => by
    have h1 := FMap.made (W.alloc (.map #[] 0)) F
    have hz : (W.alloc (.map #[] 0)).heap.size = W.heap.size + 1 := by simp
    rw [hz] at h1
    exact h1.kept (by rw [m1, ← hz, heap_alloc_new])
  have hP := prL_made (bm := W.heap.size) (bp := W.heap.size + 1 + 1) (bf := W.heap.size + 1) (B0 := w.heap.size) m2 (hM.p.blw hBwX) hLM (by omega) (by omega) (by omega)
  have hAX := hA.keep fun g hg => hBwX.block g hg
  have hAX2 := hA2.keep fun g hg => hBwX.block g hg
  have h1 := lpLay_all (B0 := w.heap.size) (bp := W.heap.size + 1 + 1) (bm := W.heap.size) (P := P) (rk := o.prec) (pc := pc) (mf := .map (some (W.heap.size + 1))) s X _ [] [] A c hP (by simp; omega) (by simp; omega) hf hAX
  have y0 := (hBX.block (w.heap.size + 1) (by omega)).trans q1
  obtain ⟨s0, s1, _, _⟩ := cells_two y0
  have HW := Lib.hid hW
  have HX := Lib.hid hX
  have HB := Lib.hid hB
  have HBX := Lib.hid hBX
  have Q2 := Lib.hid ((hBX.block (w.heap.size + 1 + 1) (by omega)).trans q2)
  have Q3 := Lib.hid ((hBX.block (w.heap.size + 1 + 1 + 1) (by omega)).trans q3)
  have Q4 := Lib.hid ((hBX.block (w.heap.size + 1 + 1 + 1 + 1) (by omega)).trans q4)
  have HBw := Lib.hid hBwX
  have HFM := Lib.hid hFM
  have HA2 := Lib.hid hAX2
  have HM := Lib.hid hM
  have HWz := Lib.hid hWz
  have HXz := Lib.hid hXz
  unfold LayPost at h1
  -- what a call leaves of the boxes
  have HK : ∀ (v : Value) (w1 : World), (∀ g, v.ownBlock = some g → X.heap.size ≤ g) → KeepsC (CsP (W.heap.size + 1 + 1) W.heap.size v) X w1 → ∀ g, g < W.heap.size → w1.heap[g]? = X.heap[g]? := fun v w1 hv hk g hg => hk.block (by omega) (by rintro (e | e | e); omega; omega; have := hv g e; omega)
  have HKh := Lib.hid HK
  clear hW hX hB hBX q0 q1 q2 q3 q4 m0 m1 m2 hM hA hA2 hP hAX hAX2 hLM hFM y0 HK hBwX hWz hXz
  go_enter Try.func47, Try.ntmps47
  go_upto_region 1 with fail
  rw [HW.out]
  go_upto_region 2 with fail
  rw [HX.out]
  have hb0 : ∀ (w1 : World), KeepsC (CsP (W.heap.size + 1 + 1) W.heap.size (.slice none 0 0)) X w1 → Below w.heap.size w w1 := fun w1 hk => HBw.out.trans (hk.below HBw.out.size fun g hg => by have := HWz.out; rintro (e | e | e); omega; omega; cases e)
  have Hb0 := Lib.hid hb0
  clear hb0
  have hne : ¬ w.heap.size + 1 + 1 + 1 = w.heap.size + 1 + 1 + 1 + 1 := by omega
  cases hks : layK o.prec.length s with
  | false =>
    rw [hks] at h1
    have H1 := Lib.hid h1
    have Hks := Lib.hid hks
    clear h1 hks
    go_wp2_with (first
      | (go_at_call 64; (with_reducible refine H1.out.mono ?_); go_must (rintro e w1 ⟨rfl, v1, H1, L1, p1, k1, n1, _⟩; have r3 := (HKh.out _ w1 (fun g e => by cases e) k1 _ (by have := HWz.out; omega)).trans Q3.out; have r4 := (HKh.out _ w1 (fun g e => by cases e) k1 _ (by have := HWz.out; omega)).trans Q4.out; obtain ⟨u0, u1, u2, u3⟩ := cells_two r3; obtain ⟨v0, v1, v2, v3⟩ := cells_two r4; have HR := Lib.hid (two_res hne r3 r4 (.pointer none) (.int .i64 0) (.pointer none) (.int .i64 0)); have Hbw := Lib.hid (Hb0.out w1 k1); clear p1 k1 n1 r3 r4))
      | fail)
    obtain ⟨e0, e1, e2, e3⟩ := HR.out
    refine bodyPost_ret (v := .tuple #[.agg #[.pointer none, .int .i64 0], .agg #[.pointer none, .int .i64 0], .bool false]) (by simp [results, Try.results47, go_sem, e0, e1, e2, e3]) rfl ⟨?_, fun h => ?_, fun _ => rfl⟩
    · exact (((Hbw.out.setCell (show w.heap.size ≤ w.heap.size + 1 + 1 + 1 by omega) _).setCell (show w.heap.size ≤ w.heap.size + 1 + 1 + 1 by omega) _).setCell (show w.heap.size ≤ w.heap.size + 1 + 1 + 1 + 1 by omega) _).setCell (show w.heap.size ≤ w.heap.size + 1 + 1 + 1 + 1 by omega) _
    · rw [Hks.out] at h; cases h.1
  | true =>
    rw [hks] at h1
    have H1 := Lib.hid h1
    have Hks := Lib.hid hks
    clear h1 hks
    go_upto_region 5 with (first
      | (go_at_call 64; (with_reducible refine H1.out.mono ?_); go_must (
        rintro e w1 ⟨rfl, v1, Hd1, L1, p1, k1, n1, e1x⟩
        obtain ⟨e1, l1⟩ := e1x rfl
        clear e1x
        rw [List.nil_append] at e1
        have hz1 := k1.size
        have hlen1 : Hd1.length = s.size := by rw [e1, hdT_len]
        have hL1 : L1.length + 1 ≤ s.size := by have := nm_len o.prec.length s []; rw [← l1] at this; simpa using this
        obtain ⟨A3, c3, rfl, _⟩ := p1.pair (by omega)
        have hv3 : ∀ g, (Value.slice A3 Hd1.length c3).ownBlock = some g → X.heap.size ≤ g := fun g e => by
          rcases n1 g e with a | a
          · cases a
          · exact a
        have r2 := (HKh.out _ w1 (fun g e => by cases e) k1 _ (by have := HWz.out; omega)).trans Q2.out
        have r3 := (HKh.out _ w1 (fun g e => by cases e) k1 _ (by have := HWz.out; omega)).trans Q3.out
        have r4 := (HKh.out _ w1 (fun g e => by cases e) k1 _ (by have := HWz.out; omega)).trans Q4.out
        obtain ⟨t0, t1, _, _⟩ := cells_two r2
        obtain ⟨_, b1, _, _⟩ := cells_four p1.box
        have hA1 := HA2.out.keep fun g (hg : g < w.heap.size) => HKh.out _ w1 (fun g e => by cases e) k1 g (by have := HWz.out; omega)
        have h2 := lpLay_all (B0 := w.heap.size) (bp := W.heap.size + 1 + 1) (bm := W.heap.size) (P := P) (rk := o.prec) (pc := pc) (mf := .map (some (W.heap.size + 1))) t w1 _ Hd1 L1 A2 c2 p1 (by omega) (by omega) hg hA1
        unfold LayPost at h2
        have P1 := Lib.hid p1
        have K1 := Lib.hid k1
        have N1 := Lib.hid n1
        have E1 := Lib.hid e1
        have F1 := Lib.hid l1
        have R3 := Lib.hid r3
        have R4 := Lib.hid r4
        have Hv3 := Lib.hid hv3
        have HL := Lib.hid hlen1
        clear p1 k1 n1 e1 l1 r2 r3 r4 hA1 hv3 hlen1))
      | fail)
    have HKK : Hid (∀ w2, KeepsC (CsP (W.heap.size + 1 + 1) W.heap.size (.slice A3 Hd1.length c3)) w1 w2 → (∀ g, g < W.heap.size → w2.heap[g]? = w1.heap[g]?) ∧ Below w.heap.size w w2) := Lib.hid fun w2 hk => by
      have h1 := HWz.out
      have h2 := HXz.out
      have hc : ∀ g, g < W.heap.size → ¬ CsP (W.heap.size + 1 + 1) W.heap.size (.slice A3 Hd1.length c3) g := fun g hg => by
        rintro (e | e | e)
        · omega
        · omega
        · have := Hv3.out g e; omega
      exact ⟨fun g hg => hk.block (by omega) (hc g hg), (Hb0.out w1 K1.out).trans (hk.below (by omega) fun g hg => hc g (by omega))⟩
    cases hkt : layK o.prec.length t with
    | false =>
      rw [hkt] at h2
      have H2 := Lib.hid h2
      have Hkt := Lib.hid hkt
      clear h2 hkt
      go_wp2_with (first
        | (go_at_call 64; (with_reducible refine H2.out.mono ?_); go_must (rintro e w2 ⟨rfl, v2, H2', L2, p2, k2, n2, _⟩; obtain ⟨kb, kw⟩ := HKK.out w2 k2; have r3 := (kb _ (by have := HWz.out; omega)).trans R3.out; have r4 := (kb _ (by have := HWz.out; omega)).trans R4.out; obtain ⟨u0, u1, u2, u3⟩ := cells_two r3; obtain ⟨v0, v1', v2', v3⟩ := cells_two r4; have HR := Lib.hid (two_res hne r3 r4 (.pointer none) (.int .i64 0) (.pointer none) (.int .i64 0)); have Hbw := Lib.hid kw; clear p2 k2 n2 r3 r4 kb kw))
        | fail)
      obtain ⟨e0, e1, e2, e3⟩ := HR.out
      refine bodyPost_ret (v := .tuple #[.agg #[.pointer none, .int .i64 0], .agg #[.pointer none, .int .i64 0], .bool false]) (by simp [results, Try.results47, go_sem, e0, e1, e2, e3]) rfl ⟨?_, fun h => ?_, fun _ => rfl⟩
      · exact (((Hbw.out.setCell (show w.heap.size ≤ w.heap.size + 1 + 1 + 1 by omega) _).setCell (show w.heap.size ≤ w.heap.size + 1 + 1 + 1 by omega) _).setCell (show w.heap.size ≤ w.heap.size + 1 + 1 + 1 + 1 by omega) _).setCell (show w.heap.size ≤ w.heap.size + 1 + 1 + 1 + 1 by omega) _
      · rw [Hkt.out] at h; cases h.2
    | true =>
      rw [hkt] at h2
      have H2 := Lib.hid h2
      have Hkt := Lib.hid hkt
      clear h2 hkt
      go_wp2_with (first
        | (go_at_call 64; (with_reducible refine H2.out.mono ?_); go_must (rintro e w2 ⟨rfl, v2, H2', L2, p2, k2, n2, e2x⟩; obtain ⟨e2, l2⟩ := e2x rfl; clear e2x; obtain ⟨kb, kw⟩ := HKK.out w2 k2; have r3 := (kb _ (by have := HWz.out; omega)).trans R3.out; have r4 := (kb _ (by have := HWz.out; omega)).trans R4.out; obtain ⟨u0, u1, u2, u3⟩ := cells_two r3; obtain ⟨v0, v1', v2', v3⟩ := cells_two r4; have HR := Lib.hid (two_res hne r3 r4 (.pointer (some ⟨W.heap.size + 1 + 1, 0, none⟩)) (.int .i64 0) (.pointer (some ⟨W.heap.size + 1 + 1, 0, none⟩)) (.int .i64 (Hd1.length : Int))); have Hbw := Lib.hid kw; have P2 := Lib.hid p2; have K2 := Lib.hid k2; have N2 := Lib.hid n2; have E2 := Lib.hid e2; have F2 := Lib.hid l2; clear p2 k2 n2 e2 l2 r3 r4 kb kw))
        | fail)
      obtain ⟨e0, e1, e2, e3⟩ := HR.out
      obtain ⟨Wf, hWf⟩ : ∃ Wf, ((((w2.setCell ⟨w.heap.size + 1 + 1 + 1, 0, none⟩ (.pointer (some ⟨W.heap.size + 1 + 1, 0, none⟩))).setCell ⟨w.heap.size + 1 + 1 + 1, 1, none⟩ (.int .i64 0)).setCell ⟨w.heap.size + 1 + 1 + 1 + 1, 0, none⟩ (.pointer (some ⟨W.heap.size + 1 + 1, 0, none⟩))).setCell ⟨w.heap.size + 1 + 1 + 1 + 1, 1, none⟩ (.int .i64 (Hd1.length : Int))) = Wf := ⟨_, rfl⟩
      refine bodyPost_ret (v := .tuple #[.agg #[.pointer (some ⟨W.heap.size + 1 + 1, 0, none⟩), .int .i64 0], .agg #[.pointer (some ⟨W.heap.size + 1 + 1, 0, none⟩), .int .i64 (Hd1.length : Int)], .bool true]) (by simp [results, Try.results47, go_sem, e0, e1, e2, e3]) rfl ⟨?_, fun h => ?_, fun h => absurd ⟨Hks.out, Hkt.out⟩ h⟩
      · exact (((Hbw.out.setCell (show w.heap.size ≤ w.heap.size + 1 + 1 + 1 by omega) _).setCell (show w.heap.size ≤ w.heap.size + 1 + 1 + 1 by omega) _).setCell (show w.heap.size ≤ w.heap.size + 1 + 1 + 1 + 1 by omega) _).setCell (show w.heap.size ≤ w.heap.size + 1 + 1 + 1 + 1 by omega) _
      · have hWzz := HWz.out
        have hXzz := HXz.out
        have k1 := K1.out
        have k2 := K2.out
        have hs1 := k1.size
        have hs2 := k2.size
        have hz : Wf.heap.size = w2.heap.size := by rw [← hWf]; simp
        have hoth : ∀ g, g ≠ w.heap.size + 1 + 1 + 1 → g ≠ w.heap.size + 1 + 1 + 1 + 1 → Wf.heap[g]? = w2.heap[g]? := fun g h3 h4 => by
          rw [← hWf]
          exact (heap_setCell_other _ _ _ _ h4).trans ((heap_setCell_other _ _ _ _ h4).trans ((heap_setCell_other _ _ _ _ h3).trans (heap_setCell_other _ _ _ _ h3)))
        have hv2 : ∀ g, v2.ownBlock = some g → X.heap.size ≤ g := fun g e => by
          rcases N2.out g e with a | a
          · exact Hv3.out g a
          · omega
        have pf : PrL Wf w.heap.size (W.heap.size + 1 + 1) W.heap.size P o.prec pc (.map (some (W.heap.size + 1))) v2 H2' L2 := P2.out.keep fun g hg => hoth g (by
          rcases hg with e | e | e | e
          · omega
          · omega
          · omega
          · have := hv2 g e; omega) (by
          rcases hg with e | e | e | e
          · omega
          · omega
          · omega
          · have := hv2 g e; omega)
        have hfm : Wf.heap[W.heap.size + 1]? = X.heap[W.heap.size + 1]? := (hoth _ (by omega) (by omega)).trans ((k2.block (by omega) (by
          rintro (e | e | e)
          · omega
          · omega
          · have := Hv3.out _ e; omega)).trans (k1.block (by omega) (by
          rintro (e | e | e)
          · omega
          · omega
          · cases e)))
        obtain ⟨A', hc', hT⟩ := two_of_laid (w := w) (X := X) (w1 := w1) (w2 := Wf) (bf := W.heap.size + 1) (F := fdF o.prec o.prec.length L2) (by omega) (Nat.le_refl _) (by omega) (by omega) ((HFM.out _).kept hfm) hs1 (by omega) rfl Hks.out Hkt.out (layK_vn s Hks.out) (layK_vn t Hkt.out) hn N1.out E1.out F1.out pf (fun g e => N2.out g e) E2.out F2.out
        rw [hWf]
        refine ⟨_, _, _, _, _, _, _, _, _, _, ?_, hT⟩
        rw [HL.out]

end Go.Proofs.Ytgjmodclgdkodaa

/- lpo: Cmp, Above. -/

namespace Go.Proofs.Ytgjmodclgdkodaa

open Go.RowKit Go.Shelf Go.Maps
set_option maxRecDepth 100000

set_option maxHeartbeats 1000000 in
theorem lpoCmp_any (o : Odr) (s t : Tm) (P Q A A2 : Option Addr) (pc qc c c2 : Nat) (w : World) (hM : OdrM w w.heap.size o P Q) (hrk : o.prec.length ≤ 140737488351232) (hf : I64 s.fn) (hg : I64 t.fn) (hn : s.size + t.size ≤ 1073741824) (hA : ArgsK w (· < w.heap.size) A c s.args) (hA2 : ArgsK w (· < w.heap.size) A2 c2 t.args) :
    Calls Try.prog 32 #[.agg #[.bool o.lpo, .slice P o.prec.length pc, .slice Q o.wts.length qc, .int .i64 o.var], .agg #[.int .i64 s.fn, .slice A s.args.length c], .agg #[.int .i64 t.fn, .slice A2 t.args.length c2]] w fun e w' => e = .returned (.int .i64 (cmpP o.prec s t)) ∧ Below w.heap.size w w' := by
  obtain ⟨q0, q1, q2⟩ := heap3 w (.cells #[.bool o.lpo, .slice P o.prec.length pc, .slice Q o.wts.length qc, .int .i64 o.var] 27) (.cells #[.int .i64 s.fn, .slice A s.args.length c] 39) (.cells #[.int .i64 t.fn, .slice A2 t.args.length c2] 39)
  obtain ⟨W, hW⟩ : ∃ W, (((w.alloc (.cells #[.bool o.lpo, .slice P o.prec.length pc, .slice Q o.wts.length qc, .int .i64 o.var] 27)).alloc (.cells #[.int .i64 s.fn, .slice A s.args.length c] 39)).alloc (.cells #[.int .i64 t.fn, .slice A2 t.args.length c2] 39)) = W := ⟨_, rfl⟩
  have hB : Below w.heap.size w W := by rw [← hW]; exact (((Below.refl _ _).alloc (Nat.le_refl _) _).alloc (by simp) _).alloc (by simp; omega) _
  rw [hW] at q0 q1 q2
  obtain ⟨x0, x1, x2, x3⟩ := cells_four q0
  obtain ⟨y0, y1, _, _⟩ := cells_two q1
  obtain ⟨z0, z1, _, _⟩ := cells_two q2
  have hL := lpoLay_any o s t P Q A A2 pc qc c c2 W (hM.on hB) hrk hf hg (by omega) ((hA.on hB).toN) ((hA2.on hB).toN)
  have HL := Lib.hid hL
  have HW := Lib.hid hW
  have HB := Lib.hid hB
  clear hW hB q0 q1 q2 hM hA hA2 hL
  by_cases hk : layK o.prec.length s = true ∧ layK o.prec.length t = true
  · have hcm : cmpP o.prec s t = (if cmpT s t = 0 then 2 else if lpT o.prec s t then 3 else if lpT o.prec t s then 1 else 0) := by unfold cmpP; rw [hk.1, hk.2]; rfl
    go_enter Try.func32, Try.ntmps32
    go_upto_region 1 with fail
    rw [HW.out]
    go_upto_region 4 with (first
      | (go_at_call 47; (with_reducible refine HL.out.mono ?_); go_must (rintro e w1 ⟨hb1, hyes, _⟩; obtain ⟨bp, P3, pc3, n, bf, A3, H, hc, ml, M, rfl, hT⟩ := hyes hk; have hb1 := Lib.hid hb1; have HT := Lib.hid hT; clear hT hyes))
      | fail)
    obtain ⟨p0, p1⟩ := heap2 w1 (.cells #[.pointer (some ⟨bp, 0, none⟩), .int .i64 0] 94) (.cells #[.pointer (some ⟨bp, 0, none⟩), .int .i64 (s.size : Int)] 94)
    obtain ⟨X, hX⟩ : ∃ X, (w1.alloc (.cells #[.pointer (some ⟨bp, 0, none⟩), .int .i64 0] 94)).alloc (.cells #[.pointer (some ⟨bp, 0, none⟩), .int .i64 (s.size : Int)] 94) = X := ⟨_, rfl⟩
    have hBX : Below w1.heap.size w1 X := by rw [← hX]; exact ((Below.refl _ _).alloc (Nat.le_refl _) _).alloc (by simp) _
    rw [hX] at p0 p1 ⊢
    have hT := HT.out
    have hXl := (Array.getElem?_eq_some_iff.1 p1).1
    have hIX := hT.fd.on hBX
    have hbf1 := hT.fd.lf
    have hnl1 := hT.fd.nl
    have hnb := hT.nb
    have hWs := HB.out.size
    have hw1 := hb1.out.size
    obtain ⟨u0, u1, _, _⟩ := cells_two p0
    obtain ⟨v0, v1, _, _⟩ := cells_two p1
    have hHl : H.length ≤ 1073741824 := by rw [hT.len]; exact hn
    have AB : Hid (∀ w2, FdW w2 n bp bf P3 o.prec pc3 A3 H hc ml (fdF o.prec o.prec.length M) → Calls Try.prog 49 #[.agg #[.pointer (some ⟨bp, 0, none⟩), .int .i64 0], .agg #[.pointer (some ⟨bp, 0, none⟩), .int .i64 (s.size : Int)]] w2 fun e w' => e = .returned (.bool (lpT o.prec s t)) ∧ KeepsC (· = bf) w2 w' ∧ FdW w' n bp bf P3 o.prec pc3 A3 H hc ml (fdF o.prec o.prec.length M)) := Lib.hid fun w2 h2 => abv_all hT.nd hHl (s.size + t.size) s t 0 s.size w2 (Nat.le_refl _) hT.os hT.ot hT.a1 hT.a2 h2
    have BA : Hid (∀ w2, FdW w2 n bp bf P3 o.prec pc3 A3 H hc ml (fdF o.prec o.prec.length M) → Calls Try.prog 49 #[.agg #[.pointer (some ⟨bp, 0, none⟩), .int .i64 (s.size : Int)], .agg #[.pointer (some ⟨bp, 0, none⟩), .int .i64 0]] w2 fun e w' => e = .returned (.bool (lpT o.prec t s)) ∧ KeepsC (· = bf) w2 w' ∧ FdW w' n bp bf P3 o.prec pc3 A3 H hc ml (fdF o.prec o.prec.length M)) := Lib.hid fun w2 h2 => abv_all hT.nd hHl (t.size + s.size) t s s.size 0 w2 (Nat.le_refl _) hT.ot hT.os hT.a2 hT.a1 h2
    have hsm : Calls Try.prog 48 #[.agg #[.pointer (some ⟨bp, 0, none⟩), .int .i64 0], .agg #[.pointer (some ⟨bp, 0, none⟩), .int .i64 (s.size : Int)]] X fun e w' => e = .returned (.bool (decide (cmpT s t = 0))) ∧ Below X.heap.size X w' := by
      have := lpoSame_any X hIX.pr hT.a1.top' hT.a2.top'
      rwa [topH_same hT.nd hT.os hT.ot] at this
    have HIX := Lib.hid hIX
    have P0 := Lib.hid p0
    have P1 := Lib.hid p1
    have hend : Hid (∀ wf, KeepsC (· = bf) X wf → Below w.heap.size w wf) := Lib.hid fun wf hk => by
      have h1 : Below w.heap.size w X := (HB.out.trans (hb1.out.mono HB.out.size)).trans (hBX.mono (by omega))
      exact h1.trans (hk.below h1.size fun g hg => by omega)
    have hBXs := hBX.size
    clear hT hIX p0 p1 hX hBX HT hHl
    by_cases hc0 : cmpT s t = 0
    · have hfin := Lib.hid (show cmpP o.prec s t = 2 by rw [hcm, if_pos hc0])
      rw [decide_eq_true hc0] at hsm
      have HS := Lib.hid hsm
      clear hsm hc0 hcm
      go_wp2_with (first
        | (go_at_call 48; (with_reducible refine HS.out.mono ?_); go_must (rintro e w2 ⟨rfl, hb2⟩))
        | fail)
      go_ret
      exact ⟨ret_int hfin.out.symm, hend.out _ (KeepsC.of_below hb2)⟩
    · rw [decide_eq_false hc0] at hsm
      rw [if_neg hc0] at hcm
      have HS := Lib.hid hsm
      clear hsm hc0
      go_upto_region 6 with (first
        | (go_at_call 48; (with_reducible refine HS.out.mono ?_); go_must (rintro e w2 ⟨rfl, hb2⟩; obtain ⟨a0, a1, _, _⟩ := cells_two ((hb2.block _ (show w1.heap.size < X.heap.size by omega)).trans P0.out); obtain ⟨d0, d1, _, _⟩ := cells_two ((hb2.block _ hXl).trans P1.out)))
        | fail)
      have hI2 := HIX.out.on hb2
      have hA1 := AB.out w2 hI2
      have hz2 := hb2.size
      cases hst : lpT o.prec s t with
      | true =>
        rw [hst] at hA1
        rw [hst, if_pos rfl] at hcm
        have hfin := Lib.hid hcm
        have HA1 := Lib.hid hA1
        clear hcm hst hA1 hI2
        go_wp2_with (first
          | (go_at_call 49; (with_reducible refine HA1.out.mono ?_); go_must (rintro e w3 ⟨rfl, hk3, hI3⟩; have hI3 := Lib.hid hI3))
          | fail)
        go_ret
        exact ⟨ret_int hfin.out.symm, hend.out _ ((KeepsC.of_below hb2).trans hk3)⟩
      | false =>
        rw [hst] at hA1
        rw [hst, if_neg (by simp)] at hcm
        have HA1 := Lib.hid hA1
        clear hst hA1 hI2
        go_upto_region 8 with (first
          | (go_at_call 49; (with_reducible refine HA1.out.mono ?_); go_must (rintro e w3 ⟨rfl, hk3, hI3⟩; have hI3 := Lib.hid hI3; have hk23 := (KeepsC.of_below (C := (· = bf)) hb2).trans hk3; obtain ⟨r0, r1, _, _⟩ := cells_two ((hk23.block (show w1.heap.size < X.heap.size by omega) (show ¬ w1.heap.size = bf by omega)).trans P0.out); obtain ⟨s0, s1, _, _⟩ := cells_two ((hk23.block hXl (show ¬ w1.heap.size + 1 = bf by omega)).trans P1.out)))
          | fail)
        have hB1 := BA.out w3 hI3.out
        cases hts : lpT o.prec t s with
        | true =>
          rw [hts] at hB1
          rw [hts, if_pos rfl] at hcm
          have hfin := Lib.hid hcm
          have HB1 := Lib.hid hB1
          clear hcm hts hB1
          go_wp2_with (first
            | (go_at_call 49; (with_reducible refine HB1.out.mono ?_); go_must (rintro e w4 ⟨rfl, hk4, hI4⟩; have hI4 := Lib.hid hI4))
            | fail)
          go_ret
          exact ⟨ret_int hfin.out.symm, hend.out _ (hk23.trans hk4)⟩
        | false =>
          rw [hts] at hB1
          rw [hts, if_neg (by simp)] at hcm
          have hfin := Lib.hid hcm
          have HB1 := Lib.hid hB1
          clear hcm hts hB1
          go_wp2_with (first
            | (go_at_call 49; (with_reducible refine HB1.out.mono ?_); go_must (rintro e w4 ⟨rfl, hk4, hI4⟩; have hI4 := Lib.hid hI4))
            | fail)
          go_ret
          exact ⟨ret_int hfin.out.symm, hend.out _ (hk23.trans hk4)⟩
  · have hfin := Lib.hid (show cmpP o.prec s t = 0 by
      unfold cmpP
      rw [if_neg (by simpa using hk)])
    go_enter Try.func32, Try.ntmps32
    go_upto_region 1 with fail
    rw [HW.out]
    go_wp2_with (first
      | (go_at_call 47; (with_reducible refine HL.out.mono ?_); go_must (rintro e w1 ⟨hb1, _, hno⟩; obtain rfl := hno hk; have hb1 := Lib.hid hb1))
      | fail)
    go_ret
    exact ⟨ret_int hfin.out.symm, (HB.out.trans (hb1.out.mono HB.out.size)).trans (((Below.refl _ _).alloc (Nat.le_trans HB.out.size hb1.out.size) _).alloc (by simp; have := HB.out.size; have := hb1.out.size; omega) _)⟩

end Go.Proofs.Ytgjmodclgdkodaa

/- lpo: the program's answers, in every world behind one. -/

namespace Go.Proofs.Ytgjmodclgdkodaa

open Go.RowKit Go.Shelf Go.Maps
set_option maxRecDepth 100000

theorem lpoCmp_at {W : World} {o : Odr} {s t : Tm} {P Q A A2 : Option Addr} {pc qc c c2 : Nat} (hrk : o.prec.length ≤ 140737488351232) (hM : OdrM W W.heap.size o P Q) (hs : TmK W s A c) (ht : TmK W t A2 c2) (hz : s.size + t.size ≤ 1073741824) : ∀ w1, Below W.heap.size W w1 →
    Calls Try.prog 32 #[.agg #[.bool o.lpo, .slice P o.prec.length pc, .slice Q o.wts.length qc, .int .i64 o.var], .agg #[.int .i64 s.fn, .slice A s.args.length c], .agg #[.int .i64 t.fn, .slice A2 t.args.length c2]] w1 fun e w' => e = .returned (.int .i64 (cmpP o.prec s t)) ∧ Below w1.heap.size w1 w' := fun w1 hb => by
  exact lpoCmp_any o s t P Q A A2 pc qc c c2 w1 (hM.on hb) hrk hs.i64 ht.i64 hz (hs.on hb).args (ht.on hb).args

end Go.Proofs.Ytgjmodclgdkodaa

/- order: terms that may be are ordered, by kbo's or lpo's order; literals, clauses, plain. -/

namespace Go.Proofs.Ytgjmodclgdkodaa

open Go.RowKit
set_option maxRecDepth 20000

/-- How two terms stand: by the order's own comparison. -/
def ordV (o : Odr) (s t : Tm) : Int := if o.lpo = true then cmpP o.prec s t else cmpR o s t

/-- How two members stand: what is the same is the same. -/
def tmI (o : Odr) (s t : Tm) : Int := if cmpT s t = 0 then 2 else ordV o s t

theorem ordV_in4 (o : Odr) (s t : Tm) : In4 (ordV o s t) := by
  unfold ordV cmpP cmpR In4
  split <;> (split <;> (try split) <;> (try split) <;> (try split) <;> simp)

theorem tmI_in4 (o : Odr) (s t : Tm) : In4 (tmI o s t) := by
  unfold tmI
  split
  · unfold In4; simp
  · exact ordV_in4 o s t

section

variable {l : List Sm} {o : Odr} (hc : chkO l o = 0)
include hc

theorem ordV_two {s t : Tm} (hs : Gd (arL l) s) (ht : Gd (arL l) t) : ordV o s t = 2 ↔ cmpT s t = 0 := by
  unfold ordV
  cases h : o.lpo with
  | true => rw [if_pos rfl]; exact cmpP_two (chkO_admL hc) hs ht
  | false => rw [if_neg (by decide)]; exact cmpR_two (chkO_adm h hc) hs ht

theorem tmI_eq {s t : Tm} (hs : Gd (arL l) s) (ht : Gd (arL l) t) : tmI o s t = ordV o s t := by
  unfold tmI
  split
  · rename_i h; exact ((ordV_two hc hs ht).2 h).symm
  · rfl

theorem ord_terms : OrdOn (ordV o) (Gd (arL l)) where
  self := fun {x} hx => (ordV_two hc hx hx).2 (cmp_zero_iff.2 rfl)
  turn := fun {x y} hx hy => by
    unfold ordV
    cases h : o.lpo with
    | true => rw [if_pos rfl, if_pos rfl]; exact cmpP_turn (chkO_admL hc) hx hy
    | false => rw [if_neg (by decide), if_neg (by decide)]; exact cmpR_turn (chkO_adm h hc) hx hy
  trans := fun {x y z} hx hy hz e1 e2 => by
    unfold ordV at e1 e2 ⊢
    cases h : o.lpo with
    | true => rw [h, if_pos rfl] at e1 e2; rw [if_pos rfl]; exact cmpP_trans (chkO_admL hc) hx hy hz e1 e2
    | false => rw [h, if_neg (by decide)] at e1 e2; rw [if_neg (by decide)]; exact cmpR_trans (chkO_adm h hc) hx hy hz e1 e2
  cong := fun {x y z} hx hy hz e => by
    have := cmp_zero_iff.1 ((ordV_two hc hx hy).1 e)
    rw [this]
  in4 := fun {x y} _ _ => ordV_in4 o x y

theorem tm_ord : OrdOn (tmI o) (Gd (arL l)) where
  self := fun {x} hx => by rw [tmI_eq hc hx hx]; exact (ord_terms hc).self hx
  turn := fun {x y} hx hy => by rw [tmI_eq hc hy hx, tmI_eq hc hx hy]; exact (ord_terms hc).turn hx hy
  trans := fun {x y z} hx hy hz e1 e2 => by
    rw [tmI_eq hc hx hy] at e1; rw [tmI_eq hc hy hz] at e2; rw [tmI_eq hc hx hz]; exact (ord_terms hc).trans hx hy hz e1 e2
  cong := fun {x y z} hx hy hz e => by
    rw [tmI_eq hc hx hy] at e; rw [tmI_eq hc hx hz, tmI_eq hc hy hz]; exact (ord_terms hc).cong hx hy hz e
  in4 := fun {x y} _ _ => tmI_in4 o x y

end

/-- Two literals, as multisets of multisets. -/
def sdR (o : Odr) : List Tm → List Tm → Int := mulR (tmI o)

def ltR (o : Odr) : List (List Tm) → List (List Tm) → Int := mulR (sdR o)

def clR (o : Odr) : List (List (List Tm)) → List (List (List Tm)) → Int := mulR (ltR o)

end Go.Proofs.Ytgjmodclgdkodaa

/- order: a grid in memory; add: a member is taken in, or a column out. -/

namespace Go.Proofs.Ytgjmodclgdkodaa

open Go.RowKit Go.Shelf
set_option maxRecDepth 100000

theorem info_rel : (Try.prog.info? 33).map (fun i => (i.zero, i.size, i.bytes)) = some (some (.int .i64 0), 1, 8) := by kernel_rfl

/-- One cell of a row of one's own is written. -/
theorem row_set1 {w : World} {base n : Nat} {e : TypeId} {v : Value} {vs : List Value} {g c : Nat} (h : w.ownsRow base e 1 v n vs) (hv : v = .slice (some ⟨g, 0, none⟩) n c) {i : Nat} (_hi : i < n) (u : Value) :
    (w.setCell ⟨g, i, none⟩ u).ownsRow base e 1 v n (vs.set i u) := by
  obtain ⟨h1, h2⟩ := h
  rcases h2 with ⟨rfl, h0⟩ | ⟨g', cap, cur, rfl, hb, hg, hn, hm, hs, ht⟩
  · cases hv
  · cases hv
    refine ⟨by rw [List.length_set]; exact h1, .inr ⟨g, c, cur.set! i u, rfl, hb, heap_setCell_same w g i cur e u hg, hn, hm, by simpa using hs, ?_⟩⟩
    rw [← ht]
    simp [List.take_set]

/-- A row of one's own, cut. -/
theorem row_cut1 {w : World} {base n : Nat} {e : TypeId} {A : Option Addr} {c k : Nat} {vs : List Value} (h : w.ownsRow base e 1 (.slice A n c) n vs) (hk : k ≤ n) : w.ownsRow base e 1 (.slice A k c) k (vs.take k) := by
  obtain ⟨h1, h2⟩ := h
  rcases h2 with ⟨hv, h0⟩ | ⟨g', cap, cur, hv, hb, hg, hn, hm, hs, ht⟩
  · injection hv with e1 e2 e3
    subst e1; subst e3; subst h0
    obtain rfl : k = 0 := by omega
    exact ⟨by simp, .inl ⟨rfl, rfl⟩⟩
  · injection hv with e1 e2 e3
    subst e1; subst e3
    refine ⟨by rw [List.length_take, h1]; omega, .inr ⟨g', c, cur, rfl, hb, hg, by omega, hm, hs, ?_⟩⟩
    rw [← ht, List.take_take]
    congr 1; omega

/-- A grid's own blocks. -/
def OwnG (bg : Nat) (v1 v2 v3 : Value) (g : Nat) : Prop := g = bg ∨ v1.ownBlock = some g ∨ v2.ownBlock = some g ∨ v3.ownBlock = some g

/-- A grid in memory: its blocks are of S. -/
structure GrdW (w : World) (S : Nat → Prop) (bg : Nat) (v1 v2 v3 : Value) (rels rows : List Int) (gone : List Bool) : Prop where
  box : w.heap[bg]? = some (.cells #[v1, v2, v3] 78)
  r1 : w.ownsRow 0 33 1 v1 rels.length (rels.map (Value.int .i64))
  r2 : w.ownsRow 0 3 1 v2 rows.length (rows.map (Value.int .i64))
  r3 : w.ownsRow 0 4 1 v3 gone.length (gone.map Value.bool)
  s : ∀ g, OwnG bg v1 v2 v3 g → S g

theorem row_ty {w : World} {base n size : Nat} {e e' : TypeId} {v : Value} {vs : List Value} {g : Nat} {cs : Array Value} (h : w.ownsRow base e size v n vs) (hg : w.heap[g]? = some (.cells cs e')) (hne : e ≠ e') : v.ownBlock ≠ some g := by
  intro hv
  rcases h.2 with ⟨rfl, _⟩ | ⟨g', cap, cur, rfl, hb, hg', _⟩
  · cases hv
  · simp [Value.ownBlock] at hv
    subst hv
    rw [hg] at hg'
    injection hg' with hg'
    injection hg' with _ e1
    exact hne e1.symm

theorem row_ty2 {w : World} {base base' n n' size size' : Nat} {e e' : TypeId} {v v' : Value} {vs vs' : List Value} (h : w.ownsRow base e size v n vs) (h' : w.ownsRow base' e' size' v' n' vs') (hne : e ≠ e') : ∀ g, v.ownBlock = some g → v'.ownBlock ≠ some g := by
  intro g hv
  rcases h.2 with ⟨rfl, _⟩ | ⟨g', cap, cur, rfl, hb, hg', _⟩
  · cases hv
  · simp [Value.ownBlock] at hv
    subst hv
    exact row_ty h' hg' (Ne.symm hne)

section

variable {w w' : World} {S T : Nat → Prop} {bg : Nat} {v1 v2 v3 : Value} {rels rows : List Int} {gone : List Bool}

theorem GrdW.lt (h : GrdW w S bg v1 v2 v3 rels rows gone) : ∀ g, OwnG bg v1 v2 v3 g → g < w.heap.size := by
  intro g hg
  rcases hg with rfl | e | e | e
  · exact (Array.getElem?_eq_some_iff.1 h.box).1
  · exact (row_lt h.r1 g e).2
  · exact (row_lt h.r2 g e).2
  · exact (row_lt h.r3 g e).2

theorem GrdW.keep (h : GrdW w S bg v1 v2 v3 rels rows gone) (hk : ∀ g, OwnG bg v1 v2 v3 g → w'.heap[g]? = w.heap[g]?) : GrdW w' S bg v1 v2 v3 rels rows gone :=
  ⟨(hk bg (.inl rfl)).trans h.box, row_keep h.r1 fun g e => hk g (.inr (.inl e)), row_keep h.r2 fun g e => hk g (.inr (.inr (.inl e))), row_keep h.r3 fun g e => hk g (.inr (.inr (.inr e))), h.s⟩

theorem GrdW.on (h : GrdW w S bg v1 v2 v3 rels rows gone) (hb : Below w.heap.size w w') : GrdW w' S bg v1 v2 v3 rels rows gone := h.keep fun g hg => hb.block g (h.lt g hg)

theorem GrdW.wide (h : GrdW w S bg v1 v2 v3 rels rows gone) (hs : ∀ g, OwnG bg v1 v2 v3 g → T g) : GrdW w T bg v1 v2 v3 rels rows gone := ⟨h.box, h.r1, h.r2, h.r3, hs⟩

theorem GrdW.gone_at (h : GrdW w S bg v1 v2 v3 rels rows gone) {i : Nat} {x : Bool} (hx : gone[i]? = some x) : ∃ g c, v3 = .slice (some ⟨g, 0, none⟩) gone.length c ∧ g < w.heap.size ∧ w.cell? ⟨g, i, none⟩ = some (.bool x) ∧ w.frozen? ⟨g, i, none⟩ = false := by
  have hlt := (List.getElem?_eq_some_iff.1 hx).1
  have hr := h.r3
  rcases hr.2 with ⟨_, h0⟩ | ⟨g, cap, cur, rfl, hb, hg, _⟩
  · omega
  · refine ⟨g, cap, rfl, (Array.getElem?_eq_some_iff.1 hg).1, ?_, frozen_9 hg i⟩
    rw [hr.cellAt i (by simpa using hlt)]
    simp [hx]

end

/-- A function value that is asked how a member stands to each column: in worlds where N's blocks are as in W. -/
structure ColC (k : FuncId) (fs cv : Array Value) (N : Nat → Prop) (W : World) (q : Nat → Int) (n : Nat) : Prop where
  ent : ∀ (args : Array Value) (w : World), (callFunc k args).run Try.prog w = .ok (.enter k args) w
  call : ∀ (j : Nat) (w : World), j < n → Keeps N W w → Calls Try.prog k (fs.push (.int .i64 (j : Int)) ++ cv) w fun e w' => e = .returned (.int .i64 (q j)) ∧ Below w.heap.size w w'

/-- What is laid for a member: nothing where a column is gone. -/
def colR (q : Nat → Int) (gone : List Bool) : List Int := (List.range gone.length).map fun j => if gone.getD j false = true then 0 else q j

theorem colR_len (q : Nat → Int) (gone : List Bool) : (colR q gone).length = gone.length := by unfold colR; simp

theorem colR_take {q : Nat → Int} {gone : List Bool} {i : Nat} (hi : i < gone.length) : (colR q gone).take (i + 1) = (colR q gone).take i ++ [if gone.getD i false = true then 0 else q i] := by
  have hl : i < (colR q gone).length := by rw [colR_len]; exact hi
  rw [List.take_add_one, List.getElem?_eq_getElem hl]
  simp [colR]

/-- What add does. -/
def AddP (q : Nat → Int) (rels rows : List Int) (gone : List Bool) (rels' rows' : List Int) (gone' : List Bool) : Prop :=
  (∃ j, gone[j]? = some false ∧ q j = 2 ∧ (∀ i, i < j → gone[i]? = some false → q i ≠ 2) ∧ rels' = rels ∧ rows' = rows ∧ gone' = gone.set j true) ∨
  ((∀ i, gone[i]? = some false → q i ≠ 2) ∧ gone' = gone ∧ rels' = rels ++ colR q gone ∧ rows' = rows ++ [(rels.length : Int)])

def AddPost (q : Nat → Int) (S : Nat → Prop) (bg : Nat) (v1 v2 v3 : Value) (rels rows : List Int) (gone : List Bool) (w : World) (e : Ending) (w' : World) : Prop :=
  e = .returned (.tuple #[]) ∧ ∃ v1' v2' rels' rows' gone', GrdW w' S bg v1' v2' v3 rels' rows' gone' ∧ AddP q rels rows gone rels' rows' gone' ∧ KeepsC (OwnG bg v1 v2 v3) w w'

theorem keepsC_setC {C : Nat → Prop} {w w1 : World} (h : KeepsC C w w1) {p : Addr} (hp : C p.block) (v : Value) : KeepsC C w (w1.setCell p v) :=
  Keeps.trans h ((Keeps.set w1 p v).mono fun _ hg e => hg.2 (e ▸ hp))

theorem keepsC_thru {C D : Nat → Prop} {w w1 w2 : World} (h : KeepsC C w w1) (k : KeepsC D w1 w2) (hd : ∀ g, g < w.heap.size → D g → C g) : KeepsC C w w2 :=
  Keeps.trans h (Keeps.mono k fun g e => ⟨Nat.lt_of_lt_of_le e.1 h.size, fun hg => e.2 (hd g e.1 hg)⟩)

theorem keepsC_grown {w w1 w5 : World} {o : Obj} {C : Nat → Prop} {row : Option Nat} (hgr : (w1.alloc o).grownBy w5 row) (hC : ∀ g, row = some g → C g) (h : KeepsC C w w1) : KeepsC C w w5 :=
  keepsC_thru (h.alloc o) (D := C) ⟨hgr.os, hgr.tape, hgr.output, hgr.size, fun g hg => hgr.block g hg.1 fun e => hg.2 (hC g e.symm)⟩ fun _ _ hg => hg

section

variable {w1 w5 : World} {S : Nat → Prop} {bg : Nat} {vr v2 v3 v5 : Value} {R rows : List Int} {gone : List Bool} {o : Obj} {x : Int}

theorem grd_app1 (h : GrdW w1 S bg vr v2 v3 R rows gone) (hS : ∀ g, w1.heap.size ≤ g → S g) (hown : w5.ownsRow 0 33 1 v5 (R.length + 1) (R.map (Value.int .i64) ++ [.int .i64 x])) (hgr : (w1.alloc o).grownBy w5 vr.ownBlock) (hat : v5.ownBlock = vr.ownBlock ∨ v5.ownBlock = some (w1.alloc o).heap.size) :
    w5.heap[bg]? = some (.cells #[vr, v2, v3] 78) ∧ GrdW (w5.setCell ⟨bg, 0, none⟩ v5) S bg v5 v2 v3 (R ++ [x]) rows gone ∧ KeepsC (OwnG bg vr v2 v3) w1 (w5.setCell ⟨bg, 0, none⟩ v5) ∧ (∀ g, v5.ownBlock = some g → vr.ownBlock = some g ∨ w1.heap.size ≤ g) := by
  have hne := row_ty h.r1 h.box (by decide)
  have hltb : bg < w1.heap.size := h.lt bg (.inl rfl)
  have hkeep : ∀ g, g < w1.heap.size → vr.ownBlock ≠ some g → w5.heap[g]? = w1.heap[g]? := fun g hg hn => (hgr.block g (by simp; omega) (fun e => hn e.symm)).trans (Below.heap_alloc w1 o g hg)
  have hat2 : ∀ g, v5.ownBlock = some g → vr.ownBlock = some g ∨ w1.heap.size ≤ g := fun g e => by
    rcases hat with h' | h'
    · rw [h'] at e; exact .inl e
    · rw [h'] at e; injection e with e; simp at e; exact .inr (by omega)
  have hb5 := (hkeep bg hltb hne).trans h.box
  have hset : ∀ g, g ≠ bg → (w5.setCell ⟨bg, 0, none⟩ v5).heap[g]? = w5.heap[g]? := fun g hg => heap_setCell_other _ _ _ _ hg
  have hn5 : v5.ownBlock ≠ some bg := fun e => (hat2 bg e).elim hne (fun h => by omega)
  refine ⟨hb5, ⟨heap_setCell_same w5 bg 0 _ _ v5 hb5, ?_, ?_, ?_, ?_⟩, keepsC_setC (keepsC_grown hgr (fun g e => .inr (.inl e)) (KeepsC.refl _ _)) (.inl rfl) v5, hat2⟩
  · rw [List.length_append, List.map_append]
    exact row_keep hown fun g e => hset g fun e' => hn5 (e' ▸ e)
  · exact row_keep h.r2 fun g e => (hset g fun e' => row_ty h.r2 h.box (by decide) (e' ▸ e)).trans (hkeep g (h.lt g (.inr (.inr (.inl e)))) (row_ty2 h.r2 h.r1 (by decide) g e))
  · exact row_keep h.r3 fun g e => (hset g fun e' => row_ty h.r3 h.box (by decide) (e' ▸ e)).trans (hkeep g (h.lt g (.inr (.inr (.inr e)))) (row_ty2 h.r3 h.r1 (by decide) g e))
  · intro g hg
    rcases hg with rfl | e | e | e
    · exact h.s g (.inl rfl)
    · rcases hat2 g e with e | e
      · exact h.s g (.inr (.inl e))
      · exact hS g e
    · exact h.s g (.inr (.inr (.inl e)))
    · exact h.s g (.inr (.inr (.inr e)))

theorem grd_app2 (h : GrdW w1 S bg vr v2 v3 R rows gone) (hS : ∀ g, w1.heap.size ≤ g → S g) (hown : w5.ownsRow 0 3 1 v5 (rows.length + 1) (rows.map (Value.int .i64) ++ [.int .i64 x])) (hgr : (w1.alloc o).grownBy w5 v2.ownBlock) (hat : v5.ownBlock = v2.ownBlock ∨ v5.ownBlock = some (w1.alloc o).heap.size) :
    w5.heap[bg]? = some (.cells #[vr, v2, v3] 78) ∧ GrdW (w5.setCell ⟨bg, 1, none⟩ v5) S bg vr v5 v3 R (rows ++ [x]) gone ∧ KeepsC (OwnG bg vr v2 v3) w1 (w5.setCell ⟨bg, 1, none⟩ v5) := by
  have hne := row_ty h.r2 h.box (by decide)
  have hltb : bg < w1.heap.size := h.lt bg (.inl rfl)
  have hkeep : ∀ g, g < w1.heap.size → v2.ownBlock ≠ some g → w5.heap[g]? = w1.heap[g]? := fun g hg hn => (hgr.block g (by simp; omega) (fun e => hn e.symm)).trans (Below.heap_alloc w1 o g hg)
  have hat2 : ∀ g, v5.ownBlock = some g → v2.ownBlock = some g ∨ w1.heap.size ≤ g := fun g e => by
    rcases hat with h' | h'
    · rw [h'] at e; exact .inl e
    · rw [h'] at e; injection e with e; simp at e; exact .inr (by omega)
  have hb5 := (hkeep bg hltb hne).trans h.box
  have hset : ∀ g, g ≠ bg → (w5.setCell ⟨bg, 1, none⟩ v5).heap[g]? = w5.heap[g]? := fun g hg => heap_setCell_other _ _ _ _ hg
  have hn5 : v5.ownBlock ≠ some bg := fun e => (hat2 bg e).elim hne (fun h => by omega)
  refine ⟨hb5, ⟨heap_setCell_same w5 bg 1 _ _ v5 hb5, ?_, ?_, ?_, ?_⟩, keepsC_setC (keepsC_grown hgr (fun g e => .inr (.inr (.inl e))) (KeepsC.refl _ _)) (.inl rfl) v5⟩
  · exact row_keep h.r1 fun g e => (hset g fun e' => row_ty h.r1 h.box (by decide) (e' ▸ e)).trans (hkeep g (h.lt g (.inr (.inl e))) (row_ty2 h.r1 h.r2 (by decide) g e))
  · rw [List.length_append, List.map_append]
    exact row_keep hown fun g e => hset g fun e' => hn5 (e' ▸ e)
  · exact row_keep h.r3 fun g e => (hset g fun e' => row_ty h.r3 h.box (by decide) (e' ▸ e)).trans (hkeep g (h.lt g (.inr (.inr (.inr e)))) (row_ty2 h.r3 h.r2 (by decide) g e))
  · intro g hg
    rcases hg with rfl | e | e | e
    · exact h.s g (.inl rfl)
    · exact h.s g (.inr (.inl e))
    · rcases hat2 g e with e | e
      · exact h.s g (.inr (.inr (.inl e)))
      · exact hS g e
    · exact h.s g (.inr (.inr (.inr e)))

/-- A column is out, and what was laid is cut back. -/
theorem grd_hit {A : Option Addr} {c n n0 c3 g3 j : Nat} (h : GrdW w1 S bg (.slice A n0 c) v2 v3 R rows gone) (hR : R.length = n0) (hv : v3 = .slice (some ⟨g3, 0, none⟩) gone.length c3) (hj : j < gone.length) (hn : n ≤ n0) :
    (w1.setCell ⟨g3, j, none⟩ (.bool true)).heap[bg]? = some (.cells #[.slice A n0 c, v2, v3] 78) ∧ GrdW ((w1.setCell ⟨g3, j, none⟩ (.bool true)).setCell ⟨bg, 0, none⟩ (.slice A n c)) S bg (.slice A n c) v2 v3 (R.take n) rows (gone.set j true) ∧
    KeepsC (OwnG bg (.slice A n0 c) v2 v3) w1 ((w1.setCell ⟨g3, j, none⟩ (.bool true)).setCell ⟨bg, 0, none⟩ (.slice A n c)) := by
  subst hR
  have h3 : v3.ownBlock = some g3 := by rw [hv]; rfl
  have hne3 : g3 ≠ bg := fun e => row_ty h.r3 h.box (by decide) (e ▸ h3)
  have hs1 : ∀ g, g ≠ g3 → (w1.setCell ⟨g3, j, none⟩ (.bool true)).heap[g]? = w1.heap[g]? := fun g hg => heap_setCell_other _ _ _ _ hg
  have hb := (hs1 bg (Ne.symm hne3)).trans h.box
  have hs2 : ∀ g, g ≠ bg → ((w1.setCell ⟨g3, j, none⟩ (.bool true)).setCell ⟨bg, 0, none⟩ (.slice A n c)).heap[g]? = (w1.setCell ⟨g3, j, none⟩ (.bool true)).heap[g]? := fun g hg => heap_setCell_other _ _ _ _ hg
  have hown : (Value.slice A n c).ownBlock = (Value.slice A R.length c).ownBlock := by cases A <;> rfl
  refine ⟨hb, ⟨heap_setCell_same _ bg 0 _ _ _ hb, ?_, ?_, ?_, ?_⟩, keepsC_setC (keepsC_setC (KeepsC.refl _ _) (.inr (.inr (.inr h3))) _) (.inl rfl) _⟩
  · have hr := row_cut1 h.r1 hn
    rw [List.length_take, Nat.min_eq_left hn, List.map_take]
    exact row_keep hr fun g e => (hs2 g fun e' => row_ty h.r1 h.box (by decide) (by rw [← hown, e, e'])).trans (hs1 g fun e' => row_ty2 h.r3 h.r1 (by decide) g3 h3 (by rw [← hown, e, e']))
  · exact row_keep h.r2 fun g e => (hs2 g fun e' => row_ty h.r2 h.box (by decide) (e' ▸ e)).trans (hs1 g fun e' => row_ty2 h.r3 h.r2 (by decide) g3 h3 (e' ▸ e))
  · have hr := row_set1 h.r3 hv hj (.bool true)
    rw [List.length_set, List.map_set]
    exact row_keep hr fun g e => hs2 g fun e' => row_ty h.r3 h.box (by decide) (e' ▸ e)
  · intro g hg
    rcases hg with rfl | e | e | e
    · exact h.s g (.inl rfl)
    · exact h.s g (.inr (.inl (hown ▸ e)))
    · exact h.s g (.inr (.inr (.inl e)))
    · exact h.s g (.inr (.inr (.inr e)))

end

end Go.Proofs.Ytgjmodclgdkodaa

/- order: add, walked. -/

namespace Go.Proofs.Ytgjmodclgdkodaa

open Go.RowKit Go.Shelf
set_option maxRecDepth 100000

theorem row_cap {w : World} {base n size : Nat} {e : TypeId} {A : Option Addr} {c : Nat} {vs : List Value} (h : w.ownsRow base e size (.slice A n c) n vs) : n ≤ c := by
  rcases h.2 with ⟨hv, h0⟩ | ⟨g', cap, cur, hv, _, _, hn, _⟩
  · omega
  · injection hv with _ _ e3; omega

section

variable {q : Nat → Int} {k : FuncId} {fs cv : Array Value} {N S : Nat → Prop} {bg : Nat} {v1 v2 v3 : Value} {rels rows : List Int} {gone : List Bool}

/-- What holds as columns are gone over. -/
structure AddI (q : Nat → Int) (S : Nat → Prop) (bg : Nat) (v1 v2 v3 : Value) (rels rows : List Int) (gone : List Bool) (w : World) (m : Nat) (A : Option Addr) (c : Nat) (wr : World) : Prop where
  g : GrdW wr S bg (.slice A (rels.length + m) c) v2 v3 (rels ++ (colR q gone).take m) rows gone
  kp : KeepsC (OwnG bg v1 v2 v3) w wr
  own : ∀ g, (Value.slice A (rels.length + m) c).ownBlock = some g → v1.ownBlock = some g ∨ w.heap.size ≤ g
  no : ∀ j, j < m → gone[j]? = some false → q j ≠ 2
  len : m ≤ gone.length

theorem AddI.rl {w wr : World} {m c : Nat} {A : Option Addr} (h : AddI q S bg v1 v2 v3 rels rows gone w m A c wr) : (rels ++ (colR q gone).take m).length = rels.length + m := by
  rw [List.length_append, List.length_take, colR_len, Nat.min_eq_left h.len]

theorem AddI.push {w wr w1 w5 : World} {m c : Nat} {A A5 : Option Addr} {c5 : Nat} {o : Obj} {x : Int} (h : AddI q S bg v1 v2 v3 rels rows gone w m A c wr) (hb : Below wr.heap.size wr w1) (hS : ∀ g, w.heap.size ≤ g → S g) (hm : m < gone.length) (hx : x = if gone.getD m false = true then 0 else q m) (hno : gone[m]? = some false → q m ≠ 2)
    (hown : w5.ownsRow 0 33 1 (.slice A5 (rels.length + m + 1) c5) (rels.length + m + 1) ((rels ++ (colR q gone).take m).map (Value.int .i64) ++ [.int .i64 x])) (hgr : (w1.alloc o).grownBy w5 (Value.slice A (rels.length + m) c).ownBlock) (hat : (Value.slice A5 (rels.length + m + 1) c5).ownBlock = (Value.slice A (rels.length + m) c).ownBlock ∨ (Value.slice A5 (rels.length + m + 1) c5).ownBlock = some (w1.alloc o).heap.size) :
    w5.heap[bg]? = some (.cells #[.slice A (rels.length + m) c, v2, v3] 78) ∧ AddI q S bg v1 v2 v3 rels rows gone w (m + 1) A5 c5 (w5.setCell ⟨bg, 0, none⟩ (.slice A5 (rels.length + m + 1) c5)) := by
  have hz : w.heap.size ≤ w1.heap.size := Nat.le_trans h.kp.size hb.size
  obtain ⟨h1, h2, h3, h4⟩ := grd_app1 (h.g.on hb) (fun g hg => hS g (Nat.le_trans hz hg)) (by rw [h.rl]; exact hown) hgr hat
  refine ⟨h1, ⟨?_, ?_, ?_, fun j hj => ?_, hm⟩⟩
  · rw [colR_take hm, ← hx, ← List.append_assoc]; exact h2
  · refine keepsC_thru (keepsC_thru h.kp (KeepsC.of_below (C := OwnG bg v1 v2 v3) hb) fun _ _ hg => hg) h3 fun g hg hd => ?_
    rcases hd with e | e | e | e
    · exact .inl e
    · rcases h.own g e with e | e
      · exact .inr (.inl e)
      · omega
    · exact .inr (.inr (.inl e))
    · exact .inr (.inr (.inr e))
  · intro g e
    rcases h4 g e with e | e
    · exact h.own g e
    · exact .inr (by omega)
  · by_cases e : j = m
    · subst e; exact hno
    · exact h.no j (by omega)

set_option maxHeartbeats 4000000 in
theorem gAdd_any (w : World) (hG : GrdW w S bg v1 v2 v3 rels rows gone) (hC : ColC k fs cv N w q gone.length) (hN : ∀ g, N g → g < w.heap.size ∧ ¬ OwnG bg v1 v2 v3 g) (hS : ∀ g, w.heap.size ≤ g → S g) (hl1 : rels.length + gone.length ≤ 1099511627776) (hl2 : rows.length ≤ 1099511627776) :
    Calls Try.prog 35 #[.pointer (some ⟨bg, 0, none⟩), .func (.func k) fs cv] w (AddPost q S bg v1 v2 v3 rels rows gone w) := by
  obtain ⟨A1, c1, rfl⟩ := row_slice hG.r1
  obtain ⟨A2, c2, rfl⟩ := row_slice hG.r2
  obtain ⟨A3, c3, rfl⟩ := row_slice hG.r3
  obtain ⟨i0, hi, hz0, hz1, hz2⟩ := info_parts info_rel
  obtain ⟨j0, hj, hy0, hy1, hy2⟩ := info_parts info_int
  obtain ⟨b0, b1, b2, _, _, _⟩ := cells_three hG.box
  have HI0 : Hid (AddI q S bg (.slice A1 rels.length c1) (.slice A2 rows.length c2) (.slice A3 gone.length c3) rels rows gone w 0 A1 c1 w) := Lib.hid ⟨by simpa using hG, KeepsC.refl _ _, fun g e => .inl e, fun j hj => absurd hj (Nat.not_lt_zero _), Nat.zero_le _⟩
  have HG := Lib.hid hG
  have HN := Lib.hid hN
  have HS := Lib.hid hS
  have HC := Lib.hid hC
  have hent := hC.ent
  clear hG hN hS hC
  go_enter Try.func35, Try.ntmps35
  go_wp2
  go_loopw [18] (fun i wr => ∃ (m : Nat) (A : Option Addr) (c : Nat), m ≤ gone.length ∧ i = .int .i64 (m : Int) ∧ Hid (AddI q S bg (.slice A1 rels.length c1) (.slice A2 rows.length c2) (.slice A3 gone.length c3) rels rows gone w m A c wr)) (fun i _ => gone.length - (intOf i).toNat)
  case atStart => exact ⟨0, A1, c1, Nat.zero_le _, rfl, HI0⟩
  case round =>
    obtain ⟨m, A, c, hm, rfl, HI⟩ := hrel
    by_cases hlt : m < gone.length
    · obtain ⟨x, hx⟩ : ∃ x, gone[m]? = some x := ⟨_, List.getElem?_eq_getElem hlt⟩
      obtain ⟨a0, a1, a2, _, _, _⟩ := cells_three HI.out.g.box
      obtain ⟨g3, c3', hv3, hg3, e3, f3⟩ := HI.out.g.gone_at hx
      injection hv3 with hA3 _ hc3
      subst hA3
      subst hc3
      have hrl : ∀ g, (Value.slice A (rels.length + m) c).ownBlock = some g → g < wr.heap.size := fun g e => HI.out.g.lt g (.inr (.inl e))
      have hwr1 : IntKind.i64.wrap ((m : Int) + 1) = (m : Int) + 1 := by rw [IntKind.wrap_i64]; omega
      have hbx : bg < wr.heap.size := HI.out.g.lt bg (.inl rfl)
      cases x with
      | true =>
        have hd : gone.getD m false = true := by rw [List.getD_eq_getElem?_getD, hx]; rfl
        have hpx : (0 : Int) = if gone.getD m false = true then 0 else q m := by rw [if_pos hd]
        have hpn : gone[m]? = some false → q m ≠ 2 := fun e => by rw [hx] at e; cases e
        have HPX := Lib.hid hpx
        have HPN := Lib.hid hpn
        clear hd hpx hpn hx
        go_wp2_with (first
          | (at_builtin
             go_must (
             refine wpList_append_own_at _ rfl _ _ 76 rfl 0 33 i0 (.int .i64 0) 1 8 Try.underlying76 hi hz0 hz1 hz2 rfl (by decide) (.slice A (rels.length + m) c) (rels.length + m) _ rfl (row_keep (by have := HI.out.g.r1; rwa [HI.out.rl] at this) fun g e => (Below.heap_alloc wr _ g (Nat.lt_of_lt_of_le (hrl g e) (Below.refl wr.heap.size wr).size)).trans ((Below.refl wr.heap.size wr).block g (hrl g e))) ⟨wr.heap.size, 0, none⟩ 1 1 [.int .i64 0] rfl rfl (cell_one_new _ _ _) (by simp [Value.oneCell']) (by unfold maxLen; omega) (by omega) (by simp) ?_
             intro v5 w5 hown5 hgr5 _ hat5
             obtain ⟨A5, c5, rfl⟩ := row_slice hown5
             have H5 := Lib.hid (HI.out.push (Below.refl wr.heap.size wr) HS.out hlt HPX.out HPN.out hown5 hgr5 hat5)
             have hfz := frozen_9 H5.out.1 0
             have hc5 := (cells_three H5.out.1).1
             clear hown5 hgr5 hat5))
          | fail)
        go_roundw
        case rel => exact ⟨m + 1, A5, c5, by omega, by go_num, Lib.hid H5.out.2⟩
        case measure => simp [intOf]; omega
      | false =>
        have hd : gone.getD m false = false := by rw [List.getD_eq_getElem?_getD, hx]; rfl
        have HQ := Lib.hid (HC.out.call m wr hlt (HI.out.kp.k.mono fun g hg => HN.out g hg))
        by_cases hq : q m = 2
        · rw [hq] at HQ
          have Hx := Lib.hid hx
          have Hq := Lib.hid hq
          have hcap : rels.length + m ≤ c := row_cap (HI.out.rl ▸ HI.out.g.r1)
          clear hx hq hd
          go_wp2_with (first
            | ((with_reducible refine HQ.out.mono ?_); go_must (rintro e w1 ⟨rfl, hb1⟩; have y0 := cell_on hb1 hbx a0; have y1 := cell_on hb1 hbx a1; have y2 := cell_on hb1 hbx a2; have z3 := cell_on hb1 hg3 e3; have u3 := (World.frozen?_of_block (a := ⟨g3, m, none⟩) (hb1.block g3 hg3)).trans f3; have HH := Lib.hid (grd_hit (n := rels.length) (HI.out.g.on hb1) HI.out.rl rfl hlt (by omega)); obtain ⟨t0, t1, t2, s0, s1, s2⟩ := cells_three HH.out.1))
            | fail)
          refine bodyPost_ret (v := .tuple #[]) (by simp [results, Try.results35, go_sem]) rfl ?_
          refine ⟨rfl, .slice A rels.length c, .slice A2 rows.length c2, rels, rows, gone.set m true, ?_, .inl ⟨m, Hx.out, Hq.out, HI.out.no, rfl, rfl, rfl⟩, ?_⟩
          · have := HH.out.2.1
            rwa [List.take_left' rfl] at this
          · refine keepsC_thru (keepsC_thru HI.out.kp (KeepsC.of_below (C := fun _ => False) hb1) fun _ _ hg => hg.elim) HH.out.2.2 fun g hg hd => ?_
            rcases hd with e | e | e | e
            · exact .inl e
            · rcases HI.out.own g e with e | e
              · exact .inr (.inl e)
              · omega
            · exact .inr (.inr (.inl e))
            · exact .inr (.inr (.inr e))
        · have hpx : q m = if gone.getD m false = true then 0 else q m := by rw [hd]; rfl
          have HPX := Lib.hid hpx
          have HPN : Hid (gone[m]? = some false → q m ≠ 2) := Lib.hid fun _ => hq
          obtain ⟨r, hr⟩ : ∃ r, q m = r := ⟨_, rfl⟩
          have hq2 : (r == 2) = false := by rw [← hr]; simpa using hq
          have HPX2 : Hid (r = if gone.getD m false = true then 0 else q m) := Lib.hid (hr ▸ HPX.out)
          rw [hr] at HQ
          clear hpx hd hx hq hr HPX
          go_wp2_with (first
            | (at_builtin
               go_must (
               refine wpList_append_own_at _ rfl _ _ 76 rfl 0 33 i0 (.int .i64 0) 1 8 Try.underlying76 hi hz0 hz1 hz2 rfl (by decide) (.slice A (rels.length + m) c) (rels.length + m) _ rfl (row_keep (by have := HI.out.g.r1; rwa [HI.out.rl] at this) fun g e => (Below.heap_alloc w1 _ g (Nat.lt_of_lt_of_le (hrl g e) hb1.size)).trans (hb1.block g (hrl g e))) ⟨w1.heap.size, 0, none⟩ 1 1 [.int .i64 r] rfl rfl (cell_one_new _ _ _) (by simp [Value.oneCell']) (by unfold maxLen; omega) (by omega) (by simp) ?_
               intro v5 w5 hown5 hgr5 _ hat5
               obtain ⟨A5, c5, rfl⟩ := row_slice hown5
               have H5 := Lib.hid (HI.out.push hb1 HS.out hlt HPX2.out HPN.out hown5 hgr5 hat5)
               have hfz := frozen_9 H5.out.1 0
               have hc5 := (cells_three H5.out.1).1
               clear hown5 hgr5 hat5))
            | ((with_reducible refine HQ.out.mono ?_); go_must (rintro e w1 ⟨rfl, hb1⟩; have y0 := cell_on hb1 hbx a0; have y1 := cell_on hb1 hbx a1; have y2 := cell_on hb1 hbx a2; have hz9 := hb1.size))
            | fail)
          go_roundw
          case rel => exact ⟨m + 1, A5, c5, by omega, by go_num, Lib.hid H5.out.2⟩
          case measure => simp [intOf]; omega
    · obtain rfl : m = gone.length := by omega
      obtain ⟨a0, a1, a2, _, _, _⟩ := cells_three HI.out.g.box
      have hrl : ∀ g, (Value.slice A2 rows.length c2).ownBlock = some g → g < wr.heap.size := fun g e => HI.out.g.lt g (.inr (.inr (.inl e)))
      have hz9 := HI.out.kp.size
      go_wp2_with (first
        | (at_builtin
           go_must (
           refine wpList_append_own_at _ rfl _ _ 25 rfl 0 3 j0 (.int .i64 0) 1 8 Try.underlying25 hj hy0 hy1 hy2 rfl (by decide) (.slice A2 rows.length c2) rows.length _ rfl (row_keep HI.out.g.r2 fun g e => Below.heap_alloc wr _ g (hrl g e)) ⟨wr.heap.size, 0, none⟩ 1 1 [.int .i64 (rels.length : Int)] rfl rfl (cell_one_new _ _ _) (by simp [Value.oneCell']) (by unfold maxLen; omega) (by omega) (by simp) ?_
           intro v5 w5 hown5 hgr5 _ hat5
           obtain ⟨A5, c5, rfl⟩ := row_slice hown5
           have H5 := Lib.hid (grd_app2 HI.out.g (fun g hg => HS.out g (Nat.le_trans hz9 hg)) hown5 hgr5 hat5)
           have hfz := frozen_9 H5.out.1 1
           have hc5 := (cells_three H5.out.1).2.1
           clear hown5 hgr5 hat5))
        | fail)
      go_end0
      refine ⟨rfl, _, _, _, _, gone, H5.out.2.1, .inr ⟨fun i h => HI.out.no i (List.getElem?_eq_some_iff.1 h).1 h, rfl, ?_, rfl⟩, ?_⟩
      · rw [List.take_of_length_le (by rw [colR_len]; omega)]
      · refine keepsC_thru HI.out.kp H5.out.2.2 fun g hg hd => ?_
        rcases hd with e | e | e | e
        · exact .inl e
        · rcases HI.out.own g e with e | e
          · exact .inr (.inl e)
          · omega
        · exact .inr (.inr (.inl e))
        · exact .inr (.inr (.inr e))

end

end Go.Proofs.Ytgjmodclgdkodaa

/- order: what a grid tells: columns, stand, turned; above: each of the second ones has one of the first. -/

namespace Go.Proofs.Ytgjmodclgdkodaa

open Go.RowKit Go.Shelf
set_option maxRecDepth 100000

/-- The columns that are left, of the first m. -/
def colsT (gone : List Bool) (m : Nat) : List Int := ((List.range m).filter fun j => !gone.getD j false).map fun j : Nat => (j : Int)

def colsI (gone : List Bool) : List Int := colsT gone gone.length

theorem colsT_succ (gone : List Bool) (m : Nat) : colsT gone (m + 1) = colsT gone m ++ (if gone.getD m false = true then [] else [(m : Int)]) := by
  unfold colsT
  rw [List.range_succ, List.filter_append, List.map_append]
  cases h : gone.getD m false <;> simp at h <;> simp [h]

theorem colsT_len (gone : List Bool) : ∀ m, (colsT gone m).length ≤ m
  | 0 => by simp [colsT]
  | m + 1 => by
    have := colsT_len gone m
    rw [colsT_succ, List.length_append]
    split <;> simp <;> omega

theorem colsT_mem {gone : List Bool} {m : Nat} {x : Int} (h : x ∈ colsT gone m) : ∃ j : Nat, x = (j : Int) ∧ j < m ∧ gone.getD j false = false := by
  unfold colsT at h
  obtain ⟨j, hj, rfl⟩ := List.mem_map.1 h
  rw [List.mem_filter, List.mem_range] at hj
  exact ⟨j, rfl, hj.1, by simpa using hj.2⟩

section

variable {S : Nat → Prop} {bg : Nat} {v1 v2 v3 : Value} {rels rows : List Int} {gone : List Bool}

theorem grown_below {w w1 w5 : World} {o : Obj} {v : Value} {e : TypeId} {n size : Nat} {vs : List Value} (hb : Below w.heap.size w w1) (hr : w1.ownsRow w.heap.size e size v n vs) (hgr : (w1.alloc o).grownBy w5 v.ownBlock) : Below w.heap.size w w5 :=
  (hb.alloc hb.size o).trans ⟨hgr.os, hgr.tape, hgr.output, hgr.size, fun g hg => hgr.block g (by have := hb.size; simp; omega) fun e => by have := (row_lt hr g e.symm).1; omega⟩

set_option maxHeartbeats 2000000 in
theorem gColumns_any (w : World) (hG : GrdW w S bg v1 v2 v3 rels rows gone) (hl : gone.length ≤ 1099511627776) :
    Calls Try.prog 52 #[.pointer (some ⟨bg, 0, none⟩)] w fun e w' => ∃ v, e = .returned v ∧ IntsR w' w.heap.size v (colsI gone) ∧ Below w.heap.size w w' := by
  obtain ⟨A3, c3, rfl⟩ := row_slice hG.r3
  obtain ⟨j0, hj, hy0, hy1, hy2⟩ := info_parts info_int
  obtain ⟨b0, b1, b2, _, _, _⟩ := cells_three hG.box
  have HI0 : Hid (IntsR w w.heap.size (.slice none 0 0) (colsT gone 0)) := Lib.hid ⟨⟨by simp [colsT], .inl ⟨rfl, rfl⟩⟩, fun x hx => by simp [colsT] at hx⟩
  have HG := Lib.hid hG
  clear hG
  go_enter Try.func52, Try.ntmps52
  go_wp2
  go_loopw [3, 11] (fun s i wr => ∃ (m : Nat), m ≤ gone.length ∧ i = .int .i64 (m : Int) ∧ Below w.heap.size w wr ∧ Hid (IntsR wr w.heap.size s (colsT gone m))) (fun _ i _ => gone.length - (intOf i).toNat)
  case atStart => exact ⟨0, Nat.zero_le _, rfl, Below.refl _ _, HI0⟩
  case round =>
    obtain ⟨m, hm, rfl, hBr, HI⟩ := hrel
    obtain ⟨A, c, rfl⟩ := row_slice HI.out.row
    by_cases hlt : m < gone.length
    · obtain ⟨x, hx⟩ : ∃ x, gone[m]? = some x := ⟨_, List.getElem?_eq_getElem hlt⟩
      obtain ⟨g3, c3', hv3, hg3, e3, f3⟩ := (HG.out.on hBr).gone_at hx
      injection hv3 with hA3 _ hc3
      subst hA3
      subst hc3
      have hwr1 : IntKind.i64.wrap ((m : Int) + 1) = (m : Int) + 1 := by rw [IntKind.wrap_i64]; omega
      have hcl := colsT_len gone m
      have hss := hBr.size
      have hrl := row_lt HI.out.row
      cases x with
      | true =>
        have HN : Hid (IntsR wr w.heap.size (.slice A (colsT gone m).length c) (colsT gone (m + 1))) := Lib.hid (by
          rw [colsT_succ, if_pos (by rw [List.getD_eq_getElem?_getD, hx]; rfl), List.append_nil]; exact HI.out)
        clear hx
        go_wp2
        go_roundw
        case rel => exact ⟨m + 1, by omega, by go_num, hBr, HN⟩
        case measure => simp [intOf]; omega
      | false =>
        have hcs : colsT gone (m + 1) = colsT gone m ++ [(m : Int)] := by rw [colsT_succ, if_neg (by rw [List.getD_eq_getElem?_getD, hx]; decide)]
        have HCS := Lib.hid hcs
        clear hx hcs
        go_wp2_with (first
          | (at_builtin
             go_must (
             refine wpList_append_own_at _ rfl _ _ 25 rfl w.heap.size 3 j0 (.int .i64 0) 1 8 Try.underlying25 hj hy0 hy1 hy2 rfl (by decide) (.slice A (colsT gone m).length c) (colsT gone m).length _ rfl (row_keep HI.out.row fun g e => Below.heap_alloc wr _ g (hrl g e).2) ⟨wr.heap.size, 0, none⟩ 1 1 [.int .i64 (m : Int)] rfl rfl (cell_one_new _ _ _) (by simp [Value.oneCell']) (by unfold maxLen; omega) (by omega) (by simp; omega) ?_
             intro v5 w5 hown5 hgr5 _ hat5
             obtain ⟨A5, c5, rfl⟩ := row_slice hown5
             have H5 := Lib.hid (ord_app HI.out (Below.refl _ _) (show I64 (m : Int) from ⟨by omega, by omega⟩) hown5 hgr5 hat5)
             have HB5 := Lib.hid (grown_below hBr HI.out.row hgr5)
             clear hown5 hgr5 hat5))
          | fail)
        go_roundw
        case rel => exact ⟨m + 1, by omega, by go_num, HB5.out, Lib.hid (by rw [HCS.out]; exact H5.out.row)⟩
        case measure => simp [intOf]; omega
    · obtain rfl : m = gone.length := by omega
      go_wp2
      go_ret
      exact ⟨_, rfl, HI.out, hBr⟩

theorem GrdW.rel_at {w : World} (h : GrdW w S bg v1 v2 v3 rels rows gone) {i : Nat} {x : Int} (hx : rels[i]? = some x) : ∃ g c, v1 = .slice (some ⟨g, 0, none⟩) rels.length c ∧ g < w.heap.size ∧ w.cell? ⟨g, i, none⟩ = some (.int .i64 x) := by
  have hlt := (List.getElem?_eq_some_iff.1 hx).1
  have hr := h.r1
  rcases hr.2 with ⟨_, h0⟩ | ⟨g, cap, cur, rfl, hb, hg, _⟩
  · omega
  · refine ⟨g, cap, rfl, (Array.getElem?_eq_some_iff.1 hg).1, ?_⟩
    rw [hr.cellAt i (by simpa using hlt)]
    simp [hx]

theorem gStand_any (w : World) (hG : GrdW w S bg v1 v2 v3 rels rows gone) {i j : Nat} {r : Int} (hx : rels[i + j]? = some r) (hl : rels.length ≤ 4611686018427387904) :
    Calls Try.prog 54 #[.pointer (some ⟨bg, 0, none⟩), .int .i64 (i : Int), .int .i64 (j : Int)] w fun e w' => e = .returned (.int .i64 r) ∧ Below w.heap.size w w' := by
  have hlt := (List.getElem?_eq_some_iff.1 hx).1
  obtain ⟨g, c, rfl, hg, hc⟩ := hG.rel_at hx
  obtain ⟨b0, b1, b2, _, _, _⟩ := cells_three hG.box
  have hw : IntKind.i64.wrap ((i : Int) + (j : Int)) = ((i + j : Nat) : Int) := by rw [IntKind.wrap_i64]; omega
  clear hG hx
  go_enter Try.func54, Try.ntmps54
  go_wp2
  go_ret
  exact ⟨rfl, Below.refl _ _⟩

theorem gTurned_any (w : World) (hG : GrdW w S bg v1 v2 v3 rels rows gone) {i j : Nat} {r : Int} (hx : rels[i + j]? = some r) (h4 : In4 r) (hl : rels.length ≤ 4611686018427387904) :
    Calls Try.prog 55 #[.pointer (some ⟨bg, 0, none⟩), .int .i64 (j : Int), .int .i64 (i : Int)] w fun e w' => e = .returned (.int .i64 (trnI r)) ∧ Below w.heap.size w w' := by
  have HS := Lib.hid (gStand_any w hG hx hl)
  clear hG hx
  rcases h4 with rfl | rfl | rfl | rfl
  · have hix : ∀ w : World, (Instr.index 131 (.agg #[.int .i64 0, .int .i64 3, .int .i64 2, .int .i64 1]) (.int .i64 0)).run Try.prog w = .ok (.int .i64 0) w := fun w => by kernel_rfl
    go_enter Try.func55, Try.ntmps55
    go_wp2_with (first
      | (go_at_call 54; go_must ((with_reducible refine HS.out.mono ?_); rintro e w1 ⟨rfl, hb1⟩; have hix1 := hix w1))
      | fail)
    go_ret
    exact ⟨rfl, hb1⟩
  · have hix : ∀ w : World, (Instr.index 131 (.agg #[.int .i64 0, .int .i64 3, .int .i64 2, .int .i64 1]) (.int .i64 1)).run Try.prog w = .ok (.int .i64 3) w := fun w => by kernel_rfl
    go_enter Try.func55, Try.ntmps55
    go_wp2_with (first
      | (go_at_call 54; go_must ((with_reducible refine HS.out.mono ?_); rintro e w1 ⟨rfl, hb1⟩; have hix1 := hix w1))
      | fail)
    go_ret
    exact ⟨rfl, hb1⟩
  · have hix : ∀ w : World, (Instr.index 131 (.agg #[.int .i64 0, .int .i64 3, .int .i64 2, .int .i64 1]) (.int .i64 2)).run Try.prog w = .ok (.int .i64 2) w := fun w => by kernel_rfl
    go_enter Try.func55, Try.ntmps55
    go_wp2_with (first
      | (go_at_call 54; go_must ((with_reducible refine HS.out.mono ?_); rintro e w1 ⟨rfl, hb1⟩; have hix1 := hix w1))
      | fail)
    go_ret
    exact ⟨rfl, hb1⟩
  · have hix : ∀ w : World, (Instr.index 131 (.agg #[.int .i64 0, .int .i64 3, .int .i64 2, .int .i64 1]) (.int .i64 3)).run Try.prog w = .ok (.int .i64 1) w := fun w => by kernel_rfl
    go_enter Try.func55, Try.ntmps55
    go_wp2_with (first
      | (go_at_call 54; go_must ((with_reducible refine HS.out.mono ?_); rintro e w1 ⟨rfl, hb1⟩; have hix1 := hix w1))
      | fail)
    go_ret
    exact ⟨rfl, hb1⟩

end

end Go.Proofs.Ytgjmodclgdkodaa

/- order: above: has each of the second ones one of the first that is above it? -/

namespace Go.Proofs.Ytgjmodclgdkodaa

open Go.RowKit Go.Shelf
set_option maxRecDepth 100000

@[local go_sem] theorem run_store_funcO {P : Program} {w : World} {a : Addr} {m : Mode} (f : Fn) (ts cs : Array Value) : (store a (.func f ts cs) m).run P w = stored P w a (.func f ts cs) m := run_store P w a _ m rfl

/-- A function value that is asked of numbers. -/
structure AskC (k : FuncId) (fs cv : Array Value) (W : World) (l : List Int) (q : Int → Bool) : Prop where
  ent : ∀ (args : Array Value) (w : World), (callFunc k args).run Try.prog w = .ok (.enter k args) w
  call : ∀ (x : Int) (w : World), x ∈ l → Below W.heap.size W w → Calls Try.prog k (fs.push (.int .i64 x) ++ cv) w fun e w' => e = .returned (.bool (q x)) ∧ Below w.heap.size w w'

/-- A function value that is asked of two numbers. -/
structure StdC (k : FuncId) (fs cv : Array Value) (W : World) (l1 l2 : List Int) (st : Int → Int → Int) : Prop where
  ent : ∀ (args : Array Value) (w : World), (callFunc k args).run Try.prog w = .ok (.enter k args) w
  call : ∀ (x y : Int) (w : World), x ∈ l1 → y ∈ l2 → Below W.heap.size W w → Calls Try.prog k (fs ++ (#[.int .i64 x, .int .i64 y] ++ cv)) w fun e w' => e = .returned (.int .i64 (st x y)) ∧ Below w.heap.size w w'

section

variable {k : FuncId} {fs cv : Array Value} {q : Int → Bool} {l : List Int}

set_option maxHeartbeats 2000000 in
theorem oIndex_any (A : Option Addr) (c : Nat) (w : World) (hA : Ints w w.heap.size A l) (hC : AskC k fs cv w l q) :
    Calls Try.prog 88 #[.slice A l.length c, .func (.func k) fs cv] w fun e w' => ∃ i : Int, e = .returned (.int .i64 i) ∧ decide (i ≥ 0) = l.any q ∧ Below w.heap.size w w' := by
  have hlen := hA.len
  have HA := Lib.hid hA
  have HC := Lib.hid hC
  have hent := hC.ent
  clear hA hC
  go_enter Try.func88, Try.ntmps88
  go_wp2
  go_loopw [8] (fun i wr => ∃ m : Nat, m ≤ l.length ∧ i = .int .i64 (m : Int) ∧ Below w.heap.size w wr ∧ Hid ((l.take m).any q = false)) (fun i _ => l.length - (intOf i).toNat)
  case atStart => exact ⟨0, Nat.zero_le _, rfl, Below.refl _ _, Lib.hid (by simp)⟩
  case round =>
    obtain ⟨m, hm, rfl, hBr, Hn⟩ := hrel
    by_cases hlt : m < l.length
    · obtain ⟨x, hx⟩ : ∃ x, l[m]? = some x := ⟨_, List.getElem?_eq_getElem hlt⟩
      obtain ⟨b, off, rfl, hb, hc⟩ := HA.out.get hx
      have e0 := cell_on hBr hb hc
      have hmem := List.mem_of_getElem? hx
      have HQ := Lib.hid (HC.out.call x wr hmem hBr)
      have hwr1 : IntKind.i64.wrap ((m : Int) + 1) = (m : Int) + 1 := by rw [IntKind.wrap_i64]; omega
      have hn2 : Hid ((l.take (m + 1)).any q = q x) := Lib.hid (by rw [List.take_add_one, hx, List.any_append, Hn.out]; simp)
      have Hmem := Lib.hid hmem
      clear hx hb hc hmem
      cases hq : q x with
      | true =>
        rw [hq] at HQ
        have hfin : Hid (l.any q = true) := Lib.hid (List.any_eq_true.2 ⟨x, Hmem.out, hq⟩)
        clear hq
        go_wp2_with (first
          | ((with_reducible refine HQ.out.mono ?_); go_must (rintro e w1 ⟨rfl, hb1⟩))
          | fail)
        go_ret
        exact ⟨_, rfl, by rw [hfin.out]; simp, hBr.trans (hb1.mono hBr.size)⟩
      | false =>
        rw [hq] at HQ
        have hn3 : Hid ((l.take (m + 1)).any q = false) := Lib.hid (by rw [hn2.out, hq])
        clear hq
        go_wp2_with (first
          | ((with_reducible refine HQ.out.mono ?_); go_must (rintro e w1 ⟨rfl, hb1⟩))
          | fail)
        go_roundw
        case rel => exact ⟨m + 1, by omega, by go_num, hBr.trans (hb1.mono hBr.size), hn3⟩
        case measure => simp [intOf]; omega
    · obtain rfl : m = l.length := by omega
      have hfin : Hid (l.any q = false) := Lib.hid (by have := Hn.out; rwa [List.take_length] at this)
      go_wp2
      go_ret
      exact ⟨_, rfl, by rw [hfin.out]; decide, hBr⟩

theorem oContains_any (A : Option Addr) (c : Nat) (w : World) (hA : Ints w w.heap.size A l) (hC : AskC k fs cv w l q) :
    Calls Try.prog 73 #[.slice A l.length c, .func (.func k) fs cv] w fun e w' => e = .returned (.bool (l.any q)) ∧ Below w.heap.size w w' := by
  have H := Lib.hid (oIndex_any A c w hA hC)
  clear hA hC
  go_enter Try.func73, Try.ntmps73
  go_wp2_with (first
    | (go_at_call 88; (with_reducible refine H.out.mono ?_); go_must (rintro e w1 ⟨i, rfl, hi, hb1⟩; have Hi := Lib.hid hi; clear hi))
    | fail)
  go_ret
  exact ⟨ret_bool Hi.out, hb1⟩

end

section

variable {k : FuncId} {fs cv : Array Value} {st : Int → Int → Int} {l1 l2 : List Int}

theorem oAbove1_any {bs bj : Nat} {x y : Int} {r : Int} (w : World) (h0 : w.cell? ⟨bs, 0, none⟩ = some (.func (.func k) fs cv)) (h1 : w.cell? ⟨bj, 0, none⟩ = some (.int .i64 y)) (hent : ∀ (args : Array Value) (w : World), (callFunc k args).run Try.prog w = .ok (.enter k args) w)
    (hC : Calls Try.prog k (fs ++ (#[.int .i64 x, .int .i64 y] ++ cv)) w fun e w' => e = .returned (.int .i64 r) ∧ Below w.heap.size w w') :
    Calls Try.prog 74 #[.int .i64 x, .pointer (some ⟨bs, 0, none⟩), .pointer (some ⟨bj, 0, none⟩)] w fun e w' => e = .returned (.bool (r == 3)) ∧ Below w.heap.size w w' := by
  have HC := Lib.hid hC
  clear hC
  go_enter Try.func74, Try.ntmps74
  go_wp2_with (first
    | ((with_reducible refine HC.out.mono ?_); go_must (rintro e w1 ⟨rfl, hb1⟩))
    | fail)
  go_ret
  exact ⟨rfl, hb1⟩

set_option maxHeartbeats 2000000 in
theorem oAbove_any (A1 A2 : Option Addr) (c1 c2 : Nat) (w : World) (hA1 : Ints w w.heap.size A1 l1) (hA2 : Ints w w.heap.size A2 l2) (hC : StdC k fs cv w l1 l2 st) :
    Calls Try.prog 53 #[.slice A1 l1.length c1, .slice A2 l2.length c2, .func (.func k) fs cv] w fun e w' => e = .returned (.bool (l2.all fun j => l1.any fun i => st i j == 3)) ∧ Below w.heap.size w w' := by
  have hlen := hA2.len
  have q0 := heap_alloc_new w (.cells #[.func (.func k) fs cv] 107)
  obtain ⟨W, hW⟩ : ∃ W, w.alloc (.cells #[.func (.func k) fs cv] 107) = W := ⟨_, rfl⟩
  have hB : Below w.heap.size w W := by rw [← hW]; exact (Below.refl _ _).alloc (Nat.le_refl _) _
  rw [hW] at q0
  have hWs : w.heap.size < W.heap.size := (Array.getElem?_eq_some_iff.1 q0).1
  have HA1 := Lib.hid hA1
  have HA2 := Lib.hid hA2
  have HC := Lib.hid hC
  have HW := Lib.hid hW
  have hent := hC.ent
  have Hq := Lib.hid q0
  clear hA1 hA2 hC hW q0
  go_enter Try.func53, Try.ntmps53
  go_upto_region 1 with fail
  rw [HW.out]
  go_wp2
  go_loopw [11] (fun i wr => ∃ m : Nat, m ≤ l2.length ∧ i = .int .i64 (m : Int) ∧ Below W.heap.size W wr ∧ Hid (∀ j ∈ l2.take m, (l1.any fun i => st i j == 3) = true)) (fun i _ => l2.length - (intOf i).toNat)
  case atStart => exact ⟨0, Nat.zero_le _, rfl, Below.refl _ _, Lib.hid fun j hj => by simp at hj⟩
  case round =>
    obtain ⟨m, hm, rfl, hBr, Hn⟩ := hrel
    have hBw : Below w.heap.size w wr := hB.trans (hBr.mono hB.size)
    by_cases hlt : m < l2.length
    · obtain ⟨y, hy⟩ : ∃ x, l2[m]? = some x := ⟨_, List.getElem?_eq_getElem hlt⟩
      obtain ⟨b, off, rfl, hb, hc⟩ := HA2.out.get hy
      have e0 := cell_on hBw hb hc
      have hmem := List.mem_of_getElem? hy
      have hwr1 : IntKind.i64.wrap ((m : Int) + 1) = (m : Int) + 1 := by rw [IntKind.wrap_i64]; omega
      have hBx : Below wr.heap.size wr (wr.alloc (.cells #[.int .i64 y] 3)) := (Below.refl _ _).alloc (Nat.le_refl _) _
      have p0 := heap_alloc_new wr (.cells #[.int .i64 y] 3)
      have hBwx := hBw.trans (hBx.mono hBw.size)
      have HI1 : Hid (Calls Try.prog 73 #[.slice A1 l1.length c1, .func (.func 74) #[] #[.pointer (some ⟨w.heap.size, 0, none⟩), .pointer (some ⟨wr.heap.size, 0, none⟩)]] (wr.alloc (.cells #[.int .i64 y] 3)) fun e w' => e = .returned (.bool (l1.any fun i => st i y == 3)) ∧ Below (wr.alloc (.cells #[.int .i64 y] 3)).heap.size (wr.alloc (.cells #[.int .i64 y] 3)) w') := Lib.hid (by
        refine oContains_any (q := fun i => st i y == 3) A1 c1 _ (HA1.out.on hBwx) ⟨fun args w => by kernel_rfl, fun x w1 hx hb1 => ?_⟩
        have hBw1 := hBwx.trans (hb1.mono hBwx.size)
        refine oAbove1_any w1 (cells_one ((hBr.trans ((hBx.trans (hb1.mono hBx.size)).mono hBr.size)).block _ hWs |>.trans Hq.out)).1 (cells_one ((hb1.block _ (by simp)).trans p0)).1 hent (HC.out.call x y w1 hx hmem hBw1))
      have Hy := Lib.hid hy
      clear hy hb hc hmem
      cases hq : l1.any fun i => st i y == 3 with
      | true =>
        rw [hq] at HI1
        have hn2 : Hid (∀ j ∈ l2.take (m + 1), (l1.any fun i => st i j == 3) = true) := Lib.hid fun j hj => by
          rw [List.take_add_one, Hy.out] at hj
          rcases List.mem_append.1 hj with hj | hj
          · exact Hn.out j hj
          · simp at hj; subst hj; exact hq
        clear hq
        go_wp2_with (first
          | (go_at_call 73; (with_reducible refine HI1.out.mono ?_); go_must (rintro e w1 ⟨rfl, hb1⟩))
          | fail)
        go_roundw
        case rel => exact ⟨m + 1, by omega, by go_num, hBr.trans ((hBx.trans (hb1.mono hBx.size)).mono hBr.size), hn2⟩
        case measure => simp [intOf]; omega
      | false =>
        rw [hq] at HI1
        have hfin : Hid ((l2.all fun j => l1.any fun i => st i j == 3) = false) := Lib.hid (List.all_eq_false.2 ⟨y, List.mem_of_getElem? Hy.out, by rw [hq]; decide⟩)
        clear hq
        go_wp2_with (first
          | (go_at_call 73; (with_reducible refine HI1.out.mono ?_); go_must (rintro e w1 ⟨rfl, hb1⟩))
          | fail)
        go_ret
        exact ⟨ret_bool hfin.out.symm, hBwx.trans (hb1.mono hBwx.size)⟩
    · obtain rfl : m = l2.length := by omega
      have hfin : Hid ((l2.all fun j => l1.any fun i => st i j == 3) = true) := Lib.hid (by
        have := Hn.out; rw [List.take_length] at this
        exact List.all_eq_true.2 this)
      go_wp2
      go_ret
      exact ⟨ret_bool hfin.out.symm, hBw⟩

end

end Go.Proofs.Ytgjmodclgdkodaa

/- order: relation: what a grid tells; that it is what multisets tell. -/

namespace Go.Proofs.Ytgjmodclgdkodaa

open Go.RowKit Go.Shelf
set_option maxRecDepth 100000

def relAt (rels : List Int) (i j : Int) : Int := rels.getD (i + j).toNat 0

/-- What a grid tells. -/
def relG (rels rows cols : List Int) : Int :=
  if rows.isEmpty && cols.isEmpty then 2
  else if cols.all (fun j => rows.any fun i => relAt rels i j == 3) then 3
  else if rows.all (fun i => cols.any fun j => trnI (relAt rels i j) == 3) then 1 else 0

section

variable {S : Nat → Prop} {bg : Nat} {v1 v2 v3 : Value} {rels rows : List Int} {gone : List Bool}

/-- Each row and each column that is left have a place. -/
def PlcG (rels rows cols : List Int) : Prop := ∀ i ∈ rows, ∀ j ∈ cols, ∃ a b : Nat, i = (a : Int) ∧ j = (b : Int) ∧ ∃ r, rels[a + b]? = some r

theorem relAt_of {a b : Nat} {r : Int} (h : rels[a + b]? = some r) : relAt rels (a : Int) (b : Int) = r := by
  unfold relAt
  rw [← Int.natCast_add, Int.toNat_natCast, List.getD_eq_getElem?_getD, h]; rfl

set_option maxHeartbeats 4000000 in
theorem gRelation_any (w : World) (hG : GrdW w S bg v1 v2 v3 rels rows gone) (hP : PlcG rels rows (colsI gone)) (h4 : ∀ r ∈ rels, In4 r) (hi2 : ∀ x ∈ rows, I64 x) (hl : gone.length ≤ 1099511627776) (hl1 : rels.length ≤ 4611686018427387904) (hl2 : rows.length ≤ 1099511627776) :
    Calls Try.prog 37 #[.pointer (some ⟨bg, 0, none⟩)] w fun e w' => e = .returned (.int .i64 (relG rels rows (colsI gone))) ∧ Below w.heap.size w w' := by
  obtain ⟨A2, c2, hv2, hI2⟩ := row_ints hG.r2 (by omega) hi2
  subst hv2
  obtain ⟨b0, b1, b2, _, _, _⟩ := cells_three hG.box
  have hbx : bg < w.heap.size := hG.lt bg (.inl rfl)
  have HCo := Lib.hid (gColumns_any w hG hl)
  have hcl := colsT_len gone gone.length
  have HI2 := Lib.hid hI2
  have Hst : Hid (∀ w1, Below w.heap.size w w1 → StdC 54 #[.pointer (some ⟨bg, 0, none⟩)] #[] w1 rows (colsI gone) (relAt rels)) := Lib.hid fun w1 hb => ⟨fun args w => by kernel_rfl, fun x y w2 hx hy hb2 => by
    obtain ⟨a, b, rfl, rfl, r, hr⟩ := hP x hx y hy
    rw [relAt_of hr]
    exact gStand_any w2 (hG.on (hb.trans (hb2.mono hb.size))) hr hl1⟩
  have Htn : Hid (∀ w1, Below w.heap.size w w1 → StdC 55 #[.pointer (some ⟨bg, 0, none⟩)] #[] w1 (colsI gone) rows (fun j i => trnI (relAt rels i j))) := Lib.hid fun w1 hb => ⟨fun args w => by kernel_rfl, fun y x w2 hy hx hb2 => by
    obtain ⟨a, b, rfl, rfl, r, hr⟩ := hP x hx y hy
    show Calls _ _ _ _ fun e w' => e = .returned (.int .i64 (trnI (relAt rels (a : Int) (b : Int)))) ∧ _
    rw [relAt_of hr]
    exact gTurned_any w2 (hG.on (hb.trans (hb2.mono hb.size))) hr (h4 r (List.mem_of_getElem? hr)) hl1⟩
  obtain ⟨cs, hcs⟩ : ∃ cs, colsI gone = cs := ⟨_, rfl⟩
  have hcl2 : cs.length ≤ 1099511627776 := by rw [← hcs]; unfold colsI; omega
  rw [hcs] at HCo Hst Htn ⊢
  clear hG hP h4 hI2 hcl hcs hl hi2
  obtain ⟨p, hp⟩ : ∃ p, (cs.all fun j => rows.any fun i => relAt rels i j == 3) = p := ⟨_, rfl⟩
  obtain ⟨q, hq⟩ : ∃ q, (rows.all fun i => cs.any fun j => trnI (relAt rels i j) == 3) = q := ⟨_, rfl⟩
  have hres : relG rels rows cs = if rows.length = 0 ∧ cs.length = 0 then 2 else if p = true then 3 else if q = true then 1 else 0 := by
    unfold relG
    rw [hp, hq]
    congr 1
    simp [List.isEmpty_iff]
  rw [hres]
  have Hab : Hid (∀ w1 c1 (B : Option Addr), Below w.heap.size w w1 → Ints w1 w1.heap.size B cs → Calls Try.prog 53 #[.slice A2 rows.length c2, .slice B cs.length c1, .func (.func 54) #[.pointer (some ⟨bg, 0, none⟩)] #[]] w1 fun e w' => e = .returned (.bool p) ∧ Below w1.heap.size w1 w') := Lib.hid fun w1 c1 B hb hI => by
    have := oAbove_any A2 B c2 c1 w1 (HI2.out.on hb) hI (Hst.out w1 hb)
    rwa [hp] at this
  have Hbl : Hid (∀ w1 c1 (B : Option Addr), Below w.heap.size w w1 → Ints w1 w1.heap.size B cs → Calls Try.prog 53 #[.slice B cs.length c1, .slice A2 rows.length c2, .func (.func 55) #[.pointer (some ⟨bg, 0, none⟩)] #[]] w1 fun e w' => e = .returned (.bool q) ∧ Below w1.heap.size w1 w') := Lib.hid fun w1 c1 B hb hI => by
    have := oAbove_any B A2 c1 c2 w1 hI (HI2.out.on hb) (Htn.out w1 hb)
    rwa [hq] at this
  clear hp hq hres Hst Htn HI2
  by_cases hr0 : rows.length = 0
  · have e0 : ((rows.length : Int) == 0) = true := by rw [hr0]; rfl
    by_cases hc0 : cs.length = 0
    · have e1 : ((cs.length : Int) == 0) = true := by rw [hc0]; rfl
      rw [if_pos ⟨hr0, hc0⟩]
      clear hr0 hc0
      go_enter Try.func37, Try.ntmps37
      go_wp2_with (first
        | (go_at_call 52; (with_reducible refine HCo.out.mono ?_); go_must (rintro e w1 ⟨v, rfl, hv, hb1⟩; obtain ⟨B, cB, rfl, hI⟩ := row_ints hv.row (by omega) hv.i64; have y0 := cell_on hb1 hbx b0; have y1 := cell_on hb1 hbx b1; have y2 := cell_on hb1 hbx b2; have HAB := Lib.hid (Hab.out w1 cB B hb1 hI); have HI := Lib.hid hI; clear hv hI))
        | (go_at_call 53; first
          | ((with_reducible refine HAB.out.mono ?_); go_must (rintro e w2 ⟨rfl, hb2⟩; have hB2 := hb1.trans (hb2.mono hb1.size); have z0 := cell_on hB2 hbx b0; have z1 := cell_on hB2 hbx b1; have z2 := cell_on hB2 hbx b2; have HBL := Lib.hid (Hbl.out w2 cB B hB2 (HI.out.on hb2)); clear HAB))
          | ((with_reducible refine HBL.out.mono ?_); go_must (rintro e w3 ⟨rfl, hb3⟩)))
        | fail)
      go_ret
      exact ⟨rfl, hb1⟩
    · have e1 : ((cs.length : Int) == 0) = false := by simpa using hc0
      rw [if_neg (fun e => hc0 e.2)]
      clear hr0 hc0
      cases p with
      | true =>
        go_enter Try.func37, Try.ntmps37
        go_wp2_with (first
          | (go_at_call 52; (with_reducible refine HCo.out.mono ?_); go_must (rintro e w1 ⟨v, rfl, hv, hb1⟩; obtain ⟨B, cB, rfl, hI⟩ := row_ints hv.row (by omega) hv.i64; have y0 := cell_on hb1 hbx b0; have y1 := cell_on hb1 hbx b1; have y2 := cell_on hb1 hbx b2; have HAB := Lib.hid (Hab.out w1 cB B hb1 hI); have HI := Lib.hid hI; clear hv hI))
          | (go_at_call 53; first
            | ((with_reducible refine HAB.out.mono ?_); go_must (rintro e w2 ⟨rfl, hb2⟩; have hB2 := hb1.trans (hb2.mono hb1.size); have z0 := cell_on hB2 hbx b0; have z1 := cell_on hB2 hbx b1; have z2 := cell_on hB2 hbx b2; have HBL := Lib.hid (Hbl.out w2 cB B hB2 (HI.out.on hb2)); clear HAB))
            | ((with_reducible refine HBL.out.mono ?_); go_must (rintro e w3 ⟨rfl, hb3⟩)))
          | fail)
        go_ret
        exact ⟨rfl, hB2⟩
      | false =>
        cases q with
        | true =>
          go_enter Try.func37, Try.ntmps37
          go_wp2_with (first
            | (go_at_call 52; (with_reducible refine HCo.out.mono ?_); go_must (rintro e w1 ⟨v, rfl, hv, hb1⟩; obtain ⟨B, cB, rfl, hI⟩ := row_ints hv.row (by omega) hv.i64; have y0 := cell_on hb1 hbx b0; have y1 := cell_on hb1 hbx b1; have y2 := cell_on hb1 hbx b2; have HAB := Lib.hid (Hab.out w1 cB B hb1 hI); have HI := Lib.hid hI; clear hv hI))
            | (go_at_call 53; first
              | ((with_reducible refine HAB.out.mono ?_); go_must (rintro e w2 ⟨rfl, hb2⟩; have hB2 := hb1.trans (hb2.mono hb1.size); have z0 := cell_on hB2 hbx b0; have z1 := cell_on hB2 hbx b1; have z2 := cell_on hB2 hbx b2; have HBL := Lib.hid (Hbl.out w2 cB B hB2 (HI.out.on hb2)); clear HAB))
              | ((with_reducible refine HBL.out.mono ?_); go_must (rintro e w3 ⟨rfl, hb3⟩)))
            | fail)
          go_ret
          exact ⟨rfl, hB2.trans (hb3.mono hB2.size)⟩
        | false =>
          go_enter Try.func37, Try.ntmps37
          go_wp2_with (first
            | (go_at_call 52; (with_reducible refine HCo.out.mono ?_); go_must (rintro e w1 ⟨v, rfl, hv, hb1⟩; obtain ⟨B, cB, rfl, hI⟩ := row_ints hv.row (by omega) hv.i64; have y0 := cell_on hb1 hbx b0; have y1 := cell_on hb1 hbx b1; have y2 := cell_on hb1 hbx b2; have HAB := Lib.hid (Hab.out w1 cB B hb1 hI); have HI := Lib.hid hI; clear hv hI))
            | (go_at_call 53; first
              | ((with_reducible refine HAB.out.mono ?_); go_must (rintro e w2 ⟨rfl, hb2⟩; have hB2 := hb1.trans (hb2.mono hb1.size); have z0 := cell_on hB2 hbx b0; have z1 := cell_on hB2 hbx b1; have z2 := cell_on hB2 hbx b2; have HBL := Lib.hid (Hbl.out w2 cB B hB2 (HI.out.on hb2)); clear HAB))
              | ((with_reducible refine HBL.out.mono ?_); go_must (rintro e w3 ⟨rfl, hb3⟩)))
            | fail)
          go_ret
          exact ⟨rfl, hB2.trans (hb3.mono hB2.size)⟩
  · have e0 : ((rows.length : Int) == 0) = false := by simpa using hr0
    rw [if_neg (fun e => hr0 e.1)]
    clear hr0
    cases p with
    | true =>
      go_enter Try.func37, Try.ntmps37
      go_wp2_with (first
        | (go_at_call 52; (with_reducible refine HCo.out.mono ?_); go_must (rintro e w1 ⟨v, rfl, hv, hb1⟩; obtain ⟨B, cB, rfl, hI⟩ := row_ints hv.row (by omega) hv.i64; have y0 := cell_on hb1 hbx b0; have y1 := cell_on hb1 hbx b1; have y2 := cell_on hb1 hbx b2; have HAB := Lib.hid (Hab.out w1 cB B hb1 hI); have HI := Lib.hid hI; clear hv hI))
        | (go_at_call 53; first
          | ((with_reducible refine HAB.out.mono ?_); go_must (rintro e w2 ⟨rfl, hb2⟩; have hB2 := hb1.trans (hb2.mono hb1.size); have z0 := cell_on hB2 hbx b0; have z1 := cell_on hB2 hbx b1; have z2 := cell_on hB2 hbx b2; have HBL := Lib.hid (Hbl.out w2 cB B hB2 (HI.out.on hb2)); clear HAB))
          | ((with_reducible refine HBL.out.mono ?_); go_must (rintro e w3 ⟨rfl, hb3⟩)))
        | fail)
      go_ret
      exact ⟨rfl, hB2⟩
    | false =>
      cases q with
      | true =>
        go_enter Try.func37, Try.ntmps37
        go_wp2_with (first
          | (go_at_call 52; (with_reducible refine HCo.out.mono ?_); go_must (rintro e w1 ⟨v, rfl, hv, hb1⟩; obtain ⟨B, cB, rfl, hI⟩ := row_ints hv.row (by omega) hv.i64; have y0 := cell_on hb1 hbx b0; have y1 := cell_on hb1 hbx b1; have y2 := cell_on hb1 hbx b2; have HAB := Lib.hid (Hab.out w1 cB B hb1 hI); have HI := Lib.hid hI; clear hv hI))
          | (go_at_call 53; first
            | ((with_reducible refine HAB.out.mono ?_); go_must (rintro e w2 ⟨rfl, hb2⟩; have hB2 := hb1.trans (hb2.mono hb1.size); have z0 := cell_on hB2 hbx b0; have z1 := cell_on hB2 hbx b1; have z2 := cell_on hB2 hbx b2; have HBL := Lib.hid (Hbl.out w2 cB B hB2 (HI.out.on hb2)); clear HAB))
            | ((with_reducible refine HBL.out.mono ?_); go_must (rintro e w3 ⟨rfl, hb3⟩)))
          | fail)
        go_ret
        exact ⟨rfl, hB2.trans (hb3.mono hB2.size)⟩
      | false =>
        go_enter Try.func37, Try.ntmps37
        go_wp2_with (first
          | (go_at_call 52; (with_reducible refine HCo.out.mono ?_); go_must (rintro e w1 ⟨v, rfl, hv, hb1⟩; obtain ⟨B, cB, rfl, hI⟩ := row_ints hv.row (by omega) hv.i64; have y0 := cell_on hb1 hbx b0; have y1 := cell_on hb1 hbx b1; have y2 := cell_on hb1 hbx b2; have HAB := Lib.hid (Hab.out w1 cB B hb1 hI); have HI := Lib.hid hI; clear hv hI))
          | (go_at_call 53; first
            | ((with_reducible refine HAB.out.mono ?_); go_must (rintro e w2 ⟨rfl, hb2⟩; have hB2 := hb1.trans (hb2.mono hb1.size); have z0 := cell_on hB2 hbx b0; have z1 := cell_on hB2 hbx b1; have z2 := cell_on hB2 hbx b2; have HBL := Lib.hid (Hbl.out w2 cB B hB2 (HI.out.on hb2)); clear HAB))
            | ((with_reducible refine HBL.out.mono ?_); go_must (rintro e w3 ⟨rfl, hb3⟩)))
          | fail)
        go_ret
        exact ⟨rfl, hB2.trans (hb3.mono hB2.size)⟩

end

end Go.Proofs.Ytgjmodclgdkodaa

