import Derived.Test.YtfnncphkidhbpaaDoorP43Z6
import Derived.Test.YtfnncphkidhbpaaDoorRows
import Derived.Test.YtfnncphkidhbpaaDoorP43Z5
import Derived.ChangeSlices
/- prec: what Make tells, as an order; it may be, and hangs on no order of the clauses. -/

namespace Go.Proofs.YtfnncphkidhbpaaDoor

open Go Go.RowKit Go.Shelf
set_option maxRecDepth 100000

-- the order of the clauses

theorem addC_comm (n : List Int) (f g : Int) : addC (addC n f) g = addC (addC n g) f := by
  unfold addC
  by_cases hf : f < 0
  · simp only [if_pos hf]
  · by_cases hg : g < 0
    · simp only [if_pos hg]
    · simp only [if_neg hf, if_neg hg]
      by_cases he : f.toNat = g.toNat
      · rw [he]
      · have e1 : ∀ (a : Int), (n.set f.toNat a).getD g.toNat 0 = n.getD g.toNat 0 := fun a => by
          rw [List.getD_eq_getElem?_getD, List.getD_eq_getElem?_getD, List.getElem?_set_ne he]
        have e2 : ∀ (a : Int), (n.set g.toNat a).getD f.toNat 0 = n.getD f.toNat 0 := fun a => by
          rw [List.getD_eq_getElem?_getD, List.getD_eq_getElem?_getD, List.getElem?_set_ne (fun e => he e.symm)]
        rw [e1, e2]
        exact List.set_comm _ _ he

theorem cntC_perm {hs ks : List Int} (h : hs.Perm ks) : ∀ n, cntC n hs = cntC n ks := by
  induction h with
  | nil => intro n; rfl
  | cons x _ ih => intro n; exact ih (addC n x)
  | swap x y l => intro n; show cntC (addC (addC n y) x) l = cntC (addC (addC n x) y) l; rw [addC_comm]
  | trans _ _ i1 i2 => intro n; rw [i1, i2]

theorem hdsL_flat : ∀ ts : List Tm, hdsL ts = ts.flatMap hdsT
  | [] => by simp [hdsL]
  | t :: ts => by rw [hdsL, List.flatMap_cons, hdsL_flat ts]

theorem itms_rev (cs : List (List Lp)) : (itms cs.reverse).Perm (itms cs) := (List.reverse_perm cs).flatMap_right itmL

theorem cntN_rev (l : List Sm) (cs : List (List Lp)) : cntN l cs.reverse = cntN l cs := by
  unfold cntN
  refine cntC_perm ?_ _
  rw [hdsL_flat, hdsL_flat]
  exact (itms_rev cs).flatMap_right hdsT

theorem cntNo_rev (l : List Sm) (cs : List (List Lp)) : cntNo l cs.reverse = cntNo l cs := by
  unfold cntNo
  have : okI l (itms cs.reverse) = okI l (itms cs) := by
    unfold okI
    rw [Bool.eq_iff_iff, List.all_eq_true, List.all_eq_true]
    exact ⟨fun h x hx => h x ((itms_rev cs).mem_iff.2 hx), fun h x hx => h x ((itms_rev cs).mem_iff.1 hx)⟩
  rw [this]

/-- What Make makes, as an order. -/
def mkO (l : List Sm) (n : List Int) (lpo top : Bool) (b wb : Int) : Odr :=
  if lpo = true then ⟨true, rkL l n b l.length, [], 0⟩ else ⟨false, rkL l n b l.length, wtL l n wb top (rkL l n b l.length), 1⟩

theorem mkO_prec (l : List Sm) (n : List Int) (lpo top : Bool) (b wb : Int) : (mkO l n lpo top b wb).prec = rkL l n b l.length := by
  unfold mkO; split <;> rfl

theorem rkL_ranked (l : List Sm) (n : List Int) (b : Int) {m : Nat} (hm : 0 < m) : rankB (rkL l n b m) m = true := by
  have h := (rankB_iff (p := rkL l n b m)).2 ⟨fun i h0 hi => ?_, ?_⟩
  · rwa [rkL_len] at h
  · rw [rkL_len] at hi
    rw [rkL_getD hm, rkL_getD hi, show rnkR l n b m 0 = 0 from rfl, rnkR_eq l n b m (by omega)]
    omega
  · unfold List.Nodup
    rw [List.pairwise_iff_getElem]
    intro i j hi hj hij he
    rw [rkL_len] at hi hj
    have e1 := rkL_getD (l := l) (n := n) (b := b) hi
    have e2 := rkL_getD (l := l) (n := n) (b := b) hj
    rw [getD_el (by rw [rkL_len]; exact hi)] at e1
    rw [getD_el (by rw [rkL_len]; exact hj)] at e2
    rw [e1, e2] at he
    have := rnkR_inj hi hj (by omega : rnkR l n b m i = rnkR l n b m j)
    omega

theorem wgX_pos {l : List Sm} {n rk : List Int} {wb : Int} {i : Nat} (ha : 0 ≤ arP l i) (hc : 0 ≤ cnP n i) (hr : 0 ≤ rk.getD i 0) : 1 ≤ wgX l n wb rk i := by
  unfold wgX
  repeat' split
  all_goals omega

theorem mkO_may {l : List Sm} {n : List Int} {lpo top : Bool} {b wb : Int} (h0 : checkI l = 0) (hn : ∀ f, 0 ≤ cnP n f) : chkO l (mkO l n lpo top b wb) = 0 := by
  have hl0 := chk_some h0
  have har := chk_ar h0
  have hrk := rkL_ranked l n b hl0
  have hpos : ∀ i, 0 ≤ (rkL l n b l.length).getD i 0 := fun i => by
    rcases Nat.lt_or_ge i l.length with hi | hi
    · rw [rkL_getD hi]; omega
    · rw [List.getD_eq_getElem?_getD, List.getElem?_eq_none (by rw [rkL_len]; exact hi)]; simp
  rw [chkO_eq]
  refine if_pos ⟨h0, by rw [mkO_prec]; exact hrk, ?_⟩
  unfold mkO
  cases lpo with
  | true => exact .inl rfl
  | false =>
    right
    rw [if_neg (by decide)]
    refine decide_eq_true ⟨by show (wtL _ _ _ _ _).length = _; rw [wtL_len, rkL_len], (by show (1 : Int) ≤ 1; decide), (by show (1 : Int) ≤ 1000; decide), ?_, chkW_yes fun i hi => ?_⟩
    · show (wtL l n wb top (rkL l n b l.length)).getD 0 0 = 1
      rw [getD_of (wtL_get (by rw [rkL_len]; exact hl0))]
      unfold wtR
      have h00 : arP l 0 = 0 := by
        have := (chk_one h0).2.1
        unfold arP; rw [this]; rfl
      rw [if_neg (fun e => by rw [h00] at e; exact absurd e.2.1 (by decide)), if_pos rfl]
      decide
    · obtain ⟨s, hs⟩ : ∃ s, l[i]? = some s := ⟨_, List.getElem?_eq_getElem hi⟩
      have hx := wtL_get (l := l) (n := n) (w := wb) (top := top) (rk := rkL l n b l.length) (i := i) (by rw [rkL_len]; exact hi)
      rw [badW_at hs hx]
      have ha : arP l i = s.arity := by unfold arP; rw [hs]; rfl
      have hw := wgX_pos (wb := wb) (har i).1 (hn i) (hpos i)
      show badX s (wtR l n wb top (rkL l n b l.length) i) 1 (highB (rkL l n b l.length) i) = false
      unfold badX wtR
      rw [ha]
      by_cases ht : top = true ∧ s.arity = 1 ∧ highB (rkL l n b l.length) i = true
      · rw [if_pos ht, ht.2.1, ht.2.2]; decide
      · rw [if_neg ht]
        have h1 : 1 ≤ (if i = 0 then 1 else wgX l n wb (rkL l n b l.length) i) := by split <;> omega
        obtain ⟨y, hy⟩ : ∃ y, (if i = 0 then (1 : Int) else wgX l n wb (rkL l n b l.length) i) = y := ⟨_, rfl⟩
        rw [hy] at h1 ⊢
        have h2 : 1 ≤ min y 1000 := by omega
        have h3 : min y 1000 ≤ 1000 := by omega
        obtain ⟨z, hz⟩ : ∃ z, min y 1000 = z := ⟨_, rfl⟩
        rw [hz] at h2 h3 ⊢
        rw [decide_eq_false (by omega : ¬ z < 0), decide_eq_false (by omega : ¬ 1000 < z), decide_eq_false (by omega : ¬ z < 1), decide_eq_false (by omega : ¬ z = 0)]
        simp

/-- Make, where it makes an order; where it makes none. -/
theorem mk_yes (l : List Sm) (cl : List (List Lp)) (b wb : Int) (lpo top : Bool) (As Aq : Option Addr) (cs cq : Nat) (w : World) (hno : cntNo l cl = false) (hnm : nameB b wb = true) (hS : Syms w w.heap.size As l.length l) (hn : l.length * 32 ≤ 140737488351232) (ht : tru w) (hC : ClRow w (· < w.heap.size) Aq cl) (hz : (itms cl).length ≤ 1099511627776) :
    Calls Tryd.prog 8 #[.agg #[.slice As l.length cs], .slice Aq cl.length cq, .agg #[.bool lpo, .int .i64 b, .int .i64 wb, .bool top]] w fun e w' => ∃ P Q, e = .returned (.tuple #[.agg #[.bool (mkO l (cntN l cl) lpo top b wb).lpo, .slice P (mkO l (cntN l cl) lpo top b wb).prec.length (mkO l (cntN l cl) lpo top b wb).prec.length, .slice Q (mkO l (cntN l cl) lpo top b wb).wts.length (mkO l (cntN l cl) lpo top b wb).wts.length, .int .i64 (mkO l (cntN l cl) lpo top b wb).var], .int .i64 0]) ∧
      Below w.heap.size w w' ∧ OdrM w' w'.heap.size (mkO l (cntN l cl) lpo top b wb) P Q := by
  refine (make_any l cl b wb lpo top As Aq cs cq w hS hn ht hC hz).mono ?_
  rintro e w' ⟨hbl, hp⟩
  have hb : checkI l = 0 ∧ okI l (itms cl) = true := by unfold cntNo at hno; simpa using hno
  have h96 := (chk_one hb.1).1
  have hr64 : ∀ x ∈ rkL l (cntN l cl) b l.length, I64 x := by
    intro x hx
    obtain ⟨i, hi, rfl⟩ := List.getElem_of_mem hx
    rw [rkL_len] at hi
    have := rkL_getD (l := l) (n := cntN l cl) (b := b) hi
    rw [getD_el (by rw [rkL_len]; exact hi)] at this
    rw [this]
    have := rnkR_less l (cntN l cl) b hi
    exact ⟨by omega, by omega⟩
  rw [hno, hnm] at hp
  simp only [Bool.false_eq_true, Bool.true_eq_false, or_self, if_false] at hp
  cases lpo with
  | true =>
    rw [if_pos rfl] at hp
    obtain ⟨g, rfl, hg, h1⟩ := hp
    have he : mkO l (cntN l cl) true top b wb = ⟨true, rkL l (cntN l cl) b l.length, [], 0⟩ := if_pos rfl
    rw [he]
    refine ⟨some ⟨g, 0, none⟩, none, by simp [rkL_len], hbl, ⟨(ints_of h1 (by rw [rkL_len]; omega) hr64).more (Array.getElem?_eq_some_iff.1 h1).1, ⟨by simp, by simp, fun h => by simp at h⟩, ⟨(by show (-9223372036854775808 : Int) ≤ 0; decide), (by show (0 : Int) ≤ 9223372036854775807; decide)⟩⟩⟩
  | false =>
    rw [if_neg (by decide)] at hp
    obtain ⟨g, g2, rfl, hg, hg2, h1, h2⟩ := hp
    have he : mkO l (cntN l cl) false top b wb = ⟨false, rkL l (cntN l cl) b l.length, wtL l (cntN l cl) wb top (rkL l (cntN l cl) b l.length), 1⟩ := if_neg (by decide)
    rw [he]
    have hw64 : ∀ x ∈ wtL l (cntN l cl) wb top (rkL l (cntN l cl) b l.length), I64 x := by
      intro x hx
      obtain ⟨i, hi, rfl⟩ := List.getElem_of_mem hx
      rw [wtL_len] at hi
      have h9 := wtL_get (l := l) (n := cntN l cl) (w := wb) (top := top) hi
      rw [List.getElem?_eq_getElem (by rw [wtL_len]; exact hi)] at h9
      rw [Option.some.inj h9]
      rw [rkL_len] at hi
      have hw := wgX_pos (wb := wb) (rk := rkL l (cntN l cl) b l.length) (chk_ar hb.1 i).1 (cntN_le hz hb.2 i).1 (by rw [rkL_getD hi]; omega)
      unfold wtR
      split
      · exact ⟨by decide, by decide⟩
      · split <;> exact ⟨by omega, by omega⟩
    refine ⟨some ⟨g, 0, none⟩, some ⟨g2, 0, none⟩, by simp [rkL_len, wtL_len], hbl, ⟨(ints_of h1 (by rw [rkL_len]; omega) hr64).more (Array.getElem?_eq_some_iff.1 h1).1, (ints_of h2 (by rw [wtL_len, rkL_len]; omega) hw64).more (Array.getElem?_eq_some_iff.1 h2).1, ⟨(by show (-9223372036854775808 : Int) ≤ 1; decide), (by show (1 : Int) ≤ 9223372036854775807; decide)⟩⟩⟩

theorem mk_no (l : List Sm) (cl : List (List Lp)) (b wb : Int) (lpo top : Bool) (As Aq : Option Addr) (cs cq : Nat) (w : World) (hno : cntNo l cl = true ∨ nameB b wb = false) (hS : Syms w w.heap.size As l.length l) (hn : l.length * 32 ≤ 140737488351232) (ht : tru w) (hC : ClRow w (· < w.heap.size) Aq cl) (hz : (itms cl).length ≤ 1099511627776) :
    Calls Tryd.prog 8 #[.agg #[.slice As l.length cs], .slice Aq cl.length cq, .agg #[.bool lpo, .int .i64 b, .int .i64 wb, .bool top]] w fun e w' => e = .returned (.tuple #[.agg #[.bool false, .slice none 0 0, .slice none 0 0, .int .i64 0], .int .i64 2]) ∧ Below w.heap.size w w' := by
  refine (make_any l cl b wb lpo top As Aq cs cq w hS hn ht hC hz).mono ?_
  rintro e w' ⟨hbl, hp⟩
  rw [if_pos hno] at hp
  exact ⟨hp, hbl⟩

set_option maxHeartbeats 2000000 in
/-- Two orders of the same numbers are the same. -/
theorem sameO_self (o : Odr) (P Q P2 Q2 : Option Addr) (pc qc pc2 qc2 : Nat) (w : World) (hM : OdrM w w.heap.size o P Q) (hM2 : OdrM w w.heap.size o P2 Q2) :
    Calls Tryd.prog 9 #[.agg #[.bool o.lpo, .slice P o.prec.length pc, .slice Q o.wts.length qc, .int .i64 o.var], .agg #[.bool o.lpo, .slice P2 o.prec.length pc2, .slice Q2 o.wts.length qc2, .int .i64 o.var]] w fun e w' => e = .returned (.bool true) ∧ Below w.heap.size w w' := by
  obtain ⟨W, hW⟩ : ∃ W, (w.alloc (.cells #[.bool o.lpo, .slice P o.prec.length pc, .slice Q o.wts.length qc, .int .i64 o.var] 24)).alloc (.cells #[.bool o.lpo, .slice P2 o.prec.length pc2, .slice Q2 o.wts.length qc2, .int .i64 o.var] 24) = W := ⟨_, rfl⟩
  obtain ⟨q0, q1⟩ := heap2p w (.cells #[.bool o.lpo, .slice P o.prec.length pc, .slice Q o.wts.length qc, .int .i64 o.var] 24) (.cells #[.bool o.lpo, .slice P2 o.prec.length pc2, .slice Q2 o.wts.length qc2, .int .i64 o.var] 24)
  have hB : Below w.heap.size w W := by rw [← hW]; exact ((Below.refl _ _).alloc (Nat.le_refl _) _).alloc (by simp) _
  rw [hW] at q0 q1
  have HW := Lib.hid hW
  have HB := Lib.hid hB
  have HM := Lib.hid (hM.on hB)
  have HM2 := Lib.hid (hM2.on hB)
  obtain ⟨⟨a0, a1, a2, a3⟩, _⟩ := four_cells q0
  obtain ⟨⟨b0, b1, b2, b3⟩, _⟩ := four_cells q1
  have HR := Lib.hid (by have := lawRow_any o.prec o.prec P P2 pc pc2 W HM.out.p HM2.out.p; rwa [show rowE o.prec o.prec = true from decide_eq_true rfl] at this : Calls Tryd.prog 11 #[.slice P o.prec.length pc, .slice P2 o.prec.length pc2] W fun e w' => e = .returned (.bool true) ∧ On W w')
  have Hq := Lib.hid (And.intro q0 q1)
  have hz : w.heap.size + 1 < W.heap.size := (Array.getElem?_eq_some_iff.1 q1).1
  clear hW hB hM hM2 q0 q1
  go_enter Tryd.func9, Tryd.ntmps9
  go_upto_region 1 with fail
  rw [HW.out]
  go_wp2_with (first
    | (go_at_call 11; (with_reducible refine HR.out.mono ?_); go_must (rintro e w1 ⟨rfl, hb1⟩; clear a0 a1 a2 a3 b0 b1 b2 b3; obtain ⟨⟨a0, a1, a2, a3⟩, _⟩ := four_cells ((hb1.b.block _ (by omega)).trans Hq.out.1); obtain ⟨⟨b0, b1, b2, b3⟩, _⟩ := four_cells ((hb1.b.block _ hz).trans Hq.out.2); have HB1 := Lib.hid hb1.b; have HR2 := Lib.hid (by have := lawRow_any o.wts o.wts Q Q2 qc qc2 w1 (HM.out.q.on hb1.b) (HM2.out.q.on hb1.b); rwa [show rowE o.wts o.wts = true from decide_eq_true rfl] at this : Calls Tryd.prog 11 #[.slice Q o.wts.length qc, .slice Q2 o.wts.length qc2] w1 fun e w' => e = .returned (.bool true) ∧ On w1 w'); clear hb1))
    | (go_at_call 11; (with_reducible refine HR2.out.mono ?_); go_must (rintro e w2 ⟨rfl, hb2⟩; have HB2 := Lib.hid (bl_step HB1.out hb2.b); clear hb2))
    | fail)
  go_ret
  exact ⟨ret_bool rfl, HB.out.trans (HB2.out.mono HB.out.size)⟩

end Go.Proofs.YtfnncphkidhbpaaDoor

/- prec's law: PrecMay. -/

namespace Go.Proofs.YtfnncphkidhbpaaDoor

open Go Go.RowKit Go.Shelf
set_option maxRecDepth 100000

/-- The slices of the clauses, as values. -/
structure ClVals (W : World) (N : Nat → Prop) (cs : List (List Lp)) (D : List Value) : Prop where
  len : D.length = cs.length
  at' : ∀ (i : Nat) (l : List Lp), cs[i]? = some l → ∃ A1 c1, D[i]? = some (.slice A1 l.length c1) ∧ LpRow W N A1 l

theorem clrow_vals {W : World} {N : Nat → Prop} {A : Option Addr} {cs : List (List Lp)} (h : ClRow W N A cs) : ∃ D : List Value, ClVals W N cs D ∧ (0 < cs.length → ∃ b off, A = some ⟨b, off, none⟩ ∧ N b ∧ ∀ (i : Nat) (u : Value), D[i]? = some u → W.cell? ⟨b, off + i, none⟩ = some u) := by
  rcases Nat.eq_zero_or_pos cs.length with h0 | h0
  · have : cs = [] := List.eq_nil_of_length_eq_zero h0
    subst this
    exact ⟨[], ⟨rfl, fun i l e => by simp at e⟩, fun h => by simp at h⟩
  · obtain ⟨b, off, hA, hb, hc⟩ := h.ad h0
    have each : ∀ i, i < cs.length → ∃ q : Option Addr × Nat, ∀ l, cs[i]? = some l → W.cell? ⟨b, off + i, none⟩ = some (.slice q.1 l.length q.2) ∧ LpRow W N q.1 l := fun i hi => by
      obtain ⟨A1, c1, h1, h2⟩ := hc i cs[i] (List.getElem?_eq_getElem hi)
      refine ⟨(A1, c1), fun l e => ?_⟩
      rw [List.getElem?_eq_getElem hi] at e
      obtain rfl := Option.some.inj e
      exact ⟨h1, h2⟩
    haveI : Inhabited (Option Addr × Nat) := ⟨(none, 0)⟩
    obtain ⟨q, hq⟩ := Go.Deep.choose_lt each
    refine ⟨(List.range cs.length).map fun i => .slice (q i).1 (cs.getD i []).length (q i).2, ⟨by simp, fun i l e => ?_⟩, fun _ => ⟨b, off, hA, hb, fun i u e => ?_⟩⟩
    · have hi := (List.getElem?_eq_some_iff.1 e).1
      refine ⟨(q i).1, (q i).2, ?_, (hq i hi l e).2⟩
      rw [List.getElem?_map, List.getElem?_range hi]
      simp only [Option.map_some, List.getD_eq_getElem?_getD, e, Option.getD_some]
    · have hi : i < cs.length := by have := (List.getElem?_eq_some_iff.1 e).1; simpa using this
      rw [List.getElem?_map, List.getElem?_range hi] at e
      simp only [Option.map_some] at e
      obtain rfl := Option.some.inj e
      have hx : cs[i]? = some cs[i] := List.getElem?_eq_getElem hi
      rw [List.getD_eq_getElem?_getD, hx]
      exact (hq i hi _ hx).1

/-- A row of one's own that holds them the other way round. -/
theorem vals_back {W W' : World} {N M : Nat → Prop} {base : Nat} {v : Value} {cs : List (List Lp)} {D : List Value} (h : ClVals W N cs D) (hrow : W'.ownsRow base 39 1 v cs.length D.reverse) (hl : cs.length ≤ 9223372036854775807) (hk : ∀ g, N g → W'.heap[g]? = W.heap[g]?) (hm : ∀ g, N g → M g) (hv : ∀ g, v.ownBlock = some g → M g) :
    ∃ A c, v = .slice A cs.length c ∧ ClRow W' M A cs.reverse := by
  rcases hrow.2 with ⟨rfl, h0⟩ | ⟨g, cap, cur, rfl, hb, hg, _⟩
  · exact ⟨none, 0, by rw [h0], ⟨by simpa using hl, fun hp => by simp at hp; omega⟩⟩
  · refine ⟨some ⟨g, 0, none⟩, cap, rfl, ⟨by simpa using hl, fun _ => ⟨g, 0, rfl, hv g rfl, fun i l e => ?_⟩⟩⟩
    have hi : i < cs.length := by have := (List.getElem?_eq_some_iff.1 e).1; simpa using this
    rw [List.getElem?_reverse hi] at e
    obtain ⟨A1, c1, h1, h2⟩ := h.at' _ l e
    refine ⟨A1, c1, ?_, h2.to hk hm⟩
    rw [Nat.zero_add, hrow.cellAt i (by simp; exact hi), List.getElem?_reverse (by rw [h.len]; exact hi), h.len]
    simp [h1]

theorem infoCl : (Tryd.prog.info? 39).map (fun i => (i.zero, i.size, i.bytes)) = some (some (.slice none 0 0), 1, 24) := by kernel_rfl

/-- An order in its box. -/
structure OBox (V : World) (b : Nat) (o : Odr) (P Q : Option Addr) : Prop where
  box : V.heap[b]? = some (.cells #[.bool o.lpo, .slice P o.prec.length o.prec.length, .slice Q o.wts.length o.wts.length, .int .i64 o.var] 24)
  m : OdrM V V.heap.size o P Q

theorem OBox.on {V V' : World} {b : Nat} {o : Odr} {P Q : Option Addr} (h : OBox V b o P Q) (hb : Below V.heap.size V V') : OBox V' b o P Q := ⟨blk_st hb h.box, h.m.on hb⟩

theorem obox_new {w V : World} {o : Odr} {P Q : Option Addr} (hM : OdrM w w.heap.size o P Q) (hV : w.alloc (.cells #[.bool o.lpo, .slice P o.prec.length o.prec.length, .slice Q o.wts.length o.wts.length, .int .i64 o.var] 24) = V) : Below w.heap.size w V ∧ OBox V w.heap.size o P Q := by
  have hb : Below w.heap.size w V := by rw [← hV]; exact (Below.refl _ _).alloc (Nat.le_refl _) _
  exact ⟨hb, by rw [← hV]; exact heap_alloc_new _ _, hM.on hb⟩

set_option maxHeartbeats 8000000 in
theorem precMay_of (l : List Sm) (cl : List (List Lp)) (b wb other : Int) (wl top lpo : Bool) (As Aq : Option Addr) (cs cq : Nat) (w : World) (hS : Syms w w.heap.size As l.length l) (hn : l.length * 32 ≤ 140737488351232) (ht : tru w) (hC : ClRow w (· < w.heap.size) Aq cl) (hz : (itms cl).length ≤ 1099511627776) :
    Calls Tryd.prog 4 #[.agg #[.slice As l.length cs], .slice Aq cl.length cq, .agg #[.bool wl, .int .i64 b, .int .i64 wb, .bool top], .int .i64 other, .bool lpo] w fun e w' => e = .returned (.bool true) ∧ Below w.heap.size w w' := by
  obtain ⟨W, hW⟩ : ∃ W, (w.alloc (.cells #[.slice As l.length cs] 29)).alloc (.cells #[.bool wl, .int .i64 b, .int .i64 wb, .bool top] 34) = W := ⟨_, rfl⟩
  obtain ⟨q0, q1⟩ := heap2p w (.cells #[.slice As l.length cs] 29) (.cells #[.bool wl, .int .i64 b, .int .i64 wb, .bool top] 34)
  have hB : Below w.heap.size w W := by rw [← hW]; exact ((Below.refl _ _).alloc (Nat.le_refl _) _).alloc (by simp) _
  rw [hW] at q0 q1
  have hWz := (Array.getElem?_eq_some_iff.1 q1).1
  have hcl := hC.len
  have HW := Lib.hid hW
  have HB := Lib.hid hB
  have HS := Lib.hid (hS.on hB)
  have HT := Lib.hid (tru_below ht hB)
  have HC := Lib.hid (hC.on hB)
  have HQ : Hid (∀ w', Below W.heap.size W w' → w'.cell? ⟨w.heap.size, 0, none⟩ = some (.slice As l.length cs) ∧ w'.cell? ⟨w.heap.size + 1, 0, none⟩ = some (.bool wl) ∧ w'.cell? ⟨w.heap.size + 1, 1, none⟩ = some (.int .i64 b) ∧ w'.cell? ⟨w.heap.size + 1, 2, none⟩ = some (.int .i64 wb) ∧ w'.cell? ⟨w.heap.size + 1, 3, none⟩ = some (.bool top)) := Lib.hid fun w' h => by
    obtain ⟨⟨b0, b1, b2, b3⟩, _⟩ := four_cells ((h.block _ hWz).trans q1)
    exact ⟨(cells_one ((h.block _ (by omega)).trans q0)).1, b0, b1, b2, b3⟩
  clear hW hB hS ht hC q0 q1 hWz
  by_cases h60 : 60 < cl.length
  · have HK := Lib.hid (pWakes_any W HT.out)
    go_enter Tryd.func4, Tryd.ntmps4
    go_upto_region 1 with fail
    rw [HW.out]
    go_wp2_with (first
      | ((with_reducible refine HK.out.mono ?_); go_must (rintro e w1 ⟨rfl, hb1⟩))
      | fail)
    go_ret
    exact ⟨ret_bool rfl, HB.out.trans (hb1.mono HB.out.size)⟩
  · by_cases hbad : cntNo l cl = true ∨ nameB b wb = false
    · have HMk := Lib.hid (mk_no l cl b wb wl top As Aq cs cq W hbad HS.out hn HT.out HC.out hz)
      obtain ⟨c0, c1, c2, c3, c4⟩ := HQ.out W (Below.refl _ _)
      clear hbad
      go_enter Tryd.func4, Tryd.ntmps4
      go_upto_region 1 with fail
      rw [HW.out]
      go_upto_region 4 with (first
        | ((with_reducible refine HMk.out.mono ?_); go_must (rintro e w1 ⟨rfl, hb1⟩; have HB1 := Lib.hid hb1; clear hb1))
        | fail)
      clear c0 c1 c2 c3 c4
      obtain ⟨W2, hW2⟩ : ∃ W2, w1.alloc (.cells #[.bool false, .slice none 0 0, .slice none 0 0, .int .i64 0] 24) = W2 := ⟨_, rfl⟩
      have hb2 : Below w1.heap.size w1 W2 := by rw [← hW2]; exact (Below.refl _ _).alloc (Nat.le_refl _) _
      obtain ⟨⟨_, d1, _, _⟩, _⟩ := four_cells (show W2.heap[w1.heap.size]? = _ from by rw [← hW2]; exact heap_alloc_new _ _)
      have HB2 := Lib.hid (bl_step HB1.out hb2)
      have HK := Lib.hid (pWakes_any W2 (tru_below HT.out HB2.out))
      have HW2 := Lib.hid hW2
      clear hW2 hb2
      rw [HW2.out]
      go_wp2_with (first
        | ((with_reducible refine HK.out.mono ?_); go_must (rintro e w3 ⟨rfl, hb3⟩; have HB3 := Lib.hid (bl_step HB2.out hb3); clear hb3))
        | fail)
      go_ret
      exact ⟨ret_bool rfl, HB.out.trans (HB3.out.mono HB.out.size)⟩
    · have hno : cntNo l cl = false := by cases h : cntNo l cl with | true => exact absurd (.inl h) hbad | false => rfl
      have hnm : nameB b wb = true := by cases h : nameB b wb with | false => exact absurd (.inr h) hbad | true => rfl
      clear hbad
      have hb0 : checkI l = 0 ∧ okI l (itms cl) = true := by unfold cntNo at hno; simpa using hno
      have hcn : ∀ f, 0 ≤ cnP (cntN l cl) f := fun f => (cntN_le hz hb0.2 f).1
      have hmay1 := mkO_may (lpo := wl) (top := top) (b := b) (wb := wb) hb0.1 hcn
      have hmay3 := mkO_may (lpo := lpo) (top := !top) (b := b) (wb := other) hb0.1 hcn
      have hpr1 := mkO_prec l (cntN l cl) wl top b wb
      have hpr3 := mkO_prec l (cntN l cl) lpo (!top) b other
      have HMk1 := Lib.hid (mk_yes l cl b wb wl top As Aq cs cq W hno hnm HS.out hn HT.out HC.out hz)
      have HMk2 : Hid (∀ (w' : World) (A' : Option Addr) (c' : Nat), Below W.heap.size W w' → ClRow w' (· < w'.heap.size) A' cl.reverse → _) := Lib.hid fun w' A' c' h1 h2 => mk_yes l cl.reverse b wb wl top As A' cs c' w' (by rw [cntNo_rev]; exact hno) hnm (HS.out.on h1) hn (tru_below HT.out h1) h2 (by have := (itms_rev cl).length_eq; omega)
      have HMk3 : Hid (∀ (w' : World), Below W.heap.size W w' → nameB b other = true → _) := Lib.hid fun w' h1 h2 => mk_yes l cl b other lpo (!top) As Aq cs cq w' hno h2 (HS.out.on h1) hn (tru_below HT.out h1) (HC.out.on h1) hz
      have HMk4 : Hid (∀ (w' : World), Below W.heap.size W w' → nameB b other = false → _) := Lib.hid fun w' h1 h2 => mk_no l cl b other lpo (!top) As Aq cs cq w' (.inr h2) (HS.out.on h1) hn (tru_below HT.out h1) (HC.out.on h1) hz
      simp only [cntN_rev, List.length_reverse] at HMk2
      obtain ⟨o1, ho1⟩ : ∃ o1, mkO l (cntN l cl) wl top b wb = o1 := ⟨_, rfl⟩
      obtain ⟨o3, ho3⟩ : ∃ o3, mkO l (cntN l cl) lpo (!top) b other = o3 := ⟨_, rfl⟩
      rw [ho1] at HMk1 HMk2 hmay1 hpr1
      rw [ho3] at HMk3 hmay3 hpr3
      have HMay1 := Lib.hid hmay1
      have HMay3 := Lib.hid hmay3
      have HPr := Lib.hid (show rowE o1.prec o3.prec = true from decide_eq_true (hpr1.trans hpr3.symm))
      have hb04 := of_decide_eq_true (show decide (0 ≤ b ∧ b ≤ 4 ∧ 0 ≤ wb ∧ wb ≤ 3) = true from hnm)
      have Hb04 := Lib.hid hb04
      clear hmay1 hmay3 hpr1 hpr3 ho1 ho3 hnm hno hb0 hcn hb04
      obtain ⟨i0, hi, hz0, hz1, hz2⟩ := info_parts infoCl
      obtain ⟨D, hD, hDc⟩ := clrow_vals HC.out
      have HD := Lib.hid hD
      have HDc := Lib.hid hDc
      clear hD hDc
      obtain ⟨c0, c1, c2, c3, c4⟩ := HQ.out W (Below.refl _ _)
      go_enter Tryd.func4, Tryd.ntmps4
      go_upto_region 1 with fail
      rw [HW.out]
      go_upto_region 4 with (first
        | ((with_reducible refine HMk1.out.mono ?_); go_must (rintro e w1 ⟨P1, Q1, rfl, hb1, hM1⟩; have HB1 := Lib.hid hb1; have HM1 := Lib.hid hM1; clear hb1 hM1))
        | fail)
      clear c0 c1 c2 c3 c4
      obtain ⟨W2, hW2⟩ : ∃ W2, w1.alloc (.cells #[.bool o1.lpo, .slice P1 o1.prec.length o1.prec.length, .slice Q1 o1.wts.length o1.wts.length, .int .i64 o1.var] 24) = W2 := ⟨_, rfl⟩
      obtain ⟨hb2, hO1⟩ := obox_new HM1.out hW2
      have HO1 := Lib.hid hO1
      have HB2 := Lib.hid (bl_step HB1.out hb2)
      have HW2 := Lib.hid hW2
      clear hW2 hb2 hO1
      rw [HW2.out]
      go_wp2
      go_loopw [13, 14] (fun bk i wr => ∃ (j k : Nat) (x : Int) (v : Value), i = .int .i64 x ∧ bk = v ∧ Hid (j + k = cl.length ∧ x = (j : Int) - 1) ∧ Hid (wr.ownsRow W2.heap.size 39 1 v k (D.reverse.take k)) ∧ Below W2.heap.size W2 wr) (fun _ i _ => (intOf i + 1).toNat)
      case atStart => exact ⟨cl.length, 0, (cl.length : Int) - 1, .slice none 0 0, rfl, rfl, Lib.hid ⟨by omega, rfl⟩, Lib.hid (World.ownsRow_nil _ _ _ _), Below.refl _ _⟩
      case round =>
        obtain ⟨j, k, x, v, rfl, rfl, HJ, HR, hbr⟩ := hrel
        obtain ⟨Av, cv, hv⟩ := row_slice HR.out
        subst hv
        by_cases hx : 0 ≤ x
        · obtain ⟨m, hm⟩ : ∃ m : Nat, x = (m : Int) := ⟨x.toNat, by omega⟩
          subst hm
          have hml : m < cl.length := by have := HJ.out; omega
          have hk60 : k ≤ 60 := by have := HJ.out; omega
          have hkm : k = cl.length - 1 - m := by have := HJ.out; omega
          obtain ⟨lm, hlm⟩ : ∃ lm, cl[m]? = some lm := ⟨_, List.getElem?_eq_getElem hml⟩
          obtain ⟨A1, c1, hd, _⟩ := HD.out.at' m lm hlm
          obtain ⟨bq, oq, rfl, hbq, hcq⟩ := HDc.out (by omega)
          have hcell : wr.cell? ⟨bq, oq + m, none⟩ = some (.slice A1 lm.length c1) := (cell_of_heap ((hbr.block bq (Nat.lt_of_lt_of_le hbq HB2.out.size)).trans (HB2.out.block bq hbq))).trans (hcq m _ hd)
          have Htk := Lib.hid (show D.reverse.take (k + 1) = D.reverse.take k ++ [.slice A1 lm.length c1] by
            rw [List.take_add_one, List.getElem?_reverse (by rw [HD.out.len]; omega), HD.out.len, show cl.length - 1 - k = m by omega, hd]; rfl)
          have hW2r := hbr.size
          have HKm := Lib.hid hkm
          have hm60 : m ≤ 60 := by omega
          clear hlm hd hcq hkm
          go_wp2_with (first
            | (at_builtin
               go_must (
               refine wpList_append_own _ rfl _ _ 30 rfl W2.heap.size 39 i0 (.slice none 0 0) 1 24 Tryd.underlying30 hi hz0 hz1 hz2 rfl (by decide) _ k _ rfl (HR.out.alloc _) ⟨wr.heap.size, 0, none⟩ 1 1 [.slice A1 lm.length c1] rfl rfl (cell_one_new _ _ _) (by simp [Value.oneCell']) (by unfold maxLen; omega) (by omega) (by simp; omega) ?_
               intro v1 w3 hown3 hgr3 _
               obtain ⟨g3, cap3, rfl⟩ := ownsRow_succ hown3))
            | fail)
          go_roundw
          case rel =>
            refine ⟨m, k + 1, (m : Int) - 1, _, rfl, rfl, Lib.hid ⟨by have := HKm.out; omega, rfl⟩, Lib.hid ?_, ?_⟩
            · rw [Htk.out]; exact hown3
            · exact (hbr.alloc hW2r _).grown hgr3 (by simp; omega) fun g hg => (row_lt HR.out g hg).1
          case measure => simp [intOf]
        · have hkl : k = cl.length := by have := HJ.out; omega
          subst hkl
          have hrow := HR.out
          rw [List.take_of_length_le (by rw [List.length_reverse, HD.out.len]; exact Nat.le_refl _)] at hrow
          have hWr : Below W.heap.size W wr := HB2.out.trans (hbr.mono HB2.out.size)
          obtain ⟨A9, c9, hv9, hC9⟩ := vals_back (M := (· < wr.heap.size)) HD.out hrow hcl (fun g e => hWr.block g e) (fun g e => Nat.lt_of_lt_of_le e hWr.size) (fun g e => (row_lt hrow g e).2)
          injection hv9 with e9 _ e9'
          subst e9
          subst e9'
          have HMk := Lib.hid (HMk2.out wr Av cv hWr hC9)
          have HO1r := Lib.hid (HO1.out.on hbr)
          have HBr := Lib.hid hWr
          obtain ⟨c0, c1, c2, c3, c4⟩ := HQ.out wr hWr
          clear hrow hC9 hWr HJ HR hbr
          go_upto_region 12 with (first
            | ((with_reducible refine HMk.out.mono ?_); go_must (rintro e w4 ⟨P2, Q2, rfl, hb4, hM4⟩; have HB4 := Lib.hid (bl_step HBr.out hb4); have HM4 := Lib.hid hM4; have HO14 := Lib.hid (HO1r.out.on hb4); clear hb4 hM4))
            | fail)
          clear c0 c1 c2 c3 c4
          obtain ⟨W5, hW5⟩ : ∃ W5, w4.alloc (.cells #[.bool o1.lpo, .slice P2 o1.prec.length o1.prec.length, .slice Q2 o1.wts.length o1.wts.length, .int .i64 o1.var] 24) = W5 := ⟨_, rfl⟩
          obtain ⟨hb5, hO2⟩ := obox_new HM4.out hW5
          have HO2 := Lib.hid hO2
          have HO15 := Lib.hid (HO14.out.on hb5)
          have HB5 := Lib.hid (bl_step HB4.out hb5)
          have HW5 := Lib.hid hW5
          clear hW5 hb5 hO2
          rw [HW5.out]
          have HSm := Lib.hid (sameO_self o1 P1 Q1 P2 Q2 o1.prec.length o1.wts.length o1.prec.length o1.wts.length W5 HO15.out.m HO2.out.m)
          obtain ⟨⟨f0, f1, f2, f3⟩, _⟩ := four_cells HO15.out.box
          obtain ⟨⟨g0, g1, g2, g3⟩, _⟩ := four_cells HO2.out.box
          go_upto_region 14 with (first
            | ((with_reducible refine HSm.out.mono ?_); go_must (rintro e w6 ⟨rfl, hb6⟩; have HB6 := Lib.hid (bl_step HB5.out hb6); have HO16 := Lib.hid (HO15.out.on hb6); clear f0 f1 f2 f3 g0 g1 g2 g3 hb6; obtain ⟨⟨f0, f1, f2, f3⟩, _⟩ := four_cells HO16.out.box; obtain ⟨c0, c1, c2, c3, c4⟩ := HQ.out w6 HB6.out; have HCk := Lib.hid (by have := check_any l o1 As P1 Q1 cs o1.prec.length o1.wts.length w6 (HS.out.on HB6.out) hn (tru_below HT.out HB6.out) HO16.out.m; rwa [HMay1.out] at this : Calls Tryd.prog 10 #[.agg #[.slice As l.length cs], .agg #[.bool o1.lpo, .slice P1 o1.prec.length o1.prec.length, .slice Q1 o1.wts.length o1.wts.length, .int .i64 o1.var]] w6 fun e w' => e = .returned (.int .i64 0) ∧ Below w6.heap.size w6 w')))
            | ((with_reducible refine HCk.out.mono ?_); go_must (rintro e w7 ⟨rfl, hb7⟩; have HB7 := Lib.hid (bl_step HB6.out hb7); have HO17 := Lib.hid (HO16.out.on hb7); clear f0 f1 f2 f3 c0 c1 c2 c3 c4 hb7))
            | fail)
          obtain ⟨c0, c1, c2, c3, c4⟩ := HQ.out w7 HB7.out
          by_cases hoth : 0 ≤ other ∧ other ≤ 3
          · have hnm3 : nameB b other = true := nameB_yes ⟨Hb04.out.1, Hb04.out.2.1, hoth.1, hoth.2⟩
            have HMkA := Lib.hid (HMk3.out w7 HB7.out hnm3)
            have hoth0 := hoth.1
            have hoth3 := hoth.2
            clear hoth hnm3
            go_upto_region 15 with (first
              | ((with_reducible refine HMkA.out.mono ?_); go_must (rintro e w8 ⟨P3, Q3, rfl, hb8, hM8⟩; have HB8 := Lib.hid (bl_step HB7.out hb8); have HM8 := Lib.hid hM8; have HO18 := Lib.hid (HO17.out.on hb8); clear hb8 hM8))
              | fail)
            clear c0 c1 c2 c3 c4
            obtain ⟨W9, hW9⟩ : ∃ W9, w8.alloc (.cells #[.bool o3.lpo, .slice P3 o3.prec.length o3.prec.length, .slice Q3 o3.wts.length o3.wts.length, .int .i64 o3.var] 24) = W9 := ⟨_, rfl⟩
            obtain ⟨hb9, hO3⟩ := obox_new HM8.out hW9
            have HO3 := Lib.hid hO3
            have HO19 := Lib.hid (HO18.out.on hb9)
            have HB9 := Lib.hid (bl_step HB8.out hb9)
            have HW9 := Lib.hid hW9
            clear hW9 hb9 hO3
            rw [HW9.out]
            obtain ⟨⟨f0, f1, f2, f3⟩, _⟩ := four_cells HO19.out.box
            obtain ⟨⟨g0, g1, g2, g3⟩, _⟩ := four_cells HO3.out.box
            have HRw := Lib.hid (by have := lawRow_any o1.prec o3.prec P1 P3 o1.prec.length o3.prec.length W9 HO19.out.m.p HO3.out.m.p; rwa [HPr.out] at this : Calls Tryd.prog 11 #[.slice P1 o1.prec.length o1.prec.length, .slice P3 o3.prec.length o3.prec.length] W9 fun e w' => e = .returned (.bool true) ∧ On W9 w')
            go_wp2_with (first
              | ((with_reducible refine HRw.out.mono ?_); go_must (rintro e wA ⟨rfl, hbA⟩; have HBA := Lib.hid (bl_step HB9.out hbA.b); have HO3A := Lib.hid (HO3.out.on hbA.b); clear f0 f1 f2 f3 g0 g1 g2 g3 hbA; obtain ⟨⟨g0, g1, g2, g3⟩, _⟩ := four_cells HO3A.out.box; obtain ⟨c0, c1, c2, c3, c4⟩ := HQ.out wA HBA.out; have HCkA := Lib.hid (by have := check_any l o3 As P3 Q3 cs o3.prec.length o3.wts.length wA (HS.out.on HBA.out) hn (tru_below HT.out HBA.out) HO3A.out.m; rwa [HMay3.out] at this : Calls Tryd.prog 10 #[.agg #[.slice As l.length cs], .agg #[.bool o3.lpo, .slice P3 o3.prec.length o3.prec.length, .slice Q3 o3.wts.length o3.wts.length, .int .i64 o3.var]] wA fun e w' => e = .returned (.int .i64 0) ∧ Below wA.heap.size wA w')))
              | ((with_reducible refine HCkA.out.mono ?_); go_must (rintro e wB ⟨rfl, hbB⟩; have HBB := Lib.hid (bl_step HBA.out hbB); have HKB := Lib.hid (pWakes_any wB (tru_below HT.out HBB.out)); clear hbB g0 g1 g2 g3 c0 c1 c2 c3 c4))
              | ((with_reducible refine HKB.out.mono ?_); go_must (rintro e wC ⟨rfl, hbC⟩; have HBC := Lib.hid (bl_step HBB.out hbC); clear hbC))
              | fail)
            go_ret
            exact ⟨ret_bool rfl, HB.out.trans (HBC.out.mono HB.out.size)⟩
          · have hnm3 : nameB b other = false := nameB_no (fun e => hoth ⟨e.2.2.1, e.2.2.2⟩)
            have HMkA := Lib.hid (HMk4.out w7 HB7.out hnm3)
            clear hnm3
            go_upto_region 15 with (first
              | ((with_reducible refine HMkA.out.mono ?_); go_must (rintro e w8 ⟨rfl, hb8⟩; have HB8 := Lib.hid (bl_step HB7.out hb8); clear hb8))
              | fail)
            clear c0 c1 c2 c3 c4
            obtain ⟨W9, hW9⟩ : ∃ W9, w8.alloc (.cells #[.bool false, .slice none 0 0, .slice none 0 0, .int .i64 0] 24) = W9 := ⟨_, rfl⟩
            have hb9 : Below w8.heap.size w8 W9 := by rw [← hW9]; exact (Below.refl _ _).alloc (Nat.le_refl _) _
            have HB9 := Lib.hid (bl_step HB8.out hb9)
            have HK9 := Lib.hid (pWakes_any W9 (tru_below HT.out HB9.out))
            have HW9 := Lib.hid hW9
            clear hW9 hb9
            rw [HW9.out]
            by_cases ho0 : 0 ≤ other
            · have ho3 : 3 < other := by omega
              have ho0' : ¬ other < 0 := by omega
              clear hoth
              go_wp2_with (first
                | ((with_reducible refine HK9.out.mono ?_); go_must (rintro e wA ⟨rfl, hbA⟩; have HBA := Lib.hid (bl_step HB9.out hbA); clear hbA))
                | fail)
              go_ret
              exact ⟨ret_bool rfl, HB.out.trans (HBA.out.mono HB.out.size)⟩
            · have ho1 : other < 0 := by omega
              clear hoth ho0
              go_wp2_with (first
                | ((with_reducible refine HK9.out.mono ?_); go_must (rintro e wA ⟨rfl, hbA⟩; have HBA := Lib.hid (bl_step HB9.out hbA); clear hbA))
                | fail)
              go_ret
              exact ⟨ret_bool rfl, HB.out.trans (HBA.out.mono HB.out.size)⟩

end Go.Proofs.YtfnncphkidhbpaaDoor

/- A signature that is an argument: its length is bounded by what the arguments hold together. -/

namespace Go.Proofs.YtfnncphkidhbpaaDoor

open Go.ChangeShapes Go.WideShapes Go.ChangeAt Go.RowKit
set_option maxRecDepth 20000

theorem bulk_pos {H : Type} (d : DataW H) : 1 ≤ Rows.uptoBulk d := by
  cases d with
  | lit l => cases l <;> simp [Rows.uptoBulk]
  | _ => simp [Rows.uptoBulk]

theorem bulk_length {H : Type} : ∀ ds : List (DataW H), ds.length ≤ Rows.uptoBulkAll ds
  | [] => by simp
  | d :: ds => by
    have h1 := bulk_pos d
    have h2 := bulk_length ds
    simp only [Rows.uptoBulkAll, List.length_cons]; omega

theorem sig_bulk {H : Type} {d : DataW H} {len : Nat} (hl : len = 0 ∨ ∃ elems spare, d = .agg [.slice elems spare] ∧ elems.length = len) : len ≤ Rows.uptoBulk d := by
  rcases hl with rfl | ⟨elems, spare, rfl, rfl⟩
  · omega
  · have := bulk_length elems
    simp only [Rows.uptoBulk, Rows.uptoBulkAll]; omega

theorem trodAll_five {H : Type} {enc : TypeId × Value → H} {P : Program} {w : World} {base : Nat} {spare : Nat → Bool} {held : Bool} {t0 t1 t2 t3 t4 : TypeId} {args : Array Value} {ds : List (DataW H)} {ps : List MemPlace} (h : DataW.TrodAll enc P w base spare held [t0, t1, t2, t3, t4] args.toList ds ps) :
    ∃ v0 v1 v2 v3 v4 d0 d1 d2 d3 d4 p0 p1 p2 p3 p4, args = #[v0, v1, v2, v3, v4] ∧ ds = [d0, d1, d2, d3, d4] ∧ ps = p0 ++ (p1 ++ (p2 ++ (p3 ++ (p4)))) ∧ DataW.Trod enc P w base spare held t0 v0 d0 p0 ∧ DataW.Trod enc P w base spare held t1 v1 d1 p1 ∧ DataW.Trod enc P w base spare held t2 v2 d2 p2 ∧ DataW.Trod enc P w base spare held t3 v3 d3 p3 ∧ DataW.Trod enc P w base spare held t4 v4 d4 p4 := by
  obtain ⟨v0, w0, d0, e0, p0, q0, hargs, rfl, rfl, k0, r0⟩ := trodAll_cons h
  obtain ⟨v1, w1, d1, e1, p1, q1, rfl, rfl, rfl, k1, r1⟩ := trodAll_cons r0
  obtain ⟨v2, w2, d2, e2, p2, q2, rfl, rfl, rfl, k2, r2⟩ := trodAll_cons r1
  obtain ⟨v3, w3, d3, e3, p3, q3, rfl, rfl, rfl, k3, r3⟩ := trodAll_cons r2
  obtain ⟨v4, w4, d4, e4, p4, q4, rfl, rfl, rfl, k4, r4⟩ := trodAll_cons r3
  obtain ⟨rfl, rfl, rfl⟩ := trodAll_nil r4
  exact ⟨v0, v1, v2, v3, v4, d0, d1, d2, d3, d4, p0, p1, p2, p3, p4, by cases args; simp_all, rfl, by simp, k0, k1, k2, k3, k4⟩

theorem trodAll_six {H : Type} {enc : TypeId × Value → H} {P : Program} {w : World} {base : Nat} {spare : Nat → Bool} {held : Bool} {t0 t1 t2 t3 t4 t5 : TypeId} {args : Array Value} {ds : List (DataW H)} {ps : List MemPlace} (h : DataW.TrodAll enc P w base spare held [t0, t1, t2, t3, t4, t5] args.toList ds ps) :
    ∃ v0 v1 v2 v3 v4 v5 d0 d1 d2 d3 d4 d5 p0 p1 p2 p3 p4 p5, args = #[v0, v1, v2, v3, v4, v5] ∧ ds = [d0, d1, d2, d3, d4, d5] ∧ ps = p0 ++ (p1 ++ (p2 ++ (p3 ++ (p4 ++ (p5))))) ∧ DataW.Trod enc P w base spare held t0 v0 d0 p0 ∧ DataW.Trod enc P w base spare held t1 v1 d1 p1 ∧ DataW.Trod enc P w base spare held t2 v2 d2 p2 ∧ DataW.Trod enc P w base spare held t3 v3 d3 p3 ∧ DataW.Trod enc P w base spare held t4 v4 d4 p4 ∧ DataW.Trod enc P w base spare held t5 v5 d5 p5 := by
  obtain ⟨v0, w0, d0, e0, p0, q0, hargs, rfl, rfl, k0, r0⟩ := trodAll_cons h
  obtain ⟨v1, w1, d1, e1, p1, q1, rfl, rfl, rfl, k1, r1⟩ := trodAll_cons r0
  obtain ⟨v2, w2, d2, e2, p2, q2, rfl, rfl, rfl, k2, r2⟩ := trodAll_cons r1
  obtain ⟨v3, w3, d3, e3, p3, q3, rfl, rfl, rfl, k3, r3⟩ := trodAll_cons r2
  obtain ⟨v4, w4, d4, e4, p4, q4, rfl, rfl, rfl, k4, r4⟩ := trodAll_cons r3
  obtain ⟨v5, w5, d5, e5, p5, q5, rfl, rfl, rfl, k5, r5⟩ := trodAll_cons r4
  obtain ⟨rfl, rfl, rfl⟩ := trodAll_nil r5
  exact ⟨v0, v1, v2, v3, v4, v5, d0, d1, d2, d3, d4, d5, p0, p1, p2, p3, p4, p5, by cases args; simp_all, rfl, by simp, k0, k1, k2, k3, k4, k5⟩

end Go.Proofs.YtfnncphkidhbpaaDoor

/- Clauses that are an argument, opened; a way. -/

namespace Go.Proofs.YtfnncphkidhbpaaDoor

open Go.ChangeShapes Go.WideShapes Go.ChangeAt Go.RowKit
set_option maxRecDepth 20000

section

variable {H : Type} {enc : TypeId × Value → H} {W : World} {base : Nat} {held : Bool}

theorem cellsLitP : Tryd.prog.cellsOf 49 = 5 := by kernel_rfl

theorem cellsClauseP : Tryd.prog.cellsOf 39 = 1 := by kernel_rfl

theorem cellsBoolP : Tryd.prog.cellsOf 4 = 1 := by kernel_rfl

theorem cellsPrecByP : Tryd.prog.cellsOf 31 = 1 := by kernel_rfl

theorem cellsWeightByP : Tryd.prog.cellsOf 32 = 1 := by kernel_rfl

theorem trodP_lit (n : Nat) (cs : List Value) (x : DataW H × List MemPlace) (h : DataW.trod enc Tryd.prog W base (fun _ => true) held n 49 cs = some x) :
    ∃ (y : Lp) (A1 : Option Addr) (c1 : Nat) (A2 : Option Addr) (c2 : Nat), cs = [.bool y.neg, .int .i64 y.l.fn, .slice A1 y.l.args.length c1, .int .i64 y.r.fn, .slice A2 y.r.args.length c2] ∧ I64 y.l.fn ∧ I64 y.r.fn ∧ Args W W.heap.size A1 y.l.args ∧ Args W W.heap.size A2 y.r.args := by
  obtain ⟨xs, n', rfl, hx, hlen, hxs, hf⟩ := DataW.trod_struct Tryd.underlying49 h
  rw [cellsLitP] at hlen
  match cs, hlen with
  | [c0, c1, c2, c3, c4], _ =>
    have hx2 : xs.length = 3 := by rw [hxs]; rfl
    match xs, hx2 with
    | [x0, x1, x2], _ =>
      have g0 := hf 0 _ rfl
      have g1 := hf 1 _ rfl
      have g2 := hf 2 _ rfl
      simp [cellsBoolP] at g0
      simp [cellsTerm] at g1
      simp [cellsTerm] at g2
      obtain ⟨b, hbv, eb⟩ := DataW.trod_bool Tryd.underlying4 g0
      injection hbv with hbv
      subst hbv
      obtain ⟨t, A, c, hcs, ht64, hA, _⟩ := trod_term _ _ _ g1
      injection hcs with e1 hcs
      injection hcs with e2 _
      subst e1; subst e2
      obtain ⟨t2, A2, c2, hcs2, ht642, hA2, _⟩ := trod_term _ _ _ g2
      injection hcs2 with e3 hcs2
      injection hcs2 with e4 _
      subst e3; subst e4
      exact ⟨⟨b, t, t2⟩, A, c, A2, c2, rfl, ht64, ht642, hA, hA2⟩

theorem bulkP_length : ∀ ds : List (DataW H), ds.length ≤ Rows.uptoBulkAll ds := fun ds => bulk_length ds

theorem trodP_clause (n : Nat) (cs : List Value) (x : DataW H × List MemPlace) (h : DataW.trod enc Tryd.prog W base (fun _ => true) held n 39 cs = some x) :
    ∃ (l : List Lp) (A : Option Addr) (c : Nat), cs = [.slice A l.length c] ∧ LpRow W (· < W.heap.size) A l ∧ l.length ≤ Rows.uptoBulk x.1 := by
  rcases DataW.trod_slice Tryd.underlying39 h with ⟨hv, e1⟩ | ⟨a, len0, cap0, elems, rest, m, hm, hv, e1, _, hl, hmax, hlenE, hel, _, _⟩
  · exact ⟨[], none, 0, hv, ⟨by simp, fun h => by simp at h⟩, Nat.zero_le _⟩
  · have hb : len0 ≤ Rows.uptoBulk x.1 := by
      rw [e1]
      have h1 := bulkP_length (elems.map (·.1))
      rw [List.length_map] at h1
      simp only [Rows.uptoBulk]
      omega
    have each : ∀ i, i < len0 → ∃ q : Lp × (Option Addr × Nat) × (Option Addr × Nat), W.cell? (a.add (i * 5)) = some (.bool q.1.neg) ∧ W.cell? ((a.add (i * 5)).add 1) = some (.int .i64 q.1.l.fn) ∧ W.cell? ((a.add (i * 5)).add 2) = some (.slice q.2.1.1 q.1.l.args.length q.2.1.2) ∧ W.cell? ((a.add (i * 5)).add 3) = some (.int .i64 q.1.r.fn) ∧ W.cell? ((a.add (i * 5)).add 4) = some (.slice q.2.2.1 q.1.r.args.length q.2.2.2) ∧ I64 q.1.l.fn ∧ I64 q.1.r.fn ∧ Args W W.heap.size q.2.1.1 q.1.l.args ∧ Args W W.heap.size q.2.2.1 q.1.r.args := by
      intro i hi
      have h1 := hel i hi
      rw [cellsLitP] at h1
      rw [List.getElem?_eq_getElem (by omega)] at h1
      cases hc : W.cells? base (a.add (i * 5)) 5 with
      | none => rw [hc] at h1; cases h1
      | some cs' =>
        rw [hc] at h1
        simp only [Option.bind_some] at h1
        obtain ⟨y, A1, c1, A2, c2, rfl, h64, h64', hA1, hA2⟩ := trodP_lit _ cs' _ h1
        obtain ⟨_, _, hat⟩ := World.cells?_some hc
        refine ⟨(y, (A1, c1), (A2, c2)), ?_, hat 1 (by omega), hat 2 (by omega), hat 3 (by omega), hat 4 (by omega), h64, h64', hA1, hA2⟩
        have := hat 0 (by omega)
        simpa [Addr.add] using this
    haveI : Inhabited (Lp × (Option Addr × Nat) × (Option Addr × Nat)) := ⟨(⟨false, .node 0 [], .node 0 []⟩, (none, 0), (none, 0))⟩
    obtain ⟨q, hq⟩ := Go.Deep.choose_lt each
    have hget : ∀ (i : Nat) (t : Lp), ((List.range len0).map fun i => (q i).1)[i]? = some t → i < len0 ∧ t = (q i).1 := by
      intro i t e
      have hi : i < len0 := by have := (List.getElem?_eq_some_iff.1 e).1; simpa using this
      rw [List.getElem?_map, List.getElem?_range hi] at e
      simp at e
      exact ⟨hi, e.symm⟩
    refine ⟨(List.range len0).map fun i => (q i).1, some a, cap0, by rw [hv]; simp, ⟨by unfold maxLen at hmax; simp; omega, fun hp => ?_⟩, by simpa using hb⟩
    have h0 : 0 < len0 := by simpa using hp
    have c00 := (hq 0 h0).1
    simp only [Nat.zero_mul, Addr.add, if_true] at c00
    obtain ⟨blk, off, spot⟩ := a
    obtain rfl : spot = none := cell_spot c00
    refine ⟨blk, off, rfl, World.block_lt_of_cell? W _ c00, fun i t e => ?_⟩
    obtain ⟨hi, rfl⟩ := hget i t e
    obtain ⟨h3, h4, h5, h6, h7, h1, h2, h8, h9⟩ := hq i hi
    rw [Addr.add_lit] at h3
    rw [Addr.add_lit, Addr.add_lit] at h4 h5 h6 h7
    exact ⟨(q i).2.1.1, (q i).2.1.2, (q i).2.2.1, (q i).2.2.2, h3, h4, h5, h6, h7, h1, h2, h8.toN, h9.toN⟩

theorem itmL_two : ∀ l : List Lp, (itmL l).length ≤ 2 * l.length
  | [] => by simp [itmL]
  | x :: l => by
    have := itmL_two l
    unfold itmL at *
    rw [List.flatMap_cons, List.length_append, List.length_cons]
    have : (itm x).length ≤ 2 := by unfold itm; split <;> simp
    omega

theorem itms_two : ∀ (cl : List (List Lp)) (ds : List (DataW H)), cl.length = ds.length → (∀ (i : Nat) (l : List Lp) (d : DataW H), cl[i]? = some l → ds[i]? = some d → l.length ≤ Rows.uptoBulk d) → (itms cl).length ≤ 2 * Rows.uptoBulkAll ds
  | [], [], _, _ => by simp [itms]
  | [], _ :: _, h, _ => by simp at h
  | _ :: _, [], h, _ => by simp at h
  | l :: cl, d :: ds, h, hh => by
    have h1 := hh 0 l d rfl rfl
    have h2 := itms_two cl ds (by simpa using h) fun i t' d' e1 e2 => hh (i + 1) t' d' (by simpa using e1) (by simpa using e2)
    have h3 := itmL_two l
    unfold itms at *
    rw [List.flatMap_cons, List.length_append]
    simp only [Rows.uptoBulkAll]
    omega

/-- Clauses that are an argument. -/
theorem open_clauses {r : Reach} {b0 : Nat} {v : Value} {d : DataW H} {ps : List MemPlace} (hv : Value.okWide Tryd.prog W r b0 30 v) (h : DataW.Trod enc Tryd.prog W base (fun _ => true) held 30 v d ps) :
    ∃ (cl : List (List Lp)) (A : Option Addr) (c : Nat), v = .slice A cl.length c ∧ ClRow W (· < W.heap.size) A cl ∧ (itms cl).length ≤ 2 * Rows.uptoBulk d := by
  obtain ⟨a0, len0, cap0, rfl⟩ := okWide_slice Tryd.underlying30 hv
  obtain ⟨fuel, hf⟩ := h
  have hf' : DataW.trod enc Tryd.prog W base (fun _ => true) held fuel 30 [.slice a0 len0 cap0] = some (d, ps) := hf
  rcases DataW.trod_slice Tryd.underlying30 hf' with ⟨hv, e1⟩ | ⟨a, len, cap, elems, rest, m, hm, hv, e1, _, hl, hmax, hlenE, hel, _, _⟩
  · injection hv with hv
    injection hv with e2 e3 e4
    subst e2; subst e3; subst e4
    exact ⟨[], none, 0, rfl, ⟨by simp, fun h => by simp at h⟩, by simp [itms]⟩
  · injection hv with hv
    injection hv with e2 e3 e4
    subst e2; subst e3; subst e4
    have each : ∀ i, i < len0 → ∃ q : List Lp × Option Addr × Nat, W.cell? (a.add i) = some (.slice q.2.1 q.1.length q.2.2) ∧ LpRow W (· < W.heap.size) q.2.1 q.1 ∧ ∀ z, elems[i]? = some z → q.1.length ≤ Rows.uptoBulk z.1 := by
      intro i hi
      have h1 := hel i hi
      rw [cellsClauseP, Nat.mul_one] at h1
      rw [List.getElem?_eq_getElem (by omega)] at h1
      cases hc : W.cells? base (a.add i) 1 with
      | none => rw [hc] at h1; cases h1
      | some cs' =>
        rw [hc] at h1
        simp only [Option.bind_some] at h1
        obtain ⟨l, A1, c1, rfl, hL, hb⟩ := trodP_clause _ cs' _ h1
        obtain ⟨_, _, hat⟩ := World.cells?_some hc
        refine ⟨(l, A1, c1), ?_, hL, fun z hz => ?_⟩
        · have := hat 0 (by omega)
          simpa [Addr.add] using this
        · rw [List.getElem?_eq_getElem (by omega)] at hz
          obtain rfl := Option.some.inj hz
          exact hb
    haveI : Inhabited (List Lp × Option Addr × Nat) := ⟨([], none, 0)⟩
    obtain ⟨q, hq⟩ := Go.Deep.choose_lt each
    have hget : ∀ (i : Nat) (t : List Lp), ((List.range len0).map fun i => (q i).1)[i]? = some t → i < len0 ∧ t = (q i).1 := by
      intro i t e
      have hi : i < len0 := by have := (List.getElem?_eq_some_iff.1 e).1; simpa using this
      rw [List.getElem?_map, List.getElem?_range hi] at e
      simp at e
      exact ⟨hi, e.symm⟩
    refine ⟨(List.range len0).map fun i => (q i).1, some a, cap0, by simp, ⟨by unfold maxLen at hmax; simp; omega, fun hp => ?_⟩, ?_⟩
    · have h0 : 0 < len0 := by simpa using hp
      have c00 := (hq 0 h0).1
      simp only [Addr.add, if_true] at c00
      obtain ⟨blk, off, spot⟩ := a
      obtain rfl : spot = none := cell_spot c00
      refine ⟨blk, off, rfl, World.block_lt_of_cell? W _ c00, fun i t e => ?_⟩
      obtain ⟨hi, rfl⟩ := hget i t e
      obtain ⟨h3, h4, _⟩ := hq i hi
      rw [Addr.add_lit] at h3
      exact ⟨(q i).2.1, (q i).2.2, h3, h4⟩
    · have h9 := itms_two ((List.range len0).map fun i => (q i).1) (elems.map (·.1)) (by simp; omega) fun i l z e1 e2 => by
        obtain ⟨hi, rfl⟩ := hget i l e1
        rw [List.getElem?_map] at e2
        cases he : elems[i]? with
        | none => rw [he] at e2; cases e2
        | some y =>
          rw [he] at e2
          simp only [Option.map_some] at e2
          obtain rfl := Option.some.inj e2
          exact (hq i hi).2.2 y he
      have e5 := congrArg (fun z => Rows.uptoBulk z.1) e1
      simp only [Rows.uptoBulk] at e5
      omega

/-- A way that is an argument. -/
theorem open_way {r : Reach} {b0 : Nat} {v : Value} {d : DataW H} {ps : List MemPlace} (hv : Value.okWide Tryd.prog W r b0 34 v) (h : DataW.Trod enc Tryd.prog W base (fun _ => true) held 34 v d ps) :
    ∃ (lpo top : Bool) (b wb : Int), v = .agg #[.bool lpo, .int .i64 b, .int .i64 wb, .bool top] := by
  obtain ⟨cs, rfl, _⟩ := okWide_struct Tryd.underlying34 hv
  obtain ⟨fuel, hf⟩ := h
  have hf' : DataW.trod enc Tryd.prog W base (fun _ => true) held fuel 34 cs.toList = some (d, ps) := hf
  obtain ⟨xs, n', _, hx, hlen, hxs, hg⟩ := DataW.trod_struct Tryd.underlying34 hf'
  have cw : Tryd.prog.cellsOf 34 = 4 := by kernel_rfl
  rw [cw] at hlen
  obtain ⟨l, hl⟩ : ∃ l, cs.toList = l := ⟨_, rfl⟩
  rw [hl] at hlen hg
  match l, hlen, hl with
  | [c0, c1, c2, c3], _, hl =>
    have hx2 : xs.length = 4 := by rw [hxs]; rfl
    match xs, hx2 with
    | [x0, x1, x2, x3], _ =>
      have g0 := hg 0 _ rfl
      have g1 := hg 1 _ rfl
      have g2 := hg 2 _ rfl
      have g3 := hg 3 _ rfl
      simp [cellsBoolP] at g0
      simp [cellsPrecByP] at g1
      simp [cellsWeightByP] at g2
      simp [cellsBoolP] at g3
      obtain ⟨b, hbv, _⟩ := DataW.trod_bool Tryd.underlying4 g0
      injection hbv with hbv
      subst hbv
      obtain ⟨f, hfv, _, hw⟩ := DataW.trod_int Tryd.underlying31 g1
      injection hfv with hfv
      subst hfv
      obtain ⟨g, hgv, _, hw2⟩ := DataW.trod_int Tryd.underlying32 g2
      injection hgv with hgv
      subst hgv
      obtain ⟨b3, hbv3, _⟩ := DataW.trod_bool Tryd.underlying4 g3
      injection hbv3 with hbv3
      subst hbv3
      exact ⟨b, b3, f, g, by rw [show cs = #[.bool b, .int .i64 f, .int .i64 g, .bool b3] from Array.toList_inj.1 (by rw [hl])]⟩

end

end Go.Proofs.YtfnncphkidhbpaaDoor

