import Derived.Test.YtglfjmbclimeeaaP37Z1
import Derived.Test.YtglfjmbclimeeaaP38Z1
import Derived.Test.YtglfjmbclimeeaaP36Z1
import Derived.Deep.RegionHeld3
import Derived.WalkMore
import Derived.Deep.LoopGhost
/- match: sides of a matcher, walked. -/

namespace Go.Proofs.Ytglfjmbclimeeaa

open Go.RowKit Go.Shelf
set_option maxRecDepth 100000

/-- What two pairs of sides make of what is bound. -/
def sideO (M : List Bd) (p q t u : Tm) : Option (List Bd) := (wkT p M t).bind fun M' => wkT q M' u

theorem wk_ext {p u : Tm} {M M' : List Bd} (hok : MOk M) (h : wkT p M u = some M') : MOk M' ∧ (∃ E, M' = M ++ E) ∧ M'.length ≤ M.length + p.size := (wk_mt p M u hok).ext M' h

theorem bdsM_len (l : List Bi) : (bdsM l).length = l.length := by unfold bdsM; rw [List.length_map]

/-- What is not the matcher's stays. -/
theorem MatStep.stay {w w' : World} {S N : Nat → Prop} {bx bm : Nat} {v v' : Value} {l' : List Bi} (h : MatStep w w' S bx bm v v' l') (hN : ∀ g, N g → g < w.heap.size ∧ ¬ OwnM bx bm v g) : (∀ g, N g → w'.heap[g]? = w.heap[g]?) ∧ ∀ g, N g → g < w'.heap.size ∧ ¬ OwnM bx bm v' g :=
  ⟨fun g e => h.k.k.block g ⟨(hN g e).1, (hN g e).2⟩, fun g e => ⟨Nat.lt_of_lt_of_le (hN g e).1 h.k.size, fun e2 => by
    rcases e2 with e2 | e2 | e2
    · exact (hN g e).2 (.inl e2)
    · exact (hN g e).2 (.inr (.inl e2))
    · rcases h.blk g e2 with h' | h'
      · exact (hN g e).2 (.inr (.inr h'))
      · have := (hN g e).1; omega⟩⟩

/-- Two boxes of literals. -/
theorem box2L {w W : World} {n m : Bool} {p q t u : Tm} {A B C D : Option Addr} {a b c d : Nat} (hW : (w.alloc (.cells #[.bool n, .int .i64 p.fn, .slice A p.args.length a, .int .i64 q.fn, .slice B q.args.length b] 35)).alloc (.cells #[.bool m, .int .i64 t.fn, .slice C t.args.length c, .int .i64 u.fn, .slice D u.args.length d] 35) = W) :
    Below w.heap.size w W ∧ W.heap.size = w.heap.size + 2 ∧ W.heap[w.heap.size]? = some (.cells #[.bool n, .int .i64 p.fn, .slice A p.args.length a, .int .i64 q.fn, .slice B q.args.length b] 35) ∧ W.heap[w.heap.size + 1]? = some (.cells #[.bool m, .int .i64 t.fn, .slice C t.args.length c, .int .i64 u.fn, .slice D u.args.length d] 35) := by
  have q1 := heap_alloc_new (w.alloc (.cells #[.bool n, .int .i64 p.fn, .slice A p.args.length a, .int .i64 q.fn, .slice B q.args.length b] 35)) (.cells #[.bool m, .int .i64 t.fn, .slice C t.args.length c, .int .i64 u.fn, .slice D u.args.length d] 35)
  have q0 := (Below.heap_alloc (w.alloc (.cells #[.bool n, .int .i64 p.fn, .slice A p.args.length a, .int .i64 q.fn, .slice B q.args.length b] 35)) (.cells #[.bool m, .int .i64 t.fn, .slice C t.args.length c, .int .i64 u.fn, .slice D u.args.length d] 35) w.heap.size (by simp)).trans (heap_alloc_new w _)
  rw [hW] at q0 q1
  rw [show (w.alloc (.cells #[.bool n, .int .i64 p.fn, .slice A p.args.length a, .int .i64 q.fn, .slice B q.args.length b] 35)).heap.size = w.heap.size + 1 by simp] at q1
  exact ⟨by rw [← hW]; exact ((Below.refl _ _).alloc (Nat.le_refl _) _).alloc (by simp) _, by rw [← hW]; simp, q0, q1⟩

/-- What sides does. -/
def SidPost (p q t u : Tm) (w : World) (S : Nat → Prop) (bx bm : Nat) (v : Value) (l : List Bi) (r : Bool) (w' : World) : Prop :=
  r = (sideO (bdsM l) p q t u).isSome ∧ ∃ v' l', bdsM l' = (sideO (bdsM l) p q t u).getD (bdsM l) ∧ MatStep w w' S bx bm v v' l'

set_option maxHeartbeats 4000000 in
theorem msides_any (n m : Bool) (p q t u : Tm) (A B C D : Option Addr) (a b c d bx bm : Nat) (S N : Nat → Prop) (v : Value) (l : List Bi) (w : World) (hM : MatW w S bx bm v l) (hN : ∀ g, N g → g < w.heap.size ∧ ¬ OwnM bx bm v g) (hnum : p.size + q.size + l.length ≤ 1099511627776) (ht : t.size ≤ 4398046511104) (hu : u.size ≤ 4398046511104)
    (hp64 : I64 p.fn) (hq64 : I64 q.fn) (ht64 : I64 t.fn) (hu64 : I64 u.fn) (hA : ArgsN w N A p.args) (hB : ArgsN w N B q.args) (hC : ArgsN w N C t.args) (hD : ArgsN w N D u.args) :
    Calls Try.prog 38 #[.iface 23 (.pointer (some ⟨bx, 0, none⟩)), litV n p q A B a b, litV m t u C D c d] w fun e w' => ∃ r, e = .returned (.bool r) ∧ SidPost p q t u w S bx bm v l r w' := by
  obtain ⟨W, hW⟩ : ∃ W, (w.alloc (.cells #[.bool n, .int .i64 p.fn, .slice A p.args.length a, .int .i64 q.fn, .slice B q.args.length b] 35)).alloc (.cells #[.bool m, .int .i64 t.fn, .slice C t.args.length c, .int .i64 u.fn, .slice D u.args.length d] 35) = W := ⟨_, rfl⟩
  obtain ⟨hBW, hWz, q0, q1⟩ := box2L hW
  have hok := hM.ok
  have hst := MatStep.of_below hM hBW
  have hNo : ∀ g, w.heap.size ≤ g → ¬ OwnM bx bm v g := fun g h e => by have := hM.lt _ (hM.own _ e); omega
  have HX := Lib.hid (fun (w1 : World) (h : KeepsC (OwnM bx bm v) W w1) => (⟨cells_five ((h.k.block _ ⟨by omega, hNo _ (by omega)⟩).trans q0), cells_five ((h.k.block _ ⟨by omega, hNo _ (by omega)⟩).trans q1)⟩ : (w1.cell? ⟨w.heap.size, 0, none⟩ = some (.bool n) ∧ w1.cell? ⟨w.heap.size, 1, none⟩ = some (.int .i64 p.fn) ∧ w1.cell? ⟨w.heap.size, 2, none⟩ = some (.slice A p.args.length a) ∧ w1.cell? ⟨w.heap.size, 3, none⟩ = some (.int .i64 q.fn) ∧ w1.cell? ⟨w.heap.size, 4, none⟩ = some (.slice B q.args.length b)) ∧ (w1.cell? ⟨w.heap.size + 1, 0, none⟩ = some (.bool m) ∧ w1.cell? ⟨w.heap.size + 1, 1, none⟩ = some (.int .i64 t.fn) ∧ w1.cell? ⟨w.heap.size + 1, 2, none⟩ = some (.slice C t.args.length c) ∧ w1.cell? ⟨w.heap.size + 1, 3, none⟩ = some (.int .i64 u.fn) ∧ w1.cell? ⟨w.heap.size + 1, 4, none⟩ = some (.slice D u.args.length d))))
  obtain ⟨⟨x0, x1, x2, x3, x4⟩, y0, y1, y2, y3, y4⟩ := HX.out W (KeepsC.refl _ _)
  have hl64 : I64 (l.length : Int) := ⟨by omega, by omega⟩
  have hNW : ∀ g, N g → g < W.heap.size ∧ ¬ OwnM bx bm v g := fun g e => ⟨by have := (hN g e).1; omega, (hN g e).2⟩
  have hk : ∀ g, N g → W.heap[g]? = w.heap[g]? := fun g e => hBW.block g (hN g e).1
  have HMk := Lib.hid (mark_any bx bm _ v l W hst.m)
  have HT := Lib.hid (mterm_any p t A C a c bx bm _ N v l W hst.m hNW (by omega) ht hp64 ht64 (hA.keep hk) (hC.keep hk))
  have hT2 : ∀ (w2 : World) (v1 : Value) (l1 : List Bi), MatStep W w2 (fun g => S g ∨ (w.heap.size ≤ g ∧ g < W.heap.size)) bx bm v v1 l1 → l1.length ≤ l.length + p.size → _ := fun w2 v1 l1 h2 hl1 => mterm_any q u B D b d bx bm _ N v1 l1 w2 h2.m (h2.stay hNW).2 (by omega) hu hq64 hu64 ((hB.keep hk).keep (h2.stay hNW).1) ((hD.keep hk).keep (h2.stay hNW).1)
  have hBk : ∀ (w2 : World) (v1 : Value) (l1 : List Bi), MatStep W w2 (fun g => S g ∨ (w.heap.size ≤ g ∧ g < W.heap.size)) bx bm v v1 l1 → l1.length ≤ 1099511627776 → _ := fun w2 v1 l1 h2 hl1 => back_any (l.length : Int) bx bm _ v1 l1 w2 hl64 (by omega) h2.m
  have HT2 := Lib.hid hT2
  have HBk := Lib.hid hBk
  have Hok := Lib.hid hok
  have Hst := Lib.hid hst
  have HW := Lib.hid hW
  have k1 := meth_mark
  have k2 := meth_term
  have k3 := meth_back
  clear hM hN hA hB hC hD hW q0 q1 hok hst hNo hNW hk hT2 hBk hWz
  rcases e1 : wkT p (bdsM l) t with _ | M1
  · have hB1 := Lib.hid (show trmB (bdsM l) p t = false by unfold trmB; rw [e1]; rfl)
    have hM1 := Lib.hid (show trmM (bdsM l) p t = bdsM l by unfold trmM; rw [e1]; rfl)
    have hS := Lib.hid (show sideO (bdsM l) p q t u = none by unfold sideO; rw [e1]; rfl)
    clear e1
    go_enter Try.func38, Try.ntmps38
    go_upto_region 1 with fail
    rw [HW.out]
    go_wp2_with (first
      | (go_at_call 15; with_reducible refine HMk.out.mono ?_; go_must (rintro e w1 ⟨rfl, rfl⟩))
      | (go_at_call 9; with_reducible refine HT.out.mono ?_; go_must (rintro e w2 ⟨v1, l1, hres, hbds, hs1⟩; rw [hB1.out] at hres; subst hres; rw [hM1.out] at hbds; have hll := congrArg List.length hbds; rw [bdsM_len, bdsM_len] at hll; have HB2 := Lib.hid (HBk.out w2 v1 l1 hs1 (by omega)); have Hs1 := Lib.hid hs1; have Hbds := Lib.hid hbds; clear hs1 hbds hll))
      | (go_at_call 13; with_reducible refine HB2.out.mono ?_; go_must (rintro e w3 ⟨rfl, v2, hs2⟩; have Hs2 := Lib.hid hs2; clear hs2))
      | fail)
    go_ret
    exact ⟨_, rfl, by rw [hS.out]; rfl, v2, _, by rw [hS.out]; exact backL_of (E := []) (by rw [Hbds.out]; simp), Hst.out.trans (Hs1.out.trans Hs2.out)⟩
  · obtain ⟨hok1, ⟨E, hE⟩, hln⟩ := wk_ext Hok.out e1
    rw [bdsM_len] at hln
    have hB1 := Lib.hid (show trmB (bdsM l) p t = true by unfold trmB; rw [e1]; rfl)
    have hM1 := Lib.hid (show trmM (bdsM l) p t = M1 by unfold trmM; rw [e1]; rfl)
    rcases e2 : wkT q M1 u with _ | M2
    · have hB2 := Lib.hid (show trmB M1 q u = false by unfold trmB; rw [e2]; rfl)
      have hM2 := Lib.hid (show trmM M1 q u = M1 by unfold trmM; rw [e2]; rfl)
      have hS := Lib.hid (show sideO (bdsM l) p q t u = none by unfold sideO; rw [e1]; exact e2)
      have HE := Lib.hid hE
      clear e1 e2 hE
      go_enter Try.func38, Try.ntmps38
      go_upto_region 1 with fail
      rw [HW.out]
      go_wp2_with (first
        | (go_at_call 15; with_reducible refine HMk.out.mono ?_; go_must (rintro e w1 ⟨rfl, rfl⟩))
        | (go_at_call 9; with_reducible refine HT.out.mono ?_; go_must (rintro e w2 ⟨v1, l1, hres, hbds, hs1⟩; rw [hB1.out] at hres; subst hres; rw [hM1.out] at hbds; have hll := congrArg List.length hbds; rw [bdsM_len] at hll; have HT3 := Lib.hid (HT2.out w2 v1 l1 hs1 (by omega)); obtain ⟨⟨r0, r1, r2, r3, r4⟩, s0, s1, s2, s3, s4⟩ := HX.out w2 hs1.k; have Hs1 := Lib.hid hs1; have Hbd1 := Lib.hid hbds; clear hs1 hbds hll))
        | (go_at_call 9; with_reducible refine HT3.out.mono ?_; go_must (rintro e w3 ⟨v2, l2, hres, hbds, hs2⟩; rw [Hbd1.out] at hres hbds; rw [hB2.out] at hres; subst hres; rw [hM2.out] at hbds; have hll := congrArg List.length hbds; rw [bdsM_len] at hll; have hs12 := Hs1.out.trans hs2; have HB2 := Lib.hid (HBk.out w3 v2 l2 hs12 (by omega)); have Hs12 := Lib.hid hs12; have Hbds := Lib.hid hbds; clear hs12 hs2 hbds hll))
        | (go_at_call 13; with_reducible refine HB2.out.mono ?_; go_must (rintro e w4 ⟨rfl, v3, hs3⟩; have Hs3 := Lib.hid hs3; clear hs3))
        | fail)
      go_ret
      exact ⟨_, rfl, by rw [hS.out]; rfl, v3, _, by rw [hS.out]; exact backL_of (E := E) (by rw [Hbds.out, HE.out]), Hst.out.trans (Hs12.out.trans Hs3.out)⟩
    · have hB2 := Lib.hid (show trmB M1 q u = true by unfold trmB; rw [e2]; rfl)
      have hM2 := Lib.hid (show trmM M1 q u = M2 by unfold trmM; rw [e2]; rfl)
      have hS := Lib.hid (show sideO (bdsM l) p q t u = some M2 by unfold sideO; rw [e1]; exact e2)
      clear e1 e2 hE
      go_enter Try.func38, Try.ntmps38
      go_upto_region 1 with fail
      rw [HW.out]
      go_wp2_with (first
        | (go_at_call 15; with_reducible refine HMk.out.mono ?_; go_must (rintro e w1 ⟨rfl, rfl⟩))
        | (go_at_call 9; with_reducible refine HT.out.mono ?_; go_must (rintro e w2 ⟨v1, l1, hres, hbds, hs1⟩; rw [hB1.out] at hres; subst hres; rw [hM1.out] at hbds; have hll := congrArg List.length hbds; rw [bdsM_len] at hll; have HT3 := Lib.hid (HT2.out w2 v1 l1 hs1 (by omega)); obtain ⟨⟨r0, r1, r2, r3, r4⟩, s0, s1, s2, s3, s4⟩ := HX.out w2 hs1.k; have Hs1 := Lib.hid hs1; have Hbd1 := Lib.hid hbds; clear hs1 hbds hll))
        | (go_at_call 9; with_reducible refine HT3.out.mono ?_; go_must (rintro e w3 ⟨v2, l2, hres, hbds, hs2⟩; rw [Hbd1.out] at hres hbds; rw [hB2.out] at hres; subst hres; rw [hM2.out] at hbds; have Hs12 := Lib.hid (Hs1.out.trans hs2); have Hbds := Lib.hid hbds; clear hs2 hbds))
        | fail)
      go_ret
      exact ⟨_, rfl, by rw [hS.out]; rfl, v2, l2, by rw [hS.out]; exact Hbds.out, Hst.out.trans Hs12.out⟩

/-- What Lit does. -/
def LitO (n m tr : Bool) (p q t u : Tm) (M : List Bd) : Option (List Bd) := if litOk n m p q t u = true then (if tr then sideO M p q u t else sideO M p q t u) else none

def LitPost (n m tr : Bool) (p q t u : Tm) (w : World) (S : Nat → Prop) (bx bm : Nat) (v : Value) (l : List Bi) (e : Ending) (w' : World) : Prop :=
  e = .returned (.bool (LitO n m tr p q t u (bdsM l)).isSome) ∧ ∃ v' l', bdsM l' = (LitO n m tr p q t u (bdsM l)).getD (bdsM l) ∧ MatStep w w' S bx bm v v' l'

theorem mLit_any (n m tr : Bool) (p q t u : Tm) (A B C D : Option Addr) (a b c d bx bm : Nat) (S N : Nat → Prop) (v : Value) (l : List Bi) (w : World) (hM : MatW w S bx bm v l) (hN : ∀ g, N g → g < w.heap.size ∧ ¬ OwnM bx bm v g) (hnum : p.size + q.size + l.length ≤ 1099511627776) (ht : t.size ≤ 4398046511104) (hu : u.size ≤ 4398046511104)
    (hp64 : I64 p.fn) (hq64 : I64 q.fn) (ht64 : I64 t.fn) (hu64 : I64 u.fn) (hA : ArgsN w N A p.args) (hB : ArgsN w N B q.args) (hC : ArgsN w N C t.args) (hD : ArgsN w N D u.args) :
    Calls Try.prog 11 #[.pointer (some ⟨bx, 0, none⟩), litV n p q A B a b, litV m t u C D c d, .bool tr] w (LitPost n m tr p q t u w S bx bm v l) := by
  have hk : ∀ w1, Below w.heap.size w w1 → ∀ g, N g → w1.heap[g]? = w.heap[g]? := fun w1 h g e => h.block g (hN g e).1
  have hn : ∀ w1, Below w.heap.size w w1 → ∀ g, N g → g < w1.heap.size ∧ ¬ OwnM bx bm v g := fun w1 h g e => ⟨by have := (hN g e).1; have := h.size; omega, (hN g e).2⟩
  have h := mlit_any (fun r w' => ∃ w1, Below w.heap.size w w1 ∧ r = (if tr then sideO (bdsM l) p q u t else sideO (bdsM l) p q t u).isSome ∧ ∃ v' l', bdsM l' = (if tr then sideO (bdsM l) p q u t else sideO (bdsM l) p q t u).getD (bdsM l) ∧ MatStep w w' S bx bm v v' l') (some ⟨bx, 0, none⟩) n m tr p q t u A B C D a b c d w fun w1 h1 => by
    cases tr with
    | false => exact (msides_any n m p q t u A B C D a b c d bx bm _ N v l w1 (MatStep.of_below hM h1).m (hn w1 h1) hnum ht hu hp64 hq64 ht64 hu64 (hA.keep (hk w1 h1)) (hB.keep (hk w1 h1)) (hC.keep (hk w1 h1)) (hD.keep (hk w1 h1))).mono fun _ _ ⟨r, he, hr, v', l', hb, hs⟩ => ⟨r, he, w1, h1, hr, v', l', hb, (MatStep.of_below hM h1).trans hs⟩
    | true => exact (msides_any n m p q u t A B D C a b d c bx bm _ N v l w1 (MatStep.of_below hM h1).m (hn w1 h1) hnum hu ht hp64 hq64 hu64 ht64 (hA.keep (hk w1 h1)) (hB.keep (hk w1 h1)) (hD.keep (hk w1 h1)) (hC.keep (hk w1 h1))).mono fun _ _ ⟨r, he, hr, v', l', hb, hs⟩ => ⟨r, he, w1, h1, hr, v', l', hb, (MatStep.of_below hM h1).trans hs⟩
  refine Calls.mono h ?_
  rintro e w' ⟨r, rfl, ⟨hok, w1, _, hr, v', l', hb, hs⟩ | ⟨hok, rfl, hb⟩⟩
  · have e : LitO n m tr p q t u (bdsM l) = if tr then sideO (bdsM l) p q u t else sideO (bdsM l) p q t u := by unfold LitO; rw [if_pos hok]
    exact ⟨by rw [e, hr], v', l', by rw [e]; exact hb, hs⟩
  · have e : LitO n m tr p q t u (bdsM l) = none := by unfold LitO; rw [if_neg (by rw [hok]; simp)]
    exact ⟨by rw [e]; rfl, v, l, by rw [e]; rfl, MatStep.of_below hM hb⟩

end Go.Proofs.Ytglfjmbclimeeaa

/- match: the document's own matcher: Mark, Back, Lit, walked. -/

namespace Go.Proofs.Ytglfjmbclimeeaa

open Go.RowKit Go.Shelf
set_option maxRecDepth 100000

set_option maxHeartbeats 4000000 in
theorem ratom_any (n : Bool) (l r : Tm) (A B : Option Addr) (c d : Nat) (w : World) : Calls Try.prog 39 #[.agg #[.bool n, .int .i64 l.fn, .slice A l.args.length c, .int .i64 r.fn, .slice B r.args.length d]] w fun e w' => e = .returned (.bool (atomL l r)) ∧ Below w.heap.size w w' := by
  have hB : Below w.heap.size w (w.alloc (.cells #[.bool n, .int .i64 l.fn, .slice A l.args.length c, .int .i64 r.fn, .slice B r.args.length d] 35)) := (Below.refl _ _).alloc (Nat.le_refl _) _
  obtain ⟨a1, h1⟩ : ∃ a, ((l.fn : Int) == 0) = a := ⟨_, rfl⟩
  obtain ⟨a2, h2⟩ : ∃ a, (((l.args.length : Nat) : Int) == 0) = a := ⟨_, rfl⟩
  obtain ⟨a3, h3⟩ : ∃ a, ((r.fn : Int) == 0) = a := ⟨_, rfl⟩
  obtain ⟨a4, h4⟩ : ∃ a, (((r.args.length : Nat) : Int) == 0) = a := ⟨_, rfl⟩
  have hres : atomL l r = ((a1 && a2) || (a3 && a4)) := by
    subst h1; subst h2; subst h3; subst h4
    unfold atomL truthT
    simp [Bool.beq_eq_decide_eq]
  have Hres := Lib.hid hres
  clear hres
  cases a1 <;> cases a2 <;> cases a3 <;> cases a4
  all_goals
    go_enter Try.func39, Try.ntmps39
    go_wp2
    go_ret
    exact ⟨by rw [Hres.out]; rfl, hB⟩

theorem rmark_any (zb : Nat) (S : Nat → Prop) (v : Value) (l : List Bi) (w : World) (hM : RefW w S zb v l) : Calls Try.prog 16 #[.pointer (some ⟨zb, 0, none⟩)] w fun e w' => e = .returned (.int .i64 (l.length : Int)) ∧ w' = w := by
  obtain ⟨A, c, rfl⟩ := hM.slice
  have c0 : w.cell? ⟨zb, 0, none⟩ = some (.slice A l.length c) := cells_n hM.box 0 _ rfl
  clear hM
  go_enter Try.func16, Try.ntmps16
  go_wp2
  go_ret
  exact ⟨rfl, rfl⟩

set_option maxHeartbeats 2000000 in
theorem rback_any (k : Int) (zb : Nat) (S : Nat → Prop) (v : Value) (l : List Bi) (w : World) (hk64 : I64 k) (hM : RefW w S zb v l) :
    Calls Try.prog 14 #[.pointer (some ⟨zb, 0, none⟩), .int .i64 k] w fun e w' => e = .returned (.tuple #[]) ∧ ∃ v', RefStep w w' S zb v v' (backL l k) := by
  obtain ⟨A, c, rfl⟩ := hM.slice
  have c0 : w.cell? ⟨zb, 0, none⟩ = some (.slice A l.length c) := cells_n hM.box 0 _ rfl
  have f0 : w.frozen? ⟨zb, 0, none⟩ = false := by simp [World.frozen?, hM.box]
  have hcap := row_cap hM.row.row
  have HM := Lib.hid hM
  clear hM
  by_cases h0 : 0 ≤ k
  · obtain ⟨n, rfl⟩ : ∃ n : Nat, k = (n : Int) := ⟨k.toNat, by omega⟩
    have g0 : decide ((n : Int) ≥ 0) = true := decide_eq_true h0
    by_cases h1 : n ≤ l.length
    · have hb : backL l (n : Int) = l.take n := by unfold backL; rw [if_pos (by omega)]; simp
      have g1 : decide ((n : Int) ≤ (l.length : Int)) = true := decide_eq_true (by omega)
      have f2 : (0 : Int) ≤ (n : Int) := by omega
      have f3 : ((n : Int)).toNat = n := by omega
      have f4 : (n : Int) ≤ (c : Int) := by omega
      rw [hb]
      clear hb
      go_enter Try.func14, Try.ntmps14
      go_wp2
      go_end0
      exact ⟨rfl, _, HM.out.cut h1⟩
    · have hb : backL l (n : Int) = l := by unfold backL; rw [if_neg (by omega)]
      have g1 : decide ((n : Int) ≤ (l.length : Int)) = false := decide_eq_false (by omega)
      rw [hb]
      clear hb
      go_enter Try.func14, Try.ntmps14
      go_wp2
      go_end0
      exact ⟨rfl, _, .of_below HM.out (Below.refl _ _)⟩
  · have hb : backL l k = l := by unfold backL; rw [if_neg (by omega)]
    have g0 : decide (k ≥ 0) = false := decide_eq_false h0
    rw [hb]
    clear hb
    go_enter Try.func14, Try.ntmps14
    go_wp2
    go_end0
    exact ⟨rfl, _, .of_below HM.out (Below.refl _ _)⟩

end Go.Proofs.Ytglfjmbclimeeaa

/- match: the document's own matcher: Lit, walked. -/

namespace Go.Proofs.Ytglfjmbclimeeaa

open Go.RowKit Go.Shelf
set_option maxRecDepth 100000

/-- What Lit of the document's does. -/
def RLitPost (n m tr : Bool) (p q t u : Tm) (w : World) (S : Nat → Prop) (zb : Nat) (v : Value) (l : List Bi) (e : Ending) (w' : World) : Prop :=
  e = .returned (.bool (LitO n m tr p q t u (bdsM l)).isSome) ∧ ∃ v' l', bdsM l' = (LitO n m tr p q t u (bdsM l)).getD (bdsM l) ∧ RefStep w w' S zb v v' l'

/-- The two sides of the document's, from a world on. -/
structure RSidC (p q t u : Tm) (W : World) (A B C D : Option Addr) (a b c d : Nat) (S : Nat → Prop) (zb : Nat) (v : Value) (l : List Bi) : Prop where
  one : Calls Try.prog 10 #[.pointer (some ⟨zb, 0, none⟩), .agg #[.int .i64 p.fn, .slice A p.args.length a], .agg #[.int .i64 t.fn, .slice C t.args.length c]] W fun e w' => ∃ v' l', e = .returned (.bool (trmB (bdsM l) p t)) ∧ bdsM l' = trmM (bdsM l) p t ∧ RefStep W w' S zb v v' l'
  two : ∀ (w2 : World) (v1 : Value) (l1 : List Bi), RefStep W w2 S zb v v1 l1 → MOk (bdsM l1) → l1.length ≤ l.length + p.size → Calls Try.prog 10 #[.pointer (some ⟨zb, 0, none⟩), .agg #[.int .i64 q.fn, .slice B q.args.length b], .agg #[.int .i64 u.fn, .slice D u.args.length d]] w2 fun e w' => ∃ v' l', e = .returned (.bool (trmB (bdsM l1) q u)) ∧ bdsM l' = trmM (bdsM l1) q u ∧ RefStep w2 w' (fun g => S g ∨ (W.heap.size ≤ g ∧ g < w2.heap.size)) zb v1 v' l'

theorem rsidC_of (p q t u : Tm) (A B C D : Option Addr) (a b c d zb : Nat) (S N : Nat → Prop) (v : Value) (l : List Bi) (w : World) (hM : RefW w S zb v l) (hok : MOk (bdsM l)) (hN : ∀ g, N g → g < w.heap.size ∧ ¬ OwnZ zb v g) (hnum : p.size + q.size + l.length ≤ 1099511627776) (ht : t.size ≤ 4398046511104) (hu : u.size ≤ 4398046511104)
    (hp64 : I64 p.fn) (hq64 : I64 q.fn) (ht64 : I64 t.fn) (hu64 : I64 u.fn) (hA : ArgsN w N A p.args) (hB : ArgsN w N B q.args) (hC : ArgsN w N C t.args) (hD : ArgsN w N D u.args) : RSidC p q t u w A B C D a b c d S zb v l where
  one := rTerm_any p t A C a c zb _ N v l w hM hok hN (by omega) ht hp64 ht64 hA hC
  two := fun w2 v1 l1 h2 hok1 hl1 => rTerm_any q u B D b d zb _ N v1 l1 w2 h2.m hok1 (h2.stay hN).2 (by omega) hu hq64 hu64 (hB.keep (h2.stay hN).1) (hD.keep (h2.stay hN).1)

set_option maxHeartbeats 8000000 in
theorem rLit_any (n m tr : Bool) (p q t u : Tm) (A B C D : Option Addr) (a b c d zb : Nat) (S N : Nat → Prop) (v : Value) (l : List Bi) (w : World) (hM : RefW w S zb v l) (hok : MOk (bdsM l)) (hN : ∀ g, N g → g < w.heap.size ∧ ¬ OwnZ zb v g) (hnum : p.size + q.size + l.length ≤ 1099511627776) (ht : t.size ≤ 4398046511104) (hu : u.size ≤ 4398046511104)
    (hp64 : I64 p.fn) (hq64 : I64 q.fn) (ht64 : I64 t.fn) (hu64 : I64 u.fn) (hA : ArgsN w N A p.args) (hB : ArgsN w N B q.args) (hC : ArgsN w N C t.args) (hD : ArgsN w N D u.args) :
    Calls Try.prog 12 #[.pointer (some ⟨zb, 0, none⟩), litV n p q A B a b, litV m t u C D c d, .bool tr] w (RLitPost n m tr p q t u w S zb v l) := by
  obtain ⟨W, hW⟩ : ∃ W, (w.alloc (.cells #[.bool n, .int .i64 p.fn, .slice A p.args.length a, .int .i64 q.fn, .slice B q.args.length b] 35)).alloc (.cells #[.bool m, .int .i64 t.fn, .slice C t.args.length c, .int .i64 u.fn, .slice D u.args.length d] 35) = W := ⟨_, rfl⟩
  obtain ⟨hBW, hWz, q0, q1⟩ := box2L hW
  have hNo : ∀ g, w.heap.size ≤ g → ¬ OwnZ zb v g := fun g h e => by have := hM.lt _ (hM.own _ e); omega
  have HQ := Lib.hid (fun (w1 : World) (h : Below W.heap.size W w1) => (⟨(h.block _ (by omega)).trans q0, (h.block _ (by omega)).trans q1⟩ : w1.heap[w.heap.size]? = some (.cells #[.bool n, .int .i64 p.fn, .slice A p.args.length a, .int .i64 q.fn, .slice B q.args.length b] 35) ∧ w1.heap[w.heap.size + 1]? = some (.cells #[.bool m, .int .i64 t.fn, .slice C t.args.length c, .int .i64 u.fn, .slice D u.args.length d] 35)))
  have hS : ∀ w1, Below w.heap.size w w1 → RSidC p q t u w1 A B C D a b c d (fun g => S g ∨ (w.heap.size ≤ g ∧ g < w1.heap.size)) zb v l ∧ RSidC p q u t w1 A B D C a b d c (fun g => S g ∨ (w.heap.size ≤ g ∧ g < w1.heap.size)) zb v l := fun w1 h1 => by
    have hst := (RefStep.of_below hM h1)
    have hk : ∀ g, N g → w1.heap[g]? = w.heap[g]? := fun g e => h1.block g (hN g e).1
    have hn : ∀ g, N g → g < w1.heap.size ∧ ¬ OwnZ zb v g := fun g e => ⟨by have := (hN g e).1; have := h1.size; omega, (hN g e).2⟩
    exact ⟨rsidC_of p q t u A B C D a b c d zb _ N v l w1 hst.m hok hn hnum ht hu hp64 hq64 ht64 hu64 (hA.keep hk) (hB.keep hk) (hC.keep hk) (hD.keep hk), rsidC_of p q u t A B D C a b d c zb _ N v l w1 hst.m hok hn hnum hu ht hp64 hq64 hu64 ht64 (hA.keep hk) (hB.keep hk) (hD.keep hk) (hC.keep hk)⟩
  have HS := Lib.hid hS
  have HM := Lib.hid hM
  have Hok := Lib.hid hok
  have HNo := Lib.hid hNo
  have j0 : ∀ y : Later W.heap.size W, y.w.cell? ⟨w.heap.size, 0, none⟩ = some (.bool n) := fun y => cells_n (HQ.out _ y.h).1 0 _ rfl
  have j1 : ∀ y : Later W.heap.size W, y.w.cell? ⟨w.heap.size, 1, none⟩ = some (.int .i64 p.fn) := fun y => cells_n (HQ.out _ y.h).1 1 _ rfl
  have j2 : ∀ y : Later W.heap.size W, y.w.cell? ⟨w.heap.size, 2, none⟩ = some (.slice A p.args.length a) := fun y => cells_n (HQ.out _ y.h).1 2 _ rfl
  have j3 : ∀ y : Later W.heap.size W, y.w.cell? ⟨w.heap.size, 3, none⟩ = some (.int .i64 q.fn) := fun y => cells_n (HQ.out _ y.h).1 3 _ rfl
  have j4 : ∀ y : Later W.heap.size W, y.w.cell? ⟨w.heap.size, 4, none⟩ = some (.slice B q.args.length b) := fun y => cells_n (HQ.out _ y.h).1 4 _ rfl
  have k0 : ∀ y : Later W.heap.size W, y.w.cell? ⟨w.heap.size + 1, 0, none⟩ = some (.bool m) := fun y => cells_n (HQ.out _ y.h).2 0 _ rfl
  have k1 : ∀ y : Later W.heap.size W, y.w.cell? ⟨w.heap.size + 1, 1, none⟩ = some (.int .i64 t.fn) := fun y => cells_n (HQ.out _ y.h).2 1 _ rfl
  have k2 : ∀ y : Later W.heap.size W, y.w.cell? ⟨w.heap.size + 1, 2, none⟩ = some (.slice C t.args.length c) := fun y => cells_n (HQ.out _ y.h).2 2 _ rfl
  have k3 : ∀ y : Later W.heap.size W, y.w.cell? ⟨w.heap.size + 1, 3, none⟩ = some (.int .i64 u.fn) := fun y => cells_n (HQ.out _ y.h).2 3 _ rfl
  have k4 : ∀ y : Later W.heap.size W, y.w.cell? ⟨w.heap.size + 1, 4, none⟩ = some (.slice D u.args.length d) := fun y => cells_n (HQ.out _ y.h).2 4 _ rfl
  have H1 := Lib.hid fun y : Later W.heap.size W => ratom_any n p q A B a b y.w
  have H2 := Lib.hid fun y : Later W.heap.size W => ratom_any m t u C D c d y.w
  obtain ⟨p1, hp1⟩ : ∃ p1, atomL p q = p1 := ⟨_, rfl⟩
  obtain ⟨p2, hp2⟩ : ∃ p2, atomL t u = p2 := ⟨_, rfl⟩
  rw [hp1] at H1
  rw [hp2] at H2
  have hlo : litOk n m p q t u = ((n == m) && (p1 == p2)) := by unfold litOk; rw [hp1, hp2]
  have HW := Lib.hid hW
  have HBW := Lib.hid hBW
  have hW1 : w.heap.size < W.heap.size := by omega
  have hW2 : w.heap.size + 1 < W.heap.size := by omega
  clear hW hM hN hA hB hC hD hok hNo hS q0 q1 hp1 hp2 hWz hBW
  rcases e1 : (n == m) with _ | _
  · have Hlo := Lib.hid (show litOk n m p q t u = false by rw [hlo, e1]; rfl)
    clear hlo
    have hno := Lib.hid (show LitO n m tr p q t u (bdsM l) = none by unfold LitO; rw [if_neg (by rw [Hlo.out]; simp)])
    go_enter Try.func12, Try.ntmps12
    go_upto_region 1 with fail
    rw [HW.out]
    refine wp_region_later W.heap.size W (by kernel_rfl) (by kernel_rfl) (bl_drewN (Below.refl _ _) 1) ?_
    repeat (go_big_quiet_step (first
      | (go_at_call 39; first
        | (with_reducible refine calls_later _ (Nat.le_refl _) (H1.out _))
        | (with_reducible refine calls_later _ (Nat.le_refl _) (H2.out _)))
      | fail))
    refine wpQuiet_nil ?_
    rintro _ ⟨z, rfl⟩
    have hfin := HBW.out.trans (z.h.mono HBW.out.size)
    clear j0 j1 j2 j3 j4 k0 k1 k2 k3 k4 H1 H2
    go_wp2
    go_ret
    exact ⟨by rw [hno.out]; rfl, v, l, by rw [hno.out]; rfl, .of_below HM.out hfin⟩
  · rcases e2 : (p1 == p2) with _ | _
    · have Hlo := Lib.hid (show litOk n m p q t u = false by rw [hlo, e1, e2]; rfl)
      clear hlo
      have hno := Lib.hid (show LitO n m tr p q t u (bdsM l) = none by unfold LitO; rw [if_neg (by rw [Hlo.out]; simp)])
      go_enter Try.func12, Try.ntmps12
      go_upto_region 1 with fail
      rw [HW.out]
      refine wp_region_later W.heap.size W (by kernel_rfl) (by kernel_rfl) (bl_drewN (Below.refl _ _) 1) ?_
      repeat (go_big_quiet_step (first
        | (go_at_call 39; first
          | (with_reducible refine calls_later _ (Nat.le_refl _) (H1.out _))
          | (with_reducible refine calls_later _ (Nat.le_refl _) (H2.out _)))
        | fail))
      refine wpQuiet_nil ?_
      rintro _ ⟨z, rfl⟩
      have hfin := HBW.out.trans (z.h.mono HBW.out.size)
      clear j0 j1 j2 j3 j4 k0 k1 k2 k3 k4 H1 H2
      go_wp2
      go_ret
      exact ⟨by rw [hno.out]; rfl, v, l, by rw [hno.out]; rfl, .of_below HM.out hfin⟩
    · have Hlo := Lib.hid (show litOk n m p q t u = true by rw [hlo, e1, e2]; rfl)
      clear hlo
      cases tr with
      | false =>
        go_enter Try.func12, Try.ntmps12
        go_upto_region 1 with fail
        rw [HW.out]
        refine wp_region_later W.heap.size W (by kernel_rfl) (by kernel_rfl) (bl_drewN (Below.refl _ _) 1) ?_
        repeat (go_big_quiet_step (first
          | (go_at_call 39; first
            | (with_reducible refine calls_later _ (Nat.le_refl _) (H1.out _))
            | (with_reducible refine calls_later _ (Nat.le_refl _) (H2.out _)))
          | fail))
        refine wpQuiet_nil ?_
        rintro _ ⟨z, rfl⟩
        have hbq := z.h
        obtain ⟨hq0, hq1⟩ := HQ.out z.w z.h
        obtain ⟨wq, hwq⟩ : ∃ wq, z.w = wq := ⟨_, rfl⟩
        rw [hwq] at hbq hq0 hq1 ⊢
        have hzq := hbq.size
        clear j0 j1 j2 j3 j4 k0 k1 k2 k3 k4 H1 H2 HQ hwq
        have hBq := HBW.out.trans (hbq.mono (by omega))
        have HC := Lib.hid (HS.out wq hBq).1
        have hMq := (RefStep.of_below HM.out hBq)
        have hcq : wq.cell? ⟨zb, 0, none⟩ = some v := cells_n hMq.m.box 0 _ rfl
        have HX := Lib.hid (fun (w1 : World) (h : KeepsC (OwnZ zb v) wq w1) => (⟨cells_five ((h.k.block _ ⟨by omega, HNo.out _ (by omega)⟩).trans hq0), cells_five ((h.k.block _ ⟨by omega, HNo.out _ (by omega)⟩).trans hq1)⟩ : (w1.cell? ⟨w.heap.size, 0, none⟩ = some (.bool n) ∧ w1.cell? ⟨w.heap.size, 1, none⟩ = some (.int .i64 p.fn) ∧ w1.cell? ⟨w.heap.size, 2, none⟩ = some (.slice A p.args.length a) ∧ w1.cell? ⟨w.heap.size, 3, none⟩ = some (.int .i64 q.fn) ∧ w1.cell? ⟨w.heap.size, 4, none⟩ = some (.slice B q.args.length b)) ∧ (w1.cell? ⟨w.heap.size + 1, 0, none⟩ = some (.bool m) ∧ w1.cell? ⟨w.heap.size + 1, 1, none⟩ = some (.int .i64 t.fn) ∧ w1.cell? ⟨w.heap.size + 1, 2, none⟩ = some (.slice C t.args.length c) ∧ w1.cell? ⟨w.heap.size + 1, 3, none⟩ = some (.int .i64 u.fn) ∧ w1.cell? ⟨w.heap.size + 1, 4, none⟩ = some (.slice D u.args.length d))))
        obtain ⟨⟨x0, x1, x2, x3, x4⟩, y0, y1, y2, y3, y4⟩ := HX.out wq (KeepsC.refl _ _)
        obtain ⟨Av, cv, rfl⟩ := HM.out.slice
        have CO := Lib.hid HC.out.one
        have HMq := Lib.hid hMq
        clear hMq hq0 hq1
        rcases e1 : wkT p (bdsM l) t with _ | M1
        · have hB1 := Lib.hid (show trmB (bdsM l) p t = false by unfold trmB; rw [e1]; rfl)
          have hM1 := Lib.hid (show trmM (bdsM l) p t = bdsM l by unfold trmM; rw [e1]; rfl)
          have hno := Lib.hid (show LitO n m false p q t u (bdsM l) = none by unfold LitO; rw [if_pos Hlo.out]; show sideO (bdsM l) p q t u = none; unfold sideO; rw [e1]; rfl)
          clear e1
          go_upto_region 8 with (first
            | (go_at_call 10; with_reducible refine CO.out.mono ?_; go_must (rintro e w2 ⟨v1, l1, hres, hbds, hs1⟩; rw [hB1.out] at hres; subst hres; rw [hM1.out] at hbds; have Hs1 := Lib.hid hs1; have Hb1 := Lib.hid hbds; clear hs1 hbds))
            | fail)
          obtain ⟨A2, c2, hv2, hF⟩ := rcut_of (HMq.out.trans Hs1.out) (⟨[], by rw [Hb1.out]; simp⟩ : ∃ E, bdsM l1 = bdsM l ++ E)
          subst hv2
          have s0 := hF.c0
          have s1 := hF.f0
          have s2 := hF.cap
          have s3 := hF.le
          obtain ⟨l2, hl2, hfin⟩ := hF.fin
          have Hfin := Lib.hid hfin
          have Hl2 := Lib.hid hl2
          clear hF hfin hl2
          have f1 : (l.length : Int) ≤ (c2 : Int) := by omega
          have f2 : (0 : Int) ≤ (l.length : Int) := by omega
          have f3 : ((l.length : Int)).toNat = l.length := by omega
          go_wp2
          go_ret
          exact ⟨by rw [hno.out]; rfl, _, l2, by rw [Hl2.out, hno.out]; rfl, Hfin.out⟩
        · obtain ⟨hok1, ⟨E, hE⟩, hln⟩ := wk_ext Hok.out e1
          rw [bdsM_len] at hln
          have hB1 := Lib.hid (show trmB (bdsM l) p t = true by unfold trmB; rw [e1]; rfl)
          have hM1 := Lib.hid (show trmM (bdsM l) p t = M1 by unfold trmM; rw [e1]; rfl)
          rcases e2 : wkT q M1 u with _ | M2
          · have hB2 := Lib.hid (show trmB M1 q u = false by unfold trmB; rw [e2]; rfl)
            have hM2 := Lib.hid (show trmM M1 q u = M1 by unfold trmM; rw [e2]; rfl)
            have hno := Lib.hid (show LitO n m false p q t u (bdsM l) = none by unfold LitO; rw [if_pos Hlo.out]; show sideO (bdsM l) p q t u = none; unfold sideO; rw [e1]; exact e2)
            have HE := Lib.hid hE
            have Hok1 := Lib.hid hok1
            clear e1 e2 hE hok1
            go_upto_region 8 with (first
              | (go_at_call 10; with_reducible refine CO.out.mono ?_; go_must (rintro e w2 ⟨v1, l1, hres, hbds, hs1⟩; rw [hB1.out] at hres; subst hres; rw [hM1.out] at hbds; have hll := congrArg List.length hbds; rw [bdsM_len] at hll; have CT := Lib.hid (HC.out.two w2 v1 l1 hs1 (by rw [hbds]; exact Hok1.out) (by omega)); obtain ⟨⟨r0, r1, r2, r3, r4⟩, t0, t1, t2, t3, t4⟩ := HX.out w2 hs1.k; have Hs1 := Lib.hid hs1; have Hb1 := Lib.hid hbds; clear hs1 hbds hll))
              | (go_at_call 10; with_reducible refine CT.out.mono ?_; go_must (rintro e w3 ⟨v2, l2, hres, hbds, hs2⟩; rw [Hb1.out] at hres hbds; rw [hB2.out] at hres; subst hres; rw [hM2.out] at hbds; have Hs2 := Lib.hid hs2; have Hb2 := Lib.hid hbds; clear hs2 hbds))
              | fail)
            obtain ⟨A2, c2, hv2, hF⟩ := rcut_of (HMq.out.trans (Hs1.out.trans Hs2.out)) (⟨E, by rw [Hb2.out, HE.out]⟩ : ∃ E, bdsM l2 = bdsM l ++ E)
            subst hv2
            have s0 := hF.c0
            have s1 := hF.f0
            have s2 := hF.cap
            have s3 := hF.le
            obtain ⟨l3, hl3, hfin⟩ := hF.fin
            have Hfin := Lib.hid hfin
            have Hl3 := Lib.hid hl3
            clear hF hfin hl3
            have f1 : (l.length : Int) ≤ (c2 : Int) := by omega
            have f2 : (0 : Int) ≤ (l.length : Int) := by omega
            have f3 : ((l.length : Int)).toNat = l.length := by omega
            go_wp2
            go_ret
            exact ⟨by rw [hno.out]; rfl, _, l3, by rw [Hl3.out, hno.out]; rfl, Hfin.out⟩
          · have hB2 := Lib.hid (show trmB M1 q u = true by unfold trmB; rw [e2]; rfl)
            have hM2 := Lib.hid (show trmM M1 q u = M2 by unfold trmM; rw [e2]; rfl)
            have hno := Lib.hid (show LitO n m false p q t u (bdsM l) = some M2 by unfold LitO; rw [if_pos Hlo.out]; show sideO (bdsM l) p q t u = some M2; unfold sideO; rw [e1]; exact e2)
            have Hok1 := Lib.hid hok1
            clear e1 e2 hE hok1
            go_wp2_with (first
              | (go_at_call 10; with_reducible refine CO.out.mono ?_; go_must (rintro e w2 ⟨v1, l1, hres, hbds, hs1⟩; rw [hB1.out] at hres; subst hres; rw [hM1.out] at hbds; have hll := congrArg List.length hbds; rw [bdsM_len] at hll; have CT := Lib.hid (HC.out.two w2 v1 l1 hs1 (by rw [hbds]; exact Hok1.out) (by omega)); obtain ⟨⟨r0, r1, r2, r3, r4⟩, t0, t1, t2, t3, t4⟩ := HX.out w2 hs1.k; have Hs1 := Lib.hid hs1; have Hb1 := Lib.hid hbds; clear hs1 hbds hll))
              | (go_at_call 10; with_reducible refine CT.out.mono ?_; go_must (rintro e w3 ⟨v2, l2, hres, hbds, hs2⟩; rw [Hb1.out] at hres hbds; rw [hB2.out] at hres; subst hres; rw [hM2.out] at hbds; have Hs2 := Lib.hid hs2; have Hb2 := Lib.hid hbds; clear hs2 hbds))
              | fail)
            go_ret
            exact ⟨by rw [hno.out]; rfl, v2, l2, by rw [hno.out]; exact Hb2.out, HMq.out.trans (Hs1.out.trans Hs2.out)⟩
      | true =>
        go_enter Try.func12, Try.ntmps12
        go_upto_region 1 with fail
        rw [HW.out]
        refine wp_region_later W.heap.size W (by kernel_rfl) (by kernel_rfl) (bl_drewN (Below.refl _ _) 1) ?_
        repeat (go_big_quiet_step (first
          | (go_at_call 39; first
            | (with_reducible refine calls_later _ (Nat.le_refl _) (H1.out _))
            | (with_reducible refine calls_later _ (Nat.le_refl _) (H2.out _)))
          | fail))
        refine wpQuiet_nil ?_
        rintro _ ⟨z, rfl⟩
        obtain ⟨hz0, hz1⟩ := HQ.out z.w z.h
        obtain ⟨⟨x0, x1, x2, x3, x4⟩, y0, y1, y2, y3, y4⟩ := (⟨cells_five hz0, cells_five hz1⟩ : _ ∧ _)
        obtain ⟨f0, f1, f2, f3, f4⟩ : z.w.frozen? ⟨w.heap.size + 1, 0, none⟩ = false ∧ z.w.frozen? ⟨w.heap.size + 1, 1, none⟩ = false ∧ z.w.frozen? ⟨w.heap.size + 1, 2, none⟩ = false ∧ z.w.frozen? ⟨w.heap.size + 1, 3, none⟩ = false ∧ z.w.frozen? ⟨w.heap.size + 1, 4, none⟩ = false := by refine ⟨?_, ?_, ?_, ?_, ?_⟩ <;> simp [World.frozen?, hz1]
        have Hz0 := Lib.hid hz0
        have Hz1 := Lib.hid hz1
        clear j0 j1 j2 j3 j4 k0 k1 k2 k3 k4 H1 H2 HQ hz0 hz1
        go_upto_region 5 with fail
        obtain ⟨wq, hwq⟩ : ∃ wq, (((((z.w.setCell ⟨w.heap.size + 1, 0, none⟩ (.bool m)).setCell ⟨w.heap.size + 1, 1, none⟩ (.int .i64 u.fn)).setCell ⟨w.heap.size + 1, 2, none⟩ (.slice D u.args.length d)).setCell ⟨w.heap.size + 1, 3, none⟩ (.int .i64 t.fn)).setCell ⟨w.heap.size + 1, 4, none⟩ (.slice C t.args.length c)) = wq := ⟨_, rfl⟩
        have hbq : Below w.heap.size W wq := by
          rw [← hwq]
          exact (((((z.h.mono (by omega)).setCell (by show _ ≤ w.heap.size + 1; omega) _).setCell (by show _ ≤ w.heap.size + 1; omega) _).setCell (by show _ ≤ w.heap.size + 1; omega) _).setCell (by show _ ≤ w.heap.size + 1; omega) _).setCell (by show _ ≤ w.heap.size + 1; omega) _
        have hq0 : wq.heap[w.heap.size]? = some (.cells #[.bool n, .int .i64 p.fn, .slice A p.args.length a, .int .i64 q.fn, .slice B q.args.length b] 35) := by
          rw [← hwq]
          have ho : ∀ (w0 : World) (o : Nat) (x : Value), (w0.setCell ⟨w.heap.size + 1, o, none⟩ x).heap[w.heap.size]? = w0.heap[w.heap.size]? := fun w0 o x => heap_setCell_other _ _ _ _ (by show w.heap.size ≠ w.heap.size + 1; omega)
          rw [ho, ho, ho, ho, ho]
          exact Hz0.out
        have hq1 : wq.heap[w.heap.size + 1]? = some (.cells #[.bool m, .int .i64 u.fn, .slice D u.args.length d, .int .i64 t.fn, .slice C t.args.length c] 35) := by
          rw [← hwq]
          exact heap_setCell_same _ _ 4 _ _ _ (heap_setCell_same _ _ 3 _ _ _ (heap_setCell_same _ _ 2 _ _ _ (heap_setCell_same _ _ 1 _ _ _ (heap_setCell_same _ _ 0 _ _ _ Hz1.out))))
        have hzq := hbq.size
        rw [hwq]
        clear hwq x0 x1 x2 x3 x4 y0 y1 y2 y3 y4 f0 f1 f2 f3 f4
        have hBq := HBW.out.trans hbq
        have HC := Lib.hid (HS.out wq hBq).2
        have hMq := (RefStep.of_below HM.out hBq)
        have hcq : wq.cell? ⟨zb, 0, none⟩ = some v := cells_n hMq.m.box 0 _ rfl
        have HX := Lib.hid (fun (w1 : World) (h : KeepsC (OwnZ zb v) wq w1) => (⟨cells_five ((h.k.block _ ⟨by omega, HNo.out _ (by omega)⟩).trans hq0), cells_five ((h.k.block _ ⟨by omega, HNo.out _ (by omega)⟩).trans hq1)⟩ : (w1.cell? ⟨w.heap.size, 0, none⟩ = some (.bool n) ∧ w1.cell? ⟨w.heap.size, 1, none⟩ = some (.int .i64 p.fn) ∧ w1.cell? ⟨w.heap.size, 2, none⟩ = some (.slice A p.args.length a) ∧ w1.cell? ⟨w.heap.size, 3, none⟩ = some (.int .i64 q.fn) ∧ w1.cell? ⟨w.heap.size, 4, none⟩ = some (.slice B q.args.length b)) ∧ (w1.cell? ⟨w.heap.size + 1, 0, none⟩ = some (.bool m) ∧ w1.cell? ⟨w.heap.size + 1, 1, none⟩ = some (.int .i64 u.fn) ∧ w1.cell? ⟨w.heap.size + 1, 2, none⟩ = some (.slice D u.args.length d) ∧ w1.cell? ⟨w.heap.size + 1, 3, none⟩ = some (.int .i64 t.fn) ∧ w1.cell? ⟨w.heap.size + 1, 4, none⟩ = some (.slice C t.args.length c))))
        obtain ⟨⟨x0, x1, x2, x3, x4⟩, y0, y1, y2, y3, y4⟩ := HX.out wq (KeepsC.refl _ _)
        obtain ⟨Av, cv, rfl⟩ := HM.out.slice
        have CO := Lib.hid HC.out.one
        have HMq := Lib.hid hMq
        clear hMq hq0 hq1
        rcases e1 : wkT p (bdsM l) u with _ | M1
        · have hB1 := Lib.hid (show trmB (bdsM l) p u = false by unfold trmB; rw [e1]; rfl)
          have hM1 := Lib.hid (show trmM (bdsM l) p u = bdsM l by unfold trmM; rw [e1]; rfl)
          have hno := Lib.hid (show LitO n m true p q t u (bdsM l) = none by unfold LitO; rw [if_pos Hlo.out]; show sideO (bdsM l) p q u t = none; unfold sideO; rw [e1]; rfl)
          clear e1
          go_upto_region 8 with (first
            | (go_at_call 10; with_reducible refine CO.out.mono ?_; go_must (rintro e w2 ⟨v1, l1, hres, hbds, hs1⟩; rw [hB1.out] at hres; subst hres; rw [hM1.out] at hbds; have Hs1 := Lib.hid hs1; have Hb1 := Lib.hid hbds; clear hs1 hbds))
            | fail)
          obtain ⟨A2, c2, hv2, hF⟩ := rcut_of (HMq.out.trans Hs1.out) (⟨[], by rw [Hb1.out]; simp⟩ : ∃ E, bdsM l1 = bdsM l ++ E)
          subst hv2
          have s0 := hF.c0
          have s1 := hF.f0
          have s2 := hF.cap
          have s3 := hF.le
          obtain ⟨l2, hl2, hfin⟩ := hF.fin
          have Hfin := Lib.hid hfin
          have Hl2 := Lib.hid hl2
          clear hF hfin hl2
          have f1 : (l.length : Int) ≤ (c2 : Int) := by omega
          have f2 : (0 : Int) ≤ (l.length : Int) := by omega
          have f3 : ((l.length : Int)).toNat = l.length := by omega
          go_wp2
          go_ret
          exact ⟨by rw [hno.out]; rfl, _, l2, by rw [Hl2.out, hno.out]; rfl, Hfin.out⟩
        · obtain ⟨hok1, ⟨E, hE⟩, hln⟩ := wk_ext Hok.out e1
          rw [bdsM_len] at hln
          have hB1 := Lib.hid (show trmB (bdsM l) p u = true by unfold trmB; rw [e1]; rfl)
          have hM1 := Lib.hid (show trmM (bdsM l) p u = M1 by unfold trmM; rw [e1]; rfl)
          rcases e2 : wkT q M1 t with _ | M2
          · have hB2 := Lib.hid (show trmB M1 q t = false by unfold trmB; rw [e2]; rfl)
            have hM2 := Lib.hid (show trmM M1 q t = M1 by unfold trmM; rw [e2]; rfl)
            have hno := Lib.hid (show LitO n m true p q t u (bdsM l) = none by unfold LitO; rw [if_pos Hlo.out]; show sideO (bdsM l) p q u t = none; unfold sideO; rw [e1]; exact e2)
            have HE := Lib.hid hE
            have Hok1 := Lib.hid hok1
            clear e1 e2 hE hok1
            go_upto_region 8 with (first
              | (go_at_call 10; with_reducible refine CO.out.mono ?_; go_must (rintro e w2 ⟨v1, l1, hres, hbds, hs1⟩; rw [hB1.out] at hres; subst hres; rw [hM1.out] at hbds; have hll := congrArg List.length hbds; rw [bdsM_len] at hll; have CT := Lib.hid (HC.out.two w2 v1 l1 hs1 (by rw [hbds]; exact Hok1.out) (by omega)); obtain ⟨⟨r0, r1, r2, r3, r4⟩, t0, t1, t2, t3, t4⟩ := HX.out w2 hs1.k; have Hs1 := Lib.hid hs1; have Hb1 := Lib.hid hbds; clear hs1 hbds hll))
              | (go_at_call 10; with_reducible refine CT.out.mono ?_; go_must (rintro e w3 ⟨v2, l2, hres, hbds, hs2⟩; rw [Hb1.out] at hres hbds; rw [hB2.out] at hres; subst hres; rw [hM2.out] at hbds; have Hs2 := Lib.hid hs2; have Hb2 := Lib.hid hbds; clear hs2 hbds))
              | fail)
            obtain ⟨A2, c2, hv2, hF⟩ := rcut_of (HMq.out.trans (Hs1.out.trans Hs2.out)) (⟨E, by rw [Hb2.out, HE.out]⟩ : ∃ E, bdsM l2 = bdsM l ++ E)
            subst hv2
            have s0 := hF.c0
            have s1 := hF.f0
            have s2 := hF.cap
            have s3 := hF.le
            obtain ⟨l3, hl3, hfin⟩ := hF.fin
            have Hfin := Lib.hid hfin
            have Hl3 := Lib.hid hl3
            clear hF hfin hl3
            have f1 : (l.length : Int) ≤ (c2 : Int) := by omega
            have f2 : (0 : Int) ≤ (l.length : Int) := by omega
            have f3 : ((l.length : Int)).toNat = l.length := by omega
            go_wp2
            go_ret
            exact ⟨by rw [hno.out]; rfl, _, l3, by rw [Hl3.out, hno.out]; rfl, Hfin.out⟩
          · have hB2 := Lib.hid (show trmB M1 q t = true by unfold trmB; rw [e2]; rfl)
            have hM2 := Lib.hid (show trmM M1 q t = M2 by unfold trmM; rw [e2]; rfl)
            have hno := Lib.hid (show LitO n m true p q t u (bdsM l) = some M2 by unfold LitO; rw [if_pos Hlo.out]; show sideO (bdsM l) p q u t = some M2; unfold sideO; rw [e1]; exact e2)
            have Hok1 := Lib.hid hok1
            clear e1 e2 hE hok1
            go_wp2_with (first
              | (go_at_call 10; with_reducible refine CO.out.mono ?_; go_must (rintro e w2 ⟨v1, l1, hres, hbds, hs1⟩; rw [hB1.out] at hres; subst hres; rw [hM1.out] at hbds; have hll := congrArg List.length hbds; rw [bdsM_len] at hll; have CT := Lib.hid (HC.out.two w2 v1 l1 hs1 (by rw [hbds]; exact Hok1.out) (by omega)); obtain ⟨⟨r0, r1, r2, r3, r4⟩, t0, t1, t2, t3, t4⟩ := HX.out w2 hs1.k; have Hs1 := Lib.hid hs1; have Hb1 := Lib.hid hbds; clear hs1 hbds hll))
              | (go_at_call 10; with_reducible refine CT.out.mono ?_; go_must (rintro e w3 ⟨v2, l2, hres, hbds, hs2⟩; rw [Hb1.out] at hres hbds; rw [hB2.out] at hres; subst hres; rw [hM2.out] at hbds; have Hs2 := Lib.hid hs2; have Hb2 := Lib.hid hbds; clear hs2 hbds))
              | fail)
            go_ret
            exact ⟨by rw [hno.out]; rfl, v2, l2, by rw [hno.out]; exact Hb2.out, HMq.out.trans (Hs1.out.trans Hs2.out)⟩

end Go.Proofs.Ytglfjmbclimeeaa

/- An argument that is a list of acts on a matcher, opened. -/

namespace Go.Proofs.Ytglfjmbclimeeaa

open Go.ChangeShapes Go.WideShapes Go.ChangeAt Go.RowKit
set_option maxRecDepth 20000

/-- An act. -/
structure Ac where
  k : Int
  p : Tm
  t : Tm
  q : Tm
  u : Tm
  a : Bool
  b : Bool
  n : Int

/-- Where its terms' arguments lie. -/
structure AcW where
  A1 : Option Addr
  A2 : Option Addr
  A3 : Option Addr
  A4 : Option Addr
  c1 : Nat
  c2 : Nat
  c3 : Nat
  c4 : Nat

def Ac.cells (x : Ac) (z : AcW) : List Value := [.int .i64 x.k, .int .i64 x.p.fn, .slice z.A1 x.p.args.length z.c1, .int .i64 x.t.fn, .slice z.A2 x.t.args.length z.c2, .int .i64 x.q.fn, .slice z.A3 x.q.args.length z.c3, .int .i64 x.u.fn, .slice z.A4 x.u.args.length z.c4, .bool x.a, .bool x.b, .int .i64 x.n]

structure AcFx (w : World) (N : Nat → Prop) (x : Ac) (z : AcW) : Prop where
  ik : I64 x.k
  ip : I64 x.p.fn
  it : I64 x.t.fn
  iq : I64 x.q.fn
  iu : I64 x.u.fn
  im : I64 x.n
  sp : ArgsN w N z.A1 x.p.args
  st : ArgsN w N z.A2 x.t.args
  sq : ArgsN w N z.A3 x.q.args
  su : ArgsN w N z.A4 x.u.args

def Ac.size (x : Ac) : Nat := x.p.size + x.t.size + x.q.size + x.u.size

structure Acts (w : World) (N : Nat → Prop) (A : Option Addr) (l : List Ac) : Prop where
  len : l.length ≤ 9223372036854775807
  ad : 0 < l.length → ∃ b off, A = some ⟨b, off, none⟩ ∧ N b ∧ ∀ (i : Nat) (x : Ac), l[i]? = some x → ∃ z, AcFx w N x z ∧ ∀ j c, (x.cells z)[j]? = some c → w.cell? ⟨b, off + i * 12 + j, none⟩ = some c

theorem AcFx.keep {w w' : World} {N : Nat → Prop} {x : Ac} {z : AcW} (h : AcFx w N x z) (hk : ∀ g, N g → w'.heap[g]? = w.heap[g]?) : AcFx w' N x z := ⟨h.ik, h.ip, h.it, h.iq, h.iu, h.im, h.sp.keep hk, h.st.keep hk, h.sq.keep hk, h.su.keep hk⟩

section

variable {H : Type} {enc : TypeId × Value → H} {W : World} {base : Nat} {held : Bool}

theorem cellsAct : Try.prog.cellsOf 33 = 12 := by kernel_rfl

theorem trod_act (n : Nat) (cs : List Value) (x : DataW H × List MemPlace) (h : DataW.trod enc Try.prog W base (fun _ => true) held n 33 cs = some x) :
    ∃ (y : Ac) (z : AcW), cs = y.cells z ∧ AcFx W (· < W.heap.size) y z ∧ y.size ≤ Rows.uptoBulk x.1 := by
  obtain ⟨xs, n', rfl, hx, hlen, hxs, hf⟩ := DataW.trod_struct Try.underlying33 h
  rw [cellsAct] at hlen
  match cs, hlen with
  | [c0, c1, c2, c3, c4, c5, c6, c7, c8, c9, c10, c11], _ =>
    have hx2 : xs.length = 8 := by rw [hxs]; rfl
    match xs, hx2 with
    | [x0, x1, x2, x3, x4, x5, x6, x7], _ =>
      have g0 := hf 0 _ rfl
      have g1 := hf 1 _ rfl
      have g2 := hf 2 _ rfl
      have g3 := hf 3 _ rfl
      have g4 := hf 4 _ rfl
      have g5 := hf 5 _ rfl
      have g6 := hf 6 _ rfl
      have g7 := hf 7 _ rfl
      simp [cellsInt] at g0
      simp [cellsTerm] at g1
      simp [cellsTerm] at g2
      simp [cellsTerm] at g3
      simp [cellsTerm] at g4
      simp [cellsBool1] at g5
      simp [cellsBool1] at g6
      simp [cellsInt] at g7
      obtain ⟨f, hfv, ef, hw⟩ := DataW.trod_int Try.underlying3 g0
      injection hfv with hfv
      subst hfv
      obtain ⟨f7, hfv7, ef7, hw7⟩ := DataW.trod_int Try.underlying3 g7
      injection hfv7 with hfv7
      subst hfv7
      have h64 : ∀ f, Lit.wf (.int .i64 f) = true → I64 f := fun f hw => by
        simp [Lit.wf, IntKind.min, IntKind.max, IntKind.signed, IntKind.bits] at hw
        exact hw
      obtain ⟨t1, A1, k1, hcs1, i1, hA1, hb1⟩ := trod_term _ _ _ g1
      injection hcs1 with e1 hcs1
      injection hcs1 with e2 _
      subst e1; subst e2
      obtain ⟨t2, A2, k2, hcs2, i2, hA2, hb2⟩ := trod_term _ _ _ g2
      injection hcs2 with e1 hcs2
      injection hcs2 with e2 _
      subst e1; subst e2
      obtain ⟨t3, A3, k3, hcs3, i3, hA3, hb3⟩ := trod_term _ _ _ g3
      injection hcs3 with e1 hcs3
      injection hcs3 with e2 _
      subst e1; subst e2
      obtain ⟨t4, A4, k4, hcs4, i4, hA4, hb4⟩ := trod_term _ _ _ g4
      injection hcs4 with e1 hcs4
      injection hcs4 with e2 _
      subst e1; subst e2
      obtain ⟨b5, hbv5, eb5⟩ := DataW.trod_bool Try.underlying4 g5
      injection hbv5 with hbv5
      subst hbv5
      obtain ⟨b6, hbv6, eb6⟩ := DataW.trod_bool Try.underlying4 g6
      injection hbv6 with hbv6
      subst hbv6
      refine ⟨⟨f, t1, t2, t3, t4, b5, b6, f7⟩, ⟨A1, A2, A3, A4, k1, k2, k3, k4⟩, rfl, ⟨h64 f hw, i1, i2, i3, i4, h64 f7 hw7, hA1.toN, hA2.toN, hA3.toN, hA4.toN⟩, ?_⟩
      subst hx
      simp only [List.map_cons, List.map_nil, Rows.uptoBulk, Rows.uptoBulkAll]
      show t1.size + t2.size + t3.size + t4.size ≤ _
      omega

theorem open_acts {r : Reach} {b0 : Nat} {v : Value} {d : DataW H} {ps : List MemPlace} (hv : Value.okWide Try.prog W r b0 22 v) (h : DataW.Trod enc Try.prog W base (fun _ => true) held 22 v d ps) :
    ∃ (l : List Ac) (A : Option Addr) (c : Nat), v = .slice A l.length c ∧ Acts W (· < W.heap.size) A l ∧ ∀ x ∈ l, x.size ≤ Rows.uptoBulk d := by
  obtain ⟨a0, len0, cap0, rfl⟩ := okWide_slice Try.underlying22 hv
  obtain ⟨fuel, hf⟩ := h
  have hf' : DataW.trod enc Try.prog W base (fun _ => true) held fuel 22 [.slice a0 len0 cap0] = some (d, ps) := hf
  rcases DataW.trod_slice Try.underlying22 hf' with ⟨hv, e1⟩ | ⟨a, len, cap, elems, rest, m, hm, hv, e1, _, hl, hmax, hlenE, hel, _, _⟩
  · injection hv with hv
    injection hv with e2 e3 e4
    subst e2; subst e3; subst e4
    exact ⟨[], none, 0, rfl, ⟨by simp, fun h => by simp at h⟩, by simp⟩
  · injection hv with hv
    injection hv with e2 e3 e4
    subst e2; subst e3; subst e4
    have each : ∀ i, i < len0 → ∃ q : Ac × AcW × DataW H, (∀ j c, (q.1.cells q.2.1)[j]? = some c → W.cell? ((a.add (i * 12)).add j) = some c) ∧ AcFx W (· < W.heap.size) q.1 q.2.1 ∧ q.1.size ≤ Rows.uptoBulk q.2.2 ∧ q.2.2 ∈ elems.map (·.1) := by
      intro i hi
      have h1 := hel i hi
      rw [cellsAct] at h1
      rw [List.getElem?_eq_getElem (by omega)] at h1
      cases hc : W.cells? base (a.add (i * 12)) 12 with
      | none => rw [hc] at h1; cases h1
      | some cs' =>
        rw [hc] at h1
        simp only [Option.bind_some] at h1
        obtain ⟨y, z, rfl, hfx, hb⟩ := trod_act _ cs' _ h1
        obtain ⟨_, _, hat⟩ := World.cells?_some hc
        refine ⟨(y, z, (elems[i]'(by omega)).1), fun j c hj => ?_, hfx, hb, List.mem_map.2 ⟨_, List.getElem_mem _, rfl⟩⟩
        have hjl : j < 12 := (List.getElem?_eq_some_iff.1 hj).1
        have h9 := hat j hjl
        have hjv := (List.getElem?_eq_some_iff.1 hj).2
        first | (rw [hjv] at h9; exact h9) | (rw [hj] at h9; exact h9)
    haveI : Inhabited (Ac × AcW × DataW H) := ⟨(⟨0, .node 0 [], .node 0 [], .node 0 [], .node 0 [], false, false, 0⟩, ⟨none, none, none, none, 0, 0, 0, 0⟩, .nil)⟩
    obtain ⟨q, hq⟩ := Go.Deep.choose_lt each
    have hget : ∀ (i : Nat) (t : Ac), ((List.range len0).map fun i => (q i).1)[i]? = some t → i < len0 ∧ t = (q i).1 := by
      intro i t e
      have hi : i < len0 := by have := (List.getElem?_eq_some_iff.1 e).1; simpa using this
      rw [List.getElem?_map, List.getElem?_range hi] at e
      simp at e
      exact ⟨hi, e.symm⟩
    refine ⟨(List.range len0).map fun i => (q i).1, some a, cap0, by simp, ?_, ?_⟩
    · rcases Nat.eq_zero_or_pos len0 with h0 | h0
      · subst h0; exact ⟨by simp, fun h => by simp at h⟩
      · have c00 := (hq 0 h0).1 0 _ rfl
        simp only [Nat.zero_mul, Addr.add, if_true] at c00
        obtain ⟨blk, off, spot⟩ := a
        obtain rfl : spot = none := cell_spot c00
        have hblk : blk < W.heap.size := World.block_lt_of_cell? W _ c00
        refine ⟨by unfold maxLen at hmax; simp; omega, fun _ => ⟨blk, off, rfl, hblk, fun i t e => ?_⟩⟩
        obtain ⟨hi, rfl⟩ := hget i t e
        obtain ⟨h1, h2, _⟩ := hq i hi
        refine ⟨(q i).2.1, h2, fun j c hj => ?_⟩
        have := h1 j c hj
        rcases j with _ | j
        · rw [Addr.add_lit] at this
          simpa [Addr.add] using this
        · rw [Addr.add_lit, Addr.add_lit] at this
          exact this
    · intro x hx
      obtain ⟨i, hi, rfl⟩ := List.mem_map.1 hx
      have hi' : i < len0 := by simpa using hi
      obtain ⟨_, _, h7, h8⟩ := hq i hi'
      have h9 := bulk_mem h8
      have e5 := congrArg (fun z => Rows.uptoBulk z.1) e1
      simp only [Rows.uptoBulk] at e5
      show (q i).1.size ≤ _
      omega

end

end Go.Proofs.Ytglfjmbclimeeaa

/- match: two matchers side by side. -/

namespace Go.Proofs.Ytglfjmbclimeeaa

open Go.RowKit Go.Shelf
set_option maxRecDepth 100000

/-- Both matchers, apart from each other. -/
structure ActI (w wr : World) (bx bm zb : Nat) (S T : Nat → Prop) (v v' : Value) (l l' : List Bi) : Prop where
  m : MatW wr S bx bm v l
  r : RefW wr T zb v' l'
  dj : ∀ g, S g → ¬ T g
  lo : ∀ g, S g ∨ T g → w.heap.size ≤ g
  bl : Below w.heap.size w wr

section

variable {w wr w2 : World} {bx bm zb : Nat} {S T : Nat → Prop} {v v' v2 : Value} {l l' l2 : List Bi}

theorem ActI.on (h : ActI w wr bx bm zb S T v v' l l') (hb : Below wr.heap.size wr w2) : ActI w w2 bx bm zb S T v v' l l' := ⟨h.m.on hb, h.r.on hb, h.dj, h.lo, h.bl.trans (hb.mono h.bl.size)⟩

theorem ActI.mat (h : ActI w wr bx bm zb S T v v' l l') (hs : MatStep wr w2 S bx bm v v2 l2) : ActI w w2 bx bm zb (fun g => S g ∨ (wr.heap.size ≤ g ∧ g < w2.heap.size)) T v2 v' l2 l' where
  m := hs.m
  r := h.r.keep hs.k.size fun g e => hs.k.k.block g ⟨h.r.lt g e, fun e2 => h.dj g (h.m.own g e2) e⟩
  dj := fun g e e2 => e.elim (fun e => h.dj g e e2) fun e => by have := h.r.lt g e2; omega
  lo := fun g e => by
    rcases e with (e | e) | e
    · exact h.lo g (.inl e)
    · have := h.bl.size; omega
    · exact h.lo g (.inr e)
  bl := h.bl.trans (Keeps.below hs.k.k fun g e => ⟨Nat.lt_of_lt_of_le e h.bl.size, fun e2 => by have := h.lo g (.inl (h.m.own g e2)); omega⟩)

theorem ActI.ref (h : ActI w wr bx bm zb S T v v' l l') (hs : RefStep wr w2 T zb v' v2 l2) : ActI w w2 bx bm zb S (fun g => T g ∨ (wr.heap.size ≤ g ∧ g < w2.heap.size)) v v2 l l2 where
  m := h.m.keep hs.k.size fun g e => hs.k.k.block g ⟨h.m.lt g e, fun e2 => h.dj g e (h.r.own g e2)⟩
  r := hs.m
  dj := fun g e e2 => e2.elim (fun e2 => h.dj g e e2) fun e2 => by have := h.m.lt g e; omega
  lo := fun g e => by
    rcases e with e | e | e
    · exact h.lo g (.inl e)
    · exact h.lo g (.inr e)
    · have := h.bl.size; omega
  bl := h.bl.trans (Keeps.below hs.k.k fun g e => ⟨Nat.lt_of_lt_of_le e h.bl.size, fun e2 => by have := h.lo g (.inr (h.r.own g e2)); omega⟩)

theorem ActI.nm (h : ActI w wr bx bm zb S T v v' l l') : ∀ g, g < w.heap.size → g < wr.heap.size ∧ ¬ OwnM bx bm v g := fun g e => ⟨Nat.lt_of_lt_of_le e h.bl.size, fun e2 => by have := h.lo g (.inl (h.m.own g e2)); omega⟩

theorem ActI.nz (h : ActI w wr bx bm zb S T v v' l l') : ∀ g, g < w.heap.size → g < wr.heap.size ∧ ¬ OwnZ zb v' g := fun g e => ⟨Nat.lt_of_lt_of_le e h.bl.size, fun e2 => by have := h.lo g (.inr (h.r.own g e2)); omega⟩

end

/-- The bounds on what is bound. -/
structure BdOK (M : List Bd) (n : Nat) : Prop where
  ok : MOk M
  sz : ∀ x ∈ M, x.t.size ≤ 1048576
  ln : M.length ≤ n

theorem BdOK.wk {M M' : List Bd} {n : Nat} {p u : Tm} (h : BdOK M n) (hu : u.size ≤ 1048576) (e : wkT p M u = some M') : BdOK M' (n + p.size) := by
  obtain ⟨h1, _, h3⟩ := wk_ext h.ok e
  refine ⟨h1, fun x hx => ?_, by have := h.ln; omega⟩
  rcases wk_sz p M u M' e x hx with h4 | h4
  · exact h.sz x h4
  · omega

theorem BdOK.more {M : List Bd} {n k : Nat} (h : BdOK M n) (hk : n ≤ k) : BdOK M k := ⟨h.ok, h.sz, Nat.le_trans h.ln hk⟩

theorem BdOK.trm {M : List Bd} {n : Nat} {p u : Tm} (h : BdOK M n) (hu : u.size ≤ 1048576) : BdOK (trmM M p u) (n + p.size) := by
  unfold trmM
  rcases e : wkT p M u with _ | M'
  · exact h.more (by omega)
  · exact h.wk hu e

theorem BdOK.side {M : List Bd} {n : Nat} {p q t u : Tm} (h : BdOK M n) (ht : t.size ≤ 1048576) (hu : u.size ≤ 1048576) : BdOK ((sideO M p q t u).getD M) (n + p.size + q.size) := by
  unfold sideO
  rcases e : wkT p M t with _ | M'
  · exact h.more (by omega)
  · rcases e2 : wkT q M' u with _ | M2
    · simp only [Option.bind_some, e2]
      exact h.more (by omega)
    · simp only [Option.bind_some, e2]
      exact (h.wk ht e).wk hu e2

theorem BdOK.lit {M : List Bd} {n : Nat} {a b tr : Bool} {p q t u : Tm} (h : BdOK M n) (ht : t.size ≤ 1048576) (hu : u.size ≤ 1048576) : BdOK ((LitO a b tr p q t u M).getD M) (n + p.size + q.size) := by
  unfold LitO
  split
  · cases tr with
    | false => exact h.side ht hu
    | true => exact h.side hu ht
  · exact h.more (by omega)

theorem bdsM_back (l : List Bi) (k : Int) : bdsM (backL l k) = if 0 ≤ k ∧ k ≤ ((bdsM l).length : Int) then (bdsM l).take k.toNat else bdsM l := by
  unfold backL
  rw [bdsM_len]
  split
  · unfold bdsM; rw [List.map_take]
  · rfl

theorem BdOK.back {l : List Bi} {n : Nat} (h : BdOK (bdsM l) n) (k : Int) : BdOK (bdsM (backL l k)) n := by
  rw [bdsM_back]
  split
  · exact ⟨h.ok.take _, fun x hx => h.sz x (List.mem_of_mem_take hx), by have := h.ln; rw [List.length_take]; omega⟩
  · exact h

end Go.Proofs.Ytglfjmbclimeeaa

/- match: what the law MatchActs asks behind each act. -/

namespace Go.Proofs.Ytglfjmbclimeeaa

open Go.RowKit Go.Shelf
set_option maxRecDepth 100000

/-- What is asked behind an act. -/
structure EndC (w wz : World) (bx bm zb : Nat) (v v' : Value) (m m' : List Bi) : Prop where
  ma : Calls Try.prog 15 #[.pointer (some ⟨bx, 0, none⟩)] wz fun e w' => e = .returned (.int .i64 (m.length : Int)) ∧ w' = wz
  mr : Calls Try.prog 16 #[.pointer (some ⟨zb, 0, none⟩)] wz fun e w' => e = .returned (.int .i64 (m'.length : Int)) ∧ w' = wz
  sa : Calls Try.prog 18 #[.pointer (some ⟨bx, 0, none⟩)] wz fun e w' => ∃ A c, e = .returned (.slice A (substM (bdsM m)).length c) ∧ Binds w' (· < w'.heap.size) A (substM (bdsM m)) ∧ Below wz.heap.size wz w'
  sr : ∀ w8, Below wz.heap.size wz w8 → Calls Try.prog 19 #[.pointer (some ⟨zb, 0, none⟩)] w8 fun e w' => ∃ A c, e = .returned (.slice A (substM (bdsM m)).length c) ∧ Binds w' (· < w'.heap.size) A (substM (bdsM m)) ∧ Below w8.heap.size w8 w'
  ss : ∀ A8 c8 A9 c9 (w9 : World), Binds w9 (· < w9.heap.size) A8 (substM (bdsM m)) → Binds w9 (· < w9.heap.size) A9 (substM (bdsM m)) → Calls Try.prog 17 #[.slice A8 (substM (bdsM m)).length c8, .slice A9 (substM (bdsM m)).length c9] w9 fun e w' => e = .returned (.bool true) ∧ Below w9.heap.size w9 w'
  gl : ((m.length : Int) != (m'.length : Int)) = false

theorem endC_of {w wz : World} {bx bm zb n : Nat} {S T : Nat → Prop} {v v' : Value} {m m' : List Bi} (h : ActI w wz bx bm zb S T v v' m m') (he : bdsM m = bdsM m') (hb : BdOK (bdsM m) n) (hn : n ≤ 62914560) : EndC w wz bx bm zb v v' m m' := by
  have hle := congrArg List.length he
  have hml := hb.ln
  rw [bdsM_len] at hml
  rw [bdsM_len, bdsM_len] at hle
  refine ⟨mark_any bx bm _ _ _ _ h.m, rmark_any zb _ _ _ _ h.r, msubst_any bx bm _ v m wz h.m (by omega) (bds_size (fun y hy => by have := hb.sz y hy; omega)), fun w8 h8 => ?_, fun A8 c8 A9 c9 w9 h1 h2 => ?_, by simp [hle]⟩
  · have := rsubst_any zb _ v' m' w8 (h.r.on h8) (by rw [← he]; exact hb.ok) (by omega) (bds_size (fun y hy => by rw [← he] at hy; have := hb.sz y hy; omega))
    rwa [← he] at this
  · have := refSubSame_any _ _ A8 A9 c8 c9 w9 h1 h2
    rwa [sameB_refl] at this

/-- One act of both: what both answer, what both hold then. -/
def BothO (r : Bool) (M : List Bd) (w wc : World) (bx bm zb : Nat) (v v' : Value) (m' : List Bi) (f1 f2 : Nat) (a1 a2 : Array Value) (S T : Nat → Prop) : Prop :=
  Calls Try.prog f1 a1 wc (fun e w5 => ∃ v2 m2, e = .returned (.bool r) ∧ bdsM m2 = M ∧ MatStep wc w5 S bx bm v v2 m2) ∧
  ∀ (w5 : World) (v2 : Value) (m2 : List Bi), ActI w w5 bx bm zb (fun g => S g ∨ (wc.heap.size ≤ g ∧ g < w5.heap.size)) T v2 v' m2 m' → Calls Try.prog f2 a2 w5 fun e w6 => ∃ v3 m3, e = .returned (.bool r) ∧ bdsM m3 = M ∧ RefStep w5 w6 T zb v' v3 m3

theorem both_term {w wc : World} {bx bm zb n : Nat} {S T : Nat → Prop} {v v' : Value} {m m' : List Bi} {p t : Tm} {A B : Option Addr} {c d : Nat} (h : ActI w wc bx bm zb S T v v' m m') (he : bdsM m = bdsM m') (hb : BdOK (bdsM m) n) (hn : n ≤ 62914560) (hp : p.size ≤ 1048576) (ht : t.size ≤ 1048576) (hp64 : I64 p.fn) (ht64 : I64 t.fn) (hA : ArgsN w (· < w.heap.size) A p.args) (hB : ArgsN w (· < w.heap.size) B t.args) :
    BothO (trmB (bdsM m) p t) (trmM (bdsM m) p t) w wc bx bm zb v v' m' 9 10 #[.pointer (some ⟨bx, 0, none⟩), .agg #[.int .i64 p.fn, .slice A p.args.length c], .agg #[.int .i64 t.fn, .slice B t.args.length d]] #[.pointer (some ⟨zb, 0, none⟩), .agg #[.int .i64 p.fn, .slice A p.args.length c], .agg #[.int .i64 t.fn, .slice B t.args.length d]] S T := by
  have hml := hb.ln
  have hle := congrArg List.length he
  rw [bdsM_len] at hml
  rw [bdsM_len, bdsM_len] at hle
  refine ⟨(mterm_any p t A B c d bx bm _ _ v m wc h.m h.nm (by omega) (by omega) hp64 ht64 (hA.keep fun g e => h.bl.block g e) (hB.keep fun g e => h.bl.block g e)).mono fun e w5 ⟨v2, m2, hp⟩ => ⟨v2, m2, hp.res, hp.bds, hp.st⟩, fun w5 v2 m2 h5 => ?_⟩
  have := rTerm_any p t A B c d zb _ _ v' m' w5 h5.r (by rw [← he]; exact hb.ok) h5.nz (by omega) (by omega) hp64 ht64 (hA.keep fun g e => h5.bl.block g e) (hB.keep fun g e => h5.bl.block g e)
  unfold RTmPost at this
  rwa [← he] at this

theorem both_lit {w wc : World} {bx bm zb n : Nat} {S T : Nat → Prop} {v v' : Value} {m m' : List Bi} {i j tr : Bool} {p q t u : Tm} {A B C D : Option Addr} {a b c d : Nat} (h : ActI w wc bx bm zb S T v v' m m') (he : bdsM m = bdsM m') (hb : BdOK (bdsM m) n) (hn : n ≤ 62914560) (hp : p.size ≤ 1048576) (hq : q.size ≤ 1048576) (ht : t.size ≤ 1048576) (hu : u.size ≤ 1048576)
    (hp64 : I64 p.fn) (hq64 : I64 q.fn) (ht64 : I64 t.fn) (hu64 : I64 u.fn) (hA : ArgsN w (· < w.heap.size) A p.args) (hB : ArgsN w (· < w.heap.size) B q.args) (hC : ArgsN w (· < w.heap.size) C t.args) (hD : ArgsN w (· < w.heap.size) D u.args) :
    BothO (LitO i j tr p q t u (bdsM m)).isSome ((LitO i j tr p q t u (bdsM m)).getD (bdsM m)) w wc bx bm zb v v' m' 11 12 #[.pointer (some ⟨bx, 0, none⟩), litV i p q A B a b, litV j t u C D c d, .bool tr] #[.pointer (some ⟨zb, 0, none⟩), litV i p q A B a b, litV j t u C D c d, .bool tr] S T := by
  have hml := hb.ln
  have hle := congrArg List.length he
  rw [bdsM_len] at hml
  rw [bdsM_len, bdsM_len] at hle
  refine ⟨(mLit_any i j tr p q t u A B C D a b c d bx bm _ _ v m wc h.m h.nm (by omega) (by omega) (by omega) hp64 hq64 ht64 hu64 (hA.keep fun g e => h.bl.block g e) (hB.keep fun g e => h.bl.block g e) (hC.keep fun g e => h.bl.block g e) (hD.keep fun g e => h.bl.block g e)).mono fun e w5 ⟨hr, v2, m2, hbd, hs⟩ => ⟨v2, m2, hr, hbd, hs⟩, fun w5 v2 m2 h5 => ?_⟩
  have := rLit_any i j tr p q t u A B C D a b c d zb _ _ v' m' w5 h5.r (by rw [← he]; exact hb.ok) h5.nz (by omega) (by omega) (by omega) hp64 hq64 ht64 hu64 (hA.keep fun g e => h5.bl.block g e) (hB.keep fun g e => h5.bl.block g e) (hC.keep fun g e => h5.bl.block g e) (hD.keep fun g e => h5.bl.block g e)
  unfold RLitPost at this
  rw [← he] at this
  exact this.mono fun e w6 ⟨hr, v3, m3, hbd, hs⟩ => ⟨v3, m3, hr, hbd, hs⟩

theorem both_back {w wc : World} {bx bm zb n : Nat} {S T : Nat → Prop} {v v' : Value} {m m' : List Bi} {k : Int} (h : ActI w wc bx bm zb S T v v' m m') (he : bdsM m = bdsM m') (hb : BdOK (bdsM m) n) (hn : n ≤ 62914560) (hk : I64 k) :
    Calls Try.prog 13 #[.pointer (some ⟨bx, 0, none⟩), .int .i64 k] wc (fun e w5 => e = .returned (.tuple #[]) ∧ ∃ v2, MatStep wc w5 S bx bm v v2 (backL m k)) ∧
    (∀ (w5 : World) (v2 : Value) (m2 : List Bi), ActI w w5 bx bm zb (fun g => S g ∨ (wc.heap.size ≤ g ∧ g < w5.heap.size)) T v2 v' m2 m' → Calls Try.prog 14 #[.pointer (some ⟨zb, 0, none⟩), .int .i64 k] w5 fun e w6 => e = .returned (.tuple #[]) ∧ ∃ v3, RefStep w5 w6 T zb v' v3 (backL m' k)) ∧ bdsM (backL m k) = bdsM (backL m' k) := by
  have hml := hb.ln
  rw [bdsM_len] at hml
  exact ⟨back_any k bx bm _ v m wc hk (by omega) h.m, fun w5 v2 m2 h5 => rback_any k zb _ v' m' w5 hk h5.r, by rw [bdsM_back, bdsM_back, he]⟩

end Go.Proofs.Ytglfjmbclimeeaa

/- match: the law MatchActs, walked. -/

namespace Go.Proofs.Ytglfjmbclimeeaa

open Go.RowKit Go.Shelf
set_option maxRecDepth 100000

set_option maxHeartbeats 8000000 in
theorem MatchActs_any (l : List Ac) (A : Option Addr) (c : Nat) (w : World) (hA : Acts w (· < w.heap.size) A l) (hsz : ∀ x ∈ l, x.size ≤ 1048576) :
    Calls Try.prog 3 #[.slice A l.length c] w fun e w' => e = .returned (.bool true) ∧ Below w.heap.size w w' := by
  have HA := Lib.hid hA
  have Hsz := Lib.hid hsz
  have hll := hA.len
  have hwk := Lib.hid mwakes_any
  clear hA hsz
  go_enter Try.func3, Try.ntmps3
  go_upto_region 3 with (first
    | (go_at_call 8; with_reducible refine (new_at w).mono ?_; go_must (rintro e w1 ⟨bx, bm, S0, rfl, hM1, hS1, hb1⟩; have HM1 := Lib.hid hM1; have HS1 := Lib.hid hS1; clear hM1 hS1))
    | fail)
  have HI : Hid (ActI w (w1.alloc (.cells #[.slice none 0 0] 28)) bx bm w1.heap.size S0 (fun g => g = w1.heap.size) (.slice none 0 0) (.slice none 0 0) [] []) := Lib.hid
    { m := HM1.out.on ((Below.refl _ _).alloc (Nat.le_refl _) _)
      r := RefW.new_ w1
      dj := fun g e e2 => by have := HM1.out.lt g e; have e3 : g = w1.heap.size := e2; omega
      lo := fun g e => e.elim (fun e => HS1.out g e) fun e => by have e3 : g = w1.heap.size := e; have := hb1.size; omega
      bl := hb1.alloc hb1.size _ }
  have HB0 : Hid (BdOK (bdsM ([] : List Bi)) (0 * 1048576)) := Lib.hid ⟨.nil_, fun x hx => by simp [bdsM] at hx, by simp [bdsM]⟩
  obtain ⟨zb, hzb⟩ : ∃ zb, w1.heap.size = zb := ⟨_, rfl⟩
  obtain ⟨w2, hw2⟩ : ∃ w2, w1.alloc (.cells #[.slice none 0 0] 28) = w2 := ⟨_, rfl⟩
  rw [hw2, hzb] at HI
  rw [hw2, hzb]
  clear hzb hw2 HM1 HS1
  go_wp2
  go_loopw [16] (fun i wr => ∃ (k : Nat) (S T : Nat → Prop) (v v' : Value) (m m' : List Bi), k ≤ l.length ∧ k ≤ 60 ∧ i = .int .i64 (k : Int) ∧ Hid (ActI w wr bx bm zb S T v v' m m') ∧ Hid (bdsM m = bdsM m') ∧ Hid (BdOK (bdsM m) (k * 1048576))) (fun i _ => l.length - (intOf i).toNat)
  case atStart => exact ⟨0, _, _, _, _, [], [], Nat.zero_le _, by omega, rfl, HI, Lib.hid rfl, HB0⟩
  case round =>
    obtain ⟨k, S, T, v, v', m, m', hk, hk60, rfl, H, He, Hb⟩ := hrel
    by_cases hlt : k < l.length
    · obtain ⟨x, hx⟩ : ∃ x, l[k]? = some x := ⟨_, List.getElem?_eq_getElem hlt⟩
      obtain ⟨bb, off, rfl, hbb, hat⟩ := HA.out.ad (by omega)
      obtain ⟨z, hfx, hcell⟩ := hat k x hx
      have hc : ∀ j c, (x.cells z)[j]? = some c → wr.cell? ⟨bb, off + k * 12 + j, none⟩ = some c := fun j c h => cell_on H.out.bl hbb (hcell j c h)
      have c0 : wr.cell? ⟨bb, off + k * 12, none⟩ = some (.int .i64 x.k) := by simpa using hc 0 _ rfl
      have c1 : wr.cell? ⟨bb, off + k * 12 + 1, none⟩ = some (.int .i64 x.p.fn) := hc 1 _ rfl
      have c2 : wr.cell? ⟨bb, off + k * 12 + 2, none⟩ = some (.slice z.A1 x.p.args.length z.c1) := hc 2 _ rfl
      have c3 : wr.cell? ⟨bb, off + k * 12 + 3, none⟩ = some (.int .i64 x.t.fn) := hc 3 _ rfl
      have c4 : wr.cell? ⟨bb, off + k * 12 + 4, none⟩ = some (.slice z.A2 x.t.args.length z.c2) := hc 4 _ rfl
      have c5 : wr.cell? ⟨bb, off + k * 12 + 5, none⟩ = some (.int .i64 x.q.fn) := hc 5 _ rfl
      have c6 : wr.cell? ⟨bb, off + k * 12 + 6, none⟩ = some (.slice z.A3 x.q.args.length z.c3) := hc 6 _ rfl
      have c7 : wr.cell? ⟨bb, off + k * 12 + 7, none⟩ = some (.int .i64 x.u.fn) := hc 7 _ rfl
      have c8 : wr.cell? ⟨bb, off + k * 12 + 8, none⟩ = some (.slice z.A4 x.u.args.length z.c4) := hc 8 _ rfl
      have c9 : wr.cell? ⟨bb, off + k * 12 + 9, none⟩ = some (.bool x.a) := hc 9 _ rfl
      have c10 : wr.cell? ⟨bb, off + k * 12 + 10, none⟩ = some (.bool x.b) := hc 10 _ rfl
      have c11 : wr.cell? ⟨bb, off + k * 12 + 11, none⟩ = some (.int .i64 x.n) := hc 11 _ rfl
      clear hc hcell hat
      by_cases h60 : k = 60
      · subst h60
        go_wp2_with (first
          | (go_at_call 20; with_reducible refine (hwk.out _).mono ?_; go_must (rintro e w9 ⟨rfl, hb9⟩))
          | fail)
        go_ret
        have hba := (Below.refl wr.heap.size wr).alloc (Nat.le_refl _) (.cells (x.cells z).toArray 33)
        exact ⟨rfl, H.out.bl.trans ((hba.trans (hb9.mono hba.size)).mono H.out.bl.size)⟩
      · have h60' : decide ((k : Int) ≥ 60) = false := decide_eq_false (by omega)
        have hk59 : k < 60 := by omega
        clear h60
        go_upto_region 6 with fail
        obtain ⟨w4, hw4⟩ : ∃ w4, wr.alloc (.cells #[.int .i64 x.k, .int .i64 x.p.fn, .slice z.A1 x.p.args.length z.c1, .int .i64 x.t.fn, .slice z.A2 x.t.args.length z.c2, .int .i64 x.q.fn, .slice z.A3 x.q.args.length z.c3, .int .i64 x.u.fn, .slice z.A4 x.u.args.length z.c4, .bool x.a, .bool x.b, .int .i64 x.n] 33) = w4 := ⟨_, rfl⟩
        have hb4 : Below wr.heap.size wr w4 := by rw [← hw4]; exact (Below.refl _ _).alloc (Nat.le_refl _) _
        have q4 : w4.heap[wr.heap.size]? = some (.cells (x.cells z).toArray 33) := by rw [← hw4]; exact heap_alloc_new wr _
        have hwl : wr.heap.size < w4.heap.size := by rw [← hw4]; simp
        rw [hw4]
        have H4 := Lib.hid (H.out.on hb4)
        have Hfx := Lib.hid hfx
        have Hx := Lib.hid hx
        have HC := Lib.hid (fun (w1 : World) (h : Below w4.heap.size w4 w1) (j : Nat) (c : Value) (hj : (x.cells z)[j]? = some c) => (cells_n ((h.block _ hwl).trans q4) j _ (by simpa using hj) : w1.cell? ⟨wr.heap.size, j, none⟩ = some c))
        have Hq4 := Lib.hid q4
        clear hw4 c0 c1 c2 c3 c4 c5 c6 c7 c8 c9 c10 c11 hfx hx q4
        have hBd : Below w4.heap.size w4 w4.drew := bl_drewN (Below.refl _ _) 1
        have c1 : w4.drew.cell? ⟨wr.heap.size, 1, none⟩ = some (.int .i64 x.p.fn) := HC.out _ hBd 1 _ rfl
        have c2 : w4.drew.cell? ⟨wr.heap.size, 2, none⟩ = some (.slice z.A1 x.p.args.length z.c1) := HC.out _ hBd 2 _ rfl
        have c3 : w4.drew.cell? ⟨wr.heap.size, 3, none⟩ = some (.int .i64 x.t.fn) := HC.out _ hBd 3 _ rfl
        have c4 : w4.drew.cell? ⟨wr.heap.size, 4, none⟩ = some (.slice z.A2 x.t.args.length z.c2) := HC.out _ hBd 4 _ rfl
        have c5 : w4.drew.cell? ⟨wr.heap.size, 5, none⟩ = some (.int .i64 x.q.fn) := HC.out _ hBd 5 _ rfl
        have c6 : w4.drew.cell? ⟨wr.heap.size, 6, none⟩ = some (.slice z.A3 x.q.args.length z.c3) := HC.out _ hBd 6 _ rfl
        have c7 : w4.drew.cell? ⟨wr.heap.size, 7, none⟩ = some (.int .i64 x.u.fn) := HC.out _ hBd 7 _ rfl
        have c8 : w4.drew.cell? ⟨wr.heap.size, 8, none⟩ = some (.slice z.A4 x.u.args.length z.c4) := HC.out _ hBd 8 _ rfl
        have c9 : w4.drew.cell? ⟨wr.heap.size, 9, none⟩ = some (.bool x.a) := HC.out _ hBd 9 _ rfl
        have c10 : w4.drew.cell? ⟨wr.heap.size, 10, none⟩ = some (.bool x.b) := HC.out _ hBd 10 _ rfl
        have d1 : w4.cell? ⟨wr.heap.size, 1, none⟩ = some (.int .i64 x.p.fn) := HC.out _ (Below.refl _ _) 1 _ rfl
        have d2 : w4.cell? ⟨wr.heap.size, 2, none⟩ = some (.slice z.A1 x.p.args.length z.c1) := HC.out _ (Below.refl _ _) 2 _ rfl
        have d3 : w4.cell? ⟨wr.heap.size, 3, none⟩ = some (.int .i64 x.t.fn) := HC.out _ (Below.refl _ _) 3 _ rfl
        have d4 : w4.cell? ⟨wr.heap.size, 4, none⟩ = some (.slice z.A2 x.t.args.length z.c2) := HC.out _ (Below.refl _ _) 4 _ rfl
        have d5 : w4.cell? ⟨wr.heap.size, 5, none⟩ = some (.int .i64 x.q.fn) := HC.out _ (Below.refl _ _) 5 _ rfl
        have d6 : w4.cell? ⟨wr.heap.size, 6, none⟩ = some (.slice z.A3 x.q.args.length z.c3) := HC.out _ (Below.refl _ _) 6 _ rfl
        have d7 : w4.cell? ⟨wr.heap.size, 7, none⟩ = some (.int .i64 x.u.fn) := HC.out _ (Below.refl _ _) 7 _ rfl
        have d8 : w4.cell? ⟨wr.heap.size, 8, none⟩ = some (.slice z.A4 x.u.args.length z.c4) := HC.out _ (Below.refl _ _) 8 _ rfl
        have d9 : w4.cell? ⟨wr.heap.size, 9, none⟩ = some (.bool x.a) := HC.out _ (Below.refl _ _) 9 _ rfl
        have d10 : w4.cell? ⟨wr.heap.size, 10, none⟩ = some (.bool x.b) := HC.out _ (Below.refl _ _) 10 _ rfl
        go_cut [7, 8] from 17 to 98 (fun s7 s8 wx => ∃ b7 b8 : Nat, s7 = .pointer (some ⟨b7, 0, none⟩) ∧ s8 = .pointer (some ⟨b8, 0, none⟩) ∧ w4.heap.size ≤ b7 ∧ w4.heap.size ≤ b8 ∧ Below w4.heap.size w4 wx ∧ wx.heap[b7]? = some (.cells #[.bool x.a, .int .i64 x.p.fn, .slice z.A1 x.p.args.length z.c1, .int .i64 x.q.fn, .slice z.A3 x.q.args.length z.c3] 35) ∧ wx.heap[b8]? = some (.cells #[.bool x.b, .int .i64 x.t.fn, .slice z.A2 x.t.args.length z.c2, .int .i64 x.u.fn, .slice z.A4 x.u.args.length z.c4] 35))
        case first =>
          go_region_held3 (fun w' => w'.cell? ⟨wr.heap.size, 1, none⟩ = some (.int .i64 x.p.fn) ∧ w'.cell? ⟨wr.heap.size, 2, none⟩ = some (.slice z.A1 x.p.args.length z.c1) ∧ w'.cell? ⟨wr.heap.size, 3, none⟩ = some (.int .i64 x.t.fn) ∧ w'.cell? ⟨wr.heap.size, 4, none⟩ = some (.slice z.A2 x.t.args.length z.c2) ∧ w'.cell? ⟨wr.heap.size, 5, none⟩ = some (.int .i64 x.q.fn) ∧ w'.cell? ⟨wr.heap.size, 6, none⟩ = some (.slice z.A3 x.q.args.length z.c3) ∧ w'.cell? ⟨wr.heap.size, 7, none⟩ = some (.int .i64 x.u.fn) ∧ w'.cell? ⟨wr.heap.size, 8, none⟩ = some (.slice z.A4 x.u.args.length z.c4) ∧ w'.cell? ⟨wr.heap.size, 9, none⟩ = some (.bool x.a) ∧ w'.cell? ⟨wr.heap.size, 10, none⟩ = some (.bool x.b)) (go_keep) (fail)
          all_goals
            have ha : Below w4.heap.size w4 ((w4.alloc (.cells #[.bool x.a, .int .i64 x.p.fn, .slice z.A1 x.p.args.length z.c1, .int .i64 x.q.fn, .slice z.A3 x.q.args.length z.c3] 35)).alloc (.cells #[.bool x.b, .int .i64 x.t.fn, .slice z.A2 x.t.args.length z.c2, .int .i64 x.u.fn, .slice z.A4 x.u.args.length z.c4] 35)).drew ∧ Below w4.heap.size w4 ((w4.alloc (.cells #[.bool x.b, .int .i64 x.t.fn, .slice z.A2 x.t.args.length z.c2, .int .i64 x.u.fn, .slice z.A4 x.u.args.length z.c4] 35)).alloc (.cells #[.bool x.a, .int .i64 x.p.fn, .slice z.A1 x.p.args.length z.c1, .int .i64 x.q.fn, .slice z.A3 x.q.args.length z.c3] 35)).drew := ⟨Below.drew (((Below.refl _ _).alloc (Nat.le_refl _) _).alloc (by simp) _), Below.drew (((Below.refl _ _).alloc (Nat.le_refl _) _).alloc (by simp) _)⟩
            have h1 := heap2 w4 (.cells #[.bool x.a, .int .i64 x.p.fn, .slice z.A1 x.p.args.length z.c1, .int .i64 x.q.fn, .slice z.A3 x.q.args.length z.c3] 35) (.cells #[.bool x.b, .int .i64 x.t.fn, .slice z.A2 x.t.args.length z.c2, .int .i64 x.u.fn, .slice z.A4 x.u.args.length z.c4] 35)
            have h2 := heap2 w4 (.cells #[.bool x.b, .int .i64 x.t.fn, .slice z.A2 x.t.args.length z.c2, .int .i64 x.u.fn, .slice z.A4 x.u.args.length z.c4] 35) (.cells #[.bool x.a, .int .i64 x.p.fn, .slice z.A1 x.p.args.length z.c1, .int .i64 x.q.fn, .slice z.A3 x.q.args.length z.c3] 35)
            have h1' := Lib.hid h1
            have h2' := Lib.hid h2
            have ha' := Lib.hid ha
            clear h1 h2 ha
            go_wp2_with fail
            go_meet
            first
              | exact ⟨_, _, rfl, rfl, by simp, by simp, ha'.out.1, h1'.out.1, h1'.out.2⟩
              | exact ⟨_, _, rfl, rfl, by simp, by simp, ha'.out.2, h2'.out.2, h2'.out.1⟩
        case rest =>
          obtain ⟨b7, b8, rfl, rfl, hl7, hl8, hbc, h7, h8⟩ := hcut
          have hxs := Hsz.out x (List.mem_of_getElem? Hx.out)
          unfold Ac.size at hxs
          obtain ⟨hip, hit, hiq, hiu, hik, him⟩ : I64 x.p.fn ∧ I64 x.t.fn ∧ I64 x.q.fn ∧ I64 x.u.fn ∧ I64 x.k ∧ I64 x.n := ⟨Hfx.out.ip, Hfx.out.it, Hfx.out.iq, Hfx.out.iu, Hfx.out.ik, Hfx.out.im⟩
          have H5 := Lib.hid (H4.out.on hbc)
          have hbn : k * 1048576 ≤ 62914560 := by omega
          have hbn2 : (k + 1) * 1048576 ≤ 62914560 := Nat.le_trans (Nat.mul_le_mul_right 1048576 (show k + 1 ≤ 60 by omega)) (by decide)
          have HSM := Lib.hid (fun (n : Nat) (h : n ≤ 1048576) => (by rw [Nat.succ_mul]; exact Nat.add_le_add_left h _ : k * 1048576 + n ≤ (k + 1) * 1048576))
          have hG := fun (w5 : World) (h : ∀ g, wr.heap.size ≤ g → g < wc.heap.size → w5.heap[g]? = wc.heap[g]?) => (⟨⟨cells_n ((h _ (Nat.le_refl _) (by have := hbc.size; omega)).trans ((hbc.block _ hwl).trans Hq4.out)) 0 _ rfl, cells_n ((h _ (Nat.le_refl _) (by have := hbc.size; omega)).trans ((hbc.block _ hwl).trans Hq4.out)) 1 _ rfl, cells_n ((h _ (Nat.le_refl _) (by have := hbc.size; omega)).trans ((hbc.block _ hwl).trans Hq4.out)) 2 _ rfl, cells_n ((h _ (Nat.le_refl _) (by have := hbc.size; omega)).trans ((hbc.block _ hwl).trans Hq4.out)) 3 _ rfl, cells_n ((h _ (Nat.le_refl _) (by have := hbc.size; omega)).trans ((hbc.block _ hwl).trans Hq4.out)) 4 _ rfl, cells_n ((h _ (Nat.le_refl _) (by have := hbc.size; omega)).trans ((hbc.block _ hwl).trans Hq4.out)) 11 _ rfl⟩, cells_five ((h b7 (by omega) (Array.getElem?_eq_some_iff.1 h7).1).trans h7), cells_five ((h b8 (by omega) (Array.getElem?_eq_some_iff.1 h8).1).trans h8)⟩ : (w5.cell? ⟨wr.heap.size, 0, none⟩ = some (.int .i64 x.k) ∧ w5.cell? ⟨wr.heap.size, 1, none⟩ = some (.int .i64 x.p.fn) ∧ w5.cell? ⟨wr.heap.size, 2, none⟩ = some (.slice z.A1 x.p.args.length z.c1) ∧ w5.cell? ⟨wr.heap.size, 3, none⟩ = some (.int .i64 x.t.fn) ∧ w5.cell? ⟨wr.heap.size, 4, none⟩ = some (.slice z.A2 x.t.args.length z.c2) ∧ w5.cell? ⟨wr.heap.size, 11, none⟩ = some (.int .i64 x.n)) ∧ _ ∧ _)
          have hK1 := fun (w5 : World) (v2 : Value) (m2 : List Bi) (hs : MatStep wc w5 S bx bm v v2 m2) (g : Nat) (h1 : wr.heap.size ≤ g) (h2 : g < wc.heap.size) => hs.k.k.block g ⟨h2, fun e => by have := H.out.m.lt g (H.out.m.own g e); omega⟩
          have HG := Lib.hid hG
          have HK1 := Lib.hid hK1
          clear hG hK1 c1 c2 c3 c4 c5 c6 c7 c8 c9 c10 d1 d2 d3 d4 d5 d6 d7 d8 d9 d10 h7 h8
          obtain ⟨⟨y0, y1, y2, y3, y4, y5⟩, ⟨p0, p1, p2, p3, p4⟩, q0, q1, q2, q3, q4⟩ := HG.out wc (fun _ _ _ => rfl)
          by_cases hk0 : x.k = 0
          · have g0 : ((x.k : Int) == 0) = true := by simp [hk0]
            clear hk0
            obtain ⟨hT1, hT2⟩ := both_term (c := z.c1) (d := z.c2) H5.out He.out Hb.out hbn (by omega) (by omega) hip hit Hfx.out.sp Hfx.out.st
            obtain ⟨r, hr⟩ : ∃ r, trmB (bdsM m) x.p x.t = r := ⟨_, rfl⟩
            obtain ⟨M2, hM2⟩ : ∃ M2, trmM (bdsM m) x.p x.t = M2 := ⟨_, rfl⟩
            rw [hr, hM2] at hT1 hT2
            have HB2 := Lib.hid (show BdOK M2 ((k + 1) * 1048576) by rw [← hM2]; exact (Hb.out.trm (by omega)).more (HSM.out _ (by omega)))
            have HT1 := Lib.hid hT1
            have HT2 := Lib.hid hT2
            clear hT1 hT2 hr hM2
            go_wp2_with (first
              | (go_at_call 9; with_reducible refine HT1.out.mono ?_; go_must (rintro e w5 ⟨v2, m2, rfl, hbd, hs⟩; have HZ5 := Lib.hid (H5.out.mat hs); obtain ⟨⟨y0, y1, y2, y3, y4, y5⟩, ⟨p0, p1, p2, p3, p4⟩, q0, q1, q2, q3, q4⟩ := HG.out w5 (HK1.out w5 v2 m2 hs); have HTr := Lib.hid (HT2.out w5 v2 m2 HZ5.out); have Hbd := Lib.hid hbd; clear hbd hs))
              | (go_at_call 10; with_reducible refine HTr.out.mono ?_; go_must (rintro e w6 ⟨v3, m3, rfl, hbd3, hs3⟩; have HZ := Lib.hid (HZ5.out.ref hs3); have HeZ := Lib.hid (show bdsM m2 = bdsM m3 by rw [Hbd.out, hbd3]); have HbZ := Lib.hid (show BdOK (bdsM m2) ((k + 1) * 1048576) by rw [Hbd.out]; exact HB2.out); have EC := Lib.hid (endC_of HZ.out HeZ.out HbZ.out hbn2); have gl := EC.out.gl; clear hbd3 hs3))
              | (go_at_call 15; with_reducible refine EC.out.ma.mono ?_; go_must (rintro e w7 ⟨rfl, rfl⟩))
              | (go_at_call 16; with_reducible refine EC.out.mr.mono ?_; go_must (rintro e w8 ⟨rfl, rfl⟩))
              | (go_at_call 18; with_reducible refine EC.out.sa.mono ?_; go_must (rintro e w9 ⟨A8, c8, rfl, hD8, hb8⟩; have HZ8 := Lib.hid (HZ.out.on hb8); have HD8 := Lib.hid hD8; have HSb := Lib.hid (EC.out.sr w9 hb8); clear hD8))
              | (go_at_call 19; with_reducible refine HSb.out.mono ?_; go_must (rintro e w10 ⟨A9, c9, rfl, hD9, hb9⟩; have HZ9 := Lib.hid (HZ8.out.on hb9); have HSm := Lib.hid (EC.out.ss A8 c8 A9 c9 w10 (binds_up HD8.out hb9) hD9); clear hD9))
              | (go_at_call 17; with_reducible refine HSm.out.mono ?_; go_must (rintro e w11 ⟨rfl, hb10⟩; have HZ10 := Lib.hid (HZ9.out.on hb10)))
              | fail)
            go_roundw
            case rel => exact ⟨k + 1, _, _, v2, v3, m2, m3, by omega, by omega, by go_num, HZ10, HeZ, HbZ⟩
            case measure => simp [intOf]; omega
          by_cases hk1 : x.k = 1
          · have g0 : ((x.k : Int) == 0) = false := by simp; omega
            have g1 : ((x.k : Int) == 1) = true := by simp [hk1]
            have g2 : ((x.k : Int) == 2) = false := by simp; omega
            clear hk0 hk1
            obtain ⟨hT1, hT2⟩ := both_lit (i := x.a) (j := x.b) (tr := false) (a := z.c1) (b := z.c3) (c := z.c2) (d := z.c4) H5.out He.out Hb.out hbn (by omega) (by omega) (by omega) (by omega) hip hiq hit hiu Hfx.out.sp Hfx.out.sq Hfx.out.st Hfx.out.su
            obtain ⟨r, hr⟩ : ∃ r, (LitO x.a x.b false x.p x.q x.t x.u (bdsM m)).isSome = r := ⟨_, rfl⟩
            obtain ⟨M2, hM2⟩ : ∃ M2, (LitO x.a x.b false x.p x.q x.t x.u (bdsM m)).getD (bdsM m) = M2 := ⟨_, rfl⟩
            rw [hr, hM2] at hT1 hT2
            have HB2 := Lib.hid (show BdOK M2 ((k + 1) * 1048576) by rw [← hM2]; exact (Hb.out.lit (by omega) (by omega)).more (by rw [Nat.add_assoc]; exact HSM.out _ (by omega)))
            have HT1 := Lib.hid hT1
            have HT2 := Lib.hid hT2
            clear hT1 hT2 hr hM2
            go_wp2_with (first
              | (go_at_call 11; with_reducible refine HT1.out.mono ?_; go_must (rintro e w5 ⟨v2, m2, rfl, hbd, hs⟩; have HZ5 := Lib.hid (H5.out.mat hs); obtain ⟨⟨y0, y1, y2, y3, y4, y5⟩, ⟨p0, p1, p2, p3, p4⟩, q0, q1, q2, q3, q4⟩ := HG.out w5 (HK1.out w5 v2 m2 hs); have HTr := Lib.hid (HT2.out w5 v2 m2 HZ5.out); have Hbd := Lib.hid hbd; clear hbd hs))
              | (go_at_call 12; with_reducible refine HTr.out.mono ?_; go_must (rintro e w6 ⟨v3, m3, rfl, hbd3, hs3⟩; have HZ := Lib.hid (HZ5.out.ref hs3); have HeZ := Lib.hid (show bdsM m2 = bdsM m3 by rw [Hbd.out, hbd3]); have HbZ := Lib.hid (show BdOK (bdsM m2) ((k + 1) * 1048576) by rw [Hbd.out]; exact HB2.out); have EC := Lib.hid (endC_of HZ.out HeZ.out HbZ.out hbn2); have gl := EC.out.gl; clear hbd3 hs3))
              | (go_at_call 15; with_reducible refine EC.out.ma.mono ?_; go_must (rintro e w7 ⟨rfl, rfl⟩))
              | (go_at_call 16; with_reducible refine EC.out.mr.mono ?_; go_must (rintro e w8 ⟨rfl, rfl⟩))
              | (go_at_call 18; with_reducible refine EC.out.sa.mono ?_; go_must (rintro e w9 ⟨A8, c8, rfl, hD8, hb8⟩; have HZ8 := Lib.hid (HZ.out.on hb8); have HD8 := Lib.hid hD8; have HSb := Lib.hid (EC.out.sr w9 hb8); clear hD8))
              | (go_at_call 19; with_reducible refine HSb.out.mono ?_; go_must (rintro e w10 ⟨A9, c9, rfl, hD9, hb9⟩; have HZ9 := Lib.hid (HZ8.out.on hb9); have HSm := Lib.hid (EC.out.ss A8 c8 A9 c9 w10 (binds_up HD8.out hb9) hD9); clear hD9))
              | (go_at_call 17; with_reducible refine HSm.out.mono ?_; go_must (rintro e w11 ⟨rfl, hb10⟩; have HZ10 := Lib.hid (HZ9.out.on hb10)))
              | fail)
            go_roundw
            case rel => exact ⟨k + 1, _, _, v2, v3, m2, m3, by omega, by omega, by go_num, HZ10, HeZ, HbZ⟩
            case measure => simp [intOf]; omega
          by_cases hk2 : x.k = 2
          · have g0 : ((x.k : Int) == 0) = false := by simp; omega
            have g1 : ((x.k : Int) == 1) = false := by simp; omega
            have g2 : ((x.k : Int) == 2) = true := by simp [hk2]
            clear hk0 hk1 hk2
            obtain ⟨hT1, hT2⟩ := both_lit (i := x.a) (j := x.b) (tr := true) (a := z.c1) (b := z.c3) (c := z.c2) (d := z.c4) H5.out He.out Hb.out hbn (by omega) (by omega) (by omega) (by omega) hip hiq hit hiu Hfx.out.sp Hfx.out.sq Hfx.out.st Hfx.out.su
            obtain ⟨r, hr⟩ : ∃ r, (LitO x.a x.b true x.p x.q x.t x.u (bdsM m)).isSome = r := ⟨_, rfl⟩
            obtain ⟨M2, hM2⟩ : ∃ M2, (LitO x.a x.b true x.p x.q x.t x.u (bdsM m)).getD (bdsM m) = M2 := ⟨_, rfl⟩
            rw [hr, hM2] at hT1 hT2
            have HB2 := Lib.hid (show BdOK M2 ((k + 1) * 1048576) by rw [← hM2]; exact (Hb.out.lit (by omega) (by omega)).more (by rw [Nat.add_assoc]; exact HSM.out _ (by omega)))
            have HT1 := Lib.hid hT1
            have HT2 := Lib.hid hT2
            clear hT1 hT2 hr hM2
            go_wp2_with (first
              | (go_at_call 11; with_reducible refine HT1.out.mono ?_; go_must (rintro e w5 ⟨v2, m2, rfl, hbd, hs⟩; have HZ5 := Lib.hid (H5.out.mat hs); obtain ⟨⟨y0, y1, y2, y3, y4, y5⟩, ⟨p0, p1, p2, p3, p4⟩, q0, q1, q2, q3, q4⟩ := HG.out w5 (HK1.out w5 v2 m2 hs); have HTr := Lib.hid (HT2.out w5 v2 m2 HZ5.out); have Hbd := Lib.hid hbd; clear hbd hs))
              | (go_at_call 12; with_reducible refine HTr.out.mono ?_; go_must (rintro e w6 ⟨v3, m3, rfl, hbd3, hs3⟩; have HZ := Lib.hid (HZ5.out.ref hs3); have HeZ := Lib.hid (show bdsM m2 = bdsM m3 by rw [Hbd.out, hbd3]); have HbZ := Lib.hid (show BdOK (bdsM m2) ((k + 1) * 1048576) by rw [Hbd.out]; exact HB2.out); have EC := Lib.hid (endC_of HZ.out HeZ.out HbZ.out hbn2); have gl := EC.out.gl; clear hbd3 hs3))
              | (go_at_call 15; with_reducible refine EC.out.ma.mono ?_; go_must (rintro e w7 ⟨rfl, rfl⟩))
              | (go_at_call 16; with_reducible refine EC.out.mr.mono ?_; go_must (rintro e w8 ⟨rfl, rfl⟩))
              | (go_at_call 18; with_reducible refine EC.out.sa.mono ?_; go_must (rintro e w9 ⟨A8, c8, rfl, hD8, hb8⟩; have HZ8 := Lib.hid (HZ.out.on hb8); have HD8 := Lib.hid hD8; have HSb := Lib.hid (EC.out.sr w9 hb8); clear hD8))
              | (go_at_call 19; with_reducible refine HSb.out.mono ?_; go_must (rintro e w10 ⟨A9, c9, rfl, hD9, hb9⟩; have HZ9 := Lib.hid (HZ8.out.on hb9); have HSm := Lib.hid (EC.out.ss A8 c8 A9 c9 w10 (binds_up HD8.out hb9) hD9); clear hD9))
              | (go_at_call 17; with_reducible refine HSm.out.mono ?_; go_must (rintro e w11 ⟨rfl, hb10⟩; have HZ10 := Lib.hid (HZ9.out.on hb10)))
              | fail)
            go_roundw
            case rel => exact ⟨k + 1, _, _, v2, v3, m2, m3, by omega, by omega, by go_num, HZ10, HeZ, HbZ⟩
            case measure => simp [intOf]; omega
          by_cases hk4 : x.k = 4
          · have g0 : ((x.k : Int) == 0) = false := by simp; omega
            have g1 : ((x.k : Int) == 1) = false := by simp; omega
            have g2 : ((x.k : Int) == 2) = false := by simp; omega
            have g4 : ((x.k : Int) == 4) = true := by simp [hk4]
            clear hk0 hk1 hk2 hk4
            obtain ⟨hT1, hT2, hbk⟩ := both_back (k := x.n) H5.out He.out Hb.out hbn him
            have HT1 := Lib.hid hT1
            have HT2 := Lib.hid hT2
            have HeZ := Lib.hid hbk
            have HbZ := Lib.hid ((Hb.out.back x.n).more (by have := HSM.out 0 (Nat.zero_le _); rw [Nat.add_zero] at this; exact this))
            clear hT1 hT2 hbk
            go_wp2_with (first
              | (go_at_call 13; with_reducible refine HT1.out.mono ?_; go_must (rintro e w5 ⟨rfl, v2, hs⟩; have HZ5 := Lib.hid (H5.out.mat hs); obtain ⟨⟨y0, y1, y2, y3, y4, y5⟩, ⟨p0, p1, p2, p3, p4⟩, q0, q1, q2, q3, q4⟩ := HG.out w5 (HK1.out w5 v2 _ hs); have HTr := Lib.hid (HT2.out w5 v2 _ HZ5.out); clear hs))
              | (go_at_call 14; with_reducible refine HTr.out.mono ?_; go_must (rintro e w6 ⟨rfl, v3, hs3⟩; have HZ := Lib.hid (HZ5.out.ref hs3); have EC := Lib.hid (endC_of HZ.out HeZ.out HbZ.out hbn2); have gl := EC.out.gl; clear hs3))
              | (go_at_call 15; with_reducible refine EC.out.ma.mono ?_; go_must (rintro e w7 ⟨rfl, rfl⟩))
              | (go_at_call 16; with_reducible refine EC.out.mr.mono ?_; go_must (rintro e w8 ⟨rfl, rfl⟩))
              | (go_at_call 18; with_reducible refine EC.out.sa.mono ?_; go_must (rintro e w9 ⟨A8, c8, rfl, hD8, hb8⟩; have HZ8 := Lib.hid (HZ.out.on hb8); have HD8 := Lib.hid hD8; have HSb := Lib.hid (EC.out.sr w9 hb8); clear hD8))
              | (go_at_call 19; with_reducible refine HSb.out.mono ?_; go_must (rintro e w10 ⟨A9, c9, rfl, hD9, hb9⟩; have HZ9 := Lib.hid (HZ8.out.on hb9); have HSm := Lib.hid (EC.out.ss A8 c8 A9 c9 w10 (binds_up HD8.out hb9) hD9); clear hD9))
              | (go_at_call 17; with_reducible refine HSm.out.mono ?_; go_must (rintro e w11 ⟨rfl, hb10⟩; have HZ10 := Lib.hid (HZ9.out.on hb10)))
              | fail)
            go_roundw
            case rel => exact ⟨k + 1, _, _, v2, v3, _, _, by omega, by omega, by go_num, HZ10, HeZ, HbZ⟩
            case measure => simp [intOf]; omega
          · have g0 : ((x.k : Int) == 0) = false := by simp; omega
            have g1 : ((x.k : Int) == 1) = false := by simp; omega
            have g2 : ((x.k : Int) == 2) = false := by simp; omega
            have g4 : ((x.k : Int) == 4) = false := by simp; omega
            clear hk0 hk1 hk2 hk4
            have HZ := H5
            have HeZ := He
            have HbZ := Lib.hid (Hb.out.more (by have := HSM.out 0 (Nat.zero_le _); rw [Nat.add_zero] at this; exact this))
            have EC := Lib.hid (endC_of HZ.out HeZ.out HbZ.out hbn2)
            have gl := EC.out.gl
            go_wp2_with (first
              | (go_at_call 15; with_reducible refine EC.out.ma.mono ?_; go_must (rintro e w7 ⟨rfl, rfl⟩))
              | (go_at_call 16; with_reducible refine EC.out.mr.mono ?_; go_must (rintro e w8 ⟨rfl, rfl⟩))
              | (go_at_call 18; with_reducible refine EC.out.sa.mono ?_; go_must (rintro e w9 ⟨A8, c8, rfl, hD8, hb8⟩; have HZ8 := Lib.hid (HZ.out.on hb8); have HD8 := Lib.hid hD8; have HSb := Lib.hid (EC.out.sr w9 hb8); clear hD8))
              | (go_at_call 19; with_reducible refine HSb.out.mono ?_; go_must (rintro e w10 ⟨A9, c9, rfl, hD9, hb9⟩; have HZ9 := Lib.hid (HZ8.out.on hb9); have HSm := Lib.hid (EC.out.ss A8 c8 A9 c9 w10 (binds_up HD8.out hb9) hD9); clear hD9))
              | (go_at_call 17; with_reducible refine HSm.out.mono ?_; go_must (rintro e w11 ⟨rfl, hb10⟩; have HZ10 := Lib.hid (HZ9.out.on hb10)))
              | fail)
            go_roundw
            case rel => exact ⟨k + 1, _, _, v, v', m, m', by omega, by omega, by go_num, HZ10, HeZ, HbZ⟩
            case measure => simp [intOf]; omega
    · obtain rfl : k = l.length := by omega
      go_wp2_with (first
        | (go_at_call 20; with_reducible refine (hwk.out _).mono ?_; go_must (rintro e w9 ⟨rfl, hb9⟩))
        | fail)
      go_ret
      exact ⟨rfl, H.out.bl.trans (hb9.mono H.out.bl.size)⟩

end Go.Proofs.Ytglfjmbclimeeaa

