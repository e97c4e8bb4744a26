import Derived.Test.YtkpkhnaflohjpaaP26Z12
import Derived.Test.YtkpkhnaflohjpaaP26Z4
import Derived.Test.YtkpkhnaflohjpaaP26Z7
import Derived.Test.YtkpkhnaflohjpaaP26Z1
import Derived.Test.YtkpkhnaflohjpaaP26Z2
import Derived.Deep.RegionLaw
/- lpo: the document's own Cmp, out of what its over does. -/

namespace Go.Proofs.Ytkpkhnaflohjpaa

open Go.RowKit Go.Shelf Go.Maps
set_option maxRecDepth 100000

/-- What over does of known terms. -/
def OvrI (o : Odr) : Prop := ∀ (s t : Tm) (P Q A A2 : Option Addr) (pc qc c c2 : Nat) (w : World), layK o.prec.length s = true → layK o.prec.length t = true → s.size ≤ 1073741824 → t.size ≤ 1073741824 → OdrM w w.heap.size o P Q → I64 s.fn → I64 t.fn → Args w w.heap.size A s.args → Args w w.heap.size A2 t.args →
  Calls Try.prog 14 #[.agg #[.bool o.lpo, .slice P o.prec.length pc, .slice Q o.wts.length qc, .int .i64 o.var], .agg #[.int .i64 s.fn, .slice A s.args.length c], .agg #[.int .i64 t.fn, .slice A2 t.args.length c2]] w fun e w' => e = .returned (.bool (lpT o.prec s t)) ∧ Below w.heap.size w w'

set_option maxHeartbeats 2000000 in
theorem refCmp9_any (o : Odr) (hO : OvrI o) (s t : Tm) (P Q A A2 : Option Addr) (pc qc c c2 : Nat) (w : World) (hzs : s.size ≤ 1073741824) (hzt : t.size ≤ 1073741824) (hM : OdrM w w.heap.size o P Q) (hfs : I64 s.fn) (hft : I64 t.fn) (hA : Args w w.heap.size A s.args) (hA2 : Args w w.heap.size A2 t.args) :
    Calls Try.prog 6 #[.agg #[.bool o.lpo, .slice P o.prec.length pc, .slice Q o.wts.length qc, .int .i64 o.var], .agg #[.int .i64 s.fn, .slice A s.args.length c], .agg #[.int .i64 t.fn, .slice A2 t.args.length c2]] w fun e w' => e = .returned (.int .i64 (cmpP o.prec s t)) ∧ Below w.heap.size w w' := by
  obtain ⟨W, hW⟩ : ∃ W, (((w.alloc (.cells #[.bool o.lpo, .slice P o.prec.length pc, .slice Q o.wts.length qc, .int .i64 o.var] 24)).alloc (.cells #[.int .i64 s.fn, .slice A s.args.length c] 27)).alloc (.cells #[.int .i64 t.fn, .slice A2 t.args.length c2] 27)) = W := ⟨_, rfl⟩
  obtain ⟨hB, hz, hS⟩ := box_ott hW
  have HW := Lib.hid hW
  obtain ⟨x0, x1, x2, x3, x4, x5, x6, x7⟩ := hS W (Below.refl _ _)
  have HS := Lib.hid hS
  have K1 : Hid (∀ w1, Below W.heap.size W w1 → Calls Try.prog 12 #[.agg #[.bool o.lpo, .slice P o.prec.length pc, .slice Q o.wts.length qc, .int .i64 o.var], .agg #[.int .i64 s.fn, .slice A s.args.length c]] w1 fun e w' => e = .returned (.bool (layK o.prec.length s)) ∧ Below w1.heap.size w1 w') := Lib.hid fun w1 hb => refKnows9_any o s P Q A pc qc c w1 hfs (hA.on (hB.trans (hb.mono hB.size)))
  have K2 : Hid (∀ w1, Below W.heap.size W w1 → Calls Try.prog 12 #[.agg #[.bool o.lpo, .slice P o.prec.length pc, .slice Q o.wts.length qc, .int .i64 o.var], .agg #[.int .i64 t.fn, .slice A2 t.args.length c2]] w1 fun e w' => e = .returned (.bool (layK o.prec.length t)) ∧ Below w1.heap.size w1 w') := Lib.hid fun w1 hb => refKnows9_any o t P Q A2 pc qc c2 w1 hft (hA2.on (hB.trans (hb.mono hB.size)))
  have K3 : Hid (∀ w1, Below W.heap.size W w1 → Calls Try.prog 13 #[.agg #[.int .i64 s.fn, .slice A s.args.length c], .agg #[.int .i64 t.fn, .slice A2 t.args.length c2]] w1 fun e w' => e = .returned (.bool (decide (cmpT s t = 0))) ∧ Below w1.heap.size w1 w') := Lib.hid fun w1 hb => ref2Same_any' s t A A2 c c2 w1 hfs hft (hA.on (hB.trans (hb.mono hB.size))) (hA2.on (hB.trans (hb.mono hB.size)))
  have K4 : Hid (∀ w1, Below W.heap.size W w1 → layK o.prec.length s = true → layK o.prec.length t = true → Calls Try.prog 14 #[.agg #[.bool o.lpo, .slice P o.prec.length pc, .slice Q o.wts.length qc, .int .i64 o.var], .agg #[.int .i64 s.fn, .slice A s.args.length c], .agg #[.int .i64 t.fn, .slice A2 t.args.length c2]] w1 fun e w' => e = .returned (.bool (lpT o.prec s t)) ∧ Below w1.heap.size w1 w') := Lib.hid fun w1 hb h1 h2 => hO s t P Q A A2 pc qc c c2 w1 h1 h2 hzs hzt (hM.on (hB.trans (hb.mono hB.size))) hfs hft (hA.on (hB.trans (hb.mono hB.size))) (hA2.on (hB.trans (hb.mono hB.size)))
  have K5 : Hid (∀ w1, Below W.heap.size W w1 → layK o.prec.length s = true → layK o.prec.length t = true → Calls Try.prog 14 #[.agg #[.bool o.lpo, .slice P o.prec.length pc, .slice Q o.wts.length qc, .int .i64 o.var], .agg #[.int .i64 t.fn, .slice A2 t.args.length c2], .agg #[.int .i64 s.fn, .slice A s.args.length c]] w1 fun e w' => e = .returned (.bool (lpT o.prec t s)) ∧ Below w1.heap.size w1 w') := Lib.hid fun w1 hb h1 h2 => hO t s P Q A2 A pc qc c2 c w1 h2 h1 hzt hzs (hM.on (hB.trans (hb.mono hB.size))) hft hfs (hA2.on (hB.trans (hb.mono hB.size))) (hA.on (hB.trans (hb.mono hB.size)))
  have hR := Lib.hid (show cmpP o.prec s t = if layK o.prec.length s && layK o.prec.length t then (if cmpT s t = 0 then 2 else if lpT o.prec s t then 3 else if lpT o.prec t s then 1 else 0) else 0 from rfl)
  clear hW hS hM hA hA2 hO
  have hb0 : Below W.heap.size W W := Below.refl _ _
  cases hs : layK o.prec.length s with
  | false =>
    rw [hs] at K1
    have hfin := Lib.hid (show cmpP o.prec s t = 0 by rw [hR.out, hs]; rfl)
    clear hs
    go_enter Try.func6, Try.ntmps6
    go_upto_region 1 with fail
    rw [HW.out]
    go_wp2_with (first
      | (go_at_call 12; (with_reducible refine (K1.out _ hb0).mono ?_); go_must (rintro e w1 ⟨rfl, hb1⟩; obtain ⟨y0, y1, y2, y3, y4, y5, y6, y7⟩ := HS.out w1 hb1))
      | fail)
    go_ret
    exact ⟨by rw [hfin.out]; rfl, hB.trans (hb1.mono hB.size)⟩
  | true =>
    cases ht : layK o.prec.length t with
    | false =>
      rw [hs] at K1
      rw [ht] at K2
      have hfin := Lib.hid (show cmpP o.prec s t = 0 by rw [hR.out, hs, ht]; rfl)
      clear hs ht
      go_enter Try.func6, Try.ntmps6
      go_upto_region 1 with fail
      rw [HW.out]
      go_wp2_with (first
        | (go_at_call 12; (with_reducible refine (K1.out _ hb0).mono ?_); go_must (rintro e w1 ⟨rfl, hb1⟩; obtain ⟨y0, y1, y2, y3, y4, y5, y6, y7⟩ := HS.out w1 hb1))
        | (go_at_call 12; (with_reducible refine (K2.out _ hb1).mono ?_); go_must (rintro e w2 ⟨rfl, hb2⟩; have hB2 := hb1.trans (hb2.mono hb1.size); obtain ⟨z0, z1, z2, z3, z4, z5, z6, z7⟩ := HS.out w2 hB2))
        | fail)
      go_ret
      exact ⟨by rw [hfin.out]; rfl, hB.trans (hB2.mono hB.size)⟩
    | true =>
      have K4 := Lib.hid fun w1 hb => K4.out w1 hb hs ht
      have K5 := Lib.hid fun w1 hb => K5.out w1 hb hs ht
      have hR := Lib.hid (show cmpP o.prec s t = if cmpT s t = 0 then 2 else if lpT o.prec s t then 3 else if lpT o.prec t s then 1 else 0 by rw [hR.out, hs, ht]; rfl)
      rw [hs] at K1
      rw [ht] at K2
      clear hs ht
      by_cases h0 : cmpT s t = 0
      · rw [decide_eq_true h0] at K3
        have hfin := Lib.hid (show cmpP o.prec s t = 2 by rw [hR.out, if_pos h0])
        clear h0
        go_enter Try.func6, Try.ntmps6
        go_upto_region 1 with fail
        rw [HW.out]
        go_wp2_with (first
          | (go_at_call 12; (with_reducible refine (K1.out _ hb0).mono ?_); go_must (rintro e w1 ⟨rfl, hb1⟩; obtain ⟨y0, y1, y2, y3, y4, y5, y6, y7⟩ := HS.out w1 hb1))
          | (go_at_call 12; (with_reducible refine (K2.out _ hb1).mono ?_); go_must (rintro e w2 ⟨rfl, hb2⟩; have hB2 := hb1.trans (hb2.mono hb1.size); obtain ⟨z0, z1, z2, z3, z4, z5, z6, z7⟩ := HS.out w2 hB2))
          | (go_at_call 13; (with_reducible refine (K3.out _ hB2).mono ?_); go_must (rintro e w3 ⟨rfl, hb3⟩; have hB3 := hB2.trans (hb3.mono hB2.size)))
          | fail)
        go_ret
        exact ⟨by rw [hfin.out]; rfl, hB.trans (hB3.mono hB.size)⟩
      · rw [decide_eq_false h0] at K3
        have hR := Lib.hid (show cmpP o.prec s t = if lpT o.prec s t then 3 else if lpT o.prec t s then 1 else 0 by rw [hR.out, if_neg h0])
        clear h0
        cases h1 : lpT o.prec s t with
        | true =>
          rw [h1] at K4 hR
          clear h1
          go_enter Try.func6, Try.ntmps6
          go_upto_region 1 with fail
          rw [HW.out]
          go_wp2_with (first
            | (go_at_call 12; (with_reducible refine (K1.out _ hb0).mono ?_); go_must (rintro e w1 ⟨rfl, hb1⟩; obtain ⟨y0, y1, y2, y3, y4, y5, y6, y7⟩ := HS.out w1 hb1))
            | (go_at_call 12; (with_reducible refine (K2.out _ hb1).mono ?_); go_must (rintro e w2 ⟨rfl, hb2⟩; have hB2 := hb1.trans (hb2.mono hb1.size); obtain ⟨z0, z1, z2, z3, z4, z5, z6, z7⟩ := HS.out w2 hB2))
            | (go_at_call 13; (with_reducible refine (K3.out _ hB2).mono ?_); go_must (rintro e w3 ⟨rfl, hb3⟩; have hB3 := hB2.trans (hb3.mono hB2.size); obtain ⟨a0, a1, a2, a3, a4, a5, a6, a7⟩ := HS.out w3 hB3))
            | (go_at_call 14; (with_reducible refine (K4.out _ hB3).mono ?_); go_must (rintro e w4 ⟨rfl, hb4⟩; have hB4 := hB3.trans (hb4.mono hB3.size)))
            | fail)
          go_ret
          exact ⟨by rw [hR.out]; rfl, hB.trans (hB4.mono hB.size)⟩
        | false =>
          rw [h1] at K4 hR
          clear h1
          cases h2 : lpT o.prec t s with
          | true =>
            rw [h2] at K5 hR
            clear h2
            go_enter Try.func6, Try.ntmps6
            go_upto_region 1 with fail
            rw [HW.out]
            go_wp2_with (first
              | (go_at_call 12; (with_reducible refine (K1.out _ hb0).mono ?_); go_must (rintro e w1 ⟨rfl, hb1⟩; obtain ⟨y0, y1, y2, y3, y4, y5, y6, y7⟩ := HS.out w1 hb1))
              | (go_at_call 12; (with_reducible refine (K2.out _ hb1).mono ?_); go_must (rintro e w2 ⟨rfl, hb2⟩; have hB2 := hb1.trans (hb2.mono hb1.size); obtain ⟨z0, z1, z2, z3, z4, z5, z6, z7⟩ := HS.out w2 hB2))
              | (go_at_call 13; (with_reducible refine (K3.out _ hB2).mono ?_); go_must (rintro e w3 ⟨rfl, hb3⟩; have hB3 := hB2.trans (hb3.mono hB2.size); obtain ⟨a0, a1, a2, a3, a4, a5, a6, a7⟩ := HS.out w3 hB3))
              | (go_at_call 14; (with_reducible refine (K4.out _ hB3).mono ?_); go_must (rintro e w4 ⟨rfl, hb4⟩; have hB4 := hB3.trans (hb4.mono hB3.size); obtain ⟨c0, c1, c2, c3, c4, c5, c6, c7⟩ := HS.out w4 hB4))
              | (go_at_call 14; (with_reducible refine (K5.out _ hB4).mono ?_); go_must (rintro e w5 ⟨rfl, hb5⟩; have hB5 := hB4.trans (hb5.mono hB4.size)))
              | fail)
            go_ret
            exact ⟨by rw [hR.out]; rfl, hB.trans (hB5.mono hB.size)⟩
          | false =>
            rw [h2] at K5 hR
            clear h2
            go_enter Try.func6, Try.ntmps6
            go_upto_region 1 with fail
            rw [HW.out]
            go_wp2_with (first
              | (go_at_call 12; (with_reducible refine (K1.out _ hb0).mono ?_); go_must (rintro e w1 ⟨rfl, hb1⟩; obtain ⟨y0, y1, y2, y3, y4, y5, y6, y7⟩ := HS.out w1 hb1))
              | (go_at_call 12; (with_reducible refine (K2.out _ hb1).mono ?_); go_must (rintro e w2 ⟨rfl, hb2⟩; have hB2 := hb1.trans (hb2.mono hb1.size); obtain ⟨z0, z1, z2, z3, z4, z5, z6, z7⟩ := HS.out w2 hB2))
              | (go_at_call 13; (with_reducible refine (K3.out _ hB2).mono ?_); go_must (rintro e w3 ⟨rfl, hb3⟩; have hB3 := hB2.trans (hb3.mono hB2.size); obtain ⟨a0, a1, a2, a3, a4, a5, a6, a7⟩ := HS.out w3 hB3))
              | (go_at_call 14; (with_reducible refine (K4.out _ hB3).mono ?_); go_must (rintro e w4 ⟨rfl, hb4⟩; have hB4 := hB3.trans (hb4.mono hB3.size); obtain ⟨c0, c1, c2, c3, c4, c5, c6, c7⟩ := HS.out w4 hB4))
              | (go_at_call 14; (with_reducible refine (K5.out _ hB4).mono ?_); go_must (rintro e w5 ⟨rfl, hb5⟩; have hB5 := hB4.trans (hb5.mono hB4.size)))
              | fail)
            go_ret
            exact ⟨by rw [hR.out]; rfl, hB.trans (hB5.mono hB.size)⟩

end Go.Proofs.Ytkpkhnaflohjpaa

/- lpo: the document's table of parts as it grows: rows of a part and the numbers of its arguments. -/

namespace Go.Proofs.Ytkpkhnaflohjpaa

open Go.RowKit Go.Shelf
set_option maxRecDepth 100000

/-- A row: a part, where its arguments lie, its slice of numbers, the numbers. -/
structure Nd where
  u : Tm
  A : Option Addr
  c : Nat
  kv : Value
  ks : List Nat

def Nd.cells (x : Nd) : List Value := [.int .i64 x.u.fn, .slice x.A x.u.args.length x.c, x.kv]

def Nd.p (x : Nd) : Tm × List Nat := (x.u, x.ks)

theorem nd_get (l : List Nd) (i r : Nat) (hr : r < 3) : (l.flatMap Nd.cells)[i * 3 + r]? = (l[i]?).bind fun x => x.cells[r]? := by
  induction l generalizing i with
  | nil => simp
  | cons x l ih =>
    have hlen : x.cells.length = 3 := rfl
    rw [List.flatMap_cons]
    cases i with
    | zero => rw [List.getElem?_append_left (by omega)]; simp
    | succ i =>
      rw [List.getElem?_append_right (by omega), hlen, show (i + 1) * 3 + r - 3 = i * 3 + r from by omega, ih]
      simp

theorem nd_len (l : List Nd) : (l.flatMap Nd.cells).length = l.length * 3 := by
  induction l with
  | nil => rfl
  | cons x l ih =>
    have hlen : x.cells.length = 3 := rfl
    rw [List.flatMap_cons, List.length_append, ih, hlen, List.length_cons]
    omega

theorem ndflat_set (l : List Nd) (i t : Nat) (x : Nd) (hi : i < l.length) : ((l.set i x).flatMap Nd.cells)[t]? = if t / 3 = i then x.cells[t % 3]? else (l.flatMap Nd.cells)[t]? := by
  have h1 := nd_get (l.set i x) (t / 3) (t % 3) (Nat.mod_lt _ (by omega))
  have h2 := nd_get l (t / 3) (t % 3) (Nat.mod_lt _ (by omega))
  rw [show t / 3 * 3 + t % 3 = t by omega] at h1 h2
  rw [h1, h2, List.getElem?_set]
  by_cases e : i = t / 3
  · rw [if_pos e, if_pos (by omega), if_pos e.symm]; rfl
  · rw [if_neg e, if_neg fun h => e h.symm]

/-- The slice v is the call's own; it holds the rows; each row's numbers are a slice of the call's own, apart from all else. -/
structure RowN (w : World) (base : Nat) (v : Value) (l : List Nd) : Prop where
  row : w.ownsRow base 66 3 v l.length (l.flatMap Nd.cells)
  i64 : ∀ x ∈ l, I64 x.u.fn
  sub : ∀ x ∈ l, Args w base x.A x.u.args
  ks : ∀ x ∈ l, IntsR w base x.kv (x.ks.map fun (k : Nat) => (k : Int))
  ap : ∀ (i j : Nat) (x y : Nd) (g : Nat), l[i]? = some x → l[j]? = some y → x.kv.ownBlock = some g → y.kv.ownBlock = some g → i = j
  av : ∀ x ∈ l, ∀ g, x.kv.ownBlock = some g → v.ownBlock ≠ some g

section

variable {w w' : World} {base : Nat} {v : Value} {l : List Nd}

theorem RowN.nil_ (w : World) (base : Nat) : RowN w base (.slice none 0 0) [] := ⟨World.ownsRow_nil w _ _ _, fun x hx => by simp at hx, fun x hx => by simp at hx, fun x hx => by simp at hx, fun i j x y g h => by simp at h, fun x hx => by simp at hx⟩

theorem RowN.on (h : RowN w base v l) (hb : Below w.heap.size w w') (hs : base ≤ w.heap.size) : RowN w' base v l :=
  ⟨row_keep h.row fun g e => hb.block g (row_lt h.row g e).2, h.i64, fun x hx => (h.sub x hx).blw (hb.mono hs), fun x hx => (h.ks x hx).on hb, h.ap, h.av⟩

/-- A new row, without numbers. -/
theorem RowN.push {u : Tm} {A : Option Addr} {c : Nat} {v' : Value} (h : RowN w base v l) (hrow : w'.ownsRow base 66 3 v' (l.length + 1) (l.flatMap Nd.cells ++ Nd.cells ⟨u, A, c, .slice none 0 0, []⟩)) (hi : I64 u.fn) (hA : Args w base A u.args) (hs : base ≤ w.heap.size)
    (hg : w.grownBy w' v.ownBlock) (hv : v'.ownBlock = v.ownBlock ∨ v'.ownBlock = some w.heap.size) (hvb : ∀ g, v.ownBlock = some g → base ≤ g) : RowN w' base v' (l ++ [⟨u, A, c, .slice none 0 0, []⟩]) := by
  have hbl : Below base w w' := ⟨hg.os, hg.tape, hg.output, hg.size, fun k hk => hg.block k (by omega) fun e => by have := hvb k e.symm; omega⟩
  have hkk : ∀ x ∈ l, ∀ g, x.kv.ownBlock = some g → w'.heap[g]? = w.heap[g]? := fun x hx g e => hg.block g (row_lt (h.ks x hx).row g e).2 fun e2 => h.av x hx g e e2.symm
  refine ⟨by rw [List.length_append, List.flatMap_append]; simpa using hrow, fun x hx => ?_, fun x hx => ?_, fun x hx => ?_, fun i j x y g hx hy e1 e2 => ?_, fun x hx g e => ?_⟩
  · rcases List.mem_append.1 hx with hx | hx
    · exact h.i64 x hx
    · rw [List.mem_singleton] at hx; subst hx; exact hi
  · rcases List.mem_append.1 hx with hx | hx
    · exact (h.sub x hx).blw hbl
    · rw [List.mem_singleton] at hx; subst hx; exact hA.blw hbl
  · rcases List.mem_append.1 hx with hx | hx
    · exact ⟨row_keep (h.ks x hx).row (hkk x hx), (h.ks x hx).i64⟩
    · rw [List.mem_singleton] at hx; subst hx; exact ⟨World.ownsRow_nil w' _ _ _, fun k hk => by simp at hk⟩
  · have hold : ∀ (i : Nat) (x : Nd), (l ++ [(⟨u, A, c, .slice none 0 0, []⟩ : Nd)])[i]? = some x → x.kv.ownBlock = some g → l[i]? = some x := fun i x hx e => by
      by_cases hil : i < l.length
      · rwa [List.getElem?_append_left hil] at hx
      · rw [List.getElem?_append_right (by omega)] at hx
        have := List.mem_of_getElem? hx
        rw [List.mem_singleton] at this
        subst this
        simp [Value.ownBlock] at e
    exact h.ap i j x y g (hold i x hx e1) (hold j y hy e2) e1 e2
  · rcases List.mem_append.1 hx with hx | hx
    · rcases hv with hv | hv
      · rw [hv]; exact h.av x hx g e
      · rw [hv]
        intro e2
        have := (row_lt (h.ks x hx).row g e).2
        injection e2 with e2
        omega
    · rw [List.mem_singleton] at hx; subst hx; simp [Value.ownBlock] at e

/-- The rows, read. -/
theorem RowN.read (h : RowN w base v l) (hl : l.length ≤ 9223372036854775807) {m : Nat} (hb : base ≤ m) (hm : w.heap.size ≤ m) : ∃ A c, v = .slice A l.length c ∧ NdW w m A (l.map Nd.p) := by
  rcases h.row.2 with ⟨rfl, h0⟩ | ⟨g, cap, cur, rfl, hb', hg, _⟩
  · obtain rfl : l = [] := List.eq_nil_of_length_eq_zero h0
    exact ⟨none, 0, rfl, ⟨by simp, fun h => by simp at h⟩⟩
  · have hgl := (Array.getElem?_eq_some_iff.1 hg).1
    refine ⟨_, _, rfl, by simpa using hl, fun hn => ⟨g, 0, rfl, by omega, fun i u ks hi => ?_⟩⟩
    rw [List.getElem?_map] at hi
    obtain ⟨x, hx, hxe⟩ : ∃ x, l[i]? = some x ∧ x.p = (u, ks) := by
      cases hx : l[i]? with
      | none => rw [hx] at hi; simp at hi
      | some x => rw [hx] at hi; exact ⟨x, rfl, by simpa using hi⟩
    obtain ⟨rfl, rfl⟩ : x.u = u ∧ x.ks = ks := by simpa [Nd.p] using hxe
    have hlt := (List.getElem?_eq_some_iff.1 hx).1
    have q0 := nd_get l i 0 (by omega)
    have q1 := nd_get l i 1 (by omega)
    have q2 := nd_get l i 2 (by omega)
    have c0 := h.row.cellAt (i * 3) (by omega)
    have c1 := h.row.cellAt (i * 3 + 1) (by omega)
    have c2 := h.row.cellAt (i * 3 + 2) (by omega)
    rw [Nat.add_zero, hx] at q0
    rw [hx] at q1 q2
    rw [q0] at c0
    rw [q1] at c1
    rw [q2] at c2
    have hmem := List.mem_of_getElem? hx
    have hk := h.ks x hmem
    obtain ⟨K, kc, hkv⟩ := row_slice hk.row
    rw [List.length_map] at hkv
    rw [Nat.zero_add]
    refine ⟨h.i64 x hmem, x.A, x.c, K, kc, c0, c1, c2.trans (by show some x.kv = _; rw [hkv]), (h.sub x hmem).more hb, fun hp => ?_⟩
    obtain ⟨kb, c', hkv', hkl, _⟩ := hk.get (i := 0) (x := ((x.ks[0]'hp : Nat) : Int)) (by rw [List.getElem?_map, List.getElem?_eq_getElem hp]; rfl)
    rw [hkv'] at hkv
    injection hkv with e1 e2 e3
    refine ⟨kb, 0, e1.symm, by omega, fun k j hj => ?_⟩
    obtain ⟨kb2, c2', hkv2, _, hc⟩ := hk.get (i := k) (x := (j : Int)) (by rw [List.getElem?_map, hj]; rfl)
    rw [hkv'] at hkv2
    injection hkv2 with e4 e5 e6
    injection e4 with e4
    injection e4 with e4
    subst e4
    rw [Nat.zero_add]
    exact hc

end

end Go.Proofs.Ytkpkhnaflohjpaa

/- lpo: a number more in a row of the document's table of parts. -/

namespace Go.Proofs.Ytkpkhnaflohjpaa

open Go.RowKit Go.Shelf
set_option maxRecDepth 100000

section

variable {w w1 : World} {base g cap n at_ j : Nat} {l : List Nd} {x : Nd} {kv' : Value}

/-- The row with a number more. -/
def Nd.kid (x : Nd) (kv : Value) (j : Nat) : Nd := ⟨x.u, x.A, x.c, kv, x.ks ++ [j]⟩

theorem RowN.kid (h : RowN w base (.slice (some ⟨g, 0, none⟩) n cap) l) (hi : l[at_]? = some x) (hj : I64 (j : Int))
    (hrow : w1.ownsRow base 3 1 kv' (x.ks.length + 1) ((x.ks.map fun (k : Nat) => (k : Int)).map (Value.int .i64) ++ [.int .i64 (j : Int)]))
    (hg : w.grownBy w1 x.kv.ownBlock) (hv : kv'.ownBlock = x.kv.ownBlock ∨ kv'.ownBlock = some w.heap.size) : RowN (w1.setCell ⟨g, at_ * 3 + 2, none⟩ kv') base (.slice (some ⟨g, 0, none⟩) n cap) (l.set at_ (x.kid kv' j)) := by
  have hil := (List.getElem?_eq_some_iff.1 hi).1
  have hmem := List.mem_of_getElem? hi
  have hown : base ≤ g ∧ g < w.heap.size := row_lt h.row g rfl
  have hkb : ∀ y ∈ l, ∀ b, y.kv.ownBlock = some b → base ≤ b ∧ b < w.heap.size := fun y hy b e => row_lt (h.ks y hy).row b e
  have hgx : x.kv.ownBlock ≠ some g := fun e => h.av x hmem g e rfl
  have hg1 : w1.heap[g]? = w.heap[g]? := hg.block g hown.2 fun e => hgx e.symm
  have hgk : kv'.ownBlock ≠ some g := by
    rcases hv with e | e
    · rw [e]; exact hgx
    · rw [e]; intro e2; injection e2 with e2; omega
  have hbl : Below base w (w1.setCell ⟨g, at_ * 3 + 2, none⟩ kv') := Below.setCell ⟨hg.os, hg.tape, hg.output, hg.size, fun k hk => hg.block k (by omega) fun e => by have := hkb x hmem k e.symm; omega⟩ hown.1 _
  have hcase : ∀ (i : Nat) (y : Nd), (l.set at_ (x.kid kv' j))[i]? = some y → (i = at_ ∧ y = x.kid kv' j) ∨ (i ≠ at_ ∧ l[i]? = some y) := fun i y hy => by
    rw [List.getElem?_set] at hy
    by_cases e : at_ = i
    · rw [if_pos e, if_pos (by omega)] at hy
      injection hy with hy
      exact .inl ⟨e.symm, hy.symm⟩
    · rw [if_neg e] at hy
      exact .inr ⟨fun e2 => e e2.symm, hy⟩
  have hkeep : ∀ (i : Nat) (y : Nd), i ≠ at_ → l[i]? = some y → ∀ b, y.kv.ownBlock = some b → (w1.setCell ⟨g, at_ * 3 + 2, none⟩ kv').heap[b]? = w.heap[b]? := fun i y hne hy b e => by
    have hym := List.mem_of_getElem? hy
    rw [heap_setCell_other _ _ _ _ fun e2 => h.av y hym b e (by rw [e2]; rfl)]
    exact hg.block b (hkb y hym b e).2 fun e2 => hne (h.ap i at_ y x b hy hi e e2.symm)
  refine ⟨⟨by rw [nd_len], ?_⟩, fun y hy => ?_, fun y hy => ?_, fun y hy => ?_, fun a b y z q hy hz e1 e2 => ?_, fun y hy q e => ?_⟩
  · rcases h.row.2 with ⟨e, _⟩ | ⟨g', cap', cur, e, hb, hgg, hc, hm, hs', ht⟩
    · cases e
    · injection e with e1 e2 e3
      injection e1 with e1
      injection e1 with e1
      subst e1; subst e2; subst e3
      refine .inr ⟨g, cap, cur.setIfInBounds (at_ * 3 + 2) kv', by rw [List.length_set], hb, heap_setCell_same _ _ _ _ _ _ (hg1.trans hgg), by rw [List.length_set]; exact hc, hm, by simp [hs'], ?_⟩
      apply List.ext_getElem?
      intro t
      rw [ndflat_set l at_ t _ hil, List.getElem?_take, List.length_set, Array.getElem?_toList, ← ht, List.getElem?_take]
      have hsz : l.length * 3 ≤ cur.size := by rw [hs']; exact Nat.mul_le_mul_right 3 hc
      by_cases hlt : t < l.length * 3
      · rw [if_pos hlt, if_pos hlt, Array.getElem?_setIfInBounds]
        by_cases e : t / 3 = at_
        · rw [if_pos e]
          have h3 : t % 3 < 3 := Nat.mod_lt _ (by omega)
          obtain e0 | e0 | e0 : t % 3 = 0 ∨ t % 3 = 1 ∨ t % 3 = 2 := by omega
          · rw [if_neg (by omega), e0]
            have q0 := nd_get l at_ 0 (by omega)
            rw [Nat.add_zero, hi, ← ht, List.getElem?_take, if_pos (by omega), Array.getElem?_toList] at q0
            rw [show t = at_ * 3 by omega, q0]; rfl
          · rw [if_neg (by omega), e0]
            have q0 := nd_get l at_ 1 (by omega)
            rw [hi, ← ht, List.getElem?_take, if_pos (by omega), Array.getElem?_toList] at q0
            rw [show t = at_ * 3 + 1 by omega, q0]; rfl
          · rw [if_pos (by omega), if_pos (by omega), e0]; rfl
        · rw [if_neg e, if_neg (by omega), Array.getElem?_toList]
      · rw [if_neg hlt, if_neg hlt, if_neg (by omega)]
  · obtain ⟨i, hy⟩ := List.mem_iff_getElem?.1 hy
    rcases hcase i y hy with ⟨_, rfl⟩ | ⟨_, hy⟩
    · exact h.i64 x hmem
    · exact h.i64 y (List.mem_of_getElem? hy)
  · obtain ⟨i, hy⟩ := List.mem_iff_getElem?.1 hy
    rcases hcase i y hy with ⟨_, rfl⟩ | ⟨_, hy⟩
    · exact (h.sub x hmem).blw hbl
    · exact (h.sub y (List.mem_of_getElem? hy)).blw hbl
  · obtain ⟨i, hy⟩ := List.mem_iff_getElem?.1 hy
    rcases hcase i y hy with ⟨_, rfl⟩ | ⟨hne, hy⟩
    · refine ⟨?_, fun k hk => ?_⟩
      · show World.ownsRow _ base 3 1 kv' ((x.ks ++ [j]).map fun (k : Nat) => (k : Int)).length (((x.ks ++ [j]).map fun (k : Nat) => (k : Int)).map (Value.int .i64))
        have hlen : ((x.ks ++ [j]).map fun (k : Nat) => (k : Int)).length = x.ks.length + 1 := by simp
        have hmp : ((x.ks ++ [j]).map fun (k : Nat) => (k : Int)).map (Value.int .i64) = (x.ks.map fun (k : Nat) => (k : Int)).map (Value.int .i64) ++ [.int .i64 (j : Int)] := by simp
        rw [hlen, hmp]
        exact row_keep hrow fun b e => heap_setCell_other _ _ _ _ fun e2 => hgk (by rw [e, e2])
      · have hk' : k ∈ (x.ks ++ [j]).map fun (k : Nat) => (k : Int) := hk
        rw [List.map_append, List.mem_append] at hk'
        rcases hk' with hk' | hk'
        · exact (h.ks x hmem).i64 k hk'
        · simp only [List.map_cons, List.map_nil, List.mem_singleton] at hk'
          subst hk'; exact hj
    · exact ⟨row_keep (h.ks y (List.mem_of_getElem? hy)).row (hkeep i y hne hy), (h.ks y (List.mem_of_getElem? hy)).i64⟩
  · have hnew : ∀ (i : Nat) (y : Nd), i ≠ at_ → l[i]? = some y → y.kv.ownBlock = some q → kv'.ownBlock = some q → False := fun i y hne hy e e' => by
      rcases hv with e3 | e3
      · exact hne (h.ap i at_ y x q hy hi e (by rw [← e3]; exact e'))
      · rw [e3] at e'
        injection e' with e'
        have := (hkb y (List.mem_of_getElem? hy) q e).2
        omega
    rcases hcase a y hy with ⟨ha, ha2⟩ | ⟨hna, hy2⟩
    · rcases hcase b z hz with ⟨hb, hb2⟩ | ⟨hnb, hz2⟩
      · exact ha.trans hb.symm
      · rw [ha2] at e1
        exact (hnew b z hnb hz2 e2 e1).elim
    · rcases hcase b z hz with ⟨hb, hb2⟩ | ⟨hnb, hz2⟩
      · rw [hb2] at e2
        exact (hnew a y hna hy2 e1 e2).elim
      · exact h.ap a b y z q hy2 hz2 e1 e2
  · obtain ⟨i, hy⟩ := List.mem_iff_getElem?.1 hy
    rcases hcase i y hy with ⟨_, rfl⟩ | ⟨hne, hy⟩
    · intro e2
      have e' : kv'.ownBlock = some q := e
      have : some g = some q := e2
      exact hgk (by rw [e', this])
    · exact h.av y (List.mem_of_getElem? hy) q e

end

end Go.Proofs.Ytkpkhnaflohjpaa

/- Put, in plain words and in memory. -/

namespace Go.Proofs.Ytkpkhnaflohjpaa

open Go.RowKit
set_option maxRecDepth 100000

/-- The term with s at a place. -/
def putT : Tm → List Int → Tm → Tm
  | _, [], s => s
  | t, i :: p, s => match t.args[i.toNat]? with
    | none => t
    | some u => .node t.fn (t.args.set i.toNat (putT u p s))

theorem sub_get {t s : Tm} {i : Int} {p : List Int} (h : subT t (i :: p) = some s) : 0 ≤ i ∧ ∃ u, t.args[i.toNat]? = some u ∧ subT u p = some s := by
  simp only [subT] at h
  split at h
  · rename_i h1
    cases hu : t.args[i.toNat]? with
    | none => rw [hu] at h; cases h
    | some u => rw [hu] at h; exact ⟨h1.1, u, rfl, h⟩
  · cases h

theorem put_self : ∀ {p : List Int} {t u : Tm}, subT t p = some u → putT t p u = t
  | [], t, u, h => by simp only [subT] at h; injection h with h; rw [h]; rfl
  | i :: p, t, s, h => by
    obtain ⟨_, u, hu, h1⟩ := sub_get h
    have := put_self h1
    obtain ⟨hlt, he⟩ := List.getElem?_eq_some_iff.1 hu
    simp only [putT, hu, this]
    rw [← he, List.set_getElem_self]
    exact Tm.eta t

/-- The place that is found, as one follows the rows. -/
def PathA (w : World) : List Int → Nat → Nat → Tm → Nat → Nat → Prop
  | [], b, o, _, b', o' => b' = b ∧ o' = o
  | i :: p, b, o, t, b', o' => ∃ gb go c u, 0 ≤ i ∧ w.cell? ⟨b, o + 1, none⟩ = some (.slice (some ⟨gb, go, none⟩) t.args.length c) ∧ t.args[i.toNat]? = some u ∧ PathA w p gb (go + i.toNat * 2) u b' o'

def FindP (t : Tm) (p : List Int) (w : World) (B b0 o0 : Nat) (e : Ending) (w' : World) : Prop := w' = w ∧
  match subT t p with
  | none => e = .returned (.pointer none)
  | some s => ∃ b off, e = .returned (.pointer (some ⟨b, off, none⟩)) ∧ PtrT w B b off s ∧ PathA w p b0 o0 t b off

/-- Where a place lies in a term's own rows: at its box, or in one of the rows; and no cell of it is frozen. -/
theorem path_in {w : World} : ∀ {p : List Int} {b o b' o' : Nat} {t : Tm} {A : Option Addr} {c lo hi : Nat}, PathA w p b o t b' o' → w.cell? ⟨b, o + 1, none⟩ = some (.slice A t.args.length c) → OwnT w lo hi A t.args →
    (p = [] ∧ b' = b ∧ o' = o) ∨ (lo ≤ b' ∧ b' < hi ∧ w.frozen? ⟨b', o', none⟩ = false ∧ w.frozen? ⟨b', o' + 1, none⟩ = false)
  | [], _, _, _, _, _, _, _, _, _, h, _, _ => .inl ⟨rfl, h.1, h.2⟩
  | i :: p, b, o, b', o', .node f xs, A, c, lo, hi, h, hc, hO => by
    obtain ⟨gb, go, c', u, h0, h1, h2, h3⟩ := h
    simp only [Tm.args] at hc h1 h2 hO
    rw [hc] at h1
    injection h1 with h1
    injection h1 with hA _ _
    have hlt := (List.getElem?_eq_some_iff.1 h2).1
    cases hO with
    | nil => simp at hlt
    | row _ _ rb cap _ vs A' c2 m hlo hpos hlen hrow hm0 hmn hm hi64 e0 e1 hs =>
      injection hA with hA
      injection hA with r1 r2 _
      subst r1; subst r2
      have hml := mono_to hm (show i.toNat + 1 ≤ xs.length by omega) (Nat.le_refl _)
      have hm1 := mono_to hm (Nat.zero_le i.toNat) (by omega)
      have hvs : vs.length = xs.length * 2 := hrow.1
      have hmi := hm i.toNat hlt
      have hcell : w.cell? ⟨rb, 0 + i.toNat * 2 + 1, none⟩ = some (.slice (A' i.toNat) u.args.length (c2 i.toNat)) := by
        rw [Nat.zero_add, hrow.cellAt (i.toNat * 2 + 1) (by omega)]
        exact e1 _ _ h2
      rcases path_in h3 hcell (hs _ _ h2) with ⟨_, rfl, rfl⟩ | ⟨k1, k2, k3⟩
      · exact .inr ⟨hlo, by omega, hrow.frozenAt (0 + i.toNat * 2), hrow.frozenAt (0 + i.toNat * 2 + 1)⟩
      · exact .inr ⟨by omega, by omega, k3⟩

/-- Two cells of a block hold a term's; all else is as it was. -/
structure Wrote (w w2 : World) (b' o' : Nat) (s : Tm) (As : Option Addr) (cs : Nat) : Prop where
  blk : ∀ g, g ≠ b' → w2.heap[g]? = w.heap[g]?
  cell : ∀ o2, o2 ≠ o' → o2 ≠ o' + 1 → w2.cell? ⟨b', o2, none⟩ = w.cell? ⟨b', o2, none⟩
  c0 : w2.cell? ⟨b', o', none⟩ = some (.int .i64 s.fn)
  c1 : w2.cell? ⟨b', o' + 1, none⟩ = some (.slice As s.args.length cs)

theorem wrote_two {w : World} {b o : Nat} {x y : Value} (s : Tm) (As : Option Addr) (cs : Nat) (h0 : w.cell? ⟨b, o, none⟩ = some x) (h1 : w.cell? ⟨b, o + 1, none⟩ = some y) :
    Wrote w ((w.setCell ⟨b, o, none⟩ (.int .i64 s.fn)).setCell ⟨b, o + 1, none⟩ (.slice As s.args.length cs)) b o s As cs := by
  have ne : ∀ {i j : Nat}, i ≠ j → (⟨b, i, none⟩ : Addr) ≠ ⟨b, j, none⟩ := fun h e => h (by injection e)
  refine ⟨fun g hg => (heap_setCell_other _ _ _ _ hg).trans (heap_setCell_other _ _ _ _ hg), fun o2 h2 h3 => ?_, ?_, ?_⟩
  · rw [World.cell?_setCell_other _ _ _ _ (ne (Ne.symm h3)), World.cell?_setCell_other _ _ _ _ (ne (Ne.symm h2))]
  · rw [World.cell?_setCell_other _ _ _ _ (ne (by omega)), World.cell?_setCell_same _ _ _ h0]
  · exact World.cell?_setCell_same _ _ _ (u := y) (by rw [World.cell?_setCell_other _ _ _ _ (ne (by omega))]; exact h1)

/-- A term's own rows, and s laid at a place in them: the term with s there. -/
theorem put_args {w w2 : World} {s : Tm} {As : Option Addr} {cs lo2 hi2 : Nat} {N : Nat → Prop} (hs64 : I64 s.fn) (hsO : OwnT w lo2 hi2 As s.args) (hN2 : ∀ g, lo2 ≤ g → g < hi2 → N g) : ∀ {p : List Int} {b o b' o' : Nat} {t v : Tm} {A : Option Addr} {c lo hi : Nat}, PathA w p b o t b' o' → subT t p = some v → I64 t.fn →
    w.cell? ⟨b, o, none⟩ = some (.int .i64 t.fn) → w.cell? ⟨b, o + 1, none⟩ = some (.slice A t.args.length c) → OwnT w lo hi A t.args → b < lo → b < lo2 → hi ≤ lo2 → (∀ g, lo ≤ g → g < hi → N g) → Wrote w w2 b' o' s As cs →
    ∃ A2 c2, I64 (putT t p s).fn ∧ w2.cell? ⟨b, o, none⟩ = some (.int .i64 (putT t p s).fn) ∧ w2.cell? ⟨b, o + 1, none⟩ = some (.slice A2 (putT t p s).args.length c2) ∧ ArgsN w2 N A2 (putT t p s).args
  | [], b, o, b', o', t, v, A, c, lo, hi, h, _, _, _, _, _, hbl, hb2, _, _, hW => by
    obtain ⟨rfl, rfl⟩ := h
    exact ⟨As, cs, hs64, hW.c0, hW.c1, (hsO.keep fun g h1 h2 => hW.blk g (by omega)).argsN.wide fun g h => hN2 g h.1 h.2⟩
  | i :: p, b, o, b', o', .node f xs, v, A, c, lo, hi, h, hv, hf, hc0, hc, hO, hbl, hb2, hh2, hhB, hW => by
    obtain ⟨gb, go, c', u, h0, h1, h2, h3⟩ := h
    obtain ⟨_, u', hu', hv'⟩ := sub_get hv
    simp only [Tm.args, Tm.fn] at hc0 hc h1 h2 hO hu' hf
    rw [h2] at hu'
    cases hu'
    rw [hc] at h1
    injection h1 with h1
    injection h1 with hA _ _
    have hlt := (List.getElem?_eq_some_iff.1 h2).1
    cases hO with
    | nil => simp at hlt
    | row _ _ rb cap _ vs A' c2 m hlo hpos hlen hrow hm0 hmn hm hi64 e0 e1 hs =>
      injection hA with hA
      injection hA with r1 r2 _
      subst r1; subst r2
      have hml := mono_to hm (show i.toNat + 1 ≤ xs.length by omega) (Nat.le_refl _)
      have hm1 := mono_to hm (Nat.zero_le i.toNat) (by omega)
      have hvs : vs.length = xs.length * 2 := hrow.1
      have hmi := hm i.toNat hlt
      have hce : ∀ k, k < xs.length * 2 → w.cell? ⟨rb, 0 + k, none⟩ = vs[k]? := fun k hk => by rw [Nat.zero_add]; exact hrow.cellAt k (by omega)
      have hcell : w.cell? ⟨rb, 0 + i.toNat * 2 + 1, none⟩ = some (.slice (A' i.toNat) u.args.length (c2 i.toNat)) := (hce (i.toNat * 2 + 1) (by omega)).trans (e1 _ _ h2)
      have hcell0 : w.cell? ⟨rb, 0 + i.toNat * 2, none⟩ = some (.int .i64 u.fn) := (hce (i.toNat * 2) (by omega)).trans (e0 _ _ h2)
      obtain ⟨A3, c3, q1, q2, q3, q4⟩ := put_args hs64 hsO hN2 h3 hv' (hi64 _ _ h2) hcell0 hcell (hs _ _ h2) (by omega) (by omega) (by omega) (fun g k1 k2 => hhB g (by omega) (by omega)) hW
      have hwhere : (b' = rb ∧ o' = 0 + i.toNat * 2) ∨ (m i.toNat ≤ b' ∧ b' < m (i.toNat + 1)) := by
        rcases path_in h3 hcell (hs _ _ h2) with ⟨_, rfl, rfl⟩ | ⟨k1, k2, _⟩
        · exact .inl ⟨rfl, rfl⟩
        · exact .inr ⟨k1, k2⟩
      have hbb : b ≠ b' := by omega
      have hcb : ∀ o2, w2.cell? ⟨b, o2, none⟩ = w.cell? ⟨b, o2, none⟩ := fun o2 => cell_of_heap (hW.blk b hbb)
      have hother : ∀ k, k ≠ i.toNat * 2 → k ≠ i.toNat * 2 + 1 → w2.cell? ⟨rb, 0 + k, none⟩ = w.cell? ⟨rb, 0 + k, none⟩ := fun k k1 k2 => by
        rcases hwhere with ⟨rfl, rfl⟩ | ⟨k3, k4⟩
        · exact hW.cell _ (by omega) (by omega)
        · exact cell_of_heap (hW.blk rb (by omega))
      have hput : putT (.node f xs) (i :: p) s = .node f (xs.set i.toNat (putT u p s)) := by simp only [putT, Tm.args, h2, Tm.fn]
      rw [hput]
      simp only [Tm.fn, Tm.args, List.length_set]
      refine ⟨some ⟨rb, 0, none⟩, c, hf, (hcb o).trans hc0, (hcb (o + 1)).trans hc, ?_⟩
      have hget : ∀ (j : Nat) (z : Tm), (xs.set i.toNat (putT u p s))[j]? = some z → (j = i.toNat ∧ z = putT u p s) ∨ (j ≠ i.toNat ∧ xs[j]? = some z) := by
        intro j z hz
        by_cases e : j = i.toNat
        · subst e
          rw [List.getElem?_set_self hlt] at hz
          injection hz with hz
          exact .inl ⟨rfl, hz.symm⟩
        · rw [List.getElem?_set_ne (Ne.symm e)] at hz
          exact .inr ⟨e, hz⟩
      have hj : ∀ {j : Nat} {z : Tm}, xs[j]? = some z → j < xs.length := fun e => (List.getElem?_eq_some_iff.1 e).1
      refine .row rb 0 _ (fun j => if j = i.toNat then A3 else A' j) (fun j => if j = i.toNat then c3 else c2 j) (hhB rb hlo (by omega)) (by rw [List.length_set]; exact hlen) (fun j z hz => ?_) (fun j z hz => ?_) (fun j z hz => ?_) (fun j z hz => ?_)
      · rcases hget j z hz with ⟨rfl, rfl⟩ | ⟨e, hz'⟩
        · exact q1
        · exact hi64 j z hz'
      · rcases hget j z hz with ⟨rfl, rfl⟩ | ⟨e, hz'⟩
        · exact q2
        · exact (hother (j * 2) (by omega) (by omega)).trans ((hce (j * 2) (by have := hj hz'; omega)).trans (e0 j z hz'))
      · rcases hget j z hz with ⟨rfl, rfl⟩ | ⟨e, hz'⟩
        · simp only [if_true]; exact q3
        · simp only [if_neg e]
          exact (hother (j * 2 + 1) (by omega) (by omega)).trans ((hce (j * 2 + 1) (by have := hj hz'; omega)).trans (e1 j z hz'))
      · rcases hget j z hz with ⟨rfl, rfl⟩ | ⟨e, hz'⟩
        · simp only [if_true]; exact q4
        · simp only [if_neg e]
          have hjl := hj hz'
          have g1 := mono_to hm (Nat.zero_le j) (by omega)
          have g2 := mono_to hm (show j + 1 ≤ xs.length by omega) (Nat.le_refl _)
          refine ((hs j z hz').keep fun g k1 k2 => hW.blk g ?_).argsN.wide fun g h => hhB g (by omega) (by omega)
          rcases hwhere with ⟨rfl, _⟩ | ⟨k3, k4⟩
          · omega
          · rcases Nat.lt_or_gt_of_ne e with h5 | h5
            · have := mono_to hm (show j + 1 ≤ i.toNat by omega) (by omega)
              omega
            · have := mono_to hm (show i.toNat + 1 ≤ j by omega) (by omega)
              omega

theorem path_keep {w w' : World} (hk : ∀ b o v, w.cell? ⟨b, o, none⟩ = some v → w'.cell? ⟨b, o, none⟩ = some v) : ∀ {p : List Int} {b o b' o' : Nat} {t : Tm}, PathA w p b o t b' o' → PathA w' p b o t b' o'
  | [], _, _, _, _, _, h => h
  | _ :: _, _, _, _, _, _, h => by
    obtain ⟨gb, go, c, u, h0, h1, h2, h3⟩ := h
    exact ⟨gb, go, c, u, h0, hk _ _ _ h1, h2, path_keep hk h3⟩

theorem frozen_of_heap {w w' : World} {b o : Nat} (h : w'.heap[b]? = w.heap[b]?) : w'.frozen? ⟨b, o, none⟩ = w.frozen? ⟨b, o, none⟩ := by simp [World.frozen?, h]

theorem cell_grow {w w' : World} (h : Below w.heap.size w w') : ∀ b o v, w.cell? ⟨b, o, none⟩ = some v → w'.cell? ⟨b, o, none⟩ = some v := fun _ _ _ e => cell_on h (World.block_lt_of_cell? w _ e) e

end Go.Proofs.Ytkpkhnaflohjpaa

/- The document's own answer: Copy. -/

namespace Go.Proofs.Ytkpkhnaflohjpaa

open Go.RowKit Go.Shelf
set_option maxRecDepth 100000

/-- What lies apart since a world, but for the row of v itself. -/
def Apart (lo : Nat) (v : Value) (w : World) (g : Nat) : Prop := lo ≤ g ∧ g < w.heap.size ∧ v.ownBlock ≠ some g

/-- A copy of t, in new memory: the row of its arguments is the call's own. -/
def RCopyPost (t : Tm) (w : World) (e : Ending) (w' : World) : Prop := ∃ v l, e = .returned (.agg #[.int .i64 t.fn, v]) ∧ l.map Ti.t = t.args ∧ RowT w' w.heap.size v l (Apart w.heap.size v w') ∧ Below w.heap.size w w'

/-- What the loop has laid: the box, its row. -/
structure RCopyI (w wr : World) (f : Int) (xs : List Tm) (k : Nat) (v : Value) (l : List Ti) : Prop where
  box : wr.heap[w.heap.size + 2]? = some (.cells #[.int .i64 f, v] 27)
  key : l.map Ti.t = xs.take k
  row : RowT wr (w.heap.size + 3) v l (Apart (w.heap.size + 3) v wr)

theorem RCopyI.len {w wr : World} {f : Int} {xs : List Tm} {k : Nat} {v : Value} {l : List Ti} (h : RCopyI w wr f xs k v l) (hk : k ≤ xs.length) : l.length = k := by
  have := congrArg List.length h.key
  simpa [Nat.min_eq_left hk] using this

theorem row_own {W : World} {base n : Nat} {e : TypeId} {size : Nat} {v : Value} {vs : List Value} (h : W.ownsRow base e size v n vs) : ∃ A c, v = .slice A n c := by
  rcases h.2 with ⟨hv, h0⟩ | ⟨g, cap, cur, hv, _⟩
  · exact ⟨none, 0, by rw [hv, h0]⟩
  · exact ⟨_, cap, hv⟩

theorem RowT.base {w : World} {base base' : Nat} {v : Value} {l : List Ti} {N : Nat → Prop} (h : RowT w base v l N) (hb : base' ≤ base) : RowT w base' v l N := by
  refine ⟨⟨h.row.1, ?_⟩, h.i64, h.sub⟩
  rcases h.row.2 with h0 | ⟨g, cap, cur, hv, h1, hrest⟩
  · exact .inl h0
  · exact .inr ⟨g, cap, cur, hv, Nat.le_trans hb h1, hrest⟩

/-- One more: the copy of the next argument, its box, the row that has grown, the store. -/
theorem RCopyI.next {w wr w4 w5 : World} {f : Int} {xs : List Tm} {k : Nat} {v v4 v5 : Value} {l l4 : List Ti} {u : Tm} {A4 : Option Addr} {c4 : Nat} {o : Obj} (h : RCopyI w wr f xs k v l) (hu : xs[k]? = some u) (hi : I64 u.fn) (hl4 : l4.map Ti.t = u.args) (h64 : u.args.length ≤ 9223372036854775807) (hv4 : v4 = .slice A4 u.args.length c4)
    (hR4 : RowT w4 wr.heap.size v4 l4 (Apart wr.heap.size v4 w4)) (hb4 : Below wr.heap.size wr w4) (hown : w5.ownsRow (w.heap.size + 3) 27 2 v5 (k + 1) (l.flatMap Ti.cells ++ (⟨u, A4, c4⟩ : Ti).cells))
    (hgr : (w4.alloc o).grownBy w5 v.ownBlock) (hat : v5.ownBlock = v.ownBlock ∨ v5.ownBlock = some (w4.alloc o).heap.size) :
    RCopyI w (w5.setCell ⟨w.heap.size + 2, 1, none⟩ v5) f xs (k + 1) v5 (l ++ [⟨u, A4, c4⟩]) := by
  have hkl := (List.getElem?_eq_some_iff.1 hu).1
  have hlen := h.len (by omega)
  have hlt := row_lt h.row.row
  have hs4 := hb4.size
  have hs5 := hgr.size
  have hbs : w.heap.size + 2 < wr.heap.size := (Array.getElem?_eq_some_iff.1 h.box).1
  have hK : ∀ g, g < wr.heap.size → v.ownBlock ≠ some g → w5.heap[g]? = wr.heap[g]? := fun g h1 h2 => (hgr.block g (by simp; omega) (fun e => h2 e.symm)).trans ((Below.heap_alloc w4 o g (by omega)).trans (hb4.block g h1))
  have hK4 : ∀ g, g < w4.heap.size → v.ownBlock ≠ some g → w5.heap[g]? = w4.heap[g]? := fun g h1 h2 => (hgr.block g (by simp; omega) (fun e => h2 e.symm)).trans (Below.heap_alloc w4 o g h1)
  have hb2 : v.ownBlock ≠ some (w.heap.size + 2) := fun e => by have := (hlt _ e).1; omega
  have hbox5 := (hK _ hbs hb2).trans h.box
  obtain ⟨_, z1⟩ := set2_two (u := .int .i64 f) (v := v5) hbox5
  have hset : ∀ g, g ≠ w.heap.size + 2 → (w5.setCell ⟨w.heap.size + 2, 1, none⟩ v5).heap[g]? = w5.heap[g]? := fun g e => heap_setCell_other _ _ _ _ e
  have hlt5 := row_lt hown
  have hv5 : ∀ g, g < wr.heap.size → v.ownBlock ≠ some g → v5.ownBlock ≠ some g := fun g h1 h2 e => by
    rcases hat with h3 | h3
    · rw [h3] at e; exact h2 e
    · rw [h3] at e; injection e with e; simp at e; omega
  have hv54 : ∀ g, wr.heap.size ≤ g → g < w4.heap.size → v5.ownBlock ≠ some g := fun g h1 h2 e => by
    rcases hat with h3 | h3
    · rw [h3] at e; have := (hlt _ e).2; omega
    · rw [h3] at e; injection e with e; simp at e; omega
  have hsz5 : w4.heap.size + 1 ≤ w5.heap.size := by simpa using hs5
  refine ⟨?_, ?_, ?_⟩
  · exact heap_setCell_same w5 _ 1 _ _ _ hbox5
  · rw [List.map_append, h.key, List.take_add_one, hu]; rfl
  · refine RowT.push (w := wr) (N := Apart (w.heap.size + 3) v wr) h.row ?_ hi ?_ (fun g hg => ?_) (fun g hg => ⟨hg.1, by have := hg.2.1; simp; omega, hv5 g hg.2.1 hg.2.2⟩)
    · rw [hlen]
      exact row_keep hown fun g e => hset g (by have := (hlt5 g e).1; omega)
    · have hl4l : l4.length ≤ 9223372036854775807 := by have := congrArg List.length hl4; simp at this; omega
      obtain ⟨A', c', e, hA⟩ := hR4.argsN (M := fun g => wr.heap.size ≤ g ∧ g < w4.heap.size) hl4l (fun g e => row_lt hR4.row g e) (fun g hg => ⟨hg.1, hg.2.1⟩)
      rw [hv4] at e
      injection e with e1 _ _
      subst e1
      rw [hl4] at hA
      refine (hA.keep fun g hg => ?_).wide fun g hg => ⟨by omega, by simp; omega, hv54 g hg.1 hg.2⟩
      exact (hset g (by omega)).trans (hK4 g hg.2 fun e => by have := (hlt _ e).2; omega)
    · exact (hset g (by have := hg.1; omega)).trans (hK g hg.2.1 hg.2.2)

end Go.Proofs.Ytkpkhnaflohjpaa

