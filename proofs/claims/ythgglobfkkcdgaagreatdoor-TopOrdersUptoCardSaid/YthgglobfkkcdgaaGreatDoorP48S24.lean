import Derived.Test.YthgglobfkkcdgaaGreatDoorP48S22
import Derived.Test.YthgglobfkkcdgaaGreatDoorP48S23
import Derived.Test.YthgglobfkkcdgaaGreatDoorP48S1
import Derived.Test.YthgglobfkkcdgaaGreatDoorP48S5
import Derived.Deep.RegionHeld3
import Derived.RangeFuncNested
import Derived.RangeFuncBox
import Derived.RangeFuncLeaves
import Derived.Shelf.Abstract
import Derived.OwnWalkIn
import Derived.TacticsInMore
import Derived.LoopNIn
import Derived.LoopIn
import Derived.Maps.OwnIn
import Derived.DeepKeys5
import Derived.Test.YthgglobfkkcdgaaGreatDoorP48S3
import Derived.Sort.CutIn
namespace Go.Proofs.YthgglobfkkcdgaaGreatDoor
open Go Go.RowKit
set_option maxRecDepth 100000
def wghB (l : List Sm) (o : Odr) : Bool := decide (o.wts.length = l.length ∧ 1 ≤ o.var ∧ o.var ≤ 1000 ∧ o.wts.getD 0 0 = o.var ∧ chkW l o = true)
end Go.Proofs.YthgglobfkkcdgaaGreatDoor
namespace Go.Proofs.YthgglobfkkcdgaaGreatDoor
open Go.RowKit
set_option maxRecDepth 100000
mutual
def hdsT : Tm → List Int
  | .node f xs => f :: hdsL xs
def hdsL : List Tm → List Int
  | [] => []
  | t :: ts => hdsT t ++ hdsL ts
end
mutual
theorem vis_hds : ∀ (p : List Int) (t : Tm), (vis p t).map (fun x => x.2.fn) = hdsT t
  | p, .node f xs => by rw [vis, hdsT, List.map_cons, visL_hds p 0 xs]; rfl
theorem visL_hds : ∀ (p : List Int) (i : Nat) (xs : List Tm), (visL p i xs).map (fun x => x.2.fn) = hdsL xs
  | _, _, [] => by simp only [visL, hdsL, List.map_nil]
  | p, i, t :: ts => by rw [visL, hdsL, List.map_append, vis_hds _ t, visL_hds _ _ ts]
end
theorem hdsL_append : ∀ (xs ys : List Tm), hdsL (xs ++ ys) = hdsL xs ++ hdsL ys
  | [], _ => by simp [hdsL]
  | x :: xs, ys => by rw [List.cons_append, hdsL, hdsL, hdsL_append xs ys, List.append_assoc]
mutual
theorem hdsT_len : ∀ t : Tm, (hdsT t).length = t.size
  | .node f xs => by rw [hdsT, List.length_cons, hdsL_len xs, Tm.size]
theorem hdsL_len : ∀ xs : List Tm, (hdsL xs).length = sizes xs
  | [] => by simp only [hdsL, sizes, List.length_nil]
  | t :: ts => by rw [hdsL, List.length_append, hdsT_len t, hdsL_len ts, sizes]
end
def addC (n : List Int) (f : Int) : List Int := if f < 0 then n else n.set f.toNat (n.getD f.toNat 0 + 1)
def cntC (n : List Int) (hs : List Int) : List Int := hs.foldl addC n
theorem addC_len (n : List Int) (f : Int) : (addC n f).length = n.length := by unfold addC; split <;> simp
theorem cntC_len : ∀ (hs n : List Int), (cntC n hs).length = n.length
  | [], _ => rfl
  | f :: hs, n => by rw [show cntC n (f :: hs) = cntC (addC n f) hs from rfl, cntC_len hs, addC_len]
theorem cntC_append (n hs ks : List Int) : cntC n (hs ++ ks) = cntC (cntC n hs) ks := List.foldl_append
theorem cntC_snoc (n hs : List Int) (f : Int) : cntC n (hs ++ [f]) = addC (cntC n hs) f := by rw [cntC_append]; rfl
theorem addC_le {n : List Int} {B : Int} (h : ∀ x ∈ n, 0 ≤ x ∧ x ≤ B) (hB : 0 ≤ B) (f : Int) : ∀ x ∈ addC n f, 0 ≤ x ∧ x ≤ B + 1 := by
  intro x hx
  unfold addC at hx
  split at hx
  · have := h x hx; omega
  · rcases List.mem_or_eq_of_mem_set hx with hx | rfl
    · have := h x hx; omega
    · rw [List.getD_eq_getElem?_getD]
      cases hg : n[f.toNat]? with
      | none => simp only [Option.getD_none]; omega
      | some y => have := h y (List.mem_of_getElem? hg); simp only [Option.getD_some]; omega
theorem cntC_le : ∀ (hs : List Int) {n : List Int} {B : Int}, (∀ x ∈ n, 0 ≤ x ∧ x ≤ B) → 0 ≤ B → ∀ x ∈ cntC n hs, 0 ≤ x ∧ x ≤ B + hs.length
  | [], n, B, h, hB => by intro x hx; have := h x hx; simpa using this
  | f :: hs, n, B, h, hB => by
    intro x hx
    have := cntC_le hs (addC_le h hB f) (by omega) x hx
    simp only [List.length_cons, Int.natCast_add] at *
    omega
end Go.Proofs.YthgglobfkkcdgaaGreatDoor
namespace Go.Proofs.YthgglobfkkcdgaaGreatDoor
open Go Go.RowKit Go.Shelf
set_option maxRecDepth 100000
structure Lp where
  neg : Bool
  l : Tm
  r : Tm
structure LpAt (w : World) (N : Nat → Prop) (b o : Nat) (x : Lp) (A1 : Option Addr) (c1 : Nat) (A2 : Option Addr) (c2 : Nat) : Prop where
  v0 : w.cell? ⟨b, o, none⟩ = some (.bool x.neg)
  v1 : w.cell? ⟨b, o + 1, none⟩ = some (.int .i64 x.l.fn)
  v2 : w.cell? ⟨b, o + 2, none⟩ = some (.slice A1 x.l.args.length c1)
  v3 : w.cell? ⟨b, o + 3, none⟩ = some (.int .i64 x.r.fn)
  v4 : w.cell? ⟨b, o + 4, none⟩ = some (.slice A2 x.r.args.length c2)
  il : I64 x.l.fn
  ir : I64 x.r.fn
  sl : ArgsN w N A1 x.l.args
  sr : ArgsN w N A2 x.r.args
structure LpRow (w : World) (N : Nat → Prop) (A : Option Addr) (l : List Lp) : Prop where
  len : l.length ≤ 9223372036854775807
  ad : 0 < l.length → ∃ b off, A = some ⟨b, off, none⟩ ∧ N b ∧ ∀ (i : Nat) (x : Lp), l[i]? = some x → ∃ A1 c1 A2 c2, LpAt w N b (off + i * 5) x A1 c1 A2 c2
structure ClRow (w : World) (N : Nat → Prop) (A : Option Addr) (cs : List (List Lp)) : Prop where
  len : cs.length ≤ 9223372036854775807
  ad : 0 < cs.length → ∃ b off, A = some ⟨b, off, none⟩ ∧ N b ∧ ∀ (i : Nat) (l : List Lp), cs[i]? = some l → ∃ A1 c1, w.cell? ⟨b, off + i, none⟩ = some (.slice A1 l.length c1) ∧ LpRow w N A1 l
section
variable {w w' : World} {N M : Nat → Prop} {A : Option Addr}
theorem LpAt.to {b o : Nat} {x : Lp} {A1 A2 : Option Addr} {c1 c2 : Nat} (h : LpAt w N b o x A1 c1 A2 c2) (hb : N b) (hk : ∀ g, N g → w'.heap[g]? = w.heap[g]?) (hm : ∀ g, N g → M g) : LpAt w' M b o x A1 c1 A2 c2 :=
  have k := fun o v (h : w.cell? ⟨b, o, none⟩ = some v) => (cell_of_heap (hk b hb)).trans h
  ⟨k _ _ h.v0, k _ _ h.v1, k _ _ h.v2, k _ _ h.v3, k _ _ h.v4, h.il, h.ir, (h.sl.keep hk).wide hm, (h.sr.keep hk).wide hm⟩
theorem LpRow.to {l : List Lp} (h : LpRow w N A l) (hk : ∀ g, N g → w'.heap[g]? = w.heap[g]?) (hm : ∀ g, N g → M g) : LpRow w' M A l :=
  ⟨h.len, fun hp => by
    obtain ⟨b, off, hA, hb, hc⟩ := h.ad hp
    refine ⟨b, off, hA, hm b hb, fun i x e => ?_⟩
    obtain ⟨A1, c1, A2, c2, h1⟩ := hc i x e
    exact ⟨A1, c1, A2, c2, h1.to hb hk hm⟩⟩
theorem ClRow.to {cs : List (List Lp)} (h : ClRow w N A cs) (hk : ∀ g, N g → w'.heap[g]? = w.heap[g]?) (hm : ∀ g, N g → M g) : ClRow w' M A cs :=
  ⟨h.len, fun hp => by
    obtain ⟨b, off, hA, hb, hc⟩ := h.ad hp
    refine ⟨b, off, hA, hm b hb, fun i l e => ?_⟩
    obtain ⟨A1, c1, h1, h2⟩ := hc i l e
    exact ⟨A1, c1, (cell_of_heap (hk b hb)).trans h1, h2.to hk hm⟩⟩
theorem ClRow.on {cs : List (List Lp)} (h : ClRow w (· < w.heap.size) A cs) (hb : Below w.heap.size w w') : ClRow w' (· < w'.heap.size) A cs := h.to (fun g e => hb.block g e) fun _ e => Nat.lt_of_lt_of_le e hb.size
theorem LpRow.get {l : List Lp} (h : LpRow w N A l) {i : Nat} {x : Lp} (e : l[i]? = some x) : ∃ b off A1 c1 A2 c2, A = some ⟨b, off, none⟩ ∧ N b ∧ LpAt w N b (off + i * 5) x A1 c1 A2 c2 := by
  have hlt := (List.getElem?_eq_some_iff.1 e).1
  obtain ⟨b, off, hA, hb, hc⟩ := h.ad (by omega)
  obtain ⟨A1, c1, A2, c2, h⟩ := hc i x e
  exact ⟨b, off, A1, c1, A2, c2, hA, hb, h⟩
theorem ClRow.get {cs : List (List Lp)} (h : ClRow w N A cs) {i : Nat} {l : List Lp} (e : cs[i]? = some l) : ∃ b off A1 c1, A = some ⟨b, off, none⟩ ∧ N b ∧ w.cell? ⟨b, off + i, none⟩ = some (.slice A1 l.length c1) ∧ LpRow w N A1 l := by
  have hlt := (List.getElem?_eq_some_iff.1 e).1
  obtain ⟨b, off, hA, hb, hc⟩ := h.ad (by omega)
  obtain ⟨A1, c1, h1, h2⟩ := hc i l e
  exact ⟨b, off, A1, c1, hA, hb, h1, h2⟩
end
def trueB (t : Tm) : Bool := decide (t.fn = 0 ∧ t.args.length = 0)
def itm (x : Lp) : List Tm := if trueB x.r = true then [x.l] else [x.l, x.r]
def itmL (l : List Lp) : List Tm := l.flatMap itm
def itms (cs : List (List Lp)) : List Tm := cs.flatMap itmL
theorem itm_yes {x : Lp} (h : trueB x.r = true) : itm x = [x.l] := if_pos h
theorem itm_no {x : Lp} (h : trueB x.r = false) : itm x = [x.l, x.r] := if_neg (by rw [h]; decide)
theorem itmL_take {l : List Lp} {k : Nat} {x : Lp} (h : l[k]? = some x) : itmL (l.take (k + 1)) = itmL (l.take k) ++ itm x := by
  unfold itmL; rw [List.take_add_one, h, List.flatMap_append]; simp
theorem itms_take {cs : List (List Lp)} {k : Nat} {l : List Lp} (h : cs[k]? = some l) : itms (cs.take (k + 1)) = itms (cs.take k) ++ itmL l := by
  unfold itms; rw [List.take_add_one, h, List.flatMap_append]; simp
theorem itmL_pre (l : List Lp) (k : Nat) : itmL (l.take k) <+: itmL l := ⟨itmL (l.drop k), by unfold itmL; rw [← List.flatMap_append, List.take_append_drop]⟩
theorem itms_pre (cs : List (List Lp)) (k : Nat) : itms (cs.take k) <+: itms cs := ⟨itms (cs.drop k), by unfold itms; rw [← List.flatMap_append, List.take_append_drop]⟩
theorem itms_mid {cs : List (List Lp)} {l : List Lp} {x : Lp} {i j : Nat} (hi : cs[i]? = some l) (hj : l[j]? = some x) : itms (cs.take i) ++ itmL (l.take j) ++ itm x <+: itms cs := by
  rw [List.append_assoc, ← itmL_take hj]
  refine List.IsPrefix.trans ?_ (itms_pre cs (i + 1))
  rw [itms_take hi]
  exact (List.prefix_append_right_inj _).2 (itmL_pre l (j + 1))
structure TmA where
  t : Tm
  A : Option Addr
  c : Nat
def tmEnc (x : TmA) : Array Value := #[.agg #[.int .i64 x.t.fn, .slice x.A x.t.args.length x.c]]
def TmFx (N : Nat → Prop) (x : TmA) (W : World) : Prop := I64 x.t.fn ∧ ArgsN W N x.A x.t.args
end Go.Proofs.YthgglobfkkcdgaaGreatDoor
namespace Go.Proofs.YthgglobfkkcdgaaGreatDoor
open Go.RowKit
set_option maxRecDepth 100000
theorem fitp_size (l : List Sm) (t : Tm) : ∀ d r, (fitT l t d r).1 = true → (fitT l t d r).2 = r - t.size ∧ (t.size : Int) ≤ r := by
  refine Tm.ind (P := fun t => ∀ d r, (fitT l t d r).1 = true → (fitT l t d r).2 = r - t.size ∧ (t.size : Int) ≤ r) (fun f xs ih d r h => ?_) t
  have key : ∀ ys : List Tm, (∀ t ∈ ys, t ∈ xs) → ∀ d r, 0 ≤ r → (fitL l ys d r).1 = true → (fitL l ys d r).2 = r - sizes ys ∧ (sizes ys : Int) ≤ r := by
    intro ys
    induction ys with
    | nil => intro _ d r hr h; simp [fitL, sizes]; exact hr
    | cons y ys ihy =>
      intro hm d r hr h
      cases hb : (fitT l y d r).1 with
      | false => rw [fitL_no hb] at h; cases h
      | true =>
        rw [fitL_yes hb] at h ⊢
        have e1 := ih y (hm y (by simp)) d r hb
        have e2 := ihy (fun t ht => hm t (by simp [ht])) d _ ((fit_le l y d r hr).2.2 hb) h
        simp only [sizes]
        omega
  by_cases h1 : r - 1 < 0 ∨ 30 < d
  · rw [fit_room h1] at h; cases h
  · by_cases hf : f < 0
    · rw [fit_var h1 hf] at h ⊢
      have := of_decide_eq_true h
      have hx : xs = [] := List.eq_nil_of_length_eq_zero this.2
      subst hx
      simp only [Tm.size, sizes]
      omega
    · cases hs : l[f.toNat]? with
      | none => rw [fit_out h1 hf (by have := List.getElem?_eq_none_iff.1 hs; omega)] at h; cases h
      | some s =>
        by_cases hb : s.arity ≠ xs.length ∨ (s.pred = true ∧ 1 < d)
        · rw [fit_bad h1 hf hs hb] at h; cases h
        · rw [fit_in h1 hf hs hb] at h ⊢
          have := key xs (fun _ h => h) (d + 1) (r - 1) (by omega) h
          simp only [Tm.size]
          omega
theorem fitp_iff (l : List Sm) (t : Tm) : ∀ d r, 1 ≤ d → ((fitT l t d r).1 = true ↔ ((t.size : Int) ≤ r ∧ (t.depth : Int) + d ≤ 31 ∧ lowT t = true ∧ overT l t (decide (d ≤ 1)) = true)) := by
  refine Tm.ind (P := fun t => ∀ d r, 1 ≤ d → ((fitT l t d r).1 = true ↔ ((t.size : Int) ≤ r ∧ (t.depth : Int) + d ≤ 31 ∧ lowT t = true ∧ overT l t (decide (d ≤ 1)) = true))) (fun f xs ih d r hd => ?_) t
  have key : ∀ ys : List Tm, (∀ t ∈ ys, t ∈ xs) → ∀ d r, 2 ≤ d → d ≤ 31 → 0 ≤ r → ((fitL l ys d r).1 = true ↔ ((sizes ys : Int) ≤ r ∧ (depths ys : Int) + d ≤ 31 ∧ lowL ys = true ∧ overL l ys = true)) := by
    intro ys
    induction ys with
    | nil => intro _ d r h1 h2 h3; simp [fitL, sizes, depths, lowL, overL]; omega
    | cons y ys ihy =>
      intro hm d r h1 h2 h3
      have e1 := ih y (hm y (by simp)) d r (by omega)
      rw [show decide (d ≤ 1) = false by simp; omega] at e1
      simp only [sizes, depths, lowL, overL, Bool.and_eq_true]
      cases hb : (fitT l y d r).1 with
      | true =>
        rw [fitL_yes hb]
        obtain ⟨a1, a2, a3, a4⟩ := e1.1 hb
        have hs := fitp_size l y d r hb
        rw [ihy (fun t ht => hm t (by simp [ht])) d _ h1 h2 ((fit_le l y d r h3).2.2 hb), hs.1]
        constructor
        · rintro ⟨b1, b2, b3, b4⟩; exact ⟨by omega, by omega, ⟨a3, b3⟩, a4, b4⟩
        · rintro ⟨b1, b2, ⟨_, b3⟩, _, b4⟩; exact ⟨by omega, by omega, b3, b4⟩
      | false =>
        rw [fitL_no hb]
        constructor
        · intro h; cases h
        · rintro ⟨b1, b2, ⟨b3, _⟩, b4, _⟩
          have := e1.2 ⟨by omega, by omega, b3, b4⟩
          rw [hb] at this; cases this
  simp only [Tm.size, Tm.depth]
  by_cases h1 : r - 1 < 0 ∨ 30 < d
  · rw [fit_room h1]
    constructor
    · intro h; cases h
    · rintro ⟨b1, b2, _, _⟩; omega
  · by_cases hf : f < 0
    · rw [fit_var h1 hf]
      simp only [lowT, overT, if_pos hf, decide_eq_true_eq]
      constructor
      · rintro ⟨b1, b2⟩
        have hx : xs = [] := List.eq_nil_of_length_eq_zero b2
        subst hx
        simp [sizes, depths]; omega
      · rintro ⟨_, _, ⟨b1, b2⟩, _⟩; exact ⟨by omega, b2⟩
    · simp only [lowT, overT, if_neg hf]
      cases hs : l[f.toNat]? with
      | none =>
        rw [fit_out h1 hf (by have := List.getElem?_eq_none_iff.1 hs; omega)]
        simp
      | some s =>
        by_cases hb : s.arity ≠ xs.length ∨ (s.pred = true ∧ 1 < d)
        · rw [fit_bad h1 hf hs hb]
          have hb' : s.arity ≠ xs.length ∨ (s.pred = true ∧ decide (d ≤ 1) = false) := hb.imp id fun h => ⟨h.1, by simp; omega⟩
          simp only [if_pos hb']
          simp
        · have hb' : ¬ (s.arity ≠ xs.length ∨ (s.pred = true ∧ decide (d ≤ 1) = false)) := fun h => hb (h.imp id fun h => ⟨h.1, by have := h.2; simp at this; omega⟩)
          rw [fit_in h1 hf hs hb, key xs (fun _ h => h) (d + 1) (r - 1) (by omega) (by omega) (by omega)]
          simp only [if_neg hb']
          constructor
          · rintro ⟨b1, b2, b3, b4⟩; exact ⟨by omega, by omega, b3, b4⟩
          · rintro ⟨b1, b2, b3, b4⟩; exact ⟨by omega, by omega, b3, b4⟩
end Go.Proofs.YthgglobfkkcdgaaGreatDoor
namespace Go.Proofs.YthgglobfkkcdgaaGreatDoor
open Go.RowKit
def tru (w : World) : Prop := w.cell? ⟨0, 0, none⟩ = some (.string truthSm.name) ∧ w.cell? ⟨0, 1, none⟩ = some (.int .i64 truthSm.arity) ∧ w.cell? ⟨0, 2, none⟩ = some (.bool truthSm.pred) ∧ 0 < w.heap.size
theorem tru_on {B : Nat} {w w' : World} (h : tru w) (hb : Below B w w') (hB : 0 < B) : tru w' := by
  obtain ⟨h1, h2, h3, h4⟩ := h
  exact ⟨cell_on hb hB h1, cell_on hb hB h2, cell_on hb hB h3, Nat.lt_of_lt_of_le h4 hb.size⟩
theorem tru_below {w w' : World} (h : tru w) (hb : Below w.heap.size w w') : tru w' := tru_on h hb h.2.2.2
end Go.Proofs.YthgglobfkkcdgaaGreatDoor
namespace Go.Proofs.YthgglobfkkcdgaaGreatDoor
open Go.RowKit Go.Shelf
attribute [local go_sem] Oper.semAt_some
abbrev IxSm := { p : Nat × Sm // p.2.Ok ∧ p.1 ≤ 9223372036854775807 }
def ixV (x : IxSm) : Array Value := #[.int .i64 (x.1.1 : Int), .agg #[.string x.1.2.name, .int .i64 x.1.2.arity, .bool x.1.2.pred]]
def CK (A B : World) : Prop := ∀ p v, A.cell? p = some v → B.cell? p = some v
theorem CK.refl (A : World) : CK A A := fun _ _ h => h
theorem CK.trans {A B C : World} (h : CK A B) (k : CK B C) : CK A C := fun p v e => k p v (h p v e)
theorem ck_put {w : World} (W : World) (l : Nat) (o o' : Obj) (_ : w.heap.size ≤ l) (h : W.heap[l]? = some o) (hc : o.isCells = false) (_ : o.isWalk = false) : CK W (W.putObj l o') := by
  intro p v e
  by_cases hp : p.block = l
  · exfalso
    unfold World.cell? at e
    rw [hp, h] at e
    cases o <;> simp [Obj.isCells] at hc e
  · rw [← e]
    exact World.cell?_of_block ((grownBy_putObj' W l o').block p.block (by
      unfold World.cell? at e
      rcases Nat.lt_or_ge p.block W.heap.size with h1 | h1
      · exact h1
      · rw [Array.getElem?_eq_none h1] at e; cases e) (by simpa using hp))
structure Backs (l : List Sm) (zs : List IxSm) : Prop where
  len : zs.length = l.length
  at_ : ∀ j (x : IxSm), zs[j]? = some x → x.1.1 = l.length - 1 - j ∧ l[l.length - 1 - j]? = some x.1.2
theorem backs_of (l : List Sm) (hok : ∀ x ∈ l, x.Ok) (hl : l.length ≤ 9223372036854775807) : ∃ zs, Backs l zs := by
  refine ⟨List.ofFn fun j : Fin l.length => ⟨(l.length - 1 - j, l[l.length - 1 - j]'(by omega)), ⟨hok _ (List.getElem_mem _), by simp; omega⟩⟩, by simp, fun j x hx => ?_⟩
  rw [List.getElem?_ofFn] at hx
  split at hx
  · rename_i hj
    injection hx with hx
    subst hx
    exact ⟨rfl, List.getElem?_eq_getElem _⟩
  · cases hx
set_option maxRecDepth 100000 in
set_option maxHeartbeats 2000000 in
theorem back1_in (F : Fence) (n : Nat) (hf : F.fn 113) (hro : F.round = none) (hn : 1 ≤ n) (l Bs : Nat) (A : Option Addr) (c B : Nat) (L : List Sm) (hL : L.length * 32 ≤ 140737488351232) (zs : List IxSm) (hz : Backs L zs) (J Jx : List IxSm → World → Prop)
    (hY : ∀ pre x W, J pre W → pre.length < zs.length → YieldAt F (n - 1) Tryz.prog l (ixV x) W fun e W' =>
      (e = .returned (.bool true) ∧ J (pre ++ [x]) W' ∧ CK W W') ∨ (e = .returned (.bool false) ∧ Jx (pre ++ [x]) W'))
    (W : World) (hBs : W.cell? ⟨Bs, 0, none⟩ = some (.slice A L.length c)) (hS : Syms W B A L.length L) (h0 : J [] W) :
    CallsIn F n Tryz.prog 113 #[.func (.yield l) #[] #[], .pointer (some ⟨Bs, 0, none⟩)] W fun e W' => (∃ v, e = .returned v) ∧
      ((∃ ys, ys = zs ∧ J ys W') ∨ (∃ pre, pre <+: zs ∧ Jx pre W')) := by
  refine callsIn_of_wp Tryz.func113 rfl hf ?_ hro
  simp only [Tryz.ntmps113, List.size_toArray, List.length_cons, List.length_nil, Nat.reduceAdd, Nat.reduceSub, Array.replicate_succ, Array.replicate_zero, List.push_toArray, List.append_toArray, List.nil_append, List.cons_append]
  have hz1 := hz.len
  gi_wp2
  gi_loopw [3] (fun i wr => ∃ k : Nat, k ≤ L.length ∧ i = .int .i64 ((L.length : Int) - 1 - k) ∧ J (zs.take k) wr ∧ CK W wr)
    (fun i _ => (intOf i + 1).toNat)
  case atStart => exact ⟨0, Nat.zero_le _, by simp, by simpa using h0, CK.refl _⟩
  case round =>
    obtain ⟨k, hk, rfl, hJs, hck⟩ := hrel
    have hb1 := hck _ _ hBs
    by_cases hlt : k < L.length
    · obtain ⟨x, hx⟩ : ∃ x, zs[k]? = some x := ⟨_, List.getElem?_eq_getElem (by omega)⟩
      obtain ⟨hx1, hx2⟩ := hz.at_ k x hx
      obtain ⟨b, off, rfl, hb, hc⟩ := hS.ad (by omega)
      obtain ⟨c1, c2, c3⟩ := hc _ _ hx2
      rw [← hx1] at c1 c2 c3
      have d1 := hck _ _ c1
      have d2 := hck _ _ c2
      have d3 := hck _ _ c3
      have hts : zs.take (k + 1) = zs.take k ++ [x] := by rw [List.take_add_one, hx]; rfl
      obtain ⟨fn, tmps, assign, body, hy, hR⟩ := hY _ x wr hJs (by rw [List.length_take]; omega)
      have hlo : (0 : Int) ≤ (L.length : Int) - 1 - k := by omega
      have hidx : (L.length : Int) - 1 - k = (x.1.1 : Int) := by omega
      have hxl : x.1.1 < L.length := by omega
      simp only [ixV] at hy
      have Hts := Lib.hid hts
      have Hx := Lib.hid (And.intro hx1 hx2)
      have Hz := Lib.hid hz1
      clear hts hx1 hx2 hx hc c1 c2 c3 hz1 hz hS hY
      rw [hidx]
      have Hi := Lib.hid hidx
      clear hidx hlo
      gi_wp2
      refine hR.mono ?_
      rintro e W3 (⟨rfl, hJ3, hk3⟩ | ⟨rfl, hJx3⟩)
      · gi_wp2
        go_roundw
        case rel => exact ⟨k + 1, by omega, by rw [show (L.length : Int) - 1 - ((k + 1 : Nat) : Int) = (x.1.1 : Int) - 1 from by have := Hi.out; omega], by rw [Hts.out]; exact hJ3, hck.trans hk3⟩
        case measure => simp [intOf]
      · gi_wp2
        refine bodyPost_ret (results_none rfl _ _ _) rfl ?_
        exact ⟨⟨_, rfl⟩, .inr ⟨_, ⟨zs.drop (k + 1), by rw [← Hts.out, List.take_append_drop]⟩, hJx3⟩⟩
    · have : k = L.length := by omega
      subst this
      gi_wp2
      go_end0
      exact ⟨⟨_, rfl⟩, .inl ⟨_, by rw [List.take_of_length_le (by omega)], hJs⟩⟩
set_option maxHeartbeats 1000000 in
theorem back_in (F : Fence) (n : Nat) (hf : F.fn 81) (hro : F.round = none) (a : Option Addr) (len cap : Nat) (w : World) :
    CallsIn F n Tryz.prog 81 #[.slice a len cap] w fun e w' => e = .returned (.func (.func 113) #[] #[.pointer (some ⟨w.heap.size, 0, none⟩)]) ∧ w' = w.alloc (.cells #[.slice a len cap] 22) := by
  refine callsIn_of_wp Tryz.func81 rfl hf ?_ hro
  simp only [Tryz.ntmps81, List.size_toArray, List.length_cons, List.length_nil, Nat.reduceAdd, Nat.reduceSub, Array.replicate_succ, Array.replicate_zero, List.push_toArray, List.append_toArray, List.nil_append, List.cons_append]
  gi_wp2
  go_ret
  exact ⟨rfl, rfl⟩
theorem back_stops (F : Fence) (n : Nat) (hf : F.fn 113) (hro : F.round = none) (hn : 1 ≤ n) (Bs : Nat) (A : Option Addr) (c B : Nat) (L : List Sm) (hL : L.length * 32 ≤ 140737488351232) (zs : List IxSm) (hz : Backs L zs) (w : World) (hlt : Bs < w.heap.size) (hB : B ≤ w.heap.size)
    (hBs : w.cell? ⟨Bs, 0, none⟩ = some (.slice A L.length c)) (hS : Syms w B A L.length L) :
    SeqStopsK F n Tryz.prog 113 #[.pointer (some ⟨Bs, 0, none⟩)] ixV CK (fun ys => ys = zs) (fun pre => pre <+: zs) zs.length w := fun l J Jx W hW _ _ hY h0 =>
  back1_in F n hf hro hn l Bs A c B L hL zs hz J Jx hY W ((hW.cell (p := ⟨Bs, 0, none⟩) hlt).trans hBs) (hS.below (hW.mono hB)) h0
end Go.Proofs.YthgglobfkkcdgaaGreatDoor
namespace Go.Proofs.YthgglobfkkcdgaaGreatDoor
open Go.RowKit Go.Maps
set_option maxRecDepth 20000
theorem laidOut : laidOutB Tryz.prog = true := by kernel_rfl
theorem symLaw : Keyed Tryz.prog 67 := Keyed.of_law (deep_law_gate laidOut (by decide +kernel) (by decide +kernel) (by kernel_rfl) (by kernel_rfl))
def Sm.val (x : Sm) : Value := .agg #[.string x.name, .int .i64 x.arity, .bool x.pred]
theorem keyOf_sym {x : Sm} (hx : x.Ok) : ∃ kl, keyOf Tryz.prog 67 x.val = some kl := by
  have hT : Tryz.prog.keyType 67 = true := by kernel_rfl
  obtain ⟨m, hm⟩ : ∃ m, Tryz.prog.types.size + 1 = m + 1 + 1 := ⟨Tryz.prog.types.size - 1, by
    have : 0 < Tryz.prog.types.size := by decide +kernel
    omega⟩
  have hC : Tryz.prog.cellsOf 67 = 3 := by kernel_rfl
  have hC1 : Tryz.prog.cellsOf 9 = 1 := by kernel_rfl
  have hC2 : Tryz.prog.cellsOf 3 = 1 := by kernel_rfl
  have hC3 : Tryz.prog.cellsOf 4 = 1 := by kernel_rfl
  have hs := hx.size
  have hw : (Lit.int .i64 x.arity).wf = true := WalkArith.wf_i64 ⟨hx.lo, hx.hi⟩
  refine ⟨.string (keyBytes [.string x.name.data.toList, .int .i64 x.arity, .bool x.pred]), ?_⟩
  simp only [keyOf, Tryz.underlying67, hT, hm, Sm.val, Value.formed, hC]
  simp [Program.keyLits, Tryz.underlying67, hC, hC1, hC2, hC3, Value.cells, Tryz.underlying9, Tryz.underlying3, Tryz.underlying4, hs, hw]
def SMap (w : World) (b n : Nat) (f : Sm → Option Int) : Prop :=
  ∃ D : DataW Unit, w.ownsMap Tryz.prog 67 (plainElem Tryz.prog 3) b n D ∧ ∀ x kl, keyOf Tryz.prog 67 (Sm.val x) = some kl → ∀ z, D.atKey kl z = match f x with | some i => .lit (.int .i64 i) | none => z
theorem SMap.made (w : World) : SMap (w.alloc (.map #[] 0)) w.heap.size 0 (fun _ => none) :=
  ⟨_, World.ownsMap_made w _ _ _, fun _ _ _ _ => rfl⟩
theorem SMap.lt {w : World} {b n : Nat} {f : Sm → Option Int} (h : SMap w b n f) : b < w.heap.size := h.elim fun _ h => h.1.lt
theorem SMap.kept {w w' : World} {b n : Nat} {f : Sm → Option Int} (h : SMap w b n f) (hk : w'.heap[b]? = w.heap[b]?) : SMap w' b n f := by
  obtain ⟨D, ⟨es, clock, hb, F, hs, hD⟩, hat⟩ := h
  exact ⟨D, ⟨es, clock, hk.trans hb, F, hs, hD⟩, hat⟩
theorem SMap.below {w w' : World} {b n : Nat} {f : Sm → Option Int} (h : SMap w b n f) (hb : Below w.heap.size w w') : SMap w' b n f := h.kept (hb.block b h.lt)
theorem zeroInt (w : World) : (zeroValue 3).run Tryz.prog w = .ok (.int .i64 0) w := by kernel_rfl
theorem SMap.look {w : World} {b n : Nat} {f : Sm → Option Int} (h : SMap w b n f) {x : Sm} (hx : x.Ok) :
    (Instr.lookup 103 (.map (some b)) (.agg #[.string x.name, .int .i64 x.arity, .bool x.pred]) false).run Tryz.prog w = .ok (.int .i64 ((f x).getD 0)) w := by
  obtain ⟨D, hown, hat⟩ := h
  obtain ⟨kl, hk⟩ := keyOf_sym hx
  obtain ⟨c, hrun, hc, _⟩ := hown.lookup_int symLaw Tryz.underlying103 Tryz.underlying3 (zeroInt w) hk
  have := hat x kl hk (.lit (.int .i64 0))
  rw [hc] at this
  cases hf : f x with
  | none => rw [hf] at this; injection this with this; injection this with _ this; subst this; exact hrun
  | some i => rw [hf] at this; injection this with this; injection this with _ this; subst this; exact hrun
def updS (f : Sm → Option Int) (x : Sm) (i : Int) : Sm → Option Int := fun y => if y = x then some i else f y
theorem SMap.of_put {w : World} {b n : Nat} {D : DataW Unit} {f : Sm → Option Int} {x : Sm} {kl : Lit} {i : Int} {w0 : World} {n0 : Nat} (h0 : w0.ownsMap Tryz.prog 67 (plainElem Tryz.prog 3) b n0 D)
    (hat : ∀ x kl, keyOf Tryz.prog 67 (Sm.val x) = some kl → ∀ z, D.atKey kl z = match f x with | some i => .lit (.int .i64 i) | none => z)
    (hk : keyOf Tryz.prog 67 (Sm.val x) = some kl) (h : w.ownsMap Tryz.prog 67 (plainElem Tryz.prog 3) b n (D.put kl (.lit (.int .i64 i)))) : SMap w b n (updS f x i) := by
  refine ⟨_, h, fun y ky hy z => ?_⟩
  by_cases e : y = x
  · subst e
    rw [hk] at hy
    injection hy with hy
    subst hy
    rw [atKey_put_same h0.isMap (symLaw.key hk)]
    simp [updS]
  · have hne : ky ≠ kl := by
      rintro rfl
      have := symLaw.inj hy hk
      simp only [Sm.val, Value.agg.injEq] at this
      simp at this
      exact e (sm_ext this)
    rw [atKey_put_other hne, hat y ky hy z]
    simp [updS, e]
theorem wpListIn_put {F : Fence} {nF : Nat} {w : World} {ops : Array Oper} {rest : List Oper} {o : Oper} {a : Act} {Q : Exit → Act → World → Prop} (hg : o.guard = none) (m x v : Operand) (hop : o.op = Op.mapUpdate 103 m x v)
    (b n : Nat) (f : Sm → Option Int) (hm : a.eval m = .map (some b)) (h : SMap w b n f) (hn : n < maxLen) (y : Sm) (hy : y.Ok) (i : Int) (hi : (Lit.int .i64 i).wf = true)
    (hx : a.eval x = .agg #[.string y.name, .int .i64 y.arity, .bool y.pred]) (hv : a.eval v = .int .i64 i)
    (hK : ∀ w', SMap w' b (n + 1) (updS f y i) → w.grownBy w' (some b) → wpListIn F nF Tryz.prog ops Q rest (a.put o.dst undef) w') : wpListIn F nF Tryz.prog ops Q (o :: rest) a w := by
  obtain ⟨D, hown, hat⟩ := h
  obtain ⟨kl, hk⟩ := keyOf_sym hy
  exact wpListIn_mapUpdate_own w hg m x v 103 hop 67 3 symLaw Tryz.underlying103 _ b n D hm hown hn _ _ kl hx hv hk _ [] (plainElem_int Tryz.underlying3 hi)
    fun w' h1 h2 => hK w' (SMap.of_put hown hat hk h1) h2
end Go.Proofs.YthgglobfkkcdgaaGreatDoor
namespace Go.Proofs.YthgglobfkkcdgaaGreatDoor
open Go.RowKit Go.Shelf
set_option maxRecDepth 20000
attribute [local go_sem] Oper.semAt_some
def backF (pre : List IxSm) : Sm → Option Int := pre.foldl (fun f x => updS f x.1.2 x.1.1) (fun _ => none)
theorem backF_snoc (pre : List IxSm) (x : IxSm) : backF (pre ++ [x]) = updS (backF pre) x.1.2 x.1.1 := by simp [backF]
def firstF (l : List Sm) (y : Sm) : Option Int := if atI l y < 0 then none else some (atI l y)
theorem backF_at {l : List Sm} {zs : List IxSm} (h : Backs l zs) (y : Sm) : ∀ k, k ≤ l.length →
    (backF (zs.take k) y = none ∧ ∀ j, l.length - k ≤ j → l[j]? ≠ some y) ∨ (∃ i : Nat, backF (zs.take k) y = some (i : Int) ∧ l[i]? = some y ∧ ∀ j, l.length - k ≤ j → j < i → l[j]? ≠ some y)
  | 0, _ => .inl ⟨rfl, fun j hj => by rw [List.getElem?_eq_none (by omega)]; simp⟩
  | k + 1, hk => by
    obtain ⟨x, hx⟩ : ∃ x, zs[k]? = some x := ⟨_, List.getElem?_eq_getElem (by rw [h.len]; omega)⟩
    obtain ⟨h1, h2⟩ := h.at_ k x hx
    have hts : zs.take (k + 1) = zs.take k ++ [x] := by rw [List.take_add_one, hx]; rfl
    rw [hts, backF_snoc]
    by_cases e : y = x.1.2
    · subst e
      refine .inr ⟨x.1.1, by simp [updS], by rw [h1]; exact h2, fun j hj hlt => by omega⟩
    · have e1 : updS (backF (zs.take k)) x.1.2 x.1.1 y = backF (zs.take k) y := by simp [updS, e]
      rw [e1]
      have hnot : ∀ j, l.length - (k + 1) ≤ j → ¬ l.length - k ≤ j → l[j]? ≠ some y := fun j ha hb => by
        obtain rfl : j = l.length - 1 - k := by omega
        rw [h2]; intro he; injection he with he; exact e he.symm
      rcases backF_at h y k (by omega) with ⟨g1, g2⟩ | ⟨i, g1, g2, g3⟩
      · refine .inl ⟨g1, fun j hj => ?_⟩
        by_cases hj' : l.length - k ≤ j
        · exact g2 j hj'
        · exact hnot j hj hj'
      · refine .inr ⟨i, g1, g2, fun j hj hlt => ?_⟩
        by_cases hj' : l.length - k ≤ j
        · exact g3 j hj' hlt
        · exact hnot j hj hj'
theorem backF_all {l : List Sm} {zs : List IxSm} (h : Backs l zs) : backF zs = firstF l := by
  funext y
  have := backF_at h y l.length (Nat.le_refl _)
  rw [List.take_of_length_le (by rw [h.len]; exact Nat.le_refl _)] at this
  rcases this with ⟨h1, h2⟩ | ⟨i, h1, h2, h3⟩
  · rw [h1, firstF, atI_miss l y (fun j _ => h2 j (by omega))]
    simp
  · rw [h1, firstF, atI_hit l y i h2 (fun j hj => h3 j (by omega) hj)]
    rw [if_neg (by omega)]
def Blk3 (W : World) (B : Nat) (x : Sm) : Prop := W.heap[B]? = some (.cells #[.string x.name, .int .i64 x.arity, .bool x.pred] 67 (0, 0))
theorem run_makeMap_hint (k : Nat) (w : World) : (Instr.makeMap 103 (some (.int .i64 (k : Int)))).run Tryz.prog w = .ok (.map (some w.heap.size)) (w.alloc (.map #[] 0)) := by
  simp [Instr.makeMap, run_underlying Tryz.underlying103, go_sem]
theorem blk3_own {β : Type} (B : Nat) (Bx : Nat) (x : Sm) : OwnFrom (β := β) B (fun _ W => Blk3 W Bx x) := fun s W W' row hs hg hr => by
  unfold Blk3 at hs ⊢
  refine (hg.block Bx (Array.getElem?_eq_some_iff.1 hs).1 (fun e => ?_)).trans hs
  obtain ⟨_, o, ho, hc⟩ := hr _ e.symm
  rw [hs] at ho
  injection ho with ho
  subst ho
  simp [Obj.isCells] at hc
theorem smap_own (B b : Nat) (hb : b < B) : OwnFrom B (fun (pre : List IxSm) W => SMap W b pre.length (backF pre)) := fun s W W' row hs hg hr =>
  hs.kept (hg.block b hs.lt (fun e => by have := (hr _ e.symm).1; omega))
theorem Blk3.c1 {W : World} {B : Nat} {x : Sm} (h : Blk3 W B x) : W.cell? ⟨B, 0, none⟩ = some (.string x.name) := by simp [World.cell?, show W.heap[B]? = _ from h]
theorem Blk3.c2 {W : World} {B : Nat} {x : Sm} (h : Blk3 W B x) : W.cell? ⟨B, 1, none⟩ = some (.int .i64 x.arity) := by simp [World.cell?, show W.heap[B]? = _ from h]
theorem Blk3.c3 {W : World} {B : Nat} {x : Sm} (h : Blk3 W B x) : W.cell? ⟨B, 2, none⟩ = some (.bool x.pred) := by simp [World.cell?, show W.heap[B]? = _ from h]
theorem cell_lt {W : World} {p : Addr} {v : Value} (h : W.cell? p = some v) : p.block < W.heap.size := by
  unfold World.cell? at h
  rcases Nat.lt_or_ge p.block W.heap.size with h1 | h1
  · exact h1
  · rw [Array.getElem?_eq_none h1] at h; cases h
theorem ck_alloc (W : World) (o : Obj) : CK W (W.alloc o) := fun p _ h => (World.cell?_of_block (Below.heap_alloc W o p.block (cell_lt h))).trans h
theorem ck_map {W w1 : World} {b n : Nat} {f : Sm → Option Int} (h : SMap W b n f) (hg : W.grownBy w1 (some b)) : CK W w1 := fun p v hp => by
  refine (World.cell?_of_block (hg.block p.block (cell_lt hp) (fun e => ?_))).trans hp
  injection e with e
  obtain ⟨D, ⟨es, ck, hb, _⟩, _⟩ := h
  unfold World.cell? at hp
  rw [e, hb] at hp
  cases hp
set_option maxRecDepth 100000 in
set_option maxHeartbeats 2000000 in
theorem numbers_in (F : Fence) (n : Nat) (h23 : F.fn 46) (h34 : F.fn 81) (h40 : F.fn 113) (hro : F.round = none) (hn : 3 ≤ n) (A : Option Addr) (c : Nat) (L : List Sm) (hL : L.length * 32 ≤ 140737488351232) (w : World) (hS : Syms w w.heap.size A L.length L) :
    CallsIn F n Tryz.prog 46 #[.slice A L.length c] w fun e W' => e = .returned (.map (some w.heap.size)) ∧ SMap W' w.heap.size L.length (firstF L) ∧ Below w.heap.size w W' := by
  have h1 : 1 ≤ n := by omega
  have hmm := run_makeMap_hint
  obtain ⟨zs, hz⟩ := backs_of L hS.ok (by omega)
  refine callsIn_of_wp_marks Tryz.func46 rfl h23 ?_ hro
  simp only [Tryz.ntmps46, List.size_toArray, List.length_cons, List.length_nil, Nat.reduceAdd, Nat.reduceSub, Array.replicate_succ, Array.replicate_zero, List.push_toArray, List.append_toArray, List.nil_append, List.cons_append]
  gi_wp2_with (gi_at_call 81; refine (back_in F (n - 1) h34 hro _ _ _ _).mono ?_; rintro e w' ⟨rfl, rfl⟩)
  have hm0 := SMap.made w
  have bM := (Boxed.new (w.alloc (.map #[] 0)) 103 (.map (some w.heap.size))).alloc (.cells #[.slice A L.length c] 22)
  have bS := Boxed.new ((w.alloc (.map #[] 0)).alloc (.cells #[.map (some w.heap.size)] 103)) 22 (.slice A L.length c)
  simp only [World.size_alloc] at bM bS
  have hB0 : Below w.heap.size w (((w.alloc (.map #[] 0)).alloc (.cells #[.map (some w.heap.size)] 103)).alloc (.cells #[.slice A L.length c] 22)) := (((Below.refl _ w).alloc (Nat.le_refl _) _).alloc (by simp) _).alloc (by simp; omega) _
  have hsz : (((w.alloc (.map #[] 0)).alloc (.cells #[.map (some w.heap.size)] 103)).alloc (.cells #[.slice A L.length c] 22)).heap.size = w.heap.size + 3 := by simp
  have hm1 : SMap (((w.alloc (.map #[] 0)).alloc (.cells #[.map (some w.heap.size)] 103)).alloc (.cells #[.slice A L.length c] 22)) w.heap.size 0 (fun _ => none) :=
    (hm0.kept (Below.heap_alloc _ _ _ (by simp))).kept (Below.heap_alloc _ _ _ (by simp; omega))
  obtain ⟨W0, hW0⟩ : ∃ W0, ((w.alloc (.map #[] 0)).alloc (.cells #[.map (some w.heap.size)] 103)).alloc (.cells #[.slice A L.length c] 22) = W0 := ⟨_, rfl⟩
  rw [hW0] at bM bS hB0 hsz hm1 ⊢
  clear hW0 hm0
  refine wpIn_rangeFunc_ownH hro h1 (gf := 113) (lb := #[.pointer (some ⟨w.heap.size + 1 + 1, 0, none⟩)]) rfl h40 (enters_of Tryz.func113 (by kernel_rfl) rfl)
    (back_stops F (n - 1) h40 hro (by omega) (w.heap.size + 1 + 1) A c w.heap.size L hL zs hz W0 (by omega) (by omega) bS.cell (hS.below hB0)) CK.trans (fun W l o o' h1 h2 h3 h4 => ck_put (w := W0) W l o o' h1 h2 h3 h4) (Below.refl _ _) (fun _ => rfl)
    (fun pre W => (Boxed W (w.heap.size + 1) 103 (.map (some w.heap.size)) ∧ SMap W w.heap.size pre.length (backF pre)) ∧ Below w.heap.size w W)
    (fun _ _ _ => False)
    (OwnFrom.and (OwnFrom.and ((boxed_own (w.heap.size + 1) 103 (fun _ => .map (some w.heap.size))).from _) (smap_own _ _ (by omega))) (ownFrom_below (Nat.le_refl _) (by omega)))
    (fun _ _ _ _ _ hs _ _ => hs)
    ⟨⟨bM, hm1⟩, hB0⟩
    (fun x a' W => ∃ Bx, Blk3 W Bx x.1.2 ∧ a' = { tmps := #[.slice A L.length c, undef, .map none, .pointer (some ⟨w.heap.size + 1, 0, none⟩), .int .i64 (x.1.1 : Int), .pointer (some ⟨Bx, 0, none⟩), .slice A L.length c, .int .i64 (L.length : Int), .map (some w.heap.size), .slice A L.length c, .func (.func 113) #[] #[.pointer (some ⟨w.heap.size + 1 + 1, 0, none⟩)], .int .i64 (x.1.1 : Int), .agg #[.string x.1.2.name, .int .i64 x.1.2.arity, .bool x.1.2.pred], undef, undef, undef, undef], defers := [] }) ?hAx ?assign ?body ?done ?stop
  case hAx =>
    rintro x a' s W W' row ⟨Bx, hk, rfl⟩ hg hr
    exact ⟨Bx, blk3_own (β := Unit) _ Bx x.1.2 () W W' row hk hg hr, rfl⟩
  case assign =>
    rintro l pre x W K ⟨⟨hbox, hmap⟩, hB⟩ hK
    simp only [ixV]
    gi_wp2
    exact hK _ _ ((KeepsOthers.alloc _ _).from _) (ck_alloc W _) ⟨⟨hbox.alloc _, hmap.kept (Below.heap_alloc _ _ _ hmap.lt)⟩, hB.alloc hB.size _⟩ ⟨W.heap.size, World.alloc_heap_new W _, rfl⟩
  case body =>
    rintro l pre x a' W hl _ ⟨⟨hbox, hmap⟩, hB⟩ ⟨Bx, hk, rfl⟩ hlt
    have hc := hbox.cell
    have k1 := hk.c1
    have k2 := hk.c2
    have k3 := hk.c3
    have hm' : pre.length < maxLen := by unfold maxLen; have := hz.len; omega
    have Hm := Lib.hid hm'
    clear hm'
    gi_wp2_with (gi_at_mapUpdate; refine wpListIn_put rfl _ _ _ rfl w.heap.size pre.length (backF pre) rfl hmap Hm.out x.1.2 x.2.1 (x.1.1 : Int) (WalkArith.wf_i64 ⟨by omega, by have := x.2.2; omega⟩) rfl rfl ?_; intro w1 hmap1 hgrow1)
    exact ⟨KeepsFrom.of_grownBy hgrow1 (fun j e => by cases e; omega), ck_map hmap hgrow1, ⟨hbox.kept hgrow1 (fun e => by injection e with e; omega), by rw [backF_snoc, List.length_append]; exact hmap1⟩,
      hB.grown hgrow1 hB.size (fun k e => by cases e; exact Nat.le_refl _)⟩
  case done =>
    rintro D ys W hD rfl ⟨⟨hbox, hmap⟩, hB⟩ hK
    have hc := hbox.cell
    gi_wp2
    refine ⟨by simp, .inl ⟨_, _, rfl, run_takeDeferred hK, ?_⟩⟩
    refine ⟨_, results_tmp rfl _ _ _, rfl, ?_, hB.trans (belowK_b (w := w) (Nat.le_refl _) W D _ _ (by omega) hK rfl rfl)⟩
    rw [backF_all hz, hz.len] at hmap
    exact hmap.kept ((grownBy_putObj' W D _).block _ hmap.lt (fun e => by injection e with e; omega))
  case stop =>
    rintro D c pre W _ _ h _
    exact h.elim
theorem numbers_any (A : Option Addr) (n c : Nat) (l : List Sm) (hn : n * 32 ≤ 140737488351232) (w : World) (h : Syms w w.heap.size A n l) :
    Calls Tryz.prog 46 #[.slice A n c] w fun e W' => e = .returned (.map (some w.heap.size)) ∧ SMap W' w.heap.size n (firstF l) ∧ Below w.heap.size w W' := by
  obtain rfl := h.len
  exact (callsIn_wide (n := 3)).1 (numbers_in Fence.wide 3 trivial trivial trivial rfl (by omega) A c l hn w h)
end Go.Proofs.YthgglobfkkcdgaaGreatDoor
namespace Go.Proofs.YthgglobfkkcdgaaGreatDoor
open Go.RowKit
set_option maxRecDepth 20000
theorem firstF_at {l : List Sm} {k : Nat} {y : Sm} (hy : l[k]? = some y) : (firstF l y).getD 0 = atI l y := by
  have : ¬ atI l y < 0 := by
    intro hlt
    have h1 : l.findIdx? (· == y) = none := by
      cases hf : l.findIdx? (· == y) with
      | none => rfl
      | some i => simp [atI, hf] at hlt; omega
    rw [List.findIdx?_eq_none_iff] at h1
    have := h1 y (List.mem_of_getElem? hy)
    simp at this
  simp [firstF, this]
set_option maxHeartbeats 800000 in
theorem Check_any (A : Option Addr) (n c : Nat) (l : List Sm) (w : World) (h : Syms w w.heap.size A n l) (hn : n * 32 ≤ 140737488351232) (ht : tru w) :
    Calls Tryz.prog 28 #[.agg #[.slice A n c]] w fun e w' => e = .returned (.int .i64 (checkI l)) ∧ Below w.heap.size w w' := by
  have hneq := run_neq_sym
  by_cases h96 : 96 < n
  · have hf := Lib.hid (show checkI l = 3 by simp only [checkI]; rw [if_pos (by rw [h.len]; exact h96)])
    go_enter Tryz.func28, Tryz.ntmps28
    go_wp2
    go_ret
    exact ⟨ret_int hf.out.symm, (Below.refl _ _).alloc (Nat.le_refl _) _⟩
  · rcases Nat.eq_zero_or_pos n with h0 | h0
    · have hf := Lib.hid (show checkI l = 110 by
        have : l = [] := List.eq_nil_of_length_eq_zero (h.len.trans h0)
        subst this; rfl)
      subst h0
      go_enter Tryz.func28, Tryz.ntmps28
      go_wp2
      go_quiet (fail)
      go_wp2
      go_ret
      exact ⟨ret_int hf.out.symm, bl_drewN ((Below.refl _ _).alloc (Nat.le_refl _) _) _⟩
    · have h0' : (((n : Nat) : Int) == 0) = false := beq_eq_false_iff_ne.2 (by omega)
      go_enter Tryz.func28, Tryz.ntmps28
      go_wp2
      obtain ⟨W, hW⟩ : ∃ W, w.alloc (.cells #[.slice A n c] 24) = W := ⟨_, rfl⟩
      have hWB : Below w.heap.size w W := by rw [← hW]; exact (Below.refl _ _).alloc (Nat.le_refl _) _
      have hz : w.heap.size + 1 = W.heap.size := by rw [← hW]; clear hW; simp
      have x1 : W.cell? ⟨w.heap.size, 0, none⟩ = some (.slice A n c) := by rw [← hW]; clear hW; go_simp
      rw [hW]
      have g := h.below hWB
      have hok := Lib.hid h.ok
      obtain ⟨t1, t2, t3, _⟩ := tru_below ht hWB
      clear hW h ht
      have hlt0 : w.heap.size < W.heap.size := by omega
      clear hz
      obtain ⟨b, off, rfl, hb0, hc⟩ := g.ad h0
      have hb : b < W.heap.size := Nat.lt_trans hb0 hlt0
      obtain ⟨y, hy⟩ : ∃ y, l[0]? = some y := ⟨_, List.getElem?_eq_getElem (by rw [g.len]; exact h0)⟩
      obtain ⟨c1, c2, c3⟩ := hc 0 y hy
      simp only [Nat.zero_mul, Nat.add_zero] at c1 c2 c3
      have Hy := Lib.hid hy
      clear hy
      have Hc := Lib.hid hc
      clear hc
      by_cases hyt : y = truthSm
      · have hs := smB_true hyt
        have hf := Lib.hid (show checkI l = scanI l by
          simp only [checkI]; rw [if_neg (by rw [g.len]; exact h96), if_neg (by rw [Hy.out, hyt]; simp)])
        clear hyt
        go_quiet (fail)
        clear t1 t2 t3 hs c1 c2 c3
        go_wp2_with (first | (go_at_call 46; refine (numbers_any _ _ _ l hn _ (((g.drewN _).more (Nat.le_of_lt hlt0)))).mono ?_; rintro e w1 ⟨rfl, hmap, hb1⟩; have hB1 : Below W.heap.size W w1 := ⟨hb1.os, hb1.tape, hb1.output, hb1.size, hb1.block⟩; have z1 := cell_on hB1 hlt0 x1) | fail)
        clear hb1 z1
        have hmap' : SMap w1 W.heap.size n (firstF l) := hmap
        clear hmap
        go_loopw [29] (fun i wr => ∃ k : Nat, k ≤ n ∧ i = .int .i64 k ∧ Below w1.heap.size w1 wr ∧ Hid (∀ j, 1 ≤ j → j < k → errAt l j = 0)) (fun i _ => n - (intOf i).toNat)
        case atStart => exact ⟨0, Nat.zero_le _, rfl, Below.refl _ _, fun j h1 h2 => by omega⟩
        case round =>
          obtain ⟨k, hk, rfl, hBr0, HA⟩ := hrel
          have hBr : Below W.heap.size W wr := hB1.trans (hBr0.mono hB1.size)
          have z1 := cell_on hBr hlt0 x1
          have hmr := hmap'.below hBr0
          by_cases hlt : k < n
          · obtain ⟨y, hy⟩ : ∃ y, l[k]? = some y := ⟨_, List.getElem?_eq_getElem (by rw [g.len]; exact hlt)⟩
            obtain ⟨c1, c2, c3⟩ := Hc.out k y hy
            have d1 := cell_on hBr hb c1
            have d2 := cell_on hBr hb c2
            have d3 := cell_on hBr hb c3
            have hyok : y.Ok := hok.out y (List.mem_of_getElem? hy)
            have hys := hyok.size
            have hbox : Below wr.heap.size wr (wr.alloc (.cells #[.string y.name, .int .i64 y.arity, .bool y.pred] 67)) := (Below.refl _ _).alloc (Nat.le_refl _) _
            have hlk := (hmr.below hbox).look hyok
            rw [firstF_at hy] at hlk
            have Hy := Lib.hid hy
            clear hy hyok hmr
            by_cases hk0 : k = 0
            · have hk0' : (((k : Nat) : Int) == 0) = true := by simp [hk0]
              have Hk0 := Lib.hid hk0
              clear hk0 hlk
              go_wp2
              go_roundw
              case rel => exact ⟨k + 1, by omega, by go_num, hBr0.trans (hbox.mono hBr0.size), fun j h1 h2 => by have := Hk0.out; omega⟩
              case measure => simp [intOf]; omega
            · have hk0' : (((k : Nat) : Int) == 0) = false := by simpa using hk0
              by_cases he : oneI y.name y.arity = 0
              · have he' : (oneI y.name y.arity != 0) = false := by simp [he]
                have He := Lib.hid he
                clear he
                by_cases ha : atI l y < k
                · go_wp2_with (first | (go_at_call 47; refine (fits_any _ _ _ hys).mono ?_; rintro e w2 ⟨rfl, rfl⟩) | fail)
                  go_ret
                  exact ⟨ret_int (hf.out.trans (scan_at (by omega) HA.out (err_same Hy.out He.out ha) (by decide))).symm, hWB.trans ((hBr.trans (hbox.mono hBr.size)).mono (Nat.le_of_lt hlt0))⟩
                · go_wp2_with (first | (go_at_call 47; refine (fits_any _ _ _ hys).mono ?_; rintro e w2 ⟨rfl, rfl⟩) | fail)
                  go_roundw
                  case rel => exact ⟨k + 1, by omega, by go_num, hBr0.trans (hbox.mono hBr0.size), err_before HA.out (err_ok Hy.out He.out (by omega))⟩
                  case measure => simp [intOf]; omega
              · have he' : (oneI y.name y.arity != 0) = true := by simp [he]
                have He := Lib.hid he
                clear he hlk
                go_wp2_with (first | (go_at_call 47; refine (fits_any _ _ _ hys).mono ?_; rintro e w2 ⟨rfl, rfl⟩) | fail)
                go_ret
                exact ⟨ret_int (hf.out.trans (scan_at (by omega) HA.out (err_one Hy.out He.out) He.out)).symm, hWB.trans ((hBr.trans (hbox.mono hBr.size)).mono (Nat.le_of_lt hlt0))⟩
          · have : k = n := by omega
            subst this
            go_wp2
            go_ret
            exact ⟨ret_int (hf.out.trans (scan_miss (fun j h1 h2 => HA.out j h1 (by rw [← g.len]; exact h2)))).symm, hWB.trans (hBr.mono (by omega))⟩
      · have hs := smB_false hyt
        have hf := Lib.hid (show checkI l = 110 by
          simp only [checkI]; rw [if_neg (by rw [g.len]; exact h96), if_pos (by rw [Hy.out]; simpa using hyt)])
        clear hyt
        go_quiet (fail)
        go_wp2
        go_ret
        exact ⟨ret_int hf.out.symm, bl_drewN hWB _⟩
end Go.Proofs.YthgglobfkkcdgaaGreatDoor
namespace Go.Proofs.YthgglobfkkcdgaaGreatDoor
open Go.RowKit
set_option maxRecDepth 100000
def chkT (l : List Sm) (t : Tm) : Int := if checkI l ≠ 0 then 2 else if (fitT l t 1 300).1 = true then 0 else 2
theorem chk_sig {l : List Sm} {t : Tm} (h : ¬ checkI l = 0) : chkT l t = 2 := if_pos h
theorem chk_yes {l : List Sm} {t : Tm} (h : checkI l = 0) (h1 : (fitT l t 1 300).1 = true) : chkT l t = 0 := (if_neg (fun e => e h)).trans (if_pos h1)
theorem chk_no {l : List Sm} {t : Tm} (h : checkI l = 0) (h1 : (fitT l t 1 300).1 = false) : chkT l t = 2 := (if_neg (fun e => e h)).trans (if_neg (by simp [h1]))
set_option maxHeartbeats 2000000 in
theorem termCheck_any (l : List Sm) (t : Tm) (As A : Option Addr) (n cs c : Nat) (w : World) (hS : Syms w w.heap.size As n l) (hn : n * 32 ≤ 140737488351232) (ht : tru w) (hf : I64 t.fn) (hA : Args w w.heap.size A t.args) :
    Calls Tryz.prog 30 #[.agg #[.slice As n cs], .agg #[.int .i64 t.fn, .slice A t.args.length c]] w fun e w' => e = .returned (.int .i64 (chkT l t)) ∧ Below w.heap.size w w' := by
  obtain rfl := hS.len
  have hl64 : l.length ≤ 9223372036854775807 := by omega
  obtain ⟨p0, p1, p2⟩ := heap3 w (.cells #[.slice As l.length cs] 24) (.cells #[.int .i64 t.fn, .slice A t.args.length c] 32) (.cells #[.int .i64 300] 3)
  obtain ⟨W, hW⟩ : ∃ W, (((w.alloc (.cells #[.slice As l.length cs] 24)).alloc (.cells #[.int .i64 t.fn, .slice A t.args.length c] 32)).alloc (.cells #[.int .i64 300] 3)) = W := ⟨_, rfl⟩
  have hB : Below w.heap.size w W := by rw [← hW]; exact (((Below.refl _ _).alloc (Nat.le_refl _) _).alloc (by simp) _).alloc (by simp; omega) _
  rw [hW] at p0 p1 p2
  have hWs : w.heap.size + 1 + 1 < W.heap.size := (Array.getElem?_eq_some_iff.1 p2).1
  have hS' := Lib.hid (hS.on hB)
  have ht' := Lib.hid (tru_below ht hB)
  have HW := Lib.hid hW
  have hA2 := Lib.hid (hA.blw hB)
  have hS2 := Lib.hid (hS.below hB)
  clear hW hS ht hA
  have fin : ∀ {w' : World}, Below W.heap.size W w' → Below w.heap.size w w' := fun h => hB.trans (h.mono hB.size)
  have fin2 : ∀ {w1 w' : World}, Below W.heap.size W w1 → Keeps (fun g => g < w1.heap.size ∧ g ≠ w.heap.size + 1 + 1) w1 w' → Below w.heap.size w w' := fun h k => (fin h).trans (k.below fun g e => ⟨by have := h.size; omega, by omega⟩)
  by_cases h0 : checkI l = 0
  · cases h1 : (fitT l t 1 300).1 with
    | true =>
      have hc := Lib.hid (chk_yes h0 h1)
      have h1' := Lib.hid h1
      clear h1
      go_enter Tryz.func30, Tryz.ntmps30
      go_wp2_with (first
        | (go_at_call 28
           rw [HW.out]
           refine (Check_any As l.length cs l W hS'.out hn ht'.out).mono ?_
           rintro e w1 ⟨rfl, hb1⟩
           rw [h0]
           have x0 := (cells_one ((hb1.block _ (by omega)).trans p0)).1
           obtain ⟨x1, x2, _, _⟩ := cells_two ((hb1.block _ (by omega)).trans p1)
           have x3 := Lib.hid ((hb1.block _ hWs).trans p2))
        | (go_at_call 50
           refine (termFits_any l t As A cs c 1 300 (w.heap.size + 1 + 1) w1 hf ((hS2.out.below (hb1.mono (by omega))).more (by omega)) hl64 ((hA2.out.blw (hb1.mono (by omega))).more (by omega)) x3.out (by decide) (by decide) (by decide) (by decide)).mono ?_
           rintro e w2 ⟨rfl, hk2, _⟩
           rw [h1'.out])
        | fail)
      go_ret
      exact ⟨ret_int hc.out.symm, fin2 hb1 hk2⟩
    | false =>
      have hc := Lib.hid (chk_no h0 h1)
      have h1' := Lib.hid h1
      clear h1
      go_enter Tryz.func30, Tryz.ntmps30
      go_wp2_with (first
        | (go_at_call 28
           rw [HW.out]
           refine (Check_any As l.length cs l W hS'.out hn ht'.out).mono ?_
           rintro e w1 ⟨rfl, hb1⟩
           rw [h0]
           have x0 := (cells_one ((hb1.block _ (by omega)).trans p0)).1
           obtain ⟨x1, x2, _, _⟩ := cells_two ((hb1.block _ (by omega)).trans p1)
           have x3 := Lib.hid ((hb1.block _ hWs).trans p2))
        | (go_at_call 50
           refine (termFits_any l t As A cs c 1 300 (w.heap.size + 1 + 1) w1 hf ((hS2.out.below (hb1.mono (by omega))).more (by omega)) hl64 ((hA2.out.blw (hb1.mono (by omega))).more (by omega)) x3.out (by decide) (by decide) (by decide) (by decide)).mono ?_
           rintro e w2 ⟨rfl, hk2, _⟩
           rw [h1'.out])
        | fail)
      go_ret
      exact ⟨ret_int hc.out.symm, fin2 hb1 hk2⟩
  · have hc := Lib.hid (chk_sig (t := t) h0)
    go_enter Tryz.func30, Tryz.ntmps30
    go_wp2_with (first
      | (go_at_call 28
         rw [HW.out]
         refine (Check_any As l.length cs l W hS'.out hn ht'.out).mono ?_
         rintro e w1 ⟨rfl, hb1⟩)
      | fail)
    go_ret
    exact ⟨ret_int hc.out.symm, fin hb1⟩
end Go.Proofs.YthgglobfkkcdgaaGreatDoor
namespace Go.Proofs.YthgglobfkkcdgaaGreatDoor
open Go Go.RowKit
set_option maxRecDepth 100000
mutual
theorem over_hds (l : List Sm) : ∀ (t : Tm) (top : Bool), lowT t = true → overT l t top = true → ∀ f ∈ hdsT t, f < (l.length : Int)
  | .node f xs, top, h1, h2, g, hg => by
    rw [hdsT] at hg
    by_cases hf : f < 0
    · simp only [lowT, if_pos hf, decide_eq_true_eq] at h1
      have hx : xs = [] := List.eq_nil_of_length_eq_zero h1.2
      subst hx
      simp only [hdsL, List.mem_cons, List.not_mem_nil, or_false] at hg
      omega
    · simp only [lowT, if_neg hf] at h1
      cases hs : l[f.toNat]? with
      | none => rw [over_out hf (by have := List.getElem?_eq_none_iff.1 hs; omega)] at h2; cases h2
      | some s =>
        have hlt := (List.getElem?_eq_some_iff.1 hs).1
        by_cases hb : s.arity ≠ xs.length ∨ (s.pred = true ∧ top = false)
        · rw [over_bad hf hs hb] at h2; cases h2
        · rw [over_in hf hs hb] at h2
          rcases List.mem_cons.1 hg with rfl | hg
          · omega
          · exact overL_hds l xs h1 h2 g hg
theorem overL_hds (l : List Sm) : ∀ (xs : List Tm), lowL xs = true → overL l xs = true → ∀ f ∈ hdsL xs, f < (l.length : Int)
  | [], _, _, g, hg => by simp only [hdsL, List.not_mem_nil] at hg
  | t :: ts, h1, h2, g, hg => by
    simp only [lowL, overL, Bool.and_eq_true] at h1 h2
    rw [hdsL] at hg
    rcases List.mem_append.1 hg with hg | hg
    · exact over_hds l t false h1.1 h2.1 g hg
    · exact overL_hds l ts h1.2 h2.2 g hg
end
theorem chk_zero' {l : List Sm} {t : Tm} (h : chkT l t = 0) : checkI l = 0 ∧ (fitT l t 1 300).1 = true := by
  unfold chkT at h
  by_cases h0 : checkI l = 0
  · rw [if_neg (by omega)] at h
    refine ⟨h0, ?_⟩
    cases hb : (fitT l t 1 300).1 with
    | true => rfl
    | false => rw [hb] at h; simp at h
  · rw [if_pos h0] at h; cases h
theorem chk_like {l : List Sm} {t : Tm} (h : chkT l t = 0) : t.size ≤ 300 ∧ t.depth ≤ 30 ∧ (∀ f ∈ hdsT t, f < (l.length : Int)) := by
  obtain ⟨_, h1⟩ := chk_zero' h
  obtain ⟨a, b, c, d⟩ := (fitp_iff l t 1 300 (by decide)).1 h1
  exact ⟨by omega, by omega, over_hds l t true c (by simpa using d)⟩
def okI (l : List Sm) (ts : List Tm) : Bool := ts.all fun t => decide (chkT l t = 0)
theorem okI_mem {l : List Sm} {ts : List Tm} (h : okI l ts = true) {t : Tm} (ht : t ∈ ts) : chkT l t = 0 := of_decide_eq_true (List.all_eq_true.1 h t ht)
theorem okI_append (l : List Sm) (xs ys : List Tm) : okI l (xs ++ ys) = (okI l xs && okI l ys) := List.all_append
theorem okI_snoc {l : List Sm} {xs : List Tm} {t : Tm} (h : okI l xs = true) (ht : chkT l t = 0) : okI l (xs ++ [t]) = true := by
  rw [okI_append, h]; simp [okI, ht]
theorem okI_pre {l : List Sm} {xs ys : List Tm} (h : xs <+: ys) (hn : okI l xs = false) : okI l ys = false := by
  obtain ⟨zs, rfl⟩ := h
  rw [okI_append, hn]; rfl
theorem okI_bad {l : List Sm} {xs : List Tm} {t : Tm} (ht : chkT l t ≠ 0) : okI l (xs ++ [t]) = false := by
  rw [okI_append]; simp [okI, ht]
def cntNo (l : List Sm) (cs : List (List Lp)) : Bool := !(decide (checkI l = 0) && okI l (itms cs))
def cntN (l : List Sm) (cs : List (List Lp)) : List Int := cntC (List.replicate l.length 0) (hdsL (itms cs))
theorem cntN_len (l : List Sm) (cs : List (List Lp)) : (cntN l cs).length = l.length := by unfold cntN; rw [cntC_len]; simp
theorem hdsL_snoc (xs : List Tm) (t : Tm) : hdsL (xs ++ [t]) = hdsL xs ++ hdsT t := by rw [hdsL_append]; simp [hdsL]
theorem hdsL_small {l : List Sm} : ∀ {ts : List Tm}, okI l ts = true → (hdsL ts).length ≤ 300 * ts.length
  | [], _ => by simp [hdsL]
  | t :: ts, h => by
    have h1 := okI_mem h (List.mem_cons_self ..)
    have h2 : okI l ts = true := by unfold okI at h ⊢; rw [List.all_cons, Bool.and_eq_true] at h; exact h.2
    have := hdsL_small h2
    have hs := (chk_like h1).1
    rw [hdsL, List.length_append, hdsT_len, List.length_cons]
    omega
theorem zeros_ok (m : Nat) : ∀ x ∈ List.replicate m (0 : Int), 0 ≤ x ∧ x ≤ 0 := by
  intro x hx
  have := List.eq_of_mem_replicate hx
  omega
theorem cnt_small {l : List Sm} {ts : List Tm} (h : okI l ts = true) (m : Nat) (hs : List Int) : ∀ x ∈ cntC (List.replicate m 0) (hdsL ts ++ hs), 0 ≤ x ∧ x ≤ 300 * ts.length + hs.length := by
  intro x hx
  have := cntC_le (hdsL ts ++ hs) (zeros_ok m) (Int.le_refl 0) x hx
  have := hdsL_small h
  rw [List.length_append] at *
  omega
end Go.Proofs.YthgglobfkkcdgaaGreatDoor
namespace Go.Proofs.YthgglobfkkcdgaaGreatDoor
open Go.RowKit
theorem chk_scan {l : List Sm} (h : scanI l = 0) : ∀ j, 1 ≤ j → j < l.length → errAt l j = 0 := by
  unfold scanI at h
  split at h
  · rename_i j hj
    have := List.find?_some hj
    simp [h] at this
  · rename_i hn
    rw [List.find?_eq_none] at hn
    intro j h1 h2
    have := hn j (List.mem_range.2 h2)
    simpa [h1] using this
theorem chk_one {l : List Sm} (h : checkI l = 0) : l.length ≤ 96 ∧ l[0]? = some truthSm ∧ ∀ i x, 1 ≤ i → l[i]? = some x → namedB x.name = true ∧ 0 ≤ x.arity ∧ x.arity ≤ 6 := by
  unfold checkI at h
  split at h
  · cases h
  · rename_i h96
    split at h
    · cases h
    · rename_i h0
      have hs := chk_scan h
      refine ⟨by omega, Classical.not_not.1 h0, fun i x h1 hx => ?_⟩
      have := hs i h1 (List.getElem?_eq_some_iff.1 hx).1
      unfold errAt at this
      rw [hx] at this
      simp only at this
      have h1 : oneI x.name x.arity = 0 := by
        split at this
        · assumption
        · rename_i hz; simpa using hz
      unfold oneI at h1
      split at h1
      · cases h1
      · rename_i hn
        split at h1
        · cases h1
        · rename_i hr
          exact ⟨by simpa using hn, by omega, by omega⟩
end Go.Proofs.YthgglobfkkcdgaaGreatDoor
namespace Go.Proofs.YthgglobfkkcdgaaGreatDoor
open Go Go.RowKit Go.Shelf
set_option maxRecDepth 100000
theorem chkO_eq (l : List Sm) (o : Odr) : chkO l o = if checkI l = 0 ∧ rankB o.prec l.length = true ∧ (o.lpo = true ∨ wghB l o = true) then 0 else 2 := by
  unfold chkO wghB
  by_cases h : checkI l = 0 ∧ rankB o.prec l.length = true ∧ (o.lpo = true ∨ (o.wts.length = l.length ∧ 1 ≤ o.var ∧ o.var ≤ 1000 ∧ o.wts.getD 0 0 = o.var ∧ chkW l o = true))
  · rw [if_pos h, if_pos ⟨h.1, h.2.1, h.2.2.imp id decide_eq_true⟩]
  · rw [if_neg h, if_neg (fun e => h ⟨e.1, e.2.1, e.2.2.imp id of_decide_eq_true⟩)]
end Go.Proofs.YthgglobfkkcdgaaGreatDoor
namespace Go.Proofs.YthgglobfkkcdgaaGreatDoor
open Go Go.RowKit Go.Shelf
attribute [local go_sem] Oper.semAt_some
set_option maxRecDepth 100000
theorem truthN (f : Int) (n c : Nat) (A : Option Addr) (w : World) :
    Calls Tryz.prog 49 #[.agg #[.int .i64 f, .slice A n c]] w fun e w' => e = .returned (.bool (decide (f = 0 ∧ n = 0))) ∧ Below w.heap.size w w' := by
  have hB : Below w.heap.size w (w.alloc (.cells #[.int .i64 f, .slice A n c] 32)) := (Below.refl _ _).alloc (Nat.le_refl _) _
  by_cases h0 : f = 0
  · subst h0
    by_cases h1 : n = 0
    · subst h1
      go_enter Tryz.func49, Tryz.ntmps49
      go_wp2
      go_ret
      exact ⟨ret_bool (by simp), hB⟩
    · have g1 : ((n : Int) == 0) = false := by simp; omega
      have g2 : (n == 0) = false := by simpa using h1
      have hf := Lib.hid h1
      clear h1
      go_enter Tryz.func49, Tryz.ntmps49
      go_wp2
      go_ret
      exact ⟨ret_bool (by simp [hf.out]), hB⟩
  · have g1 : (f == 0) = false := by simpa using h0
    have hf := Lib.hid h0
    clear h0
    go_enter Tryz.func49, Tryz.ntmps49
    go_wp2
    go_ret
    exact ⟨ret_bool (by simp [hf.out]), hB⟩
theorem truth_yes {t : Tm} (h : trueB t = true) (A : Option Addr) (c : Nat) (w : World) : Calls Tryz.prog 49 #[.agg #[.int .i64 t.fn, .slice A t.args.length c]] w fun e w' => e = .returned (.bool true) ∧ Below w.heap.size w w' := by
  have := truthN t.fn t.args.length c A w
  rwa [show decide (t.fn = 0 ∧ t.args.length = 0) = true from h] at this
theorem truth_no {t : Tm} (h : trueB t = false) (A : Option Addr) (c : Nat) (w : World) : Calls Tryz.prog 49 #[.agg #[.int .i64 t.fn, .slice A t.args.length c]] w fun e w' => e = .returned (.bool false) ∧ Below w.heap.size w w' := by
  have := truthN t.fn t.args.length c A w
  rwa [show decide (t.fn = 0 ∧ t.args.length = 0) = false from h] at this
theorem counted_any (A : Option Addr) (n c : Nat) (w : World) : Calls Tryz.prog 29 #[.slice A n c] w fun e w' => e = .returned (.func (.func 48) #[] #[.pointer (some ⟨w.heap.size, 0, none⟩)]) ∧ w' = w.alloc (.cells #[.slice A n c] 25) := by
  go_enter Tryz.func29, Tryz.ntmps29
  go_wp2
  go_ret
  exact ⟨rfl, rfl⟩
theorem cells5s {W : World} {b : Nat} {x y z u v : Value} {t : TypeId} (h : W.heap[b]? = some (.cells #[x, y, z, u, v] t)) : W.cell? ⟨b, 0, none⟩ = some x ∧ W.cell? ⟨b, 1, none⟩ = some y ∧ W.cell? ⟨b, 2, none⟩ = some z ∧ W.cell? ⟨b, 3, none⟩ = some u ∧ W.cell? ⟨b, 4, none⟩ = some v := by
  refine ⟨?_, ?_, ?_, ?_, ?_⟩ <;> simp [World.cell?, h]
theorem undef_no (b : Bool) (h : some undef = some (Value.bool b)) : False := by
  simp [undef] at h
set_option maxHeartbeats 4000000 in
theorem counted1_seq (m B : Nat) (cs : List (List Lp)) (A : Option Addr) (c : Nat) (N : Nat → Prop) (w0 : World) (hb : w0.heap[B]? = some (.cells #[.slice A cs.length c] 25)) (hC : ClRow w0 N A cs) (hN : ∀ g, N g → g < w0.heap.size) :
    SeqC Fence.wide m Tryz.prog 48 #[.pointer (some ⟨B, 0, none⟩)] tmEnc (TmFx N) N (fun xs => xs.map TmA.t = itms cs) (fun pre => pre.map TmA.t <+: itms cs) w0 := by
  intro lp C J Jx W hW hJ hB hY h0
  have hBl : B < w0.heap.size := (Array.getElem?_eq_some_iff.1 hb).1
  have hbW : W.cell? ⟨B, 0, none⟩ = some (.slice A cs.length c) := (cells_one ((hW.block B hBl).trans hb)).1
  have hNW : ∀ g, N g → g < W.heap.size := fun g e => Nat.lt_of_lt_of_le (hN g e) hW.size
  have HC := Lib.hid (hC.to (w' := W) (M := N) (fun g e => hW.block g (hN g e)) fun _ e => e)
  have hcl := hC.len
  clear hb hC
  refine callsIn_of_wp Tryz.func48 rfl trivial ?_ rfl
  simp only [Tryz.ntmps48, List.size_toArray, List.length_cons, List.length_nil, Nat.reduceAdd, Nat.reduceSub, Array.replicate_succ, Array.replicate_zero, List.push_toArray, List.append_toArray, List.nil_append, List.cons_append]
  gi_wp2
  clear hbW
  gi_loopw [9] (fun i wr => ∃ (k : Nat) (pre : List TmA), k ≤ cs.length ∧ i = .int .i64 (k : Int) ∧ Hid (pre.map TmA.t = itms (cs.take k)) ∧ J pre wr ∧ Hid (Keeps N W wr)) (fun i _ => cs.length - (intOf i).toNat)
  case atStart => exact ⟨0, [], Nat.zero_le _, rfl, Lib.hid rfl, h0, Lib.hid (Keeps.refl _ _)⟩
  case round =>
    obtain ⟨k, pre, hk, rfl, HP, hJr, HK⟩ := hrel
    by_cases hlt : k < cs.length
    · obtain ⟨l, hl⟩ : ∃ l, cs[k]? = some l := ⟨_, List.getElem?_eq_getElem hlt⟩
      obtain ⟨b, off, A1, c1, rfl, hNb, e0, hRow⟩ := HC.out.get hl
      have e1 := (cell_of_heap (HK.out.block b hNb)).trans e0
      have HL := Lib.hid hl
      have HRow := Lib.hid hRow
      have hll := hRow.len
      clear e0 hl hRow
      gi_wp2
      clear e1
      gi_loopw [15] (fun i wx => ∃ (j : Nat) (p2 : List TmA), j ≤ l.length ∧ i = .int .i64 (j : Int) ∧ Hid (p2.map TmA.t = itms (cs.take k) ++ itmL (l.take j)) ∧ J p2 wx ∧ Hid (Keeps N W wx)) (fun i _ => l.length - (intOf i).toNat)
      case atStart => exact ⟨0, pre, Nat.zero_le _, rfl, Lib.hid (by rw [HP.out]; simp [itmL]), hJr, HK⟩
      case round =>
        obtain ⟨j, p2, hj, rfl, HP2, hJ2, HK2⟩ := hrel
        by_cases hjl : j < l.length
        · obtain ⟨x, hx⟩ : ∃ x, l[j]? = some x := ⟨_, List.getElem?_eq_getElem hjl⟩
          obtain ⟨b2, off2, B1, d1, B2, d2, rfl, hNb2, hAt⟩ := HRow.out.get hx
          have kk := fun o v (h : W.cell? ⟨b2, o, none⟩ = some v) => (cell_of_heap (HK2.out.block b2 hNb2)).trans h
          have a0 := kk _ _ hAt.v0
          have a1 := kk _ _ hAt.v1
          have a2 := kk _ _ hAt.v2
          have a3 := kk _ _ hAt.v3
          have a4 := kk _ _ hAt.v4
          obtain ⟨W1, hW1⟩ : ∃ W1, wr.alloc (.cells #[.bool x.neg, .int .i64 x.l.fn, .slice B1 x.l.args.length d1, .int .i64 x.r.fn, .slice B2 x.r.args.length d2] 110) = W1 := ⟨_, rfl⟩
          have q0 : W1.heap[wr.heap.size]? = some (.cells #[.bool x.neg, .int .i64 x.l.fn, .slice B1 x.l.args.length d1, .int .i64 x.r.fn, .slice B2 x.r.args.length d2] 110) := by rw [← hW1]; exact heap_alloc_new _ _
          have hB1 : Below wr.heap.size wr W1 := by rw [← hW1]; exact (Below.refl _ _).alloc (Nat.le_refl _) _
          have hq := (Array.getElem?_eq_some_iff.1 q0).1
          have HW1 := Lib.hid hW1
          obtain ⟨hJ1, hC1⟩ := hJ p2 wr W1 hJ2 ((Keeps.of_below hB1).mono fun g e => hB p2 wr hJ2 g e)
          have hnC : ¬ C W1 wr.heap.size := fun e => Nat.lt_irrefl _ (hB p2 wr hJ2 _ (hC1 _ e))
          have hsw := HK2.out.size
          have hK1 : Keeps N W W1 := HK2.out.trans ((Keeps.of_below hB1).mono fun g e => Nat.lt_of_lt_of_le (hNW g e) hsw)
          have hmid := itms_mid HL.out hx
          have hnx := itmL_take hx
          have HX := Lib.hid (And.intro hmid hnx)
          have HAt := Lib.hid hAt
          have hsp1 : (p2 ++ [(⟨x.l, B1, d1⟩ : TmA)]).map TmA.t <+: itms cs := by
            rw [List.map_append, HP2.out]
            refine List.IsPrefix.trans ?_ hmid
            refine (List.prefix_append_right_inj _).2 ?_
            unfold itm
            split
            · exact List.prefix_refl _
            · exact ⟨[x.r], rfl⟩
          obtain ⟨fn, tmps, assign, body, hy, hR⟩ := hY (m - 1) p2 ⟨x.l, B1, d1⟩ W1 hJ1 hsp1 ⟨hAt.il, hAt.sl.keep fun g e => hK1.block g e⟩
          simp only [tmEnc] at hy
          obtain ⟨f0, f1, f2, f3, f4⟩ := cells5s q0
          have Hsp := Lib.hid hsp1
          have Q0 := Lib.hid q0
          have HKN := Lib.hid hK1
          clear hW1 hmid hnx hAt hsp1 hx q0 hK1 kk hJ1
          gi_upto_region 6 with fail
          rw [HW1.out]
          clear a0 a1 a2 a3 a4
          gi_wp2
          refine ⟨(fun h => by cases h), hR.mono ?_⟩
          clear hR hy
          rintro e W3 (⟨rfl, hJ3, hst⟩ | ⟨rfl, hJx3⟩)
          · have q3 := (hst.keeps.block _ (.inr ⟨hq, hnC⟩)).trans Q0.out
            obtain ⟨g0, g1, g2, g3, g4⟩ := cells5s q3
            have hK3 : Keeps N W W3 := HKN.out.trans (hst.keeps.mono fun g e => .inl e)
            have HJ3 := Lib.hid hJ3
            have HK3 := Lib.hid hK3
            clear f0 f1 f2 f3 f4 hst hJ3 hK3
            have hq3 : wr.heap.size < W3.heap.size := (Array.getElem?_eq_some_iff.1 q3).1
            have Q3 := Lib.hid q3
            clear q3
            cases hT : trueB x.r with
            | true =>
              have HT := Lib.hid (truth_yes hT B2 d2)
              have HE := Lib.hid (itm_yes hT)
              clear hT
              gi_wp2_with (first
                | ((refine ⟨trivial, (fun h => by cases h), ?_⟩); (with_reducible refine (callsIn_wide.2 (HT.out _)).mono ?_); go_must (rintro e w5 ⟨rfl, hb5⟩; have HB5 := Lib.hid hb5; clear hb5))
                | fail)
              refine ⟨(by simp), ?_⟩
              gi_wp2
              go_roundw
              case rel =>
                refine ⟨j + 1, _, by omega, by go_num, Lib.hid ?_, (hJ _ W3 w5 HJ3.out ((Keeps.of_below HB5.out).mono fun g e => hB _ W3 HJ3.out g e)).1, Lib.hid (HK3.out.trans ((Keeps.of_below HB5.out).mono fun g e => Nat.lt_of_lt_of_le (hNW g e) HK3.out.size))⟩
                rw [List.map_append, HP2.out, HX.out.2, HE.out, List.append_assoc]; rfl
              case measure => simp [intOf]; omega
            | false =>
              have HT := Lib.hid (truth_no hT B2 d2)
              have HE := Lib.hid (itm_no hT)
              clear hT
              have hnx : ∀ w5, Below W3.heap.size W3 w5 → Keeps N W w5 ∧ (p2 ++ [(⟨x.l, B1, d1⟩ : TmA)] ++ [(⟨x.r, B2, d2⟩ : TmA)]).map TmA.t <+: itms cs ∧ J (p2 ++ [(⟨x.l, B1, d1⟩ : TmA)]) w5 ∧ TmFx N ⟨x.r, B2, d2⟩ w5 := fun w5 hb5 => by
                have hK5 : Keeps N W w5 := HK3.out.trans ((Keeps.of_below hb5).mono fun g e => Nat.lt_of_lt_of_le (hNW g e) HK3.out.size)
                refine ⟨hK5, ?_, (hJ _ W3 w5 HJ3.out ((Keeps.of_below hb5).mono fun g e => hB _ W3 HJ3.out g e)).1, HAt.out.ir, HAt.out.sr.keep fun g e => hK5.block g e⟩
                rw [List.append_assoc, List.map_append, HP2.out]
                have h := HX.out.1
                rw [HE.out] at h
                exact h
              have HNX := Lib.hid hnx
              clear hnx
              gi_wp2_with (first
                | ((refine ⟨trivial, (fun h => by cases h), ?_⟩); (with_reducible refine (callsIn_wide.2 (HT.out _)).mono ?_); go_must (rintro e w5 ⟨rfl, hb5⟩; obtain ⟨i0, i1, i2, i3, i4⟩ := cells5s ((hb5.block _ hq3).trans Q3.out); obtain ⟨hK5, hsp2, hJ5, hF5⟩ := HNX.out w5 hb5; obtain ⟨fn, tmps, assign, body, hy, hR⟩ := hY (m - 1) _ ⟨x.r, B2, d2⟩ w5 hJ5 hsp2 hF5; simp only [tmEnc] at hy; have HK5 := Lib.hid hK5; have Hsp2 := Lib.hid hsp2; clear hK5 hsp2 hb5 g0 g1 g2 g3 g4 hJ5 hF5))
                | fail)
              refine ⟨(fun h => by cases h), hR.mono ?_⟩
              clear hR hy
              rintro e W6 (⟨rfl, hJ6, hst⟩ | ⟨rfl, hJx6⟩)
              · have HJ6 := Lib.hid hJ6
                have HK6 := Lib.hid (HK5.out.trans (hst.keeps.mono fun g e => .inl e))
                clear hst hJ6 i0 i1 i2 i3 i4
                gi_wp2
                go_roundw
                case rel =>
                  refine ⟨j + 1, _, by omega, by go_num, Lib.hid ?_, HJ6.out, HK6⟩
                  rw [List.append_assoc, List.map_append, HP2.out, HX.out.2, HE.out, List.append_assoc]; rfl
                case measure => simp [intOf]; omega
              · clear i0 i1 i2 i3 i4
                gi_wp2
                refine bodyPost_ret (results_none rfl _ _ _) rfl ?_
                exact ⟨⟨_, rfl⟩, .inr ⟨_, Hsp2.out, hJx6⟩⟩
          · clear f0 f1 f2 f3 f4
            gi_wp2
            refine ⟨trivial, ?_⟩
            gi_wp2
            all_goals first
              | exact (undef_no _ (by assumption)).elim
              | (refine ⟨(by simp), ?_⟩
                 gi_wp2
                 refine bodyPost_ret (results_none rfl _ _ _) rfl ?_
                 exact ⟨⟨_, rfl⟩, .inr ⟨_, Hsp.out, hJx3⟩⟩)
        · obtain rfl : j = l.length := by omega
          rw [List.take_length, ← itms_take HL.out] at HP2
          gi_wp2
          go_roundw
          case rel => exact ⟨k + 1, p2, by omega, by go_num, HP2, hJ2, HK2⟩
          case measure => simp [intOf]; omega
    · obtain rfl : k = cs.length := by omega
      gi_wp2
      go_end0
      exact ⟨⟨_, rfl⟩, .inl ⟨pre, by rw [HP.out, List.take_length], hJr⟩⟩
end Go.Proofs.YthgglobfkkcdgaaGreatDoor
namespace Go.Proofs.YthgglobfkkcdgaaGreatDoor
open Go Go.RowKit Go.Shelf
attribute [local go_sem] Oper.semAt_some
set_option maxRecDepth 100000
section
variable {F : Fence} {n : Nat} {P : Program} {α : Type}
theorem range_lawH {g : Operand} {ps : Array Tmp} {assign body : Code} {Q : Exit → Act → World → Prop} {a : Act} {w : World}
    (hro : F.round = none) (hd : F.depth = none) {gf : Nat} {lb : Array Value} (hg : a.eval g = .func (.func gf) #[] lb) (hFg : F.fn gf) (eg : ∀ args w, (callFunc gf args).run P w = .ok (.enter gf args) w)
    {encs : α → Array Value} {Fx : α → World → Prop} {N : Nat → Prop} {S Sp : List α → Prop} {w0 : World} (hseq : ∀ m, SeqD F m P gf lb encs Fx N S Sp w0) (hb0 : Below w0.heap.size w0 w) (hps : ∀ x, (encs x).size = ps.size) (hN : ∀ g, N g → g < w.heap.size)
    (C : World → Nat → Prop) (I : List α → World → Prop) (Ix : Code → List α → World → Prop) (hI : FrameC C I) (hbd : BoundC C I) (hIx : ∀ c, FrameC C (Ix c))
    (h0 : I [] w) (Ax : List α → α → Act → World → Prop)
    (hAx : ∀ pre x a' W l r o, Ax pre x a' W → w.heap.size ≤ l → W.heap[l]? = some (.loop r) → ¬ C W l → (∀ g, C (W.putObj l o) g → C W g) ∧ Ax pre x a' (W.putObj l o))
    (hassign : ∀ (l m : Nat) (pre : List α) (x : α) (W : World) (K : Act → World → Prop), I pre W → Sp (pre ++ [x]) → Fx x W → (∀ a' W', Stp N C W W' → Ax pre x a' W' → K a' W') →
      assign.wpIn (F.inRound l) m P (Exit.then K (fun _ _ _ => False)) { tmps := (ps.zip (encs x)).foldl (fun t (p, v) => t.setIfInBounds p v) a.tmps, defers := [] } W)
    (hbody : ∀ (l m : Nat) (pre : List α) (x : α) (a' : Act) (W : World), w.heap.size ≤ l → (∃ r, W.heap[l]? = some (.loop r)) → ¬ C W l → Sp (pre ++ [x]) → Ax pre x a' W → body.wpIn (F.inRound l) m P (bodyC N C I Ix (pre ++ [x]) W) a' W)
    (hdone : ∀ (D : Nat) (xs : List α) (W : World), w.heap.size ≤ D → S xs → I xs W → ¬ C W D → W.heap[D]? = some (.deferred (some [])) → Q .normal { a with defers := { target := .collected D, args := #[] } :: a.defers } W)
    (hstop : ∀ (D : Nat) (c : Code) (pre : List α) (W : World), w.heap.size ≤ D → Sp pre → Ix c pre W → ¬ C W D → W.heap[D]? = some (.deferred (some [])) → c.wpIn F n P Q { a with defers := { target := .collected D, args := #[] } :: a.defers } W) :
    (Code.rangeFunc g ps assign body).wpIn F n P Q a w := by
  refine wpIn_rangeFunc fun fn hfn => ?_
  rw [hro]
  have hdd : ∀ k : Nat, F.depth.isSome = true → 1 ≤ k := fun k h => by rw [hd] at h; cases h
  obtain ⟨d, hd0⟩ : ∃ d, d = w.heap.size := ⟨_, rfl⟩
  obtain ⟨rec, hrec⟩ : ∃ rec : LoopState → Option Code → Loop, rec = fun st pe => { state := st, pending := pe, fn, tmps := a.tmps, params := ps, assign, body, defers := w.heap.size } := ⟨_, rfl⟩
  obtain ⟨W1, hW1⟩ : ∃ W1, (w.alloc (.deferred (some []))).alloc (.loop (rec .ready none)) = W1 := ⟨_, rfl⟩
  have hl1 : W1.heap[d + 1]? = some (.loop (rec .ready none)) := by
    rw [← hW1, hd0, show w.heap.size + 1 = (w.alloc (.deferred (some []))).heap.size by simp]; exact World.alloc_heap_new _ _
  have hk1 : W1.heap[d]? = some (.deferred (some [])) := by rw [← hW1, hd0]; exact (Below.heap_alloc _ _ _ (by simp)).trans (World.alloc_heap_new w _)
  have hBw : Below w.heap.size w W1 := by rw [← hW1]; exact ((Below.refl _ w).alloc (Nat.le_refl _) _).alloc (by simp) _
  have hIw := hI [] w W1 h0 ((Keeps.of_below hBw).mono fun g e => hbd [] w h0 g e)
  have hbw : ∀ g, C W1 g → g < w.heap.size := fun g e => hbd [] w h0 g (hIw.2 g e)
  have hNd : ∀ g, N g → g < d := fun g e => by rw [hd0]; exact hN g e
  let CJ : World → Nat → Prop := fun W g => C W g ∨ g = d + 1 ∨ g = d
  let J : List α → World → Prop := fun pre W => I pre W ∧ (W.heap[d + 1]? = some (.loop (rec .ready none)) ∧ W.heap[d]? = some (.deferred (some []))) ∧ ¬ C W (d + 1) ∧ ¬ C W d
  let Jx : List α → World → Prop := fun pre W => ∃ c, Ix c pre W ∧ (W.heap[d + 1]? = some (.loop (rec .done (some c))) ∧ W.heap[d]? = some (.deferred (some []))) ∧ ¬ C W (d + 1) ∧ ¬ C W d
  have hJF : FrameC CJ J := by
    rintro s A B ⟨h1, ⟨h2, h3⟩, h4, h5⟩ hk
    have hi := hI s A B h1 (hk.mono fun g e => .inl e)
    exact ⟨⟨hi.1, ⟨(hk.block _ (.inr (.inl rfl))).trans h2, (hk.block _ (.inr (.inr rfl))).trans h3⟩, fun e => h4 (hi.2 _ e), fun e => h5 (hi.2 _ e)⟩, fun g e => e.elim (fun e => .inl (hi.2 g e)) .inr⟩
  have hJxF : FrameC CJ Jx := by
    rintro s A B ⟨cd, h1, ⟨h2, h3⟩, h4, h5⟩ hk
    have hi := hIx cd s A B h1 (hk.mono fun g e => .inl e)
    exact ⟨⟨cd, hi.1, ⟨(hk.block _ (.inr (.inl rfl))).trans h2, (hk.block _ (.inr (.inr rfl))).trans h3⟩, fun e => h4 (hi.2 _ e), fun e => h5 (hi.2 _ e)⟩, fun g e => e.elim (fun e => .inl (hi.2 g e)) .inr⟩
  have hJB : BoundC CJ J := by
    rintro s A ⟨h1, ⟨h2, h3⟩, _, _⟩ g (e | rfl | rfl)
    · exact hbd s A h1 g e
    · exact (Array.getElem?_eq_some_iff.1 h2).1
    · exact (Array.getElem?_eq_some_iff.1 h3).1
  refine ⟨d + 1, [{ target := .collected d, args := #[] }], W1, { target := .fn (.func gf) lb, args := #[.func (.yield (d + 1)) #[] #[]] }, W1, gf, #[.func (.yield (d + 1)) #[] #[]] ++ lb, W1, ?_, ?_, ?_, ?_, fun h => hdd _ h, ?_⟩
  · rw [← hW1, hrec, hd0]; exact run_enterLoop_outer _ _ _ _ _
  · simp only [resolve, hg]
    simp [go_sem]
  · intro f' hf'; simp [Target.leads] at hf'; subst hf'; exact hFg
  · simp [invoke, go_sem, eg]
  · refine (hseq _ (d + 1) CJ J Jx W1 (hb0.trans (hBw.mono hb0.size)) hJF hJB hJxF ?_ ⟨hIw.1, ⟨hl1, hk1⟩, fun e => ?_, fun e => ?_⟩).mono ?_
    · -- one round
      rintro m pre x W ⟨hi, ⟨hl, hk⟩, hnl, hnd⟩ hsp hfx
      have hy := run_yield (P := P) (args := encs x) hl (by rw [hrec]; exact hps x)
      rw [hrec] at hy
      refine ⟨fn, _, assign, body, hy, roundIn_of_wpIn hfn (hassign _ m pre x W _ hi hsp hfx ?_)⟩
      clear hy
      intro a' Wa hst hax
      have hlW : d + 1 < W.heap.size := (Array.getElem?_eq_some_iff.1 hl).1
      have hla : Wa.heap[d + 1]? = some (.loop (rec .ready none)) := (hst.keeps.block _ (.inr ⟨hlW, hnl⟩)).trans hl
      have hka : Wa.heap[d]? = some (.deferred (some [])) := (hst.keeps.block _ (.inr ⟨by omega, hnd⟩)).trans hk
      have hnla : ¬ C Wa (d + 1) := fun e => (hst.grows _ e).elim hnl (fun e => by omega)
      have hnda : ¬ C Wa d := fun e => (hst.grows _ e).elim hnd (fun e => by omega)
      have hla1 : d + 1 < Wa.heap.size := (Array.getElem?_eq_some_iff.1 hla).1
      refine ⟨_, run_beginRound hla (by rw [hrec]), ?_⟩
      obtain ⟨hgr, hax2⟩ := hAx pre x a' Wa (d + 1) _ (.loop { rec .ready none with state := .busy }) hax (by omega) hla hnla
      obtain ⟨Wb, hWb⟩ : ∃ Wb, Wa.putObj (d + 1) (.loop { rec .ready none with state := .busy }) = Wb := ⟨_, rfl⟩
      have hlb : Wb.heap[d + 1]? = some (.loop { rec .ready none with state := .busy }) := by rw [← hWb]; exact World.putObj_heap_same hla1
      have hkb : Wb.heap[d]? = some (.deferred (some [])) := by rw [← hWb]; exact (World.putObj_heap_other (by omega)).trans hka
      have hKab : Keeps (· ≠ d + 1) Wa Wb := by rw [← hWb]; exact Keeps.put _ _ _
      rw [hWb] at hgr hax2 ⊢
      have hnlb : ¬ C Wb (d + 1) := fun e => hnla (hgr _ e)
      have hndb : ¬ C Wb d := fun e => hnda (hgr _ e)
      refine wpIn_mono (hbody _ m pre x a' Wb (by omega) ⟨_, hlb⟩ hnlb hsp hax2) ?_
      have hszb : Wa.heap.size ≤ Wb.heap.size := hKab.size
      have fin : ∀ (jump : Option Code) (W3 : World), Stp N C Wb W3 →
          (Instr.endRound (d + 1) jump).run P W3 = .ok (.bool jump.isNone) (W3.putObj (d + 1) (.loop (rec (if jump.isNone then .ready else .done) jump))) ∧
          (W3.putObj (d + 1) (.loop (rec (if jump.isNone then .ready else .done) jump))).heap[d + 1]? = some (.loop (rec (if jump.isNone then .ready else .done) jump)) ∧
          (W3.putObj (d + 1) (.loop (rec (if jump.isNone then .ready else .done) jump))).heap[d]? = some (.deferred (some [])) ∧ ¬ C W3 (d + 1) ∧ ¬ C W3 d := fun jump W3 h3 => by
        have hl3 : W3.heap[d + 1]? = some (.loop { rec .ready none with state := .busy }) := (h3.keeps.block _ (.inr ⟨by omega, hnlb⟩)).trans hlb
        have hk3 : W3.heap[d]? = some (.deferred (some [])) := (h3.keeps.block _ (.inr ⟨by omega, hndb⟩)).trans hkb
        have := run_endRound (P := P) jump hl3
        rw [hrec] at this ⊢
        exact ⟨this, World.putObj_heap_same (Array.getElem?_eq_some_iff.1 hl3).1, (World.putObj_heap_other (by omega)).trans hk3, fun e => (h3.grows _ e).elim hnlb (fun e => by omega), fun e => (h3.grows _ e).elim hndb (fun e => by omega)⟩
      have stp4 : ∀ (o : Obj) (W3 : World), Stp N C Wb W3 → (∀ g, C (W3.putObj (d + 1) o) g → C W3 g) → Stp N CJ W (W3.putObj (d + 1) o) := fun o W3 h3 hg4 => by
        refine ⟨?_, ?_⟩
        · refine (hst.keeps.mono fun g hg => ?_).trans ((hKab.mono fun g hg => ?_).trans ((h3.keeps.mono fun g hg => ?_).trans ((Keeps.put W3 (d + 1) _).mono fun g hg => ?_)))
          · exact hg.elim .inl fun hg => .inr ⟨hg.1, fun e => hg.2 (.inl e)⟩
          · exact hg.elim (fun e => by have := hNd _ e; omega) fun hg e => hg.2 (.inr (.inl e))
          · exact hg.elim .inl fun hg => .inr ⟨by have := hst.keeps.size; omega, fun e => (hst.grows g (hgr g e)).elim (fun e => hg.2 (.inl e)) (fun e => by omega)⟩
          · exact hg.elim (fun e => by have := hNd _ e; omega) fun hg e => hg.2 (.inr (.inl e))
        · rintro g (e | e)
          · rcases h3.grows g (hg4 g e) with e | e
            · rcases hst.grows g (hgr g e) with e | e
              · exact .inl (.inl e)
              · exact .inr e
            · exact .inr (Nat.le_trans hst.keeps.size (Nat.le_trans hszb e))
          · exact .inl (.inr e)
      rintro e a3 W3 hp
      cases e with
      | normal =>
        obtain ⟨hi3, h3⟩ := hp
        obtain ⟨hr, hl4, hk4, hn4, hm4⟩ := fin none W3 h3
        obtain ⟨hi4, hg4⟩ := hI _ W3 _ hi3 ((Keeps.put W3 (d + 1) (.loop (rec (if (none : Option Code).isNone then .ready else .done) none))).mono fun g e he => hn4 (he ▸ e))
        exact ⟨_, _, hr, .inl ⟨rfl, ⟨hi4, ⟨hl4, hk4⟩, fun e => hn4 (hg4 _ e), fun e => hm4 (hg4 _ e)⟩, stp4 _ W3 h3 hg4⟩⟩
      | ret =>
        obtain ⟨hi3, h3⟩ := hp
        obtain ⟨hr, hl4, hk4, hn4, hm4⟩ := fin (some .ret) W3 h3
        have hK4 := (Keeps.put W3 (d + 1) (.loop (rec (if (some Code.ret).isNone then .ready else .done) (some .ret)))).mono (T := C W3) fun g e he => hn4 (he ▸ e)
        exact ⟨_, _, hr, .inr ⟨rfl, ⟨.ret, (hIx _ _ W3 _ hi3 hK4).1, ⟨hl4, hk4⟩, fun e => hn4 ((hIx _ _ W3 _ hi3 hK4).2 _ e), fun e => hm4 ((hIx _ _ W3 _ hi3 hK4).2 _ e)⟩, stp4 _ W3 h3 (hIx _ _ W3 _ hi3 hK4).2⟩⟩
      | exit id =>
        obtain ⟨hi3, h3⟩ := hp
        obtain ⟨hr, hl4, hk4, hn4, hm4⟩ := fin (some (.exit id)) W3 h3
        have hK4 := (Keeps.put W3 (d + 1) (.loop (rec (if (some (Code.exit id)).isNone then .ready else .done) (some (.exit id))))).mono (T := C W3) fun g e he => hn4 (he ▸ e)
        exact ⟨_, _, hr, .inr ⟨rfl, ⟨.exit id, (hIx _ _ W3 _ hi3 hK4).1, ⟨hl4, hk4⟩, fun e => hn4 ((hIx _ _ W3 _ hi3 hK4).2 _ e), fun e => hm4 ((hIx _ _ W3 _ hi3 hK4).2 _ e)⟩, stp4 _ W3 h3 (hIx _ _ W3 _ hi3 hK4).2⟩⟩
      | goto t =>
        obtain ⟨hi3, h3⟩ := hp
        obtain ⟨hr, hl4, hk4, hn4, hm4⟩ := fin (some (.goto t)) W3 h3
        have hK4 := (Keeps.put W3 (d + 1) (.loop (rec (if (some (Code.goto t)).isNone then .ready else .done) (some (.goto t))))).mono (T := C W3) fun g e he => hn4 (he ▸ e)
        exact ⟨_, _, hr, .inr ⟨rfl, ⟨.goto t, (hIx _ _ W3 _ hi3 hK4).1, ⟨hl4, hk4⟩, fun e => hn4 ((hIx _ _ W3 _ hi3 hK4).2 _ e), fun e => hm4 ((hIx _ _ W3 _ hi3 hK4).2 _ e)⟩, stp4 _ W3 h3 (hIx _ _ W3 _ hi3 hK4).2⟩⟩
      | panic ch => exact hp.elim
      | outgrown => exact hp.elim
    · have := hbw _ e; omega
    · have := hbw _ e; omega
    · -- behind the iterator
      rintro e W2 ⟨⟨v, rfl⟩, (⟨xs, hS, hi, ⟨hl, hk⟩, hnl, hnd⟩ | ⟨pre, hSp, c, hi, ⟨hl, hk⟩, hnl, hnd⟩)⟩
      · refine ⟨none, _, by have := run_endLoop (P := P) hl (by rw [hrec]; simp); rw [hrec] at this; exact this, hdone d xs _ (by omega) hS ?_ (fun e => hnd ((hI xs W2 _ hi ((Keeps.put W2 (d + 1) _).mono fun g e he => hnl (he ▸ e))).2 _ e)) ((World.putObj_heap_other (by omega)).trans hk)⟩
        exact (hI xs W2 _ hi ((Keeps.put W2 (d + 1) _).mono fun g e he => hnl (he ▸ e))).1
      · refine ⟨some c, _, by have := run_endLoop (P := P) hl (by rw [hrec]; simp); rw [hrec] at this; exact this, hstop d c pre _ (by omega) hSp ?_ (fun e => hnd ((hIx c pre W2 _ hi ((Keeps.put W2 (d + 1) _).mono fun g e he => hnl (he ▸ e))).2 _ e)) ((World.putObj_heap_other (by omega)).trans hk)⟩
        exact (hIx c pre W2 _ hi ((Keeps.put W2 (d + 1) _).mono fun g e he => hnl (he ▸ e))).1
theorem range_lawN {g : Operand} {ps : Array Tmp} {assign body : Code} {Q : Exit → Act → World → Prop} {a : Act} {w : World}
    {l₀ : Nat} {r₀ : Loop} (hro : F.round = some l₀) (hl₀ : w.heap[l₀]? = some (.loop r₀)) (hd : F.depth = none) {gf : Nat} {lb : Array Value} (hg : a.eval g = .func (.func gf) #[] lb) (hFg : F.fn gf) (eg : ∀ args w, (callFunc gf args).run P w = .ok (.enter gf args) w)
    {encs : α → Array Value} {Fx : α → World → Prop} {N : Nat → Prop} {S Sp : List α → Prop} {w0 : World} (hseq : ∀ m, SeqD F m P gf lb encs Fx N S Sp w0) (hb0 : Below w0.heap.size w0 w) (hps : ∀ x, (encs x).size = ps.size) (hN : ∀ g, N g → g < w.heap.size)
    (C : World → Nat → Prop) (I : List α → World → Prop) (Ix : Code → List α → World → Prop) (hI : FrameC C I) (hbd : BoundC C I) (hIx : ∀ c, FrameC C (Ix c))
    (h0 : I [] w) (Ax : List α → α → Act → World → Prop)
    (hAx : ∀ pre x a' W l r o, Ax pre x a' W → w.heap.size ≤ l → W.heap[l]? = some (.loop r) → ¬ C W l → (∀ g, C (W.putObj l o) g → C W g) ∧ Ax pre x a' (W.putObj l o))
    (hassign : ∀ (l m : Nat) (pre : List α) (x : α) (W : World) (K : Act → World → Prop), I pre W → Sp (pre ++ [x]) → Fx x W → (∀ a' W', Stp N C W W' → Ax pre x a' W' → K a' W') →
      assign.wpIn (F.inRound l) m P (Exit.then K (fun _ _ _ => False)) { tmps := (ps.zip (encs x)).foldl (fun t (p, v) => t.setIfInBounds p v) a.tmps, defers := [] } W)
    (hbody : ∀ (l m : Nat) (pre : List α) (x : α) (a' : Act) (W : World), w.heap.size ≤ l → (∃ r, W.heap[l]? = some (.loop r)) → ¬ C W l → Sp (pre ++ [x]) → Ax pre x a' W → body.wpIn (F.inRound l) m P (bodyC N C I Ix (pre ++ [x]) W) a' W)
    (hdone : ∀ (xs : List α) (W : World), S xs → I xs W → Q .normal a W)
    (hstop : ∀ (c : Code) (pre : List α) (W : World), Sp pre → Ix c pre W → c.wpIn F n P Q a W) :
    (Code.rangeFunc g ps assign body).wpIn F n P Q a w := by
  refine wpIn_rangeFunc fun fn hfn => ?_
  rw [hro]
  have hdd : ∀ k : Nat, F.depth.isSome = true → 1 ≤ k := fun k h => by rw [hd] at h; cases h
  obtain ⟨d, hd0⟩ : ∃ d, d = w.heap.size := ⟨_, rfl⟩
  obtain ⟨rec, hrec⟩ : ∃ rec : LoopState → Option Code → Loop, rec = fun st pe => { state := st, pending := pe, fn, tmps := a.tmps, params := ps, assign, body, defers := r₀.defers } := ⟨_, rfl⟩
  obtain ⟨W1, hW1⟩ : ∃ W1, w.alloc (.loop (rec .ready none)) = W1 := ⟨_, rfl⟩
  have hl1 : W1.heap[d]? = some (.loop (rec .ready none)) := by
    rw [← hW1, hd0]; exact World.alloc_heap_new _ _
  have hBw : Below w.heap.size w W1 := by rw [← hW1]; exact (Below.refl _ w).alloc (Nat.le_refl _) _
  have hIw := hI [] w W1 h0 ((Keeps.of_below hBw).mono fun g e => hbd [] w h0 g e)
  have hbw : ∀ g, C W1 g → g < w.heap.size := fun g e => hbd [] w h0 g (hIw.2 g e)
  have hNd : ∀ g, N g → g < d := fun g e => by rw [hd0]; exact hN g e
  let CJ : World → Nat → Prop := fun W g => C W g ∨ g = d
  let J : List α → World → Prop := fun pre W => I pre W ∧ W.heap[d]? = some (.loop (rec .ready none)) ∧ ¬ C W d
  let Jx : List α → World → Prop := fun pre W => ∃ c, Ix c pre W ∧ W.heap[d]? = some (.loop (rec .done (some c))) ∧ ¬ C W d
  have hJF : FrameC CJ J := by
    rintro s A B ⟨h1, h2, h4⟩ hk
    have hi := hI s A B h1 (hk.mono fun g e => .inl e)
    exact ⟨⟨hi.1, (hk.block _ (.inr rfl)).trans h2, fun e => h4 (hi.2 _ e)⟩, fun g e => e.elim (fun e => .inl (hi.2 g e)) .inr⟩
  have hJxF : FrameC CJ Jx := by
    rintro s A B ⟨cd, h1, h2, h4⟩ hk
    have hi := hIx cd s A B h1 (hk.mono fun g e => .inl e)
    exact ⟨⟨cd, hi.1, (hk.block _ (.inr rfl)).trans h2, fun e => h4 (hi.2 _ e)⟩, fun g e => e.elim (fun e => .inl (hi.2 g e)) .inr⟩
  have hJB : BoundC CJ J := by
    rintro s A ⟨h1, h2, _⟩ g (e | rfl)
    · exact hbd s A h1 g e
    · exact (Array.getElem?_eq_some_iff.1 h2).1
  refine ⟨d, [], W1, { target := .fn (.func gf) lb, args := #[.func (.yield d) #[] #[]] }, W1, gf, #[.func (.yield d) #[] #[]] ++ lb, W1, ?_, ?_, ?_, ?_, fun h => hdd _ h, ?_⟩
  · rw [← hW1, hrec, hd0]; exact run_enterLoop_inner hl₀ _ _ _ _ _
  · simp only [resolve, hg]
    simp [go_sem]
  · intro f' hf'; simp [Target.leads] at hf'; subst hf'; exact hFg
  · simp [invoke, go_sem, eg]
  · refine (hseq _ d CJ J Jx W1 (hb0.trans (hBw.mono hb0.size)) hJF hJB hJxF ?_ ⟨hIw.1, hl1, fun e => ?_⟩).mono ?_
    · -- one round
      rintro m pre x W ⟨hi, hl, hnl⟩ hsp hfx
      have hy := run_yield (P := P) (args := encs x) hl (by rw [hrec]; exact hps x)
      rw [hrec] at hy
      refine ⟨fn, _, assign, body, hy, roundIn_of_wpIn hfn (hassign _ m pre x W _ hi hsp hfx ?_)⟩
      clear hy
      intro a' Wa hst hax
      have hlW : d < W.heap.size := (Array.getElem?_eq_some_iff.1 hl).1
      have hla : Wa.heap[d]? = some (.loop (rec .ready none)) := (hst.keeps.block _ (.inr ⟨hlW, hnl⟩)).trans hl
      have hnla : ¬ C Wa d := fun e => (hst.grows _ e).elim hnl (fun e => by omega)
      have hla1 : d < Wa.heap.size := (Array.getElem?_eq_some_iff.1 hla).1
      refine ⟨_, run_beginRound hla (by rw [hrec]), ?_⟩
      obtain ⟨hgr, hax2⟩ := hAx pre x a' Wa d _ (.loop { rec .ready none with state := .busy }) hax (by omega) hla hnla
      obtain ⟨Wb, hWb⟩ : ∃ Wb, Wa.putObj d (.loop { rec .ready none with state := .busy }) = Wb := ⟨_, rfl⟩
      have hlb : Wb.heap[d]? = some (.loop { rec .ready none with state := .busy }) := by rw [← hWb]; exact World.putObj_heap_same hla1
      have hKab : Keeps (· ≠ d) Wa Wb := by rw [← hWb]; exact Keeps.put _ _ _
      rw [hWb] at hgr hax2 ⊢
      have hnlb : ¬ C Wb d := fun e => hnla (hgr _ e)
      refine wpIn_mono (hbody _ m pre x a' Wb (by omega) ⟨_, hlb⟩ hnlb hsp hax2) ?_
      have hszb : Wa.heap.size ≤ Wb.heap.size := hKab.size
      have fin : ∀ (jump : Option Code) (W3 : World), Stp N C Wb W3 →
          (Instr.endRound d jump).run P W3 = .ok (.bool jump.isNone) (W3.putObj d (.loop (rec (if jump.isNone then .ready else .done) jump))) ∧
          (W3.putObj d (.loop (rec (if jump.isNone then .ready else .done) jump))).heap[d]? = some (.loop (rec (if jump.isNone then .ready else .done) jump)) ∧ ¬ C W3 d := fun jump W3 h3 => by
        have hl3 : W3.heap[d]? = some (.loop { rec .ready none with state := .busy }) := (h3.keeps.block _ (.inr ⟨by omega, hnlb⟩)).trans hlb
        have := run_endRound (P := P) jump hl3
        rw [hrec] at this ⊢
        exact ⟨this, World.putObj_heap_same (Array.getElem?_eq_some_iff.1 hl3).1, fun e => (h3.grows _ e).elim hnlb (fun e => by omega)⟩
      have stp4 : ∀ (o : Obj) (W3 : World), Stp N C Wb W3 → (∀ g, C (W3.putObj d o) g → C W3 g) → Stp N CJ W (W3.putObj d o) := fun o W3 h3 hg4 => by
        refine ⟨?_, ?_⟩
        · refine (hst.keeps.mono fun g hg => ?_).trans ((hKab.mono fun g hg => ?_).trans ((h3.keeps.mono fun g hg => ?_).trans ((Keeps.put W3 d _).mono fun g hg => ?_)))
          · exact hg.elim .inl fun hg => .inr ⟨hg.1, fun e => hg.2 (.inl e)⟩
          · exact hg.elim (fun e => by have := hNd _ e; omega) fun hg e => hg.2 (.inr e)
          · exact hg.elim .inl fun hg => .inr ⟨by have := hst.keeps.size; omega, fun e => (hst.grows g (hgr g e)).elim (fun e => hg.2 (.inl e)) (fun e => by omega)⟩
          · exact hg.elim (fun e => by have := hNd _ e; omega) fun hg e => hg.2 (.inr e)
        · rintro g (e | e)
          · rcases h3.grows g (hg4 g e) with e | e
            · rcases hst.grows g (hgr g e) with e | e
              · exact .inl (.inl e)
              · exact .inr e
            · exact .inr (Nat.le_trans hst.keeps.size (Nat.le_trans hszb e))
          · exact .inl (.inr e)
      rintro e a3 W3 hp
      cases e with
      | normal =>
        obtain ⟨hi3, h3⟩ := hp
        obtain ⟨hr, hl4, hn4⟩ := fin none W3 h3
        obtain ⟨hi4, hg4⟩ := hI _ W3 _ hi3 ((Keeps.put W3 d (.loop (rec (if (none : Option Code).isNone then .ready else .done) none))).mono fun g e he => hn4 (he ▸ e))
        exact ⟨_, _, hr, .inl ⟨rfl, ⟨hi4, hl4, fun e => hn4 (hg4 _ e)⟩, stp4 _ W3 h3 hg4⟩⟩
      | ret =>
        obtain ⟨hi3, h3⟩ := hp
        obtain ⟨hr, hl4, hn4⟩ := fin (some .ret) W3 h3
        have hK4 := (Keeps.put W3 d (.loop (rec (if (some Code.ret).isNone then .ready else .done) (some .ret)))).mono (T := C W3) fun g e he => hn4 (he ▸ e)
        exact ⟨_, _, hr, .inr ⟨rfl, ⟨.ret, (hIx _ _ W3 _ hi3 hK4).1, hl4, fun e => hn4 ((hIx _ _ W3 _ hi3 hK4).2 _ e)⟩, stp4 _ W3 h3 (hIx _ _ W3 _ hi3 hK4).2⟩⟩
      | exit id =>
        obtain ⟨hi3, h3⟩ := hp
        obtain ⟨hr, hl4, hn4⟩ := fin (some (.exit id)) W3 h3
        have hK4 := (Keeps.put W3 d (.loop (rec (if (some (Code.exit id)).isNone then .ready else .done) (some (.exit id))))).mono (T := C W3) fun g e he => hn4 (he ▸ e)
        exact ⟨_, _, hr, .inr ⟨rfl, ⟨.exit id, (hIx _ _ W3 _ hi3 hK4).1, hl4, fun e => hn4 ((hIx _ _ W3 _ hi3 hK4).2 _ e)⟩, stp4 _ W3 h3 (hIx _ _ W3 _ hi3 hK4).2⟩⟩
      | goto t =>
        obtain ⟨hi3, h3⟩ := hp
        obtain ⟨hr, hl4, hn4⟩ := fin (some (.goto t)) W3 h3
        have hK4 := (Keeps.put W3 d (.loop (rec (if (some (Code.goto t)).isNone then .ready else .done) (some (.goto t))))).mono (T := C W3) fun g e he => hn4 (he ▸ e)
        exact ⟨_, _, hr, .inr ⟨rfl, ⟨.goto t, (hIx _ _ W3 _ hi3 hK4).1, hl4, fun e => hn4 ((hIx _ _ W3 _ hi3 hK4).2 _ e)⟩, stp4 _ W3 h3 (hIx _ _ W3 _ hi3 hK4).2⟩⟩
      | panic ch => exact hp.elim
      | outgrown => exact hp.elim
    · have := hbw _ e; omega
    · -- behind the iterator
      rintro e W2 ⟨⟨v, rfl⟩, (⟨xs, hS, hi, hl, hnl⟩ | ⟨pre, hSp, c, hi, hl, hnl⟩)⟩
      · refine ⟨none, _, by have := run_endLoop (P := P) hl (by rw [hrec]; simp); rw [hrec] at this; exact this, hdone xs _ hS ?_⟩
        exact (hI xs W2 _ hi ((Keeps.put W2 d _).mono fun g e he => hnl (he ▸ e))).1
      · refine ⟨some c, _, by have := run_endLoop (P := P) hl (by rw [hrec]; simp); rw [hrec] at this; exact this, hstop c pre _ hSp ?_⟩
        exact (hIx c pre W2 _ hi ((Keeps.put W2 d _).mono fun g e he => hnl (he ▸ e))).1
theorem SeqD.inRound {m : Nat} {gf : Nat} {lb : Array Value} {encs : α → Array Value} {Fx : α → World → Prop} {N : Nat → Prop} {S Sp : List α → Prop} {w : World} (l : Nat) (h : SeqD F m P gf lb encs Fx N S Sp w) : SeqD (F.inRound l) m P gf lb encs Fx N S Sp w := h
end
end Go.Proofs.YthgglobfkkcdgaaGreatDoor
namespace Go.Proofs.YthgglobfkkcdgaaGreatDoor
open Go Go.RowKit Go.Shelf
attribute [local go_sem] Oper.semAt_some
set_option maxRecDepth 100000
structure CtI (l : List Sm) (w : World) (gc b : Nat) (As : Option Addr) (cs : Nat) (pre : List TmA) (W : World) : Prop where
  sg : W.heap[w.heap.size]? = some (.cells #[.slice As l.length cs] 24)
  r4 : W.heap[w.heap.size + 1]? = some (.cells #[.slice none 0 0] 36)
  r5 : W.heap[w.heap.size + 2]? = some (.cells #[.int .i64 0] 39)
  bx : W.heap[gc + 1]? = some (.cells #[.slice (some ⟨gc, 0, none⟩) l.length l.length] 36)
  ct : W.heap[gc]? = some (.cells (iC (cntC (List.replicate l.length 0) (hdsL (pre.map TmA.t)))) 3)
  ok : okI l (pre.map TmA.t) = true
  blw : Below w.heap.size w W
  big : b ≤ W.heap.size
structure CtX (l : List Sm) (w : World) (b : Nat) (pre : List TmA) (W : World) : Prop where
  r4 : W.heap[w.heap.size + 1]? = some (.cells #[.slice none 0 0] 36)
  r5 : W.heap[w.heap.size + 2]? = some (.cells #[.int .i64 2] 39)
  bad : okI l (pre.map TmA.t) = false
  blw : Below w.heap.size w W
  big : b ≤ W.heap.size
section
variable {l : List Sm} {w : World} {gc b : Nat} {As : Option Addr} {cs : Nat}
theorem ct_frame (h1 : gc + 1 < b) (h2 : w.heap.size + 2 < gc) : FrameC (fun _ g => g < b) (CtI l w gc b As cs) := by
  intro s A B h hk
  exact ⟨⟨(hk.block _ (by show _ < _; omega)).trans h.sg, (hk.block _ (by show _ < _; omega)).trans h.r4, (hk.block _ (by show _ < _; omega)).trans h.r5, (hk.block _ (by show _ < _; omega)).trans h.bx, (hk.block _ (by show _ < _; omega)).trans h.ct, h.ok, h.blw.trans (hk.below fun g e => by show g < _; omega), Nat.le_trans h.big hk.size⟩, fun g e => e⟩
theorem ct_bound : BoundC (fun _ g => g < b) (CtI l w gc b As cs) := fun _ _ h _ e => Nat.lt_of_lt_of_le e h.big
theorem cx_frame (h2 : w.heap.size + 2 < b) : FrameC (fun _ g => g < b) (fun pre W => CtX l w b pre W) := by
  intro s A B h hk
  exact ⟨⟨(hk.block _ (by show _ < _; omega)).trans h.r4, (hk.block _ (by show _ < _; omega)).trans h.r5, h.bad, h.blw.trans (hk.below fun g e => by show g < _; omega), Nat.le_trans h.big hk.size⟩, fun g e => e⟩
theorem CtI.put {W : World} {pre : List TmA} {k : Nat} {r : Loop} {o : Obj} (h : CtI l w gc b As cs pre W) (hl : W.heap[k]? = some (.loop r)) (hk : w.heap.size ≤ k) : CtI l w gc b As cs pre (W.putObj k o) :=
  ⟨put_block h.sg hl, put_block h.r4 hl, put_block h.r5 hl, put_block h.bx hl, put_block h.ct hl, h.ok, h.blw.trans ((Keeps.put W k o).below fun g e => by show g ≠ k; omega), by simpa using h.big⟩
theorem CtI.on {W W' : World} {pre : List TmA} (h : CtI l w gc b As cs pre W) (hb : Below W.heap.size W W') : CtI l w gc b As cs pre W' :=
  have k := fun {g : Nat} {o : Obj} (e : W.heap[g]? = some o) => (hb.block g (Array.getElem?_eq_some_iff.1 e).1).trans e
  ⟨k h.sg, k h.r4, k h.r5, k h.bx, k h.ct, h.ok, h.blw.trans (hb.mono h.blw.size), Nat.le_trans h.big hb.size⟩
end
structure InI (W0 : World) (gc : Nat) (n0 : List Int) (pre : List Vis) (W : World) : Prop where
  ct : W.heap[gc]? = some (.cells (iC (cntC n0 (pre.map fun v => v.t.fn))) 3)
  kp : Keeps (fun g => g < W0.heap.size ∧ g ≠ gc) W0 W
theorem in_frame {W0 : World} {gc : Nat} {n0 : List Int} (h : gc < W0.heap.size) : FrameC (fun _ g => g < W0.heap.size) (InI W0 gc n0) := by
  intro s A B h1 hk
  exact ⟨⟨(hk.block _ h).trans h1.ct, h1.kp.trans (hk.mono fun _ e => e.1)⟩, fun _ e => e⟩
theorem in_bound {W0 : World} {gc : Nat} {n0 : List Int} : BoundC (fun _ g => g < W0.heap.size) (InI W0 gc n0) := fun _ _ h _ e => Nat.lt_of_lt_of_le e h.kp.size
theorem InI.put {W0 W : World} {gc k : Nat} {n0 : List Int} {pre : List Vis} {r : Loop} {o : Obj} (h : InI W0 gc n0 pre W) (hl : W.heap[k]? = some (.loop r)) (hk : W0.heap.size ≤ k) : InI W0 gc n0 pre (W.putObj k o) :=
  ⟨put_block h.ct hl, h.kp.trans ((Keeps.put W k o).mono fun g e => by show g ≠ k; omega)⟩
theorem InI.on {W0 W W' : World} {gc : Nat} {n0 : List Int} {pre : List Vis} (h : InI W0 gc n0 pre W) (hb : Below W.heap.size W W') : InI W0 gc n0 pre W' :=
  ⟨(hb.block _ (Array.getElem?_eq_some_iff.1 h.ct).1).trans h.ct, h.kp.trans ((Keeps.of_below hb).mono fun _ e => Nat.lt_of_lt_of_le e.1 h.kp.size)⟩
theorem InI.skip {W0 W : World} {gc : Nat} {n0 : List Int} {pre : List Vis} {x : Vis} (h : InI W0 gc n0 pre W) (hx : x.t.fn < 0) : InI W0 gc n0 (pre ++ [x]) W :=
  ⟨by rw [List.map_append, List.map_cons, List.map_nil, cntC_snoc, show addC (cntC n0 (pre.map fun v => v.t.fn)) x.t.fn = cntC n0 (pre.map fun v => v.t.fn) from if_pos hx]; exact h.ct, h.kp⟩
theorem InI.set {W0 W : World} {gc : Nat} {n0 : List Int} {pre : List Vis} {x : Vis} {k : Nat} {y : Int} (h : InI W0 gc n0 pre W) (hx : x.t.fn = (k : Int)) (hy : (cntC n0 (pre.map fun v => v.t.fn))[k]? = some y) : InI W0 gc n0 (pre ++ [x]) (W.setCell ⟨gc, k, none⟩ (.int .i64 (y + 1))) := by
  refine ⟨?_, h.kp.trans ((Keeps.set W ⟨gc, k, none⟩ _).mono fun g e => e.2)⟩
  rw [List.map_append, List.map_cons, List.map_nil, cntC_snoc, hx]
  unfold addC
  rw [if_neg (by omega), Int.toNat_natCast, List.getD_eq_getElem?_getD, hy]
  exact iC_set h.ct k (y + 1)
theorem chk_two' {l : List Sm} {t : Tm} (h : ¬ chkT l t = 0) : chkT l t = 2 := by
  unfold chkT at h ⊢
  split
  · rfl
  · rename_i h1; rw [if_neg h1] at h
    split
    · rename_i h2; rw [if_pos h2] at h; exact absurd rfl h
    · rfl
theorem termChk_yes {l : List Sm} {t : Tm} (hk : chkT l t = 0) (As A : Option Addr) (cs c : Nat) (w : World) (hS : Syms w w.heap.size As l.length l) (hn : l.length * 32 ≤ 140737488351232) (ht : tru w) (hf : I64 t.fn) (hA : Args w w.heap.size A t.args) :
    Calls Tryz.prog 30 #[.agg #[.slice As l.length cs], .agg #[.int .i64 t.fn, .slice A t.args.length c]] w fun e w' => e = .returned (.int .i64 0) ∧ Below w.heap.size w w' := by
  have h := termCheck_any l t As A l.length cs c w hS hn ht hf hA
  rwa [hk] at h
theorem termChk_no {l : List Sm} {t : Tm} (hk : ¬ chkT l t = 0) (As A : Option Addr) (cs c : Nat) (w : World) (hS : Syms w w.heap.size As l.length l) (hn : l.length * 32 ≤ 140737488351232) (ht : tru w) (hf : I64 t.fn) (hA : Args w w.heap.size A t.args) :
    Calls Tryz.prog 30 #[.agg #[.slice As l.length cs], .agg #[.int .i64 t.fn, .slice A t.args.length c]] w fun e w' => e = .returned (.int .i64 2) ∧ Below w.heap.size w w' := by
  have h := termCheck_any l t As A l.length cs c w hS hn ht hf hA
  rwa [chk_two' hk] at h
theorem TmFx.args {w0 W : World} {x : TmA} (h : TmFx (· < w0.heap.size) x W) (hb : w0.heap.size ≤ W.heap.size) : Args W W.heap.size x.A x.t.args := h.2.args fun _ e => Nat.lt_of_lt_of_le e hb
theorem upTo_zero (m : Nat) : upTo 0 m = List.replicate m 0 := by
  apply List.ext_getElem?
  intro i
  unfold upTo
  rw [List.getElem?_map, List.getElem?_replicate]
  by_cases h : i < m
  · rw [List.getElem?_range h, if_pos h]; rfl
  · rw [List.getElem?_eq_none (by simpa using h), if_neg h]; rfl
set_option maxHeartbeats 4000000 in
theorem counts_any (l : List Sm) (cl : List (List Lp)) (As Aq : Option Addr) (cs cq : Nat) (w : World) (hS : Syms w w.heap.size As l.length l) (hn : l.length * 32 ≤ 140737488351232) (ht : tru w) (hC : ClRow w (· < w.heap.size) Aq cl) (hz : (itms cl).length ≤ 281474976710656) :
    Calls Tryz.prog 15 #[.agg #[.slice As l.length cs], .slice Aq cl.length cq] w (CountsPost l (cntNo l cl) (cntN l cl) w) := by
  obtain ⟨q0, q1, q2⟩ := heap3p w (.cells #[.slice As l.length cs] 24) (.cells #[.slice none 0 0] 36) (.cells #[.int .i64 0] 39)
  obtain ⟨W, hW⟩ : ∃ W, (((w.alloc (.cells #[.slice As l.length cs] 24)).alloc (.cells #[.slice none 0 0] 36)).alloc (.cells #[.int .i64 0] 39)) = W := ⟨_, rfl⟩
  have hB : Below w.heap.size w W := by rw [← hW]; exact (((Below.refl _ _).alloc (Nat.le_refl _) _).alloc (by simp) _).alloc (by simp; omega) _
  rw [hW] at q0 q1 q2
  have hWs : W.heap.size = w.heap.size + 3 := by rw [← hW]; simp
  have HS := Lib.hid (hS.on hB)
  have HT := Lib.hid (tru_below ht hB)
  have HT0 := Lib.hid ht
  have HS0 := Lib.hid hS
  have HC := Lib.hid hC
  have HW := Lib.hid hW
  have hcl := hC.len
  obtain ⟨x0, _⟩ := cells_one q0
  clear hW hS ht hC
  refine (callsIn_wide (n := 3)).1 (callsIn_of_wp_marks Tryz.func15 rfl trivial ?_ rfl)
  simp only [Tryz.ntmps15, List.size_toArray, List.length_cons, List.length_nil, Nat.reduceAdd, Nat.reduceSub, Array.replicate_succ, Array.replicate_zero, List.push_toArray, List.append_toArray, List.nil_append, List.cons_append]
  refine wpIn_wide.2 ?_
  by_cases h0 : checkI l = 0
  · have hno : cntNo l cl = !(okI l (itms cl)) := by unfold cntNo; rw [decide_eq_true h0]; rfl
    have hm : 1 ≤ l.length := by have := chk_some h0; omega
    have HNo := Lib.hid hno
    clear hno
    go_upto_region 1 with fail
    rw [HW.out]
    go_upto_region 3 with (first
      | (go_at_call 28; (with_reducible refine (Check_any As l.length cs l W HS.out hn HT.out).mono ?_); go_must (rintro e w1 ⟨rfl, hb1⟩; rw [h0]; have y0 := (hb1.block _ (by omega)).trans q0; obtain ⟨x1, _⟩ := cells_one y0))
      | fail)
    obtain ⟨i0, hi1, hz0, hz1, hz2⟩ := info_parts infoI
    have hmk : ∀ w : World, (Instr.makeSlice 36 (.int .i64 (l.length : Int)) (.int .i64 (l.length : Int))).run Tryz.prog w = .ok (.slice (some ⟨w.heap.size, 0, none⟩) l.length l.length) (w.alloc (.cells (iC (upTo 0 l.length)) 3)) := fun w => by
      rw [← made_iC]; exact run_make_row _ _ i0 _ Tryz.underlying36 hi1 hz0 hz1 rfl _ _ l.length (by rw [hz2]; omega) (by omega) w
    clear x0 hi1 hz0 hz1 hz2
    go_upto_region 4 with fail
    have hb1s := hb1.size
    obtain ⟨W3, hW3⟩ : ∃ W3, (w1.alloc (.cells (iC (upTo 0 l.length)) 3)).alloc (.cells #[.slice (some ⟨w1.heap.size, 0, none⟩) l.length l.length] 36) = W3 := ⟨_, rfl⟩
    obtain ⟨p0, p1⟩ := heap2p w1 (.cells (iC (upTo 0 l.length)) 3) (.cells #[.slice (some ⟨w1.heap.size, 0, none⟩) l.length l.length] 36)
    have hB3 : Below w1.heap.size w1 W3 := by rw [← hW3]; exact ((Below.refl _ _).alloc (Nat.le_refl _) _).alloc (by simp) _
    have z3 : W3.heap.size = w1.heap.size + 2 := by rw [← hW3]; simp
    rw [hW3] at p0 p1
    obtain ⟨W4, hW4⟩ : ∃ W4, W3.alloc (.cells #[.slice Aq cl.length cq] 25) = W4 := ⟨_, rfl⟩
    have p2 : W4.heap[W3.heap.size]? = some (.cells #[.slice Aq cl.length cq] 25) := by rw [← hW4]; exact heap_alloc_new _ _
    have hB4 : Below W3.heap.size W3 W4 := by rw [← hW4]; exact (Below.refl _ _).alloc (Nat.le_refl _) _
    have z4 : W4.heap.size = w1.heap.size + 3 := by rw [← hW4]; simp; omega
    have hB14 : Below w1.heap.size w1 W4 := hB3.trans (hB4.mono (by omega))
    have hBW4 : Below W.heap.size W W4 := bl_step hb1 hB14
    have hBw4 : Below w.heap.size w W4 := hB.trans (hBW4.mono (by omega))
    have hI4 : CtI l w w1.heap.size W4.heap.size As cs [] W4 := by
      refine ⟨(hBW4.block _ (by omega)).trans q0, (hBW4.block _ (by omega)).trans q1, (hBW4.block _ (by omega)).trans q2, (hB4.block _ (by omega)).trans p1, ?_, rfl, hBw4, Nat.le_refl _⟩
      refine ((hB4.block _ (by omega)).trans p0).trans ?_
      rw [upTo_zero]; rfl
    have HC4 := Lib.hid (HC.out.to (w' := W4) (M := (· < w.heap.size)) (fun g e => hBw4.block g e) fun _ e => e)
    have HW4 := Lib.hid hW4
    have HW3 := Lib.hid hW3
    have Hz := Lib.hid (And.intro z3 z4)
    clear hW3 hW4 z3 z4 y0 x1 hmk
    rw [HW3.out]
    go_wp2_with (first
      | (go_at_call 29; (with_reducible refine (counted_any Aq cl.length cq _).mono ?_); go_must (rintro e w4 ⟨rfl, rfl⟩; rw [HW4.out]))
      | fail)
    have hNs : ∀ g, g < w.heap.size → g < W4.heap.size := fun g e => by have := Hz.out; omega
    refine (wpIn_wide (n := 3)).1 ?_
    refine range_lawH (F := Fence.wide) (n := 3) (w0 := W4) rfl rfl (gf := 48) (lb := #[.pointer (some ⟨W3.heap.size, 0, none⟩)]) rfl trivial (enters_of Tryz.func48 (by kernel_rfl) rfl)
      (fun m => (counted1_seq m W3.heap.size cl Aq cq (· < w.heap.size) W4 p2 HC4.out hNs).toD)
      (Below.refl _ _) (fun _ => rfl) hNs
      (fun _ g => g < W4.heap.size) (CtI l w w1.heap.size W4.heap.size As cs) (fun cd pre Wx => cd = .ret ∧ CtX l w W4.heap.size pre Wx)
      (ct_frame (by have := Hz.out; omega) (by omega)) ct_bound (fun cd s A B h hk => ⟨⟨h.1, (cx_frame (by have := Hz.out; omega) s A B h.2 hk).1⟩, fun g e => e⟩) hI4
      (fun pre x a' Wx => CtI l w w1.heap.size W4.heap.size As cs pre Wx ∧ TmFx (· < w.heap.size) x Wx ∧ ∃ Bx, W4.heap.size ≤ Bx ∧ Wx.heap[Bx]? = some (.cells #[.int .i64 x.t.fn, .slice x.A x.t.args.length x.c] 32) ∧ a' = { tmps := #[.agg #[.slice As l.length cs], .slice Aq cl.length cq, .pointer (some ⟨w.heap.size, 0, none⟩), undef, .pointer (some ⟨w.heap.size + 1, 0, none⟩), .pointer (some ⟨w.heap.size + 1 + 1, 0, none⟩), .pointer (some ⟨w1.heap.size + 1, 0, none⟩), .pointer (some ⟨Bx, 0, none⟩), undef, undef, .agg #[.slice As l.length cs], .int .i64 0, .bool false, .pointer (some ⟨w.heap.size, 0, none⟩), .slice As l.length cs, .int .i64 (l.length : Int), .slice (some ⟨w1.heap.size, 0, none⟩) l.length l.length, .slice Aq cl.length cq, .func (.func 48) #[] #[.pointer (some ⟨W3.heap.size, 0, none⟩)], .agg #[.int .i64 x.t.fn, .slice x.A x.t.args.length x.c], undef, undef, undef, undef, undef, undef, undef, undef, undef, undef, undef, undef, undef, undef, undef, undef, undef, undef, undef], defers := [] }) ?hAx ?assign ?body ?done ?stop
    case hAx =>
      rintro pre x a' Wx k r o ⟨h1, h2, Bx, hBx, hbx', rfl⟩ hl hr hn
      exact ⟨fun g e => e, h1.put hr (by have := Hz.out; omega), ⟨h2.1, argsN_up h2.2 (cell_put hr) fun _ e => e⟩, Bx, hBx, put_block hbx' hr, rfl⟩
    case assign =>
      rintro l2 m2 pre x Wx K h1 _ hfx hK
      simp only [tmEnc]
      gi_wp2
      have hBa : Below Wx.heap.size Wx (Wx.alloc (.cells #[.int .i64 x.t.fn, .slice x.A x.t.args.length x.c] 32)) := (Below.refl _ _).alloc (Nat.le_refl _) _
      have hbg := h1.big
      exact hK _ _ (stp_alloc _ _ fun g e => Nat.lt_of_lt_of_le (hNs g e) hbg) ⟨h1.on hBa, ⟨hfx.1, hfx.2.keep fun g e => hBa.block g (Nat.lt_of_lt_of_le (hNs g e) hbg)⟩, Wx.heap.size, hbg, heap_alloc_new _ _, by simp⟩
    case body =>
      rintro l2 m2 pre x a' Wx hl2 ⟨r2, hr2⟩ hnC2 hsp ⟨h1, h2, Bx, hBx, hbx', rfl⟩
      have hbg := h1.big
      have hzz := Hz.out
      obtain ⟨a0, _⟩ := cells_one h1.sg
      obtain ⟨b0, b1, _, _⟩ := cells_two hbx'
      have HSx := Lib.hid (HS0.out.on h1.blw)
      have HTx := Lib.hid (tru_below HT0.out h1.blw)
      have HAx := Lib.hid (h2.args (by omega))
      have H1 := Lib.hid h1
      have H2 := Lib.hid h2
      have Hbx := Lib.hid hbx'
      have hBxl := (Array.getElem?_eq_some_iff.1 hbx').1
      clear h1 h2 hbx'
      by_cases hk : chkT l x.t = 0
      · have HCk := Lib.hid (termChk_yes hk As x.A cs x.c Wx HSx.out hn HTx.out H2.out.1 HAx.out)
        obtain ⟨hsz, hdp, hhd⟩ := chk_like hk
        have Hk := Lib.hid hk
        have Hhd := Lib.hid hhd
        clear hk hhd
        gi_wp2_with (first
          | ((refine ⟨trivial, (fun h => by cases h), ?_⟩); gi_at_call 30; (with_reducible refine (calls_round l2 _ HCk.out).mono ?_); go_must (rintro e w2 ⟨rfl, hb2⟩; obtain ⟨u0, u1, _, _⟩ := cells_two ((hb2.block _ hBxl).trans Hbx.out); clear a0 b0 b1; have HPl := Lib.hid (termPlaces_any x.t x.A x.c w2 (by omega) H2.out.1 (HAx.out.on hb2))))
          | ((refine ⟨trivial, (fun h => by cases h), ?_⟩); gi_at_call 31; (with_reducible refine (calls_round l2 _ HPl.out).mono ?_); go_must (rintro e w5 ⟨rfl, hb5, A5, c5, hbx5, hO5⟩))
          | fail)
        have hbl5 : Below Wx.heap.size Wx w5 := bl_step hb2 hb5
        have h15 := H1.out.on hbl5
        have hz2 := hb2.size
        have hz5 := (Array.getElem?_eq_some_iff.1 hbx5).1
        have hl2x := (Array.getElem?_eq_some_iff.1 hr2).1
        have hA5 : ArgsN w5 (fun g => w2.heap.size + 1 ≤ g ∧ g < w5.heap.size) A5 x.t.args := hO5.argsN
        clear hO5 u0 u1
        refine range_lawN (F := Fence.wide.inRound l2) (n := m2) (l₀ := l2) (r₀ := r2) (w0 := w5) rfl ((hbl5.block _ hl2x).trans hr2) rfl (gf := 52) (lb := #[.pointer (some ⟨w2.heap.size, 0, none⟩)]) rfl trivial (enters_of Tryz.func52 (by kernel_rfl) rfl)
          (fun m => (places1_seq m w2.heap.size x.t A5 c5 (fun g => w2.heap.size + 1 ≤ g ∧ g < w5.heap.size) w5 hbx5 H2.out.1 hA5 (fun g e => e.2) (by omega) (by omega)).inRound l2)
          (Below.refl _ _) (fun _ => rfl) (fun g e => e.2)
          (fun _ g => g < w5.heap.size) (InI w5 w1.heap.size (cntC (List.replicate l.length 0) (hdsL (pre.map TmA.t)))) (fun _ _ _ => False)
          (in_frame (by omega)) in_bound (fun _ _ _ _ h _ => h.elim) ⟨h15.ct, Keeps.refl _ _⟩
          (fun pr y a'' Wy => InI w5 w1.heap.size (cntC (List.replicate l.length 0) (hdsL (pre.map TmA.t))) pr Wy ∧ I64 y.t.fn ∧ ∃ By, w5.heap.size ≤ By ∧ Wy.heap[By]? = some (.cells #[.int .i64 y.t.fn, .slice y.A' y.t.args.length y.c'] 32) ∧ a'' = { tmps := #[.agg #[.slice As l.length cs], .slice Aq cl.length cq, .pointer (some ⟨w.heap.size, 0, none⟩), undef, .pointer (some ⟨w.heap.size + 1, 0, none⟩), .pointer (some ⟨w.heap.size + 1 + 1, 0, none⟩), .pointer (some ⟨w1.heap.size + 1, 0, none⟩), .pointer (some ⟨Bx, 0, none⟩), undef, .pointer (some ⟨By, 0, none⟩), .agg #[.slice As l.length cs], .int .i64 0, .bool false, .pointer (some ⟨w.heap.size, 0, none⟩), .slice As l.length cs, .int .i64 (l.length : Int), .slice (some ⟨w1.heap.size, 0, none⟩) l.length l.length, .slice Aq cl.length cq, .func (.func 48) #[] #[.pointer (some ⟨w1.heap.size + 2, 0, none⟩)], .agg #[.int .i64 x.t.fn, .slice x.A x.t.args.length x.c], .agg #[.slice As l.length cs], .agg #[.int .i64 x.t.fn, .slice x.A x.t.args.length x.c], .int .i64 0, .bool false, .agg #[.int .i64 x.t.fn, .slice x.A x.t.args.length x.c], .func (.func 52) #[] #[.pointer (some ⟨w2.heap.size, 0, none⟩)], .slice y.A y.pos.length y.c, .agg #[.int .i64 y.t.fn, .slice y.A' y.t.args.length y.c'], undef, undef, undef, undef, undef, undef, undef, undef, undef, undef, undef], defers := [] }) ?hAx2 ?assign2 ?body2 ?done2 ?stop2
        case hAx2 =>
          rintro pr y a'' Wy k r o ⟨i1, i2, By, hBy, hby, rfl⟩ hl hr hn
          exact ⟨fun g e => e, i1.put hr (by omega), i2, By, hBy, put_block hby hr, rfl⟩
        case assign2 =>
          rintro l3 m3 pr y Wy K i1 _ hfy hK
          simp only [visEnc]
          gi_wp2
          have hBa : Below Wy.heap.size Wy (Wy.alloc (.cells #[.int .i64 y.t.fn, .slice y.A' y.t.args.length y.c'] 32)) := (Below.refl _ _).alloc (Nat.le_refl _) _
          have hyb := i1.kp.size
          exact hK _ _ (stp_alloc _ _ fun g e => by omega) ⟨i1.on hBa, hfy.fx.i64, Wy.heap.size, hyb, heap_alloc_new _ _, by simp⟩
        case body2 =>
          rintro l3 m3 pr y a'' Wy hl3 hr3 hnC3 hsp3 ⟨i1, i2, By, hBy, hby, rfl⟩
          obtain ⟨b0, b1, _, _⟩ := cells_two hby
          have hmem : y.t.fn ∈ hdsT x.t := by
            rw [← vis_hds []]
            have : y.key ∈ (pr ++ [y]).map Vis.key := List.mem_map.2 ⟨y, by simp, rfl⟩
            exact List.mem_map.2 ⟨y.key, hsp3.subset this, rfl⟩
          have hlt := Hhd.out _ hmem
          have I1 := Lib.hid i1
          by_cases hneg : y.t.fn < 0
          · have Hneg := Lib.hid hneg
            gi_wp2
            exact ⟨I1.out.skip Hneg.out, Stp.refl _ _ _⟩
          · obtain ⟨k, hk⟩ : ∃ k : Nat, y.t.fn = (k : Int) := ⟨y.t.fn.toNat, by omega⟩
            obtain ⟨z, hz9⟩ : ∃ z, (cntC (cntC (List.replicate l.length 0) (hdsL (pre.map TmA.t))) (pr.map fun v => v.t.fn))[k]? = some z := ⟨_, List.getElem?_eq_getElem (by rw [cntC_len, cntC_len, List.length_replicate]; omega)⟩
            have hzb : 0 ≤ z ∧ z ≤ 4611686018427387904 := by
              have hm9 := List.mem_of_getElem? hz9
              rw [← cntC_append] at hm9
              have h9 := cnt_small H1.out.ok l.length _ z hm9
              have h8 := hsp.length_le
              have h7 := pre_len hsp3
              simp only [List.length_map, List.length_append, List.length_cons, List.length_nil] at h9 h8 h7
              omega
            have hbxy := (i1.kp.block (w1.heap.size + 1) ⟨by omega, by omega⟩).trans h15.bx
            obtain ⟨e0, _⟩ := cells_one hbxy
            obtain ⟨f0, f1⟩ := iC_cell i1.ct hz9
            rw [hk] at b0 hlt
            have Hk9 := Lib.hid hk
            have Hz9 := Lib.hid hz9
            obtain ⟨z0, z1⟩ := hzb
            have hkl : k < l.length := by omega
            clear hk hz9 hbxy hneg i1 hmem hby
            gi_wp2
            refine ⟨I1.out.set Hk9.out Hz9.out, ⟨(Keeps.set Wy ⟨w1.heap.size, k, none⟩ _).mono fun g e => ?_, fun g e => .inl e⟩⟩
            show g ≠ w1.heap.size
            rcases e with e | e
            · omega
            · have e' : ¬ g < w5.heap.size := e.2; omega
        case done2 =>
          intro ys Wy hS i1
          have hh : ys.map (fun v => v.t.fn) = hdsT x.t := by
            rw [← vis_hds [] x.t, ← hS, List.map_map]; rfl
          have hct := i1.ct
          rw [hh, ← cntC_append, ← hdsL_snoc] at hct
          have hkb : ∀ g o, g < w5.heap.size → g ≠ w1.heap.size → w5.heap[g]? = some o → Wy.heap[g]? = some o := fun g o ha hb h => (i1.kp.block g ⟨ha, hb⟩).trans h
          have hky := i1.kp.size
          refine ⟨⟨hkb _ _ (by omega) (by omega) h15.sg, hkb _ _ (by omega) (by omega) h15.r4, hkb _ _ (by omega) (by omega) h15.r5, hkb _ _ (by omega) (by omega) h15.bx, by rw [List.map_append]; exact hct, by rw [List.map_append]; exact okI_snoc h15.ok Hk.out, h15.blw.trans (i1.kp.below fun g e => ⟨by omega, by omega⟩), by omega⟩, ⟨?_, fun g e => .inl e⟩⟩
          refine ((Keeps.of_below hbl5).mono fun g e => ?_).trans (i1.kp.mono fun g e => ?_)
          · rcases e with e | e
            · have := hNs g e; show g < Wx.heap.size; omega
            · exact e.1
          · rcases e with e | e
            · exact ⟨by omega, by omega⟩
            · have e' : ¬ g < W4.heap.size := e.2
              have e'' := e.1
              exact ⟨by omega, by omega⟩
        case stop2 => exact fun _ _ _ _ h => h.elim
      · have HCk := Lib.hid (termChk_no hk As x.A cs x.c Wx HSx.out hn HTx.out H2.out.1 HAx.out)
        have Hbad := Lib.hid (okI_bad (xs := pre.map TmA.t) hk)
        clear hk
        gi_wp2_with (first
          | ((refine ⟨trivial, (fun h => by cases h), ?_⟩); gi_at_call 30; (with_reducible refine (calls_round l2 _ HCk.out).mono ?_); go_must (rintro e w2 ⟨rfl, hb2⟩; have y4 := (H1.out.on hb2).r4; have y5 := (H1.out.on hb2).r5; obtain ⟨z4, g4⟩ := cells_one y4; obtain ⟨z5, g5⟩ := cells_one y5))
          | fail)
        have hzx := hb2.size
        have hon := H1.out.on hb2
        have e45 : w.heap.size + 1 ≠ w.heap.size + 2 := by omega
        refine ⟨⟨rfl, ⟨(heap_setCell_other _ ⟨w.heap.size + 2, 0, none⟩ _ _ e45).trans (Boxed.set (.slice none 0 0) y4), Boxed.set (.int .i64 2) ((heap_setCell_other _ ⟨w.heap.size + 1, 0, none⟩ _ _ (Ne.symm e45)).trans y5), by rw [List.map_append]; exact Hbad.out, (hon.blw.setCell (by show _ ≤ w.heap.size + 1; omega) _).setCell (by show _ ≤ w.heap.size + 2; omega) _, by simpa using hon.big⟩⟩, ⟨?_, fun g e => .inl e⟩⟩
        refine ((Keeps.of_below hb2).mono fun g e => ?_).trans (((Keeps.set _ ⟨w.heap.size + 1, 0, none⟩ _).mono fun g e => ?_).trans ((Keeps.set _ ⟨w.heap.size + 2, 0, none⟩ _).mono fun g e => ?_))
        · rcases e with e | e
          · have := hNs g e; show g < Wx.heap.size; omega
          · exact e.1
        · show g ≠ w.heap.size + 1
          rcases e with e | e
          · omega
          · have e' : ¬ g < W4.heap.size := e.2; omega
        · show g ≠ w.heap.size + 2
          rcases e with e | e
          · omega
          · have e' : ¬ g < W4.heap.size := e.2; omega
    case done =>
      rintro D ys Wd hD hS h1 hnD hK
      have hzz := Hz.out
      have hfin : cntNo l cl = false := by rw [HNo.out, ← hS, h1.ok]; rfl
      have hcn : cntN l cl = cntC (List.replicate l.length 0) (hdsL (ys.map TmA.t)) := by rw [hS]; rfl
      obtain ⟨e0, _⟩ := cells_one h1.bx
      obtain ⟨z4, g4⟩ := cells_one h1.r4
      obtain ⟨z5, g5⟩ := cells_one h1.r5
      have Hfin := Lib.hid hfin
      have Hcn := Lib.hid hcn
      have HK := Lib.hid hK
      have H1 := Lib.hid h1
      clear hfin hcn hK h1
      go_wp2
      have e45 : w.heap.size + 1 ≠ w.heap.size + 2 := by omega
      obtain ⟨Wz, hWz⟩ : ∃ Wz, ((Wd.setCell ⟨w.heap.size + 1, 0, none⟩ (.slice (some ⟨w1.heap.size, 0, none⟩) l.length l.length)).setCell ⟨w.heap.size + 1 + 1, 0, none⟩ (.int .i64 0)) = Wz := ⟨_, rfl⟩
      have hoth : ∀ g, g ≠ w.heap.size + 1 → g ≠ w.heap.size + 2 → Wz.heap[g]? = Wd.heap[g]? := fun g ha hb => by rw [← hWz]; exact (heap_setCell_other _ _ _ _ hb).trans (heap_setCell_other _ _ _ _ ha)
      have r4 : Boxed Wz (w.heap.size + 1) 36 (.slice (some ⟨w1.heap.size, 0, none⟩) l.length l.length) := by rw [← hWz]; exact (heap_setCell_other _ ⟨w.heap.size + 2, 0, none⟩ _ _ e45).trans (Boxed.set _ H1.out.r4)
      have r5 : Boxed Wz (w.heap.size + 2) 39 (.int .i64 0) := by rw [← hWz]; exact Boxed.set (.int .i64 0) ((heap_setCell_other _ ⟨w.heap.size + 1, 0, none⟩ _ _ (Ne.symm e45)).trans H1.out.r5)
      have hbz : Below w.heap.size w Wz := by rw [← hWz]; exact (H1.out.blw.setCell (by show _ ≤ w.heap.size + 1; omega) _).setCell (by show _ ≤ w.heap.size + 2; omega) _
      rw [hWz]
      have hKs := (hoth D (by omega) (by omega)).trans HK.out
      have hr4 := cell_kept r4.cell (grownBy_putObj' _ D (.deferred none)) (fun r e => by cases e; exact ⟨_, hKs, rfl⟩)
      have hr5 := cell_kept r5.cell (grownBy_putObj' _ D (.deferred none)) (fun r e => by cases e; exact ⟨_, hKs, rfl⟩)
      refine ⟨by simp, .inl ⟨_, _, rfl, run_takeDeferred hKs, ?_⟩⟩
      refine ⟨.tuple #[.slice (some ⟨w1.heap.size, 0, none⟩) l.length l.length, .int .i64 0], by simp [results, Tryz.results15, go_sem, hr4, hr5], hbz.trans (belowK_b (w := w) (Nat.le_refl _) _ D _ _ (by omega) hKs rfl rfl), ?_⟩
      rw [Hfin.out, if_neg (by decide)]
      refine ⟨w1.heap.size, rfl, by omega, ?_⟩
      rw [Hcn.out]
      exact (World.putObj_heap_other (by omega)).trans ((hoth _ (by omega) (by omega)).trans H1.out.ct)
    case stop =>
      rintro D cd pr Wd hD hSp ⟨rfl, hx⟩ hnD hK
      have hzz := Hz.out
      have hfin : cntNo l cl = true := by rw [HNo.out, okI_pre hSp hx.bad]; rfl
      have Hfin := Lib.hid hfin
      clear hfin
      gi_wp2
      have hr4 := cell_kept (Boxed.cell (show Boxed Wd (w.heap.size + 1) _ _ from hx.r4)) (grownBy_putObj' _ D (.deferred none)) (fun r e => by cases e; exact ⟨_, hK, rfl⟩)
      have hr5 := cell_kept (Boxed.cell (show Boxed Wd (w.heap.size + 2) _ _ from hx.r5)) (grownBy_putObj' _ D (.deferred none)) (fun r e => by cases e; exact ⟨_, hK, rfl⟩)
      refine ⟨by simp, .inl ⟨_, _, rfl, run_takeDeferred hK, ?_⟩⟩
      refine ⟨.tuple #[.slice none 0 0, .int .i64 2], by simp [results, Tryz.results15, go_sem, hr4, hr5], hx.blw.trans (belowK_b (w := w) (Nat.le_refl _) _ D _ _ (by omega) hK rfl rfl), ?_⟩
      rw [Hfin.out, if_pos rfl]
  · have hno : cntNo l cl = true := by unfold cntNo; rw [decide_eq_false h0]; rfl
    have HNo := Lib.hid hno
    have hne : (checkI l != 0) = true := by simpa using h0
    clear hno
    go_upto_region 1 with fail
    rw [HW.out]
    go_wp2_with (first
      | (go_at_call 28; (with_reducible refine (Check_any As l.length cs l W HS.out hn HT.out).mono ?_); go_must (rintro e w1 ⟨rfl, hb1⟩; have y4 := (hb1.block _ (by omega)).trans q1; have y5 := (hb1.block _ (by omega)).trans q2; obtain ⟨z4, g4⟩ := cells_one y4; obtain ⟨z5, g5⟩ := cells_one y5))
      | fail)
    have e45 : w.heap.size + 1 ≠ w.heap.size + 2 := by omega
    have hr4 := Boxed.cell ((heap_setCell_other (w1.setCell ⟨w.heap.size + 1, 0, none⟩ (.slice none 0 0)) ⟨w.heap.size + 2, 0, none⟩ _ (.int .i64 2) e45).trans (Boxed.set (.slice none 0 0) y4))
    have hr5 := Boxed.cell (Boxed.set (.int .i64 2) ((heap_setCell_other w1 ⟨w.heap.size + 1, 0, none⟩ _ (.slice none 0 0) (Ne.symm e45)).trans y5))
    refine ⟨.tuple #[.slice none 0 0, .int .i64 2], by simp [results, Tryz.results15, go_sem, hr4, hr5], ((hB.trans (hb1.mono (by omega))).setCell (by show _ ≤ w.heap.size + 1; omega) _).setCell (by show _ ≤ w.heap.size + 2; omega) _, ?_⟩
    rw [HNo.out, if_pos rfl]
end Go.Proofs.YthgglobfkkcdgaaGreatDoor
namespace Go.Proofs.YthgglobfkkcdgaaGreatDoor
open Go Go.RowKit
set_option maxRecDepth 100000
set_option maxHeartbeats 4000000 in
theorem make_no {w : World} {l : List Sm} {n : List Int} {b wb : Int} {lpo top : Bool} {As Aq : Option Addr} {cs nq cq : Nat}
    (hC : ∀ w1, Below w.heap.size w w1 → Calls Tryz.prog 15 #[.agg #[.slice As l.length cs], .slice Aq nq cq] w1 (CountsPost l true n w1)) :
    Calls Tryz.prog 5 #[.agg #[.slice As l.length cs], .slice Aq nq cq, .agg #[.bool lpo, .int .i64 b, .int .i64 wb, .bool top]] w (MakePost l true lpo top n b wb w) := by
  obtain ⟨W3, hW3⟩ : ∃ W3, ((w.alloc (.cells #[.slice As l.length cs] 24)).alloc (.cells #[.bool lpo, .int .i64 b, .int .i64 wb, .bool top] 29)).alloc (.cells #[.bool false, .slice none 0 0, .slice none 0 0, .int .i64 0] 38) = W3 := ⟨_, rfl⟩
  obtain ⟨q1, q2, q3⟩ := heap3p w (.cells #[.slice As l.length cs] 24) (.cells #[.bool lpo, .int .i64 b, .int .i64 wb, .bool top] 29) (.cells #[.bool false, .slice none 0 0, .slice none 0 0, .int .i64 0] 38)
  rw [hW3] at q1 q2 q3
  have z3 : W3.heap.size = w.heap.size + 3 := by rw [← hW3]; simp
  have hB3 : Below w.heap.size w W3 := by rw [← hW3]; exact (((Below.refl _ _).alloc (Nat.le_refl _) _).alloc (by simp) _).alloc (by simp; omega) _
  have HW3 := Lib.hid hW3
  have HC := Lib.hid (hC W3 hB3)
  have HM : Hid (∀ w4, Below W3.heap.size W3 w4 → Below w.heap.size w w4 ∧ w4.heap[w.heap.size + 2]? = some (.cells #[.bool false, .slice none 0 0, .slice none 0 0, .int .i64 0] 38)) := Lib.hid fun w4 h4 => ⟨hB3.trans (h4.mono hB3.size), (h4.block (w.heap.size + 2) (by omega)).trans q3⟩
  have c0 := (cells_one q1).1
  clear hC hW3 q1 q2 q3 z3 hB3
  go_enter Tryz.func5, Tryz.ntmps5
  go_upto_region 1 with fail
  rw [HW3.out]
  go_wp2_with (first
    | ((with_reducible refine HC.out.mono ?_); go_must (rintro e w4 ⟨hb4, hp⟩; rw [if_pos rfl] at hp; subst hp; obtain ⟨hbw, m3⟩ := HM.out w4 hb4; obtain ⟨⟨x0, x1, x2, x3⟩, y0, y1, y2, y3⟩ := four_cells m3; have HBw := Lib.hid hbw; clear m3 hb4 hbw))
    | fail)
  refine bodyPost_ret (v := .tuple #[.agg #[.bool false, .slice none 0 0, .slice none 0 0, .int .i64 0], .int .i64 2]) (by simp [results, Tryz.results5, go_sem, x0, x1, x2, x3]) rfl ⟨?_, ?_⟩
  · exact (((HBw.out.setCell (by simp; omega) _).setCell (by simp; omega) _).setCell (by simp; omega) _).setCell (by simp; omega) _
  · rw [if_pos (.inl rfl)]
theorem chk_ar {l : List Sm} (h : checkI l = 0) (f : Nat) : 0 ≤ arP l f ∧ arP l f ≤ 99 := by
  obtain ⟨_, h0, h1⟩ := chk_one h
  unfold arP
  cases hx : l[f]? with
  | none => simp
  | some x =>
    simp only [Option.map_some, Option.getD_some]
    by_cases hf : f = 0
    · subst hf
      rw [h0] at hx
      obtain rfl := Option.some.inj hx
      decide
    · obtain ⟨_, a, b⟩ := h1 f x (by omega) hx
      omega
theorem cntN_le {l : List Sm} {cl : List (List Lp)} (hz : (itms cl).length ≤ 281474976710656) (h : okI l (itms cl) = true) (f : Nat) : 0 ≤ cnP (cntN l cl) f ∧ cnP (cntN l cl) f ≤ 1152921504606846976 := by
  unfold cnP
  rw [List.getD_eq_getElem?_getD]
  cases hx : (cntN l cl)[f]? with
  | none => simp
  | some x =>
    have hm := List.mem_of_getElem? hx
    unfold cntN at hm
    have := cnt_small h l.length [] x (by rw [List.append_nil]; exact hm)
    simp only [List.length_nil, Option.getD_some] at *
    omega
theorem make_any (l : List Sm) (cl : List (List Lp)) (b wb : Int) (lpo top : Bool) (As Aq : Option Addr) (cs cq : Nat) (w : World) (hS : Syms w w.heap.size As l.length l) (hn : l.length * 32 ≤ 140737488351232) (ht : tru w) (hC : ClRow w (· < w.heap.size) Aq cl) (hz : (itms cl).length ≤ 281474976710656) :
    Calls Tryz.prog 5 #[.agg #[.slice As l.length cs], .slice Aq cl.length cq, .agg #[.bool lpo, .int .i64 b, .int .i64 wb, .bool top]] w (MakePost l (cntNo l cl) lpo top (cntN l cl) b wb w) := by
  have hcs : ∀ w1, Below w.heap.size w w1 → Calls Tryz.prog 15 #[.agg #[.slice As l.length cs], .slice Aq cl.length cq] w1 (CountsPost l (cntNo l cl) (cntN l cl) w1) := fun w1 h1 =>
    counts_any l cl As Aq cs cq w1 (hS.on h1) hn (tru_below ht h1) (hC.on h1) (by omega)
  cases hno : cntNo l cl with
  | true => rw [hno] at hcs; exact make_no hcs
  | false =>
    have hb : checkI l = 0 ∧ okI l (itms cl) = true := by
      unfold cntNo at hno
      simpa using hno
    have h96 := (chk_one hb.1).1
    have hl0 := chk_some hb.1
    rw [hno] at hcs
    exact make_of (m := l.length - 1) (by omega) (by omega) (cntN_len l cl) (chk_ar hb.1) (cntN_le hz hb.2) hS hcs
end Go.Proofs.YthgglobfkkcdgaaGreatDoor
namespace Go.Proofs.YthgglobfkkcdgaaGreatDoor
open Go.RowKit
set_option maxRecDepth 100000
end Go.Proofs.YthgglobfkkcdgaaGreatDoor
