import Derived.Test.YtkpkhnaflohjpaaP26Z7
import Derived.Test.YtkpkhnaflohjpaaP26Z9
import Derived.Test.YtkpkhnaflohjpaaP26Z10
import Derived.Test.YtkpkhnaflohjpaaP26Z1
import Derived.Test.YtkpkhnaflohjpaaP26Z5
import Derived.Deep.RegionLaw
import Derived.Test.YtkpkhnaflohjpaaP26Z8
import Derived.Test.YtkpkhnaflohjpaaP26Z4
import Derived.WideMake
import Derived.Test.YtkpkhnaflohjpaaP26Z6
/- The document's own answers: low, Small. -/

namespace Go.Proofs.Ytkpkhnaflohjpaa

open Go.RowKit
set_option maxRecDepth 100000

mutual
def lowT : Tm → Bool
  | .node f xs => if f < 0 then decide (-48 ≤ f ∧ xs.length = 0) else lowL xs
def lowL : List Tm → Bool
  | [] => true
  | t :: ts => lowT t && lowL ts
end

theorem low_drop {xs : List Tm} {k : Nat} {u : Tm} (h : xs[k]? = some u) : lowL (xs.drop k) = (lowT u && lowL (xs.drop (k + 1))) := by
  have hlt := (List.getElem?_eq_some_iff.1 h).1
  rw [List.drop_eq_getElem_cons hlt]
  rw [List.getElem?_eq_getElem hlt] at h
  injection h with h
  rw [h]
  simp only [lowL]

def smallT (t : Tm) : Bool := decide (t.size ≤ 300) && decide (t.depth ≤ 30) && lowT t

end Go.Proofs.Ytkpkhnaflohjpaa

/- The document's own answers: over, Check (of a term). -/

namespace Go.Proofs.Ytkpkhnaflohjpaa

open Go.RowKit
set_option maxRecDepth 100000

mutual
def overT (l : List Sm) : Tm → Bool → Bool
  | .node f xs, top => if f < 0 then true else match l[f.toNat]? with
    | none => false
    | some s => if s.arity ≠ xs.length ∨ (s.pred = true ∧ top = false) then false else overL l xs
def overL (l : List Sm) : List Tm → Bool
  | [] => true
  | t :: ts => overT l t false && overL l ts
end

theorem over_drop {l : List Sm} {xs : List Tm} {k : Nat} {u : Tm} (h : xs[k]? = some u) : overL l (xs.drop k) = (overT l u false && overL l (xs.drop (k + 1))) := by
  have hlt := (List.getElem?_eq_some_iff.1 h).1
  rw [List.drop_eq_getElem_cons hlt]
  rw [List.getElem?_eq_getElem hlt] at h
  injection h with h
  rw [h]
  simp only [overL]

section

variable {l : List Sm} {f : Int} {xs : List Tm} {top : Bool} {s : Sm}

theorem over_var (hf : f < 0) : overT l (.node f xs) top = true := by simp only [overT, if_pos hf]

theorem over_out (hf : ¬ f < 0) (h : (l.length : Int) ≤ f) : overT l (.node f xs) top = false := by
  simp only [overT, if_neg hf, List.getElem?_eq_none (show l.length ≤ f.toNat by omega)]

theorem over_bad (hf : ¬ f < 0) (hs : l[f.toNat]? = some s) (hb : s.arity ≠ xs.length ∨ (s.pred = true ∧ top = false)) : overT l (.node f xs) top = false := by
  simp only [overT, if_neg hf, hs, if_pos hb]

theorem over_in (hf : ¬ f < 0) (hs : l[f.toNat]? = some s) (hb : ¬ (s.arity ≠ xs.length ∨ (s.pred = true ∧ top = false))) : overT l (.node f xs) top = overL l xs := by
  simp only [overT, if_neg hf, hs, if_neg hb]

end

/-- May the term be over the signature? -/
def chkP (l : List Sm) (t : Tm) : Int := if checkI l = 0 then (if smallT t = true then (if overT l t true = true then 0 else 2) else 2) else 2

end Go.Proofs.Ytkpkhnaflohjpaa

/- what terms may be, over a signature: plain -/

namespace Go.Proofs.Ytkpkhnaflohjpaa

open Go.RowKit Go.Shelf Go.Maps
set_option maxRecDepth 100000
set_option maxRecDepth 100000

def fitsL (l : List Sm) (ts : List Tm) : Bool := ts.all fun t => decide (chkP l t = 0)

theorem fitsL_no {l : List Sm} {ts : List Tm} {t : Tm} (ht : t ∈ ts) (h : ¬ chkP l t = 0) : fitsL l ts = false := by
  unfold fitsL
  rw [List.all_eq_false]
  exact ⟨t, ht, by simpa using h⟩

theorem fitsL_yes {l : List Sm} {ts : List Tm} (h : ∀ (j : Nat) (t : Tm), j < ts.length → ts[j]? = some t → chkP l t = 0) : fitsL l ts = true := by
  unfold fitsL
  rw [List.all_eq_true]
  intro t ht
  obtain ⟨j, hj⟩ := List.getElem?_of_mem ht
  exact decide_eq_true (h j t (List.getElem?_eq_some_iff.1 hj).1 hj)

/-- The arities (a negative one lets no term be). -/
def arN (a : Int) : Nat := if a < 0 then 2 else a.toNat

def arL (l : List Sm) : List Nat := l.map fun s => arN s.arity

theorem arN_nat (n : Nat) : arN (n : Int) = n := by unfold arN; rw [if_neg (by omega)]; omega

theorem arN_zero {a : Int} (h : arN a = 0) : a = 0 := by
  unfold arN at h
  by_cases ha : a < 0
  · rw [if_pos ha] at h; omega
  · rw [if_neg ha] at h; omega

theorem arN_one {a : Int} (h : arN a = 1) : a = 1 := by
  unfold arN at h
  by_cases ha : a < 0
  · rw [if_pos ha] at h; omega
  · rw [if_neg ha] at h; omega

theorem arL_at {l : List Sm} {i : Nat} {s : Sm} (h : l[i]? = some s) : (arL l).getD i 0 = arN s.arity := by
  unfold arL; rw [List.getD_eq_getElem?_getD, List.getElem?_map, h]; rfl

theorem arL_len (l : List Sm) : (arL l).length = l.length := by unfold arL; simp

mutual
theorem wf_of {l : List Sm} : ∀ (t : Tm) (top : Bool), lowT t = true → overT l t top = true → wfT (arL l) t = true
  | .node f xs, top, h1, h2 => by
    rw [lowT] at h1
    rw [overT] at h2
    rw [wfT, wfTop]
    by_cases hf : f < 0
    · rw [if_pos hf, decide_eq_true_eq] at h1
      rw [if_pos hf]
      have : xs = [] := List.eq_nil_of_length_eq_zero h1.2
      subst this
      rfl
    · rw [if_neg hf] at h1 h2
      rw [if_neg hf]
      cases hs : l[f.toNat]? with
      | none => rw [hs] at h2; cases h2
      | some s =>
        rw [hs] at h2
        by_cases hb : s.arity ≠ xs.length ∨ (s.pred = true ∧ top = false)
        · simp only [if_pos hb] at h2; cases h2
        · simp only [if_neg hb] at h2
          rw [wfL_of xs h1 h2, arL_len, arL_at hs]
          have hlt := (List.getElem?_eq_some_iff.1 hs).1
          have ha : s.arity = xs.length := Decidable.byContradiction fun e => hb (.inl e)
          rw [ha, arN_nat]
          simp only [Bool.and_true, Bool.and_eq_true, decide_eq_true_eq]
          exact ⟨by omega, trivial⟩
theorem wfL_of {l : List Sm} : ∀ (xs : List Tm), lowL xs = true → overL l xs = true → wfL (arL l) xs = true
  | [], _, _ => rfl
  | x :: xs, h1, h2 => by
    rw [lowL, Bool.and_eq_true] at h1
    rw [overL, Bool.and_eq_true] at h2
    rw [wfL, wf_of x false h1.1 h2.1, wfL_of xs h1.2 h2.2]; rfl
end

theorem chkP_gd {l : List Sm} {t : Tm} (h : chkP l t = 0) : Gd (arL l) t := by
  unfold chkP at h
  by_cases h0 : checkI l = 0
  · rw [if_pos h0] at h
    by_cases h1 : smallT t = true
    · rw [if_pos h1] at h
      by_cases h2 : overT l t true = true
      · have h1' := h1
        unfold smallT at h1'
        simp only [Bool.and_eq_true, decide_eq_true_eq] at h1'
        exact ⟨wf_of t true h1'.2 h2, by omega⟩
      · rw [if_neg h2] at h; cases h
    · rw [if_neg h1] at h; cases h
  · rw [if_neg h0] at h; cases h

end Go.Proofs.Ytkpkhnaflohjpaa

/- boxes of a signature, an order and terms; rows of terms; a relation turned -/

namespace Go.Proofs.Ytkpkhnaflohjpaa

open Go.RowKit Go.Shelf Go.Maps
set_option maxRecDepth 100000
set_option maxRecDepth 100000

theorem heap5 (w : World) (o0 o1 o2 o3 o4 : Obj) : (((((w.alloc o0).alloc o1).alloc o2).alloc o3).alloc o4).heap[w.heap.size]? = some o0 ∧ (((((w.alloc o0).alloc o1).alloc o2).alloc o3).alloc o4).heap[w.heap.size + 1]? = some o1 ∧ (((((w.alloc o0).alloc o1).alloc o2).alloc o3).alloc o4).heap[w.heap.size + 2]? = some o2 ∧
    (((((w.alloc o0).alloc o1).alloc o2).alloc o3).alloc o4).heap[w.heap.size + 3]? = some o3 ∧ (((((w.alloc o0).alloc o1).alloc o2).alloc o3).alloc o4).heap[w.heap.size + 4]? = some o4 := by
  have e0 := heap_alloc_new w o0
  have e1 := heap_alloc_new (w.alloc o0) o1
  have e2 := heap_alloc_new ((w.alloc o0).alloc o1) o2
  have e3 := heap_alloc_new (((w.alloc o0).alloc o1).alloc o2) o3
  have e4 := heap_alloc_new ((((w.alloc o0).alloc o1).alloc o2).alloc o3) o4
  have s : ∀ (v : World) (o : Obj), (v.alloc o).heap.size = v.heap.size + 1 := fun v o => by simp
  rw [s] at e1
  rw [s, s] at e2
  rw [s, s, s] at e3
  rw [s, s, s, s] at e4
  refine ⟨?_, ?_, ?_, ?_, e4⟩
  · rw [Below.heap_alloc _ _ _ (by simp only [s]; omega), Below.heap_alloc _ _ _ (by simp only [s]; omega), Below.heap_alloc _ _ _ (by simp only [s]; omega), Below.heap_alloc _ _ _ (by simp only [s]; omega)]
    exact e0
  · rw [Below.heap_alloc _ _ _ (by simp only [s]; omega), Below.heap_alloc _ _ _ (by simp only [s]; omega), Below.heap_alloc _ _ _ (by simp only [s]; omega)]
    exact e1
  · rw [Below.heap_alloc _ _ _ (by simp only [s]; omega), Below.heap_alloc _ _ _ (by simp only [s]; omega)]
    exact e2
  · rw [Below.heap_alloc _ _ _ (by simp only [s]; omega)]
    exact e3

theorem below5 (w : World) (o0 o1 o2 o3 o4 : Obj) : Below w.heap.size w (((((w.alloc o0).alloc o1).alloc o2).alloc o3).alloc o4) :=
  (((((Below.refl _ _).alloc (Nat.le_refl _) _).alloc (by simp) _).alloc (by simp; omega) _).alloc (by simp; omega) _).alloc (by simp; omega) _

/-- A signature, an order, in their boxes b and b + 1. -/
structure BoxSO (w : World) (b : Nat) (o : Odr) (As P Q : Option Addr) (n cs pc qc : Nat) : Prop where
  s0 : w.cell? ⟨b, 0, none⟩ = some (.slice As n cs)
  o0 : w.cell? ⟨b + 1, 0, none⟩ = some (.bool o.lpo)
  o1 : w.cell? ⟨b + 1, 1, none⟩ = some (.slice P o.prec.length pc)
  o2 : w.cell? ⟨b + 1, 2, none⟩ = some (.slice Q o.wts.length qc)
  o3 : w.cell? ⟨b + 1, 3, none⟩ = some (.int .i64 o.var)

theorem boxSO_of {w : World} {b : Nat} {o : Odr} {As P Q : Option Addr} {n cs pc qc : Nat} {ty ty2 : TypeId} (h0 : w.heap[b]? = some (.cells #[.slice As n cs] ty)) (h1 : w.heap[b + 1]? = some (.cells #[.bool o.lpo, .slice P o.prec.length pc, .slice Q o.wts.length qc, .int .i64 o.var] ty2)) : BoxSO w b o As P Q n cs pc qc := by
  obtain ⟨a0, _⟩ := cells_one h0
  obtain ⟨b0, b1, b2, b3⟩ := cells_four h1
  exact ⟨a0, b0, b1, b2, b3⟩

/-- A term that lies in memory. -/
structure TmK (w : World) (t : Tm) (A : Option Addr) (c : Nat) : Prop where
  i64 : I64 t.fn
  args : ArgsK w (· < w.heap.size) A c t.args

theorem TmK.on {w w' : World} {t : Tm} {A : Option Addr} {c : Nat} (h : TmK w t A c) (hb : Below w.heap.size w w') : TmK w' t A c := ⟨h.i64, h.args.on hb⟩

theorem cells_six {W : World} {b : Nat} {x0 x1 x2 x3 x4 x5 : Value} {t : TypeId} (h : W.heap[b]? = some (.cells #[x0, x1, x2, x3, x4, x5] t)) : W.cell? ⟨b, 0, none⟩ = some x0 ∧ W.cell? ⟨b, 1, none⟩ = some x1 ∧ W.cell? ⟨b, 2, none⟩ = some x2 ∧ W.cell? ⟨b, 3, none⟩ = some x3 ∧ W.cell? ⟨b, 4, none⟩ = some x4 ∧ W.cell? ⟨b, 5, none⟩ = some x5 := by
  refine ⟨?_, ?_, ?_, ?_, ?_, ?_⟩ <;> simp [World.cell?, h]

theorem argsK_three {w : World} {N : Nat → Prop} {b : Nat} {t u v : Tm} {A A2 A3 : Option Addr} {c c2 c3 : Nat} {e : TypeId} (h : w.heap[b]? = some (.cells #[.int .i64 t.fn, .slice A t.args.length c, .int .i64 u.fn, .slice A2 u.args.length c2, .int .i64 v.fn, .slice A3 v.args.length c3] e)) (hN : N b) (h1 : I64 t.fn) (h2 : I64 u.fn) (h3 : I64 v.fn) (hA : ArgsK w N A c t.args) (hA2 : ArgsK w N A2 c2 u.args) (hA3 : ArgsK w N A3 c3 v.args) :
    ArgsK w N (some ⟨b, 0, none⟩) 3 [t, u, v] := by
  obtain ⟨z0, z1, z2, z3, z4, z5⟩ := cells_six h
  refine .row b 0 3 [t, u, v] (fun i => if i = 0 then A else if i = 1 then A2 else A3) (fun i => if i = 0 then c else if i = 1 then c2 else c3) (by simp) hN (by simp) (fun i x e => ?_) (fun i x e => ?_) (fun i x e => ?_) (fun i x e => ?_)
  all_goals
    match i, e with
    | 0, e =>
      simp only [List.getElem?_cons_zero, Option.some.injEq] at e
      subst e
      first
        | exact h1
        | exact z0
        | exact z1
        | exact hA
    | 1, e =>
      simp only [List.getElem?_cons_succ, List.getElem?_cons_zero, Option.some.injEq] at e
      subst e
      first
        | exact h2
        | exact z2
        | exact z3
        | exact hA2
    | 2, e =>
      simp only [List.getElem?_cons_succ, List.getElem?_cons_zero, Option.some.injEq] at e
      subst e
      first
        | exact h3
        | exact z4
        | exact z5
        | exact hA3
    | i + 3, e => simp at e

/-- Rows of one, two, three terms, as the law lays them: in a world behind W. -/
theorem row_one {W w1 : World} {t : Tm} {A : Option Addr} {c : Nat} (h : TmK W t A c) (hb : Below W.heap.size W w1) :
    Args (w1.alloc (.cells #[.int .i64 t.fn, .slice A t.args.length c] 27)) (w1.alloc (.cells #[.int .i64 t.fn, .slice A t.args.length c] 27)).heap.size (some ⟨w1.heap.size, 0, none⟩) [t] := by
  have hb1 : Below w1.heap.size w1 (w1.alloc (.cells #[.int .i64 t.fn, .slice A t.args.length c] 27)) := (Below.refl _ _).alloc (Nat.le_refl _) _
  have ht := (h.on hb).on hb1
  exact (argsK_one (N := (· < (w1.alloc (.cells #[.int .i64 t.fn, .slice A t.args.length c] 27)).heap.size)) (heap_alloc_new w1 _) (by simp) ht.i64 ht.args).toA

theorem row_two {W w1 : World} {s t : Tm} {A A2 : Option Addr} {c c2 : Nat} (hs : TmK W s A c) (ht : TmK W t A2 c2) (hb : Below W.heap.size W w1) :
    Args (w1.alloc (.cells #[.int .i64 s.fn, .slice A s.args.length c, .int .i64 t.fn, .slice A2 t.args.length c2] 27)) (w1.alloc (.cells #[.int .i64 s.fn, .slice A s.args.length c, .int .i64 t.fn, .slice A2 t.args.length c2] 27)).heap.size (some ⟨w1.heap.size, 0, none⟩) [s, t] := by
  have hb1 : Below w1.heap.size w1 (w1.alloc (.cells #[.int .i64 s.fn, .slice A s.args.length c, .int .i64 t.fn, .slice A2 t.args.length c2] 27)) := (Below.refl _ _).alloc (Nat.le_refl _) _
  have h1 := (hs.on hb).on hb1
  have h2 := (ht.on hb).on hb1
  exact (argsK_two (N := (· < (w1.alloc (.cells #[.int .i64 s.fn, .slice A s.args.length c, .int .i64 t.fn, .slice A2 t.args.length c2] 27)).heap.size)) (heap_alloc_new w1 _) (by simp) h1.i64 h2.i64 h1.args h2.args).toA

theorem row_three {W w1 : World} {s t u : Tm} {A A2 A3 : Option Addr} {c c2 c3 : Nat} (hs : TmK W s A c) (ht : TmK W t A2 c2) (hu : TmK W u A3 c3) (hb : Below W.heap.size W w1) :
    Args (w1.alloc (.cells #[.int .i64 s.fn, .slice A s.args.length c, .int .i64 t.fn, .slice A2 t.args.length c2, .int .i64 u.fn, .slice A3 u.args.length c3] 27)) (w1.alloc (.cells #[.int .i64 s.fn, .slice A s.args.length c, .int .i64 t.fn, .slice A2 t.args.length c2, .int .i64 u.fn, .slice A3 u.args.length c3] 27)).heap.size (some ⟨w1.heap.size, 0, none⟩) [s, t, u] := by
  have hb1 : Below w1.heap.size w1 (w1.alloc (.cells #[.int .i64 s.fn, .slice A s.args.length c, .int .i64 t.fn, .slice A2 t.args.length c2, .int .i64 u.fn, .slice A3 u.args.length c3] 27)) := (Below.refl _ _).alloc (Nat.le_refl _) _
  have h1 := (hs.on hb).on hb1
  have h2 := (ht.on hb).on hb1
  have h3 := (hu.on hb).on hb1
  exact (argsK_three (N := (· < (w1.alloc (.cells #[.int .i64 s.fn, .slice A s.args.length c, .int .i64 t.fn, .slice A2 t.args.length c2, .int .i64 u.fn, .slice A3 u.args.length c3] 27)).heap.size)) (heap_alloc_new w1 _) (by simp) h1.i64 h2.i64 h3.i64 h1.args h2.args h3.args).toA

/-- A relation the other way round. -/
def turnI (r : Int) : Int := if r = 1 then 3 else if r = 3 then 1 else r

end Go.Proofs.Ytkpkhnaflohjpaa

/- sizes of the first of a row -/

namespace Go.Proofs.Ytkpkhnaflohjpaa

open Go.RowKit
set_option maxRecDepth 100000
set_option maxRecDepth 100000

theorem sizes_bd {xs : List Tm} {k : Nat} : sizes (xs.take k) ≤ sizes xs := sizes_le xs k

end Go.Proofs.Ytkpkhnaflohjpaa

/- lpo: what its laws ask besides: Great, of, Turned, Fits, Put (gen_qc.py). -/

namespace Go.Proofs.Ytkpkhnaflohjpaa

open Go.RowKit Go.Shelf Go.Maps
set_option maxRecDepth 100000

def fitsQ (l : List Sm) (o : Odr) (ts : List Tm) : Bool := o.lpo && (decide (chkO l o = 0) && fitsL l ts)

set_option maxHeartbeats 1000000 in
theorem lpoGreat_any (l : List Tm) (hsz : ∀ x ∈ l, x.size ≤ 4611686018427387904) (A : Option Addr) (c : Nat) (w : World) (hA : Args w w.heap.size A l) :
    Calls Try.prog 4 #[.slice A l.length c] w fun e w' => e = .returned (.bool (decide (2000 < sizes l))) ∧ Below w.heap.size w w' := by
  have hlen := hA.len
  have HA := Lib.hid hA
  have Hsm := Lib.hid hsz
  clear hA hsz
  go_enter Try.func4, Try.ntmps4
  go_wp2
  go_loopw [3, 4] (fun n i wr => ∃ k : Nat, k ≤ l.length ∧ i = .int .i64 (k : Int) ∧ n = .int .i64 ((sizes (l.take k) : Nat) : Int) ∧ sizes (l.take k) ≤ 2000 ∧ Below w.heap.size w wr) (fun _ i _ => l.length - (intOf i).toNat)
  case atStart => exact ⟨0, Nat.zero_le _, rfl, by simp [sizes], by simp [sizes], Below.refl _ _⟩
  case round =>
    obtain ⟨k, hk, rfl, rfl, hle, hBr⟩ := hrel
    by_cases hlt : k < l.length
    · obtain ⟨x, hx⟩ : ∃ x, l[k]? = some x := ⟨_, List.getElem?_eq_getElem hlt⟩
      obtain ⟨b, off, A', c', rfl, h⟩ := (HA.out.on hBr).get hx
      have e0 := h.c0
      have e1 := h.c1
      have hxs := Hsm.out x (List.mem_of_getElem? hx)
      have HG := Lib.hid (refSize_any x hxs A' c' wr h.hi h.sub)
      have hT := sizes_take hx
      obtain ⟨m, hm⟩ : ∃ m, sizes (l.take k) = m := ⟨_, rfl⟩
      obtain ⟨j, hj⟩ : ∃ j, x.size = j := ⟨_, rfl⟩
      rw [hm, hj] at hT
      rw [hj] at HG hxs
      rw [hm] at hle ⊢
      have hwr2 : IntKind.i64.wrap ((m : Int) + (j : Int)) = (m : Int) + (j : Int) := by rw [IntKind.wrap_i64]; omega
      have hall := sizes_le l (k + 1)
      rw [hT] at hall
      have HT := Lib.hid hT
      clear hT hm hj hx h
      by_cases hg : 2000 < m + j
      · have hfin := Lib.hid (show decide (2000 < sizes l) = true from decide_eq_true (by omega))
        have hg' : (2000 : Int) < (m : Int) + (j : Int) := by omega
        clear hall
        go_wp2_with (first
          | (go_at_call 9; (with_reducible refine HG.out.mono ?_); go_must (rintro e w1 ⟨rfl, hb1⟩))
          | fail)
        go_ret
        exact ⟨ret_bool hfin.out.symm, hBr.trans (hb1.mono hBr.size)⟩
      · have hg' : ¬ (2000 : Int) < (m : Int) + (j : Int) := by omega
        clear hall
        go_wp2_with (first
          | (go_at_call 9; (with_reducible refine HG.out.mono ?_); go_must (rintro e w1 ⟨rfl, hb1⟩))
          | fail)
        go_roundw
        case rel => exact ⟨k + 1, by omega, by go_num, by rw [HT.out]; congr 1 <;> omega, by rw [HT.out]; omega, hBr.trans (hb1.mono hBr.size)⟩
        case measure => simp [intOf]; omega
    · obtain rfl : k = l.length := by omega
      rw [List.take_length] at hle
      have hfin := Lib.hid (show decide (2000 < sizes l) = false from decide_eq_false (by omega))
      go_wp2
      go_ret
      exact ⟨ret_bool hfin.out.symm, hBr⟩

theorem lpoOf_eq (f : Int) (n c : Nat) (A : Option Addr) (w : World) : Calls Try.prog 11 #[.int .i64 f, .slice A n c] w fun e w' => e = .returned (.agg #[.int .i64 f, .slice A n c]) ∧ w' = w.alloc (.cells #[.int .i64 f, .slice A n c] 27) := by
  have q0 := heap_alloc_new w (.cells #[.int .i64 f, .slice A n c] 27)
  obtain ⟨z0, z1, _, _⟩ := cells_two q0
  go_enter Try.func11, Try.ntmps11
  go_wp2
  refine bodyPost_ret (v := .agg #[.int .i64 f, .slice A n c]) (by simp [results, Try.results11, go_sem, z0, z1]) rfl ⟨rfl, rfl⟩

end Go.Proofs.Ytkpkhnaflohjpaa

/- lpo: what Cmp answers, plain; which orders may be. -/

namespace Go.Proofs.Ytkpkhnaflohjpaa

open Go.RowKit Go.Shelf Go.Maps
set_option maxRecDepth 20000

def cmpP (p : List Int) (s t : Tm) : Int := if layK p.length s && layK p.length t then (if cmpT s t = 0 then 2 else if lpT p s t then 3 else if lpT p t s then 1 else 0) else 0

mutual
theorem layK_vn {R : Nat} : ∀ t : Tm, layK R t = true → vnT t = true
  | .node f xs, h => by
    rw [layK, Bool.and_eq_true, Bool.not_eq_true', Bool.or_eq_false_iff, Bool.and_eq_false_iff, decide_eq_false_iff_not, decide_eq_false_iff_not, decide_eq_false_iff_not] at h
    rw [vnT, Bool.and_eq_true]
    refine ⟨?_, layKL_vn xs h.2⟩
    rcases h.1.2 with h1 | h1
    · rw [decide_eq_false h1]; rfl
    · rw [decide_eq_true (show xs.length = 0 by omega), Bool.or_true]
theorem layKL_vn {R : Nat} : ∀ xs : List Tm, layKL R xs = true → vnTL xs = true
  | [], _ => by rw [vnTL]
  | x :: xs, h => by
    rw [layKL, Bool.and_eq_true] at h
    rw [vnTL, Bool.and_eq_true]
    exact ⟨layK_vn x h.1, layKL_vn xs h.2⟩
end

theorem chkO_admL {l : List Sm} {o : Odr} (h : chkO l o = 0) : AdmL o.prec (arL l) := by
  unfold chkO at h
  by_cases hc : ¬ (checkI l = 0 ∧ rankB o.prec l.length = true ∧ (o.lpo = true ∨ (o.wts.length = l.length ∧ 1 ≤ o.var ∧ o.var ≤ 1000 ∧ o.wts.getD 0 0 = o.var ∧ chkW l o = true)))
  · rw [if_neg hc] at h; cases h
  replace hc := Decidable.not_not.1 hc
  obtain ⟨_, hr, _⟩ := hc
  unfold rankB at hr
  rw [Bool.and_eq_true, decide_eq_true_eq, List.all_eq_true] at hr
  have hbad : ∀ i, i < l.length → badR o.prec i = false := fun i hi => by simpa using hr.2 i (List.mem_range.2 hi)
  have hne : ∀ i k, i < l.length → k < i → ¬ o.prec.getD i 0 = o.prec.getD k 0 := fun i k hi hk e => by
    have := hbad i hi
    rw [badR_same hk e] at this; cases this
  have hlen := arL_len l
  refine ⟨by rw [hr.1, hlen], fun i k hi hk e => ?_⟩
  rw [hlen] at hi hk
  rcases Nat.lt_trichotomy i k with h | h | h
  · exact absurd e.symm (hne k i hk h)
  · exact h
  · exact absurd e (hne i k hi h)

theorem fitsQ_gd {l : List Sm} {o : Odr} {ts : List Tm} (h : fitsQ l o ts = true) : ∀ t ∈ ts, Gd (arL l) t := by
  unfold fitsQ at h
  rw [Bool.and_eq_true, Bool.and_eq_true] at h
  intro t ht
  have h1 := h.2.2
  unfold fitsL at h1
  exact chkP_gd (of_decide_eq_true (List.all_eq_true.1 h1 t ht))

section

variable {p : List Int} {ar : List Nat} {s t u : Tm}

theorem wf_lay (K : AdmL p ar) : ∀ t : Tm, wfT ar t = true → layK p.length t = true := by
  refine Tm.ind fun f xs ih h => ?_
  rw [layK, Bool.and_eq_true]
  refine ⟨?_, (layKL_take xs).2 fun x hx => ih x hx (wfL_mem (wf_args h) hx)⟩
  have hnp := K.np
  by_cases hf : f < 0
  · have hx : xs.length = 0 := by rw [wf_var h hf]; rfl
    rw [decide_eq_false (show ¬ (p.length : Int) ≤ f by omega), decide_eq_false (show ¬ 0 < xs.length by omega)]; simp
  · obtain ⟨h1, _⟩ := wf_sym h hf
    rw [decide_eq_false (show ¬ (p.length : Int) ≤ f by omega), decide_eq_false hf]; rfl

theorem cmpP_gd (K : AdmL p ar) (hs : Gd ar s) (ht : Gd ar t) : cmpP p s t = if cmpT s t = 0 then 2 else if lpT p s t then 3 else if lpT p t s then 1 else 0 := by
  unfold cmpP; rw [wf_lay K s hs.wf, wf_lay K t ht.wf]; rfl

theorem cmpP_two (K : AdmL p ar) (hs : Gd ar s) (ht : Gd ar t) : cmpP p s t = 2 ↔ cmpT s t = 0 := by
  rw [cmpP_gd K hs ht]
  by_cases h : cmpT s t = 0
  · simp [h]
  · simp only [h, if_false]
    constructor
    · intro e; split at e <;> (try split at e) <;> cases e
    · intro e; exact e.elim

theorem cmpP_three (K : AdmL p ar) (hs : Gd ar s) (ht : Gd ar t) : cmpP p s t = 3 ↔ lpT p s t = true := by
  rw [cmpP_gd K hs ht]
  by_cases h : cmpT s t = 0
  · have : s = t := cmp_zero_iff.1 h
    subst this
    simp only [h, if_true]
    constructor
    · intro e; cases e
    · intro e; rw [lp_irr s (wf_vn s hs.wf)] at e; cases e
  · simp only [h, if_false]
    cases h1 : lpT p s t
    · simp only [Bool.false_eq_true, if_false, iff_false]
      split <;> decide
    · simp

theorem cmpP_self (K : AdmL p ar) (hs : Gd ar s) : cmpP p s s = 2 := (cmpP_two K hs hs).2 (cmp_zero_iff.2 rfl)

theorem cmpP_turn (K : AdmL p ar) (hs : Gd ar s) (ht : Gd ar t) : cmpP p t s = turnI (cmpP p s t) := by
  rw [cmpP_gd K hs ht, cmpP_gd K ht hs]
  by_cases h : cmpT s t = 0
  · have : s = t := cmp_zero_iff.1 h
    subst this
    simp [h, turnI]
  · have h' : ¬ cmpT t s = 0 := fun e => by
      rw [cmp_zero_iff] at e; subst e; exact h (cmp_zero_iff.2 rfl)
    rw [if_neg h, if_neg h']
    cases h1 : lpT p s t
    · cases h2 : lpT p t s <;> simp [turnI]
    · rw [lp_asym (wf_vn s hs.wf) (wf_vn t ht.wf) h1]; simp [turnI]

theorem cmpP_trans (K : AdmL p ar) (hs : Gd ar s) (ht : Gd ar t) (hu : Gd ar u) (h1 : cmpP p s t = 3) (h2 : cmpP p t u = 3) : cmpP p s u = 3 :=
  (cmpP_three K hs hu).2 (lp_trans (wf_vn s hs.wf) (wf_vn t ht.wf) (wf_vn u hu.wf) ((cmpP_three K hs ht).1 h1) ((cmpP_three K ht hu).1 h2))

end

end Go.Proofs.Ytkpkhnaflohjpaa

/- lpo: lay of two terms, walked. -/

namespace Go.Proofs.Ytkpkhnaflohjpaa

open Go.RowKit Go.Shelf Go.Maps
set_option maxRecDepth 100000

theorem lpLay_all {B0 bp bm : Nat} {P : Option Addr} {rk : List Int} {pc : Nat} {mf : Value} (t : Tm) : LpLayAt B0 bp bm P rk pc mf t := by
  refine Tm.ind (P := LpLayAt B0 bp bm P rk pc mf) (fun f xs ih => ?_) t
  by_cases hx : (rk.length : Int) ≤ f ∨ f < 0 ∧ 0 < xs.length
  · intro w v H L A c h _ _ _ _
    exact lay_no h f xs A c hx
  · exact lpLay_yes f xs ih hx

theorem okT_laid {R : Nat} {L M : List (Int × Int)} {t : Tm} (hk : layK R t = true) (hv : vnT t = true) (hL : L.Nodup) (hp : (nmT R L t).2 <+: M) : OkT R M t :=
  ⟨hv, layK_rk t hk, _, ((nm_spec t L hL (layK_rk t hk)).2.2).mono hp⟩

/-- What two laid terms leave. -/
structure Two (w w' : World) (p : List Int) (s t : Tm) (bp : Nat) (P : Option Addr) (pc : Nat) (n bf : Nat) (A : Option Addr) (H : List Hd) (hc : Nat) (ml : Value) (M : List (Int × Int)) : Prop where
  nb : w.heap.size ≤ bf
  nd : M.Nodup
  os : OkT p.length M s
  ot : OkT p.length M t
  a1 : AtT p.length M H 0 s
  a2 : AtT p.length M H s.size t
  len : H.length = s.size + t.size
  fd : FdW w' n bp bf P p pc A H hc ml (fdF p p.length M)

def LayTwo (w : World) (p : List Int) (s t : Tm) (e : Ending) (w' : World) : Prop :=
  Below w.heap.size w w' ∧ (layK p.length s = true ∧ layK p.length t = true → ∃ bp P pc n bf A H hc ml M, e = .returned (.tuple #[.agg #[.pointer (some ⟨bp, 0, none⟩), .int .i64 0], .agg #[.pointer (some ⟨bp, 0, none⟩), .int .i64 (s.size : Int)], .bool true]) ∧ Two w w' p s t bp P pc n bf A H hc ml M) ∧
    (¬ (layK p.length s = true ∧ layK p.length t = true) → e = .returned (.tuple #[.agg #[.pointer none, .int .i64 0], .agg #[.pointer none, .int .i64 0], .bool false]))

/-- A pair just made. -/
theorem prL_made {X : World} {B0 bp bm bf : Nat} {P : Option Addr} {rk : List Int} {pc : Nat} (hbox : X.heap[bp]? = some (.cells #[.slice P rk.length pc, .slice none 0 0, .map (some bm), .map (some bf)] 56)) (hr : Ints X B0 P rk) (hm : LMap X bm rk.length []) (hne : bm ≠ bp) (h1 : B0 ≤ bp) (h2 : B0 ≤ bm) :
    PrL X B0 bp bm P rk pc (.map (some bf)) (.slice none 0 0) [] [] :=
  ⟨hbox, hr, RowH.nil_ X B0, hm, hne, (fun e => by cases e), (fun e => by cases e), h1, h2⟩

/-- Both laid. -/
theorem two_of_laid {w X w1 w2 : World} {B0 bp bm bf : Nat} {P : Option Addr} {rk : List Int} {pc : Nat} {s t : Tm} {v1 v2 : Value} {H1 H2 : List Hd} {L1 L2 : List (Int × Int)} {F : Int × Int → Int}
    (hf : w.heap.size ≤ bf) (hB0 : B0 ≤ w.heap.size) (hfX : bf < X.heap.size) (hfp : bf ≠ bp) (hmp : FMap w2 bf [] F) (hz1 : X.heap.size ≤ w1.heap.size) (hz2 : X.heap.size ≤ w2.heap.size) (hF : F = fdF rk rk.length L2)
    (hks : layK rk.length s = true) (hkt : layK rk.length t = true) (hvs : vnT s = true) (hvt : vnT t = true) (hsz : s.size + t.size ≤ 1099511627776)
    (n1 : NewV X (.slice none 0 0) v1) (e1 : H1 = hdT rk.length [] s) (l1 : L1 = (nmT rk.length [] s).2)
    (p2 : PrL w2 B0 bp bm P rk pc (.map (some bf)) v2 H2 L2) (n2 : NewV w1 v1 v2) (e2 : H2 = H1 ++ hdT rk.length L1 t) (l2 : L2 = (nmT rk.length L1 t).2) :
    ∃ A hc, Two w w2 rk s t bp P pc w2.heap.size bf A H2 hc (.map (some bm)) L2 := by
  have hs1 := nm_spec s [] (List.nodup_nil) (layK_rk s hks)
  rw [← l1] at hs1
  have hs2 := nm_spec t L1 hs1.1 (layK_rk t hkt)
  rw [← l2] at hs2
  have hH1 : H1 = hsT rk.length L2 s := by rw [e1]; exact hd_hs hs2.1 s [] List.nodup_nil (layK_rk s hks) (by rw [← l1]; exact hs2.2.1)
  have hH2 : H2 = hsT rk.length L2 s ++ hsT rk.length L2 t := by rw [e2, hH1, hd_hs hs2.1 t L1 hs1.1 (layK_rk t hkt) (by rw [← l2]; exact List.prefix_rfl)]
  have hlen : H2.length = s.size + t.size := by rw [hH2, List.length_append, hsT_len, hsT_len]
  obtain ⟨A, c, hv, hP⟩ := p2.pair (by omega)
  have hv1f : v1.ownBlock ≠ some bf := fun e => by
    rcases n1 bf e with a | a
    · cases a
    · omega
  have hv2f : v2.ownBlock ≠ some bf := fun e => by
    rcases n2 bf e with a | a
    · exact hv1f a
    · omega
  have hlt := p2.lt
  refine ⟨A, c, hf, hs2.1, okT_laid hks hvs List.nodup_nil (by rw [← l1]; exact hs2.2.1), okT_laid hkt hvt hs1.1 (by rw [← l2]; exact List.prefix_rfl), by rw [hH2]; exact AtT.two.1, by rw [hH2]; exact AtT.two.2, hlen, ⟨hP, Nat.le_refl _, fun hn b off e => ?_, fun b off e => ?_, hlt.1, by omega, hfp, ⟨[], List.nodup_nil, (fun x hx => by simp at hx), ?_⟩, ?_⟩⟩
  · obtain ⟨b', off', e', hb', _⟩ := p2.rks.ad hn
    rw [e] at e'
    injection e' with e'
    injection e' with e' _
    subst e'
    exact ⟨by have := p2.lp; omega, by omega⟩
  · have ho : v2.ownBlock = some b := by rw [hv, e]; rfl
    exact ⟨(p2.own ho).2, fun e' => hv2f (e' ▸ ho)⟩
  · rw [← hF]
    exact hmp
  · rcases p2.row.row.2 with ⟨_, h0⟩ | ⟨g, cap, cur, hvv, _, _, hcap, _⟩
    · omega
    · rw [hv] at hvv
      injection hvv with _ _ h3
      subst h3
      exact hcap

end Go.Proofs.Ytkpkhnaflohjpaa

/- lpo: lay of two terms, walked. -/

namespace Go.Proofs.Ytkpkhnaflohjpaa

open Go.RowKit Go.Shelf Go.Maps
set_option maxRecDepth 100000

theorem cells2p {W : World} {b : Nat} {x y x' y' : Value} {t : TypeId} (h : W.heap[b]? = some (.cells #[x, y] t)) : ((W.setCell ⟨b, 0, none⟩ x').setCell ⟨b, 1, none⟩ y').heap[b]? = some (.cells #[x', y'] t) :=
  heap_setCell_same _ _ 1 _ _ _ (heap_setCell_same W _ 0 _ _ _ h)

theorem two_res {w1 : World} {b6 b7 : Nat} {a b a' b' : Value} {ty ty' : TypeId} (hne : b6 ≠ b7) (h6 : w1.heap[b6]? = some (.cells #[a, b] ty)) (h7 : w1.heap[b7]? = some (.cells #[a', b'] ty')) (x y x' y' : Value) :
    ((((w1.setCell ⟨b6, 0, none⟩ x).setCell ⟨b6, 1, none⟩ y).setCell ⟨b7, 0, none⟩ x').setCell ⟨b7, 1, none⟩ y').cell? ⟨b6, 0, none⟩ = some x ∧ ((((w1.setCell ⟨b6, 0, none⟩ x).setCell ⟨b6, 1, none⟩ y).setCell ⟨b7, 0, none⟩ x').setCell ⟨b7, 1, none⟩ y').cell? ⟨b6, 1, none⟩ = some y ∧
    ((((w1.setCell ⟨b6, 0, none⟩ x).setCell ⟨b6, 1, none⟩ y).setCell ⟨b7, 0, none⟩ x').setCell ⟨b7, 1, none⟩ y').cell? ⟨b7, 0, none⟩ = some x' ∧ ((((w1.setCell ⟨b6, 0, none⟩ x).setCell ⟨b6, 1, none⟩ y).setCell ⟨b7, 0, none⟩ x').setCell ⟨b7, 1, none⟩ y').cell? ⟨b7, 1, none⟩ = some y' := by
  have e6 := cells2p (x' := x) (y' := y) h6
  have o : ∀ W : World, ((W.setCell ⟨b7, 0, none⟩ x').setCell ⟨b7, 1, none⟩ y').heap[b6]? = W.heap[b6]? := fun W => (heap_setCell_other _ _ _ _ hne).trans (heap_setCell_other _ _ _ _ hne)
  have e7 : ((w1.setCell ⟨b6, 0, none⟩ x).setCell ⟨b6, 1, none⟩ y).heap[b7]? = some (.cells #[a', b'] ty') := ((heap_setCell_other _ _ _ _ (Ne.symm hne)).trans (heap_setCell_other _ _ _ _ (Ne.symm hne))).trans h7
  obtain ⟨c0, c1, _, _⟩ := cells_two ((o _).trans e6)
  obtain ⟨d0, d1, _, _⟩ := cells_two (cells2p (x' := x') (y' := y') e7)
  exact ⟨c0, c1, d0, d1⟩

set_option maxHeartbeats 4000000 in
theorem lpoLay_any (o : Odr) (s t : Tm) (P Q A A2 : Option Addr) (pc qc c c2 : Nat) (w : World) (hM : OdrM w w.heap.size o P Q) (hrk : o.prec.length ≤ 140737488351232) (hf : I64 s.fn) (hg : I64 t.fn) (hn : s.size + t.size ≤ 1099511627776) (hA : ArgsN w (· < w.heap.size) A s.args) (hA2 : ArgsN w (· < w.heap.size) A2 t.args) :
    Calls Try.prog 15 #[.agg #[.bool o.lpo, .slice P o.prec.length pc, .slice Q o.wts.length qc, .int .i64 o.var], .agg #[.int .i64 s.fn, .slice A s.args.length c], .agg #[.int .i64 t.fn, .slice A2 t.args.length c2]] w (LayTwo w o.prec s t) := by
  have hmm1 : ∀ w : World, (Instr.makeMap 52 none).run Try.prog w = .ok (.map (some w.heap.size)) (w.alloc (.map #[] 0)) := fun _ => run_makeMap_plain (w := _) _
  have hmm2 : ∀ w : World, (Instr.makeMap 53 none).run Try.prog w = .ok (.map (some w.heap.size)) (w.alloc (.map #[] 0)) := fun _ => run_makeMap_plain (w := _) _
  obtain ⟨q0, q1, q2, q3, q4⟩ := heap5 w (.cells #[.bool o.lpo, .slice P o.prec.length pc, .slice Q o.wts.length qc, .int .i64 o.var] 24) (.cells #[.int .i64 s.fn, .slice A s.args.length c] 27) (.cells #[.int .i64 t.fn, .slice A2 t.args.length c2] 27) (.cells #[.pointer none, .int .i64 0] 40) (.cells #[.pointer none, .int .i64 0] 40)
  obtain ⟨W, hW⟩ : ∃ W, (((((w.alloc (.cells #[.bool o.lpo, .slice P o.prec.length pc, .slice Q o.wts.length qc, .int .i64 o.var] 24)).alloc (.cells #[.int .i64 s.fn, .slice A s.args.length c] 27)).alloc (.cells #[.int .i64 t.fn, .slice A2 t.args.length c2] 27)).alloc (.cells #[.pointer none, .int .i64 0] 40)).alloc (.cells #[.pointer none, .int .i64 0] 40)) = W := ⟨_, rfl⟩
  have hB : Below w.heap.size w W := by rw [← hW]; exact below5 _ _ _ _ _ _
  rw [hW] at q0 q1 q2 q3 q4
  have hWz : W.heap.size = w.heap.size + 5 := by rw [← hW]; simp
  obtain ⟨x0, x1, x2, x3⟩ := cells_four q0
  -- the pair's blocks
  obtain ⟨m0, m1, m2⟩ := heap3 W (.map #[] 0) (.map #[] 0) (.cells #[.slice P o.prec.length pc, .slice none 0 0, .map (some W.heap.size), .map (some (W.heap.size + 1))] 56)
  obtain ⟨X, hX⟩ : ∃ X, (((W.alloc (.map #[] 0)).alloc (.map #[] 0)).alloc (.cells #[.slice P o.prec.length pc, .slice none 0 0, .map (some W.heap.size), .map (some (W.heap.size + 1))] 56)) = X := ⟨_, rfl⟩
  have hBX : Below W.heap.size W X := by rw [← hX]; exact (((Below.refl _ _).alloc (Nat.le_refl _) _).alloc (by simp) _).alloc (by simp; omega) _
  rw [hX] at m0 m1 m2
  have hXz : X.heap.size = W.heap.size + 3 := by rw [← hX]; simp
  have hBwX : Below w.heap.size w X := hB.trans (hBX.mono hB.size)
  have hLM : LMap X W.heap.size o.prec.length [] := (LMap.made W o.prec.length).kept (by rw [m0, heap_alloc_new])
  have hFM : ∀ F, FMap X (W.heap.size + 1) [] F := fun F => by
    have h1 := FMap.made (W.alloc (.map #[] 0)) F
    have hz : (W.alloc (.map #[] 0)).heap.size = W.heap.size + 1 := by simp
    rw [hz] at h1
    exact h1.kept (by rw [m1, ← hz, heap_alloc_new])
  have hP := prL_made (bm := W.heap.size) (bp := W.heap.size + 1 + 1) (bf := W.heap.size + 1) (B0 := w.heap.size) m2 (hM.p.blw hBwX) hLM (by omega) (by omega) (by omega)
  have hAX := hA.keep fun g hg => hBwX.block g hg
  have hAX2 := hA2.keep fun g hg => hBwX.block g hg
  have h1 := lpLay_all (B0 := w.heap.size) (bp := W.heap.size + 1 + 1) (bm := W.heap.size) (P := P) (rk := o.prec) (pc := pc) (mf := .map (some (W.heap.size + 1))) s X _ [] [] A c hP (by simp; omega) (by simp; omega) hf hAX
  have y0 := (hBX.block (w.heap.size + 1) (by omega)).trans q1
  obtain ⟨s0, s1, _, _⟩ := cells_two y0
  have HW := Lib.hid hW
  have HX := Lib.hid hX
  have HB := Lib.hid hB
  have HBX := Lib.hid hBX
  have Q2 := Lib.hid ((hBX.block (w.heap.size + 1 + 1) (by omega)).trans q2)
  have Q3 := Lib.hid ((hBX.block (w.heap.size + 1 + 1 + 1) (by omega)).trans q3)
  have Q4 := Lib.hid ((hBX.block (w.heap.size + 1 + 1 + 1 + 1) (by omega)).trans q4)
  have HBw := Lib.hid hBwX
  have HFM := Lib.hid hFM
  have HA2 := Lib.hid hAX2
  have HM := Lib.hid hM
  have HWz := Lib.hid hWz
  have HXz := Lib.hid hXz
  unfold LayPost at h1
  -- what a call leaves of the boxes
  have HK : ∀ (v : Value) (w1 : World), (∀ g, v.ownBlock = some g → X.heap.size ≤ g) → KeepsC (CsP (W.heap.size + 1 + 1) W.heap.size v) X w1 → ∀ g, g < W.heap.size → w1.heap[g]? = X.heap[g]? := fun v w1 hv hk g hg => hk.block (by omega) (by rintro (e | e | e); omega; omega; have := hv g e; omega)
  have HKh := Lib.hid HK
  clear hW hX hB hBX q0 q1 q2 q3 q4 m0 m1 m2 hM hA hA2 hP hAX hAX2 hLM hFM y0 HK hBwX hWz hXz
  go_enter Try.func15, Try.ntmps15
  go_upto_region 1 with fail
  rw [HW.out]
  go_upto_region 2 with fail
  rw [HX.out]
  have hb0 : ∀ (w1 : World), KeepsC (CsP (W.heap.size + 1 + 1) W.heap.size (.slice none 0 0)) X w1 → Below w.heap.size w w1 := fun w1 hk => HBw.out.trans (hk.below HBw.out.size fun g hg => by have := HWz.out; rintro (e | e | e); omega; omega; cases e)
  have Hb0 := Lib.hid hb0
  clear hb0
  have hne : ¬ w.heap.size + 1 + 1 + 1 = w.heap.size + 1 + 1 + 1 + 1 := by omega
  cases hks : layK o.prec.length s with
  | false =>
    rw [hks] at h1
    have H1 := Lib.hid h1
    have Hks := Lib.hid hks
    clear h1 hks
    go_wp2_with (first
      | (go_at_call 21; (with_reducible refine H1.out.mono ?_); go_must (rintro e w1 ⟨rfl, v1, H1, L1, p1, k1, n1, _⟩; have r3 := (HKh.out _ w1 (fun g e => by cases e) k1 _ (by have := HWz.out; omega)).trans Q3.out; have r4 := (HKh.out _ w1 (fun g e => by cases e) k1 _ (by have := HWz.out; omega)).trans Q4.out; obtain ⟨u0, u1, u2, u3⟩ := cells_two r3; obtain ⟨v0, v1, v2, v3⟩ := cells_two r4; have HR := Lib.hid (two_res hne r3 r4 (.pointer none) (.int .i64 0) (.pointer none) (.int .i64 0)); have Hbw := Lib.hid (Hb0.out w1 k1); clear p1 k1 n1 r3 r4))
      | fail)
    obtain ⟨e0, e1, e2, e3⟩ := HR.out
    refine bodyPost_ret (v := .tuple #[.agg #[.pointer none, .int .i64 0], .agg #[.pointer none, .int .i64 0], .bool false]) (by simp [results, Try.results15, go_sem, e0, e1, e2, e3]) rfl ⟨?_, fun h => ?_, fun _ => rfl⟩
    · exact (((Hbw.out.setCell (show w.heap.size ≤ w.heap.size + 1 + 1 + 1 by omega) _).setCell (show w.heap.size ≤ w.heap.size + 1 + 1 + 1 by omega) _).setCell (show w.heap.size ≤ w.heap.size + 1 + 1 + 1 + 1 by omega) _).setCell (show w.heap.size ≤ w.heap.size + 1 + 1 + 1 + 1 by omega) _
    · rw [Hks.out] at h; cases h.1
  | true =>
    rw [hks] at h1
    have H1 := Lib.hid h1
    have Hks := Lib.hid hks
    clear h1 hks
    go_upto_region 5 with (first
      | (go_at_call 21; (with_reducible refine H1.out.mono ?_); go_must (
        rintro e w1 ⟨rfl, v1, Hd1, L1, p1, k1, n1, e1x⟩
        obtain ⟨e1, l1⟩ := e1x rfl
        clear e1x
        rw [List.nil_append] at e1
        have hz1 := k1.size
        have hlen1 : Hd1.length = s.size := by rw [e1, hdT_len]
        have hL1 : L1.length + 1 ≤ s.size := by have := nm_len o.prec.length s []; rw [← l1] at this; simpa using this
        obtain ⟨A3, c3, rfl, _⟩ := p1.pair (by omega)
        have hv3 : ∀ g, (Value.slice A3 Hd1.length c3).ownBlock = some g → X.heap.size ≤ g := fun g e => by
          rcases n1 g e with a | a
          · cases a
          · exact a
        have r2 := (HKh.out _ w1 (fun g e => by cases e) k1 _ (by have := HWz.out; omega)).trans Q2.out
        have r3 := (HKh.out _ w1 (fun g e => by cases e) k1 _ (by have := HWz.out; omega)).trans Q3.out
        have r4 := (HKh.out _ w1 (fun g e => by cases e) k1 _ (by have := HWz.out; omega)).trans Q4.out
        obtain ⟨t0, t1, _, _⟩ := cells_two r2
        obtain ⟨_, b1, _, _⟩ := cells_four p1.box
        have hA1 := HA2.out.keep fun g (hg : g < w.heap.size) => HKh.out _ w1 (fun g e => by cases e) k1 g (by have := HWz.out; omega)
        have h2 := lpLay_all (B0 := w.heap.size) (bp := W.heap.size + 1 + 1) (bm := W.heap.size) (P := P) (rk := o.prec) (pc := pc) (mf := .map (some (W.heap.size + 1))) t w1 _ Hd1 L1 A2 c2 p1 (by omega) (by omega) hg hA1
        unfold LayPost at h2
        have P1 := Lib.hid p1
        have K1 := Lib.hid k1
        have N1 := Lib.hid n1
        have E1 := Lib.hid e1
        have F1 := Lib.hid l1
        have R3 := Lib.hid r3
        have R4 := Lib.hid r4
        have Hv3 := Lib.hid hv3
        have HL := Lib.hid hlen1
        clear p1 k1 n1 e1 l1 r2 r3 r4 hA1 hv3 hlen1))
      | fail)
    have HKK : Hid (∀ w2, KeepsC (CsP (W.heap.size + 1 + 1) W.heap.size (.slice A3 Hd1.length c3)) w1 w2 → (∀ g, g < W.heap.size → w2.heap[g]? = w1.heap[g]?) ∧ Below w.heap.size w w2) := Lib.hid fun w2 hk => by
      have h1 := HWz.out
      have h2 := HXz.out
      have hc : ∀ g, g < W.heap.size → ¬ CsP (W.heap.size + 1 + 1) W.heap.size (.slice A3 Hd1.length c3) g := fun g hg => by
        rintro (e | e | e)
        · omega
        · omega
        · have := Hv3.out g e; omega
      exact ⟨fun g hg => hk.block (by omega) (hc g hg), (Hb0.out w1 K1.out).trans (hk.below (by omega) fun g hg => hc g (by omega))⟩
    cases hkt : layK o.prec.length t with
    | false =>
      rw [hkt] at h2
      have H2 := Lib.hid h2
      have Hkt := Lib.hid hkt
      clear h2 hkt
      go_wp2_with (first
        | (go_at_call 21; (with_reducible refine H2.out.mono ?_); go_must (rintro e w2 ⟨rfl, v2, H2', L2, p2, k2, n2, _⟩; obtain ⟨kb, kw⟩ := HKK.out w2 k2; have r3 := (kb _ (by have := HWz.out; omega)).trans R3.out; have r4 := (kb _ (by have := HWz.out; omega)).trans R4.out; obtain ⟨u0, u1, u2, u3⟩ := cells_two r3; obtain ⟨v0, v1', v2', v3⟩ := cells_two r4; have HR := Lib.hid (two_res hne r3 r4 (.pointer none) (.int .i64 0) (.pointer none) (.int .i64 0)); have Hbw := Lib.hid kw; clear p2 k2 n2 r3 r4 kb kw))
        | fail)
      obtain ⟨e0, e1, e2, e3⟩ := HR.out
      refine bodyPost_ret (v := .tuple #[.agg #[.pointer none, .int .i64 0], .agg #[.pointer none, .int .i64 0], .bool false]) (by simp [results, Try.results15, go_sem, e0, e1, e2, e3]) rfl ⟨?_, fun h => ?_, fun _ => rfl⟩
      · exact (((Hbw.out.setCell (show w.heap.size ≤ w.heap.size + 1 + 1 + 1 by omega) _).setCell (show w.heap.size ≤ w.heap.size + 1 + 1 + 1 by omega) _).setCell (show w.heap.size ≤ w.heap.size + 1 + 1 + 1 + 1 by omega) _).setCell (show w.heap.size ≤ w.heap.size + 1 + 1 + 1 + 1 by omega) _
      · rw [Hkt.out] at h; cases h.2
    | true =>
      rw [hkt] at h2
      have H2 := Lib.hid h2
      have Hkt := Lib.hid hkt
      clear h2 hkt
      go_wp2_with (first
        | (go_at_call 21; (with_reducible refine H2.out.mono ?_); go_must (rintro e w2 ⟨rfl, v2, H2', L2, p2, k2, n2, e2x⟩; obtain ⟨e2, l2⟩ := e2x rfl; clear e2x; obtain ⟨kb, kw⟩ := HKK.out w2 k2; have r3 := (kb _ (by have := HWz.out; omega)).trans R3.out; have r4 := (kb _ (by have := HWz.out; omega)).trans R4.out; obtain ⟨u0, u1, u2, u3⟩ := cells_two r3; obtain ⟨v0, v1', v2', v3⟩ := cells_two r4; have HR := Lib.hid (two_res hne r3 r4 (.pointer (some ⟨W.heap.size + 1 + 1, 0, none⟩)) (.int .i64 0) (.pointer (some ⟨W.heap.size + 1 + 1, 0, none⟩)) (.int .i64 (Hd1.length : Int))); have Hbw := Lib.hid kw; have P2 := Lib.hid p2; have K2 := Lib.hid k2; have N2 := Lib.hid n2; have E2 := Lib.hid e2; have F2 := Lib.hid l2; clear p2 k2 n2 e2 l2 r3 r4 kb kw))
        | fail)
      obtain ⟨e0, e1, e2, e3⟩ := HR.out
      obtain ⟨Wf, hWf⟩ : ∃ Wf, ((((w2.setCell ⟨w.heap.size + 1 + 1 + 1, 0, none⟩ (.pointer (some ⟨W.heap.size + 1 + 1, 0, none⟩))).setCell ⟨w.heap.size + 1 + 1 + 1, 1, none⟩ (.int .i64 0)).setCell ⟨w.heap.size + 1 + 1 + 1 + 1, 0, none⟩ (.pointer (some ⟨W.heap.size + 1 + 1, 0, none⟩))).setCell ⟨w.heap.size + 1 + 1 + 1 + 1, 1, none⟩ (.int .i64 (Hd1.length : Int))) = Wf := ⟨_, rfl⟩
      refine bodyPost_ret (v := .tuple #[.agg #[.pointer (some ⟨W.heap.size + 1 + 1, 0, none⟩), .int .i64 0], .agg #[.pointer (some ⟨W.heap.size + 1 + 1, 0, none⟩), .int .i64 (Hd1.length : Int)], .bool true]) (by simp [results, Try.results15, go_sem, e0, e1, e2, e3]) rfl ⟨?_, fun h => ?_, fun h => absurd ⟨Hks.out, Hkt.out⟩ h⟩
      · exact (((Hbw.out.setCell (show w.heap.size ≤ w.heap.size + 1 + 1 + 1 by omega) _).setCell (show w.heap.size ≤ w.heap.size + 1 + 1 + 1 by omega) _).setCell (show w.heap.size ≤ w.heap.size + 1 + 1 + 1 + 1 by omega) _).setCell (show w.heap.size ≤ w.heap.size + 1 + 1 + 1 + 1 by omega) _
      · have hWzz := HWz.out
        have hXzz := HXz.out
        have k1 := K1.out
        have k2 := K2.out
        have hs1 := k1.size
        have hs2 := k2.size
        have hz : Wf.heap.size = w2.heap.size := by rw [← hWf]; simp
        have hoth : ∀ g, g ≠ w.heap.size + 1 + 1 + 1 → g ≠ w.heap.size + 1 + 1 + 1 + 1 → Wf.heap[g]? = w2.heap[g]? := fun g h3 h4 => by
          rw [← hWf]
          exact (heap_setCell_other _ _ _ _ h4).trans ((heap_setCell_other _ _ _ _ h4).trans ((heap_setCell_other _ _ _ _ h3).trans (heap_setCell_other _ _ _ _ h3)))
        have hv2 : ∀ g, v2.ownBlock = some g → X.heap.size ≤ g := fun g e => by
          rcases N2.out g e with a | a
          · exact Hv3.out g a
          · omega
        have pf : PrL Wf w.heap.size (W.heap.size + 1 + 1) W.heap.size P o.prec pc (.map (some (W.heap.size + 1))) v2 H2' L2 := P2.out.keep fun g hg => hoth g (by
          rcases hg with e | e | e | e
          · omega
          · omega
          · omega
          · have := hv2 g e; omega) (by
          rcases hg with e | e | e | e
          · omega
          · omega
          · omega
          · have := hv2 g e; omega)
        have hfm : Wf.heap[W.heap.size + 1]? = X.heap[W.heap.size + 1]? := (hoth _ (by omega) (by omega)).trans ((k2.block (by omega) (by
          rintro (e | e | e)
          · omega
          · omega
          · have := Hv3.out _ e; omega)).trans (k1.block (by omega) (by
          rintro (e | e | e)
          · omega
          · omega
          · cases e)))
        obtain ⟨A', hc', hT⟩ := two_of_laid (w := w) (X := X) (w1 := w1) (w2 := Wf) (bf := W.heap.size + 1) (F := fdF o.prec o.prec.length L2) (by omega) (Nat.le_refl _) (by omega) (by omega) ((HFM.out _).kept hfm) hs1 (by omega) rfl Hks.out Hkt.out (layK_vn s Hks.out) (layK_vn t Hkt.out) hn N1.out E1.out F1.out pf (fun g e => N2.out g e) E2.out F2.out
        rw [hWf]
        refine ⟨_, _, _, _, _, _, _, _, _, _, ?_, hT⟩
        rw [HL.out]

end Go.Proofs.Ytkpkhnaflohjpaa

/- lpo: Cmp, Above. -/

namespace Go.Proofs.Ytkpkhnaflohjpaa

open Go.RowKit Go.Shelf Go.Maps
set_option maxRecDepth 100000

set_option maxHeartbeats 1000000 in
theorem lpoCmp_any (o : Odr) (s t : Tm) (P Q A A2 : Option Addr) (pc qc c c2 : Nat) (w : World) (hM : OdrM w w.heap.size o P Q) (hrk : o.prec.length ≤ 140737488351232) (hf : I64 s.fn) (hg : I64 t.fn) (hn : s.size + t.size ≤ 1073741824) (hA : ArgsK w (· < w.heap.size) A c s.args) (hA2 : ArgsK w (· < w.heap.size) A2 c2 t.args) :
    Calls Try.prog 7 #[.agg #[.bool o.lpo, .slice P o.prec.length pc, .slice Q o.wts.length qc, .int .i64 o.var], .agg #[.int .i64 s.fn, .slice A s.args.length c], .agg #[.int .i64 t.fn, .slice A2 t.args.length c2]] w fun e w' => e = .returned (.int .i64 (cmpP o.prec s t)) ∧ Below w.heap.size w w' := by
  obtain ⟨q0, q1, q2⟩ := heap3 w (.cells #[.bool o.lpo, .slice P o.prec.length pc, .slice Q o.wts.length qc, .int .i64 o.var] 24) (.cells #[.int .i64 s.fn, .slice A s.args.length c] 27) (.cells #[.int .i64 t.fn, .slice A2 t.args.length c2] 27)
  obtain ⟨W, hW⟩ : ∃ W, (((w.alloc (.cells #[.bool o.lpo, .slice P o.prec.length pc, .slice Q o.wts.length qc, .int .i64 o.var] 24)).alloc (.cells #[.int .i64 s.fn, .slice A s.args.length c] 27)).alloc (.cells #[.int .i64 t.fn, .slice A2 t.args.length c2] 27)) = W := ⟨_, rfl⟩
  have hB : Below w.heap.size w W := by rw [← hW]; exact (((Below.refl _ _).alloc (Nat.le_refl _) _).alloc (by simp) _).alloc (by simp; omega) _
  rw [hW] at q0 q1 q2
  obtain ⟨x0, x1, x2, x3⟩ := cells_four q0
  obtain ⟨y0, y1, _, _⟩ := cells_two q1
  obtain ⟨z0, z1, _, _⟩ := cells_two q2
  have hL := lpoLay_any o s t P Q A A2 pc qc c c2 W (hM.on hB) hrk hf hg (by omega) ((hA.on hB).toN) ((hA2.on hB).toN)
  have HL := Lib.hid hL
  have HW := Lib.hid hW
  have HB := Lib.hid hB
  clear hW hB q0 q1 q2 hM hA hA2 hL
  by_cases hk : layK o.prec.length s = true ∧ layK o.prec.length t = true
  · have hcm : cmpP o.prec s t = (if cmpT s t = 0 then 2 else if lpT o.prec s t then 3 else if lpT o.prec t s then 1 else 0) := by unfold cmpP; rw [hk.1, hk.2]; rfl
    go_enter Try.func7, Try.ntmps7
    go_upto_region 1 with fail
    rw [HW.out]
    go_upto_region 4 with (first
      | (go_at_call 15; (with_reducible refine HL.out.mono ?_); go_must (rintro e w1 ⟨hb1, hyes, _⟩; obtain ⟨bp, P3, pc3, n, bf, A3, H, hc, ml, M, rfl, hT⟩ := hyes hk; have hb1 := Lib.hid hb1; have HT := Lib.hid hT; clear hT hyes))
      | fail)
    obtain ⟨p0, p1⟩ := heap2 w1 (.cells #[.pointer (some ⟨bp, 0, none⟩), .int .i64 0] 40) (.cells #[.pointer (some ⟨bp, 0, none⟩), .int .i64 (s.size : Int)] 40)
    obtain ⟨X, hX⟩ : ∃ X, (w1.alloc (.cells #[.pointer (some ⟨bp, 0, none⟩), .int .i64 0] 40)).alloc (.cells #[.pointer (some ⟨bp, 0, none⟩), .int .i64 (s.size : Int)] 40) = X := ⟨_, rfl⟩
    have hBX : Below w1.heap.size w1 X := by rw [← hX]; exact ((Below.refl _ _).alloc (Nat.le_refl _) _).alloc (by simp) _
    rw [hX] at p0 p1 ⊢
    have hT := HT.out
    have hXl := (Array.getElem?_eq_some_iff.1 p1).1
    have hIX := hT.fd.on hBX
    have hbf1 := hT.fd.lf
    have hnl1 := hT.fd.nl
    have hnb := hT.nb
    have hWs := HB.out.size
    have hw1 := hb1.out.size
    obtain ⟨u0, u1, _, _⟩ := cells_two p0
    obtain ⟨v0, v1, _, _⟩ := cells_two p1
    have hHl : H.length ≤ 1073741824 := by rw [hT.len]; exact hn
    have AB : Hid (∀ w2, FdW w2 n bp bf P3 o.prec pc3 A3 H hc ml (fdF o.prec o.prec.length M) → Calls Try.prog 17 #[.agg #[.pointer (some ⟨bp, 0, none⟩), .int .i64 0], .agg #[.pointer (some ⟨bp, 0, none⟩), .int .i64 (s.size : Int)]] w2 fun e w' => e = .returned (.bool (lpT o.prec s t)) ∧ KeepsC (· = bf) w2 w' ∧ FdW w' n bp bf P3 o.prec pc3 A3 H hc ml (fdF o.prec o.prec.length M)) := Lib.hid fun w2 h2 => abv_all hT.nd hHl (s.size + t.size) s t 0 s.size w2 (Nat.le_refl _) hT.os hT.ot hT.a1 hT.a2 h2
    have BA : Hid (∀ w2, FdW w2 n bp bf P3 o.prec pc3 A3 H hc ml (fdF o.prec o.prec.length M) → Calls Try.prog 17 #[.agg #[.pointer (some ⟨bp, 0, none⟩), .int .i64 (s.size : Int)], .agg #[.pointer (some ⟨bp, 0, none⟩), .int .i64 0]] w2 fun e w' => e = .returned (.bool (lpT o.prec t s)) ∧ KeepsC (· = bf) w2 w' ∧ FdW w' n bp bf P3 o.prec pc3 A3 H hc ml (fdF o.prec o.prec.length M)) := Lib.hid fun w2 h2 => abv_all hT.nd hHl (t.size + s.size) t s s.size 0 w2 (Nat.le_refl _) hT.ot hT.os hT.a2 hT.a1 h2
    have hsm : Calls Try.prog 16 #[.agg #[.pointer (some ⟨bp, 0, none⟩), .int .i64 0], .agg #[.pointer (some ⟨bp, 0, none⟩), .int .i64 (s.size : Int)]] X fun e w' => e = .returned (.bool (decide (cmpT s t = 0))) ∧ Below X.heap.size X w' := by
      have := lpoSame_any X hIX.pr hT.a1.top' hT.a2.top'
      rwa [topH_same hT.nd hT.os hT.ot] at this
    have HIX := Lib.hid hIX
    have P0 := Lib.hid p0
    have P1 := Lib.hid p1
    have hend : Hid (∀ wf, KeepsC (· = bf) X wf → Below w.heap.size w wf) := Lib.hid fun wf hk => by
      have h1 : Below w.heap.size w X := (HB.out.trans (hb1.out.mono HB.out.size)).trans (hBX.mono (by omega))
      exact h1.trans (hk.below h1.size fun g hg => by omega)
    have hBXs := hBX.size
    clear hT hIX p0 p1 hX hBX HT hHl
    by_cases hc0 : cmpT s t = 0
    · have hfin := Lib.hid (show cmpP o.prec s t = 2 by rw [hcm, if_pos hc0])
      rw [decide_eq_true hc0] at hsm
      have HS := Lib.hid hsm
      clear hsm hc0 hcm
      go_wp2_with (first
        | (go_at_call 16; (with_reducible refine HS.out.mono ?_); go_must (rintro e w2 ⟨rfl, hb2⟩))
        | fail)
      go_ret
      exact ⟨ret_int hfin.out.symm, hend.out _ (KeepsC.of_below hb2)⟩
    · rw [decide_eq_false hc0] at hsm
      rw [if_neg hc0] at hcm
      have HS := Lib.hid hsm
      clear hsm hc0
      go_upto_region 6 with (first
        | (go_at_call 16; (with_reducible refine HS.out.mono ?_); go_must (rintro e w2 ⟨rfl, hb2⟩; obtain ⟨a0, a1, _, _⟩ := cells_two ((hb2.block _ (show w1.heap.size < X.heap.size by omega)).trans P0.out); obtain ⟨d0, d1, _, _⟩ := cells_two ((hb2.block _ hXl).trans P1.out)))
        | fail)
      have hI2 := HIX.out.on hb2
      have hA1 := AB.out w2 hI2
      have hz2 := hb2.size
      cases hst : lpT o.prec s t with
      | true =>
        rw [hst] at hA1
        rw [hst, if_pos rfl] at hcm
        have hfin := Lib.hid hcm
        have HA1 := Lib.hid hA1
        clear hcm hst hA1 hI2
        go_wp2_with (first
          | (go_at_call 17; (with_reducible refine HA1.out.mono ?_); go_must (rintro e w3 ⟨rfl, hk3, hI3⟩; have hI3 := Lib.hid hI3))
          | fail)
        go_ret
        exact ⟨ret_int hfin.out.symm, hend.out _ ((KeepsC.of_below hb2).trans hk3)⟩
      | false =>
        rw [hst] at hA1
        rw [hst, if_neg (by simp)] at hcm
        have HA1 := Lib.hid hA1
        clear hst hA1 hI2
        go_upto_region 8 with (first
          | (go_at_call 17; (with_reducible refine HA1.out.mono ?_); go_must (rintro e w3 ⟨rfl, hk3, hI3⟩; have hI3 := Lib.hid hI3; have hk23 := (KeepsC.of_below (C := (· = bf)) hb2).trans hk3; obtain ⟨r0, r1, _, _⟩ := cells_two ((hk23.block (show w1.heap.size < X.heap.size by omega) (show ¬ w1.heap.size = bf by omega)).trans P0.out); obtain ⟨s0, s1, _, _⟩ := cells_two ((hk23.block hXl (show ¬ w1.heap.size + 1 = bf by omega)).trans P1.out)))
          | fail)
        have hB1 := BA.out w3 hI3.out
        cases hts : lpT o.prec t s with
        | true =>
          rw [hts] at hB1
          rw [hts, if_pos rfl] at hcm
          have hfin := Lib.hid hcm
          have HB1 := Lib.hid hB1
          clear hcm hts hB1
          go_wp2_with (first
            | (go_at_call 17; (with_reducible refine HB1.out.mono ?_); go_must (rintro e w4 ⟨rfl, hk4, hI4⟩; have hI4 := Lib.hid hI4))
            | fail)
          go_ret
          exact ⟨ret_int hfin.out.symm, hend.out _ (hk23.trans hk4)⟩
        | false =>
          rw [hts] at hB1
          rw [hts, if_neg (by simp)] at hcm
          have hfin := Lib.hid hcm
          have HB1 := Lib.hid hB1
          clear hcm hts hB1
          go_wp2_with (first
            | (go_at_call 17; (with_reducible refine HB1.out.mono ?_); go_must (rintro e w4 ⟨rfl, hk4, hI4⟩; have hI4 := Lib.hid hI4))
            | fail)
          go_ret
          exact ⟨ret_int hfin.out.symm, hend.out _ (hk23.trans hk4)⟩
  · have hfin := Lib.hid (show cmpP o.prec s t = 0 by
      unfold cmpP
      rw [if_neg (by simpa using hk)])
    go_enter Try.func7, Try.ntmps7
    go_upto_region 1 with fail
    rw [HW.out]
    go_wp2_with (first
      | (go_at_call 15; (with_reducible refine HL.out.mono ?_); go_must (rintro e w1 ⟨hb1, _, hno⟩; obtain rfl := hno hk; have hb1 := Lib.hid hb1))
      | fail)
    go_ret
    exact ⟨ret_int hfin.out.symm, (HB.out.trans (hb1.out.mono HB.out.size)).trans (((Below.refl _ _).alloc (Nat.le_trans HB.out.size hb1.out.size) _).alloc (by simp; have := HB.out.size; have := hb1.out.size; omega) _)⟩

set_option maxHeartbeats 1000000 in
theorem lpoAbove_any (o : Odr) (s t : Tm) (P Q A A2 : Option Addr) (pc qc c c2 : Nat) (w : World) (hM : OdrM w w.heap.size o P Q) (hrk : o.prec.length ≤ 140737488351232) (hf : I64 s.fn) (hg : I64 t.fn) (hn : s.size + t.size ≤ 1073741824) (hA : ArgsK w (· < w.heap.size) A c s.args) (hA2 : ArgsK w (· < w.heap.size) A2 c2 t.args) :
    Calls Try.prog 8 #[.agg #[.bool o.lpo, .slice P o.prec.length pc, .slice Q o.wts.length qc, .int .i64 o.var], .agg #[.int .i64 s.fn, .slice A s.args.length c], .agg #[.int .i64 t.fn, .slice A2 t.args.length c2]] w fun e w' => e = .returned (.bool (cmpP o.prec s t == 3)) ∧ Below w.heap.size w w' := by
  obtain ⟨q0, q1, q2⟩ := heap3 w (.cells #[.bool o.lpo, .slice P o.prec.length pc, .slice Q o.wts.length qc, .int .i64 o.var] 24) (.cells #[.int .i64 s.fn, .slice A s.args.length c] 27) (.cells #[.int .i64 t.fn, .slice A2 t.args.length c2] 27)
  obtain ⟨W, hW⟩ : ∃ W, (((w.alloc (.cells #[.bool o.lpo, .slice P o.prec.length pc, .slice Q o.wts.length qc, .int .i64 o.var] 24)).alloc (.cells #[.int .i64 s.fn, .slice A s.args.length c] 27)).alloc (.cells #[.int .i64 t.fn, .slice A2 t.args.length c2] 27)) = W := ⟨_, rfl⟩
  have hB : Below w.heap.size w W := by rw [← hW]; exact (((Below.refl _ _).alloc (Nat.le_refl _) _).alloc (by simp) _).alloc (by simp; omega) _
  rw [hW] at q0 q1 q2
  obtain ⟨x0, x1, x2, x3⟩ := cells_four q0
  obtain ⟨y0, y1, _, _⟩ := cells_two q1
  obtain ⟨z0, z1, _, _⟩ := cells_two q2
  have hL := lpoLay_any o s t P Q A A2 pc qc c c2 W (hM.on hB) hrk hf hg (by omega) ((hA.on hB).toN) ((hA2.on hB).toN)
  have HL := Lib.hid hL
  have HW := Lib.hid hW
  have HB := Lib.hid hB
  clear hW hB q0 q1 q2 hM hA hA2 hL
  by_cases hk : layK o.prec.length s = true ∧ layK o.prec.length t = true
  · have hcm : (cmpP o.prec s t == 3) = lpT o.prec s t := by
      unfold cmpP
      rw [hk.1, hk.2, Bool.true_and, if_pos rfl]
      by_cases h0 : cmpT s t = 0
      · have h1 : s = t := cmp_zero_iff.1 h0
        subst h1
        rw [if_pos h0, lp_irr s (layK_vn s hk.1)]; rfl
      · rw [if_neg h0]
        cases lpT o.prec s t <;> cases lpT o.prec t s <;> rfl
    go_enter Try.func8, Try.ntmps8
    go_upto_region 1 with fail
    rw [HW.out]
    go_upto_region 2 with (first
      | (go_at_call 15; (with_reducible refine HL.out.mono ?_); go_must (rintro e w1 ⟨hb1, hyes, _⟩; obtain ⟨bp, P3, pc3, n, bf, A3, H, hc, ml, M, rfl, hT⟩ := hyes hk; have hb1 := Lib.hid hb1; have HT := Lib.hid hT; clear hT hyes))
      | fail)
    obtain ⟨p0, p1⟩ := heap2 w1 (.cells #[.pointer (some ⟨bp, 0, none⟩), .int .i64 0] 40) (.cells #[.pointer (some ⟨bp, 0, none⟩), .int .i64 (s.size : Int)] 40)
    obtain ⟨X, hX⟩ : ∃ X, (w1.alloc (.cells #[.pointer (some ⟨bp, 0, none⟩), .int .i64 0] 40)).alloc (.cells #[.pointer (some ⟨bp, 0, none⟩), .int .i64 (s.size : Int)] 40) = X := ⟨_, rfl⟩
    have hBX : Below w1.heap.size w1 X := by rw [← hX]; exact ((Below.refl _ _).alloc (Nat.le_refl _) _).alloc (by simp) _
    rw [hX] at p0 p1 ⊢
    have hT := HT.out
    have hXl := (Array.getElem?_eq_some_iff.1 p1).1
    have hIX := hT.fd.on hBX
    have hbf1 := hT.fd.lf
    have hnl1 := hT.fd.nl
    have hnb := hT.nb
    have hWs := HB.out.size
    have hw1 := hb1.out.size
    obtain ⟨u0, u1, _, _⟩ := cells_two p0
    obtain ⟨v0, v1, _, _⟩ := cells_two p1
    have hHl : H.length ≤ 1073741824 := by rw [hT.len]; exact hn
    have AB : Hid (∀ w2, FdW w2 n bp bf P3 o.prec pc3 A3 H hc ml (fdF o.prec o.prec.length M) → Calls Try.prog 17 #[.agg #[.pointer (some ⟨bp, 0, none⟩), .int .i64 0], .agg #[.pointer (some ⟨bp, 0, none⟩), .int .i64 (s.size : Int)]] w2 fun e w' => e = .returned (.bool (lpT o.prec s t)) ∧ KeepsC (· = bf) w2 w' ∧ FdW w' n bp bf P3 o.prec pc3 A3 H hc ml (fdF o.prec o.prec.length M)) := Lib.hid fun w2 h2 => abv_all hT.nd hHl (s.size + t.size) s t 0 s.size w2 (Nat.le_refl _) hT.os hT.ot hT.a1 hT.a2 h2
    have BA : Hid (∀ w2, FdW w2 n bp bf P3 o.prec pc3 A3 H hc ml (fdF o.prec o.prec.length M) → Calls Try.prog 17 #[.agg #[.pointer (some ⟨bp, 0, none⟩), .int .i64 (s.size : Int)], .agg #[.pointer (some ⟨bp, 0, none⟩), .int .i64 0]] w2 fun e w' => e = .returned (.bool (lpT o.prec t s)) ∧ KeepsC (· = bf) w2 w' ∧ FdW w' n bp bf P3 o.prec pc3 A3 H hc ml (fdF o.prec o.prec.length M)) := Lib.hid fun w2 h2 => abv_all hT.nd hHl (t.size + s.size) t s s.size 0 w2 (Nat.le_refl _) hT.ot hT.os hT.a2 hT.a1 h2
    have hsm : Calls Try.prog 16 #[.agg #[.pointer (some ⟨bp, 0, none⟩), .int .i64 0], .agg #[.pointer (some ⟨bp, 0, none⟩), .int .i64 (s.size : Int)]] X fun e w' => e = .returned (.bool (decide (cmpT s t = 0))) ∧ Below X.heap.size X w' := by
      have := lpoSame_any X hIX.pr hT.a1.top' hT.a2.top'
      rwa [topH_same hT.nd hT.os hT.ot] at this
    have HIX := Lib.hid hIX
    have P0 := Lib.hid p0
    have P1 := Lib.hid p1
    have hend : Hid (∀ wf, KeepsC (· = bf) X wf → Below w.heap.size w wf) := Lib.hid fun wf hk => by
      have h1 : Below w.heap.size w X := (HB.out.trans (hb1.out.mono HB.out.size)).trans (hBX.mono (by omega))
      exact h1.trans (hk.below h1.size fun g hg => by omega)
    have hBXs := hBX.size
    clear hT hIX p0 p1 hX hBX HT hHl
    have hA1 := AB.out X HIX.out
    rw [← hcm] at hA1
    have HA1 := Lib.hid hA1
    clear hsm hcm hA1
    go_wp2_with (first
      | (go_at_call 17; (with_reducible refine HA1.out.mono ?_); go_must (rintro e w3 ⟨rfl, hk3, hI3⟩; have hI3 := Lib.hid hI3))
      | fail)
    go_ret
    exact ⟨rfl, hend.out _ hk3⟩
  · have hfin := Lib.hid (show (cmpP o.prec s t == 3) = false by
      unfold cmpP
      rw [if_neg (by simpa using hk)]; rfl)
    go_enter Try.func8, Try.ntmps8
    go_upto_region 1 with fail
    rw [HW.out]
    go_wp2_with (first
      | (go_at_call 15; (with_reducible refine HL.out.mono ?_); go_must (rintro e w1 ⟨hb1, _, hno⟩; obtain rfl := hno hk; have hb1 := Lib.hid hb1))
      | fail)
    go_ret
    exact ⟨ret_bool hfin.out.symm, (HB.out.trans (hb1.out.mono HB.out.size)).trans (((Below.refl _ _).alloc (Nat.le_trans HB.out.size hb1.out.size) _).alloc (by simp; have := HB.out.size; have := hb1.out.size; omega) _)⟩

end Go.Proofs.Ytkpkhnaflohjpaa

