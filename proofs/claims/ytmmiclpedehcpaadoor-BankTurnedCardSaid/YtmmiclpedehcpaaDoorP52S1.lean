import Derived.Test.YtmmiclpedehcpaaDoorProg
import Derived.WalkKit
import Derived.WalkSpells
import Derived.WalkLawsBesides
import Derived.Lib.Hide
import Derived.Below
import Derived.Laws.OwnMore
import Derived.Deep.AppendLies
import Derived.Deep.Draws
import Derived.Laws.StructEq
import Derived.BigQuiet
import Derived.Deep.QuietTactic
import Derived.Maps.AppendAt
import Derived.RangeFuncNested
import Derived.RangeFuncBound
import Derived.RangeFuncCalls
import Derived.RangeFuncLeaves
import Derived.OwnWalk
import Derived.Deep.RegionHeld3
import Derived.Shelf.Abstract
import Derived.Shelf.RegionOpen
import Derived.OwnWalkIn
import Derived.TacticsInMore
import Derived.LoopNIn
import Derived.LoopIn
import Derived.Deep.DeepCutAuto
import Derived.Maps.OwnIn
import Derived.DeepKeys5
import Derived.Deep.OwnRows
import Derived.Laws.IdiomStrings
import Derived.Deep.RegionLaw
import Derived.RangeFuncBox
namespace Go.Proofs.YtmmiclpedehcpaaDoor
open Go.RowKit
theorem ret_int {k : IntKind} {a b : Int} (h : a = b) : Ending.returned (.int k a) = .returned (.int k b) := by rw [h]
theorem ret_bool {a b : Bool} (h : a = b) : Ending.returned (.bool a) = .returned (.bool b) := by rw [h]
theorem bl_drewN {B : Nat} {a w : World} (h : Below B a w) (n : Nat) : Below B a (w.drewN n) := ⟨h.os, h.tape, h.output, h.size, h.block⟩
structure Sm where
  name : ByteArray
  arity : Int
  pred : Bool
  deriving DecidableEq
instance : Inhabited Sm := ⟨⟨ByteArray.empty, 0, false⟩⟩
def Sm.cells (x : Sm) : List Value := [.string x.name, .int .i64 x.arity, .bool x.pred]
structure Sm.Ok (x : Sm) : Prop where
  size : x.name.size ≤ maxLen
  lo : -9223372036854775808 ≤ x.arity
  hi : x.arity ≤ 9223372036854775807
theorem sm_ext {x y : Sm} (h : x.name = y.name ∧ x.arity = y.arity ∧ x.pred = y.pred) : x = y := by
  obtain ⟨a, b, c⟩ := x
  obtain ⟨a', b', c'⟩ := y
  obtain ⟨rfl, rfl, rfl⟩ := h
  rfl
theorem flat_get (l : List Sm) (i r : Nat) (hr : r < 3) : (l.flatMap Sm.cells)[i * 3 + r]? = (l[i]?).bind fun x => x.cells[r]? := by
  induction l generalizing i with
  | nil => simp
  | cons x l ih =>
    have hlen : x.cells.length = 3 := rfl
    rw [List.flatMap_cons]
    cases i with
    | zero => rw [List.getElem?_append_left (by omega)]; simp
    | succ i =>
      rw [List.getElem?_append_right (by omega), hlen, show (i + 1) * 3 + r - 3 = i * 3 + r from by omega, ih]
      simp
theorem flat_len (l : List Sm) : (l.flatMap Sm.cells).length = l.length * 3 := by
  induction l with
  | nil => rfl
  | cons x l ih =>
    have hlen : x.cells.length = 3 := rfl
    rw [List.flatMap_cons, List.length_append, ih, hlen, List.length_cons]
    omega
theorem flat_one (l : List Sm) : ∀ u ∈ l.flatMap Sm.cells, u.oneCell' = true := by
  intro u hu
  obtain ⟨x, _, hx⟩ := List.mem_flatMap.1 hu
  simp only [Sm.cells, List.mem_cons, List.not_mem_nil, or_false] at hx
  rcases hx with rfl | rfl | rfl <;> rfl
structure Syms (w : World) (B : Nat) (A : Option Addr) (n : Nat) (l : List Sm) : Prop where
  len : l.length = n
  ok : ∀ x ∈ l, x.Ok
  ad : 0 < n → ∃ b off, A = some ⟨b, off, none⟩ ∧ b < B ∧ ∀ i x, l[i]? = some x →
    w.cell? ⟨b, off + i * 3, none⟩ = some (.string x.name) ∧ w.cell? ⟨b, off + i * 3 + 1, none⟩ = some (.int .i64 x.arity) ∧ w.cell? ⟨b, off + i * 3 + 2, none⟩ = some (.bool x.pred)
section
variable {w w' : World} {B B' n : Nat} {A : Option Addr} {l : List Sm}
theorem Syms.keep (h : Syms w B A n l) (hk : ∀ p : Addr, p.block < B → w'.cell? p = w.cell? p) : Syms w' B A n l :=
  ⟨h.len, h.ok, fun hn => by
    obtain ⟨b, off, hA, hlt, hc⟩ := h.ad hn
    refine ⟨b, off, hA, hlt, fun i x hi => ?_⟩
    obtain ⟨h1, h2, h3⟩ := hc i x hi
    exact ⟨(hk ⟨b, _, none⟩ hlt).trans h1, (hk ⟨b, _, none⟩ hlt).trans h2, (hk ⟨b, _, none⟩ hlt).trans h3⟩⟩
theorem Syms.below (h : Syms w B A n l) (hb : Below B w w') : Syms w' B A n l := h.keep fun _ hp => hb.cell hp
theorem Syms.drewN (h : Syms w B A n l) (k : Nat) : Syms (w.drewN k) B A n l := h.keep fun _ _ => rfl
theorem Syms.more (h : Syms w B A n l) (hB : B ≤ B') : Syms w B' A n l :=
  ⟨h.len, h.ok, fun hn => by
    obtain ⟨b, off, hA, hlt, hc⟩ := h.ad hn
    exact ⟨b, off, hA, by omega, hc⟩⟩
theorem Syms.nil_ (w : World) (B : Nat) (A : Option Addr) : Syms w B A 0 [] := ⟨rfl, fun x hx => by simp at hx, fun h => absurd h (by omega)⟩
theorem Syms.on (h : Syms w w.heap.size A n l) (hb : Below w.heap.size w w') : Syms w' w'.heap.size A n l := (h.below hb).more hb.size
theorem Syms.flat (h : Syms w B A n l) (hn : 0 < n) : ∃ b off, A = some ⟨b, off, none⟩ ∧ b < B ∧ ∀ j u, (l.flatMap Sm.cells)[j]? = some u → w.cell? ⟨b, off + j, none⟩ = some u := by
  obtain ⟨b, off, hA, hlt, hc⟩ := h.ad hn
  refine ⟨b, off, hA, hlt, fun j u hu => ?_⟩
  have hj : j = j / 3 * 3 + j % 3 := by omega
  have hr : j % 3 < 3 := Nat.mod_lt _ (by omega)
  generalize j / 3 = i at hj
  generalize j % 3 = r at hj hr
  subst hj
  rw [flat_get _ _ _ hr] at hu
  cases hx : l[i]? with
  | none => rw [hx] at hu; simp at hu
  | some x =>
    rw [hx] at hu
    obtain ⟨h1, h2, h3⟩ := hc i x hx
    match r, hr with
    | 0, _ => simp [Sm.cells] at hu; rw [← hu]; exact h1
    | 1, _ => simp [Sm.cells] at hu; rw [← hu]; exact h2
    | 2, _ => simp [Sm.cells] at hu; rw [← hu]; exact h3
theorem Syms.of_flat (hl : l.length = n) (hok : ∀ x ∈ l, x.Ok) (h : 0 < n → ∃ b off, A = some ⟨b, off, none⟩ ∧ b < B ∧ ∀ j u, (l.flatMap Sm.cells)[j]? = some u → w.cell? ⟨b, off + j, none⟩ = some u) : Syms w B A n l :=
  ⟨hl, hok, fun hn => by
    obtain ⟨b, off, hA, hlt, hc⟩ := h hn
    refine ⟨b, off, hA, hlt, fun i x hx => ⟨?_, ?_, ?_⟩⟩
    · exact hc (i * 3) _ (by have := flat_get l i 0 (by omega); rw [Nat.add_zero] at this; rw [this, hx]; rfl)
    · exact (congrArg w.cell? (by simp)).trans (hc (i * 3 + 1) _ (by rw [flat_get _ _ _ (by omega), hx]; rfl))
    · exact (congrArg w.cell? (by simp)).trans (hc (i * 3 + 2) _ (by rw [flat_get _ _ _ (by omega), hx]; rfl))⟩
end
def smB (a : ByteArray) (b : Int) (c : Bool) (a' : ByteArray) (b' : Int) (c' : Bool) : Bool := decide ((⟨a, b, c⟩ : Sm) = ⟨a', b', c'⟩)
theorem smB_true {x y : Sm} (h : x = y) : smB x.name x.arity x.pred y.name y.arity y.pred = true := by subst h; simp [smB]
theorem smB_false {x y : Sm} (h : x ≠ y) : smB x.name x.arity x.pred y.name y.arity y.pred = false := by
  simp only [smB, decide_eq_false_iff_not]; exact h
theorem run_eql_sym (a a' : ByteArray) (b b' : Int) (c c' : Bool) (w : World) : Sem.run Tryd.prog (binOp .eql 67 (.agg #[.string a, .int .i64 b, .bool c]) (.agg #[.string a', .int .i64 b', .bool c'])) w =
    .ok (.bool (smB a b c a' b' c')) w := by
  have hS : Tryd.prog.underlying 67 = some (.struct (Tryd.prog.fieldsOf 67)) := by kernel_rfl
  have hp : Tryd.prog.stoodInHeld 67 = false := by kernel_rfl
  rw [run_eql_struct, show (10000 : Nat) = 9999 + 1 from rfl, run_equalIn_agg w 9999 67 _ _ hS hp]
  simp only [Program.fieldsOf, Tryd.underlying67]
  go_simp
  by_cases h1 : a = a'
  · by_cases h2 : b = b' <;> by_cases h3 : c = c' <;> simp [smB, h1, h2, h3]
  · have h1' : ¬ a.toList = a'.toList := fun e => h1 (by
      rw [ByteArray.toList_eq, ByteArray.toList_eq] at e
      exact ByteArray.ext (Array.toList_inj.1 e))
    simp [smB, h1, h1']
theorem run_neq_sym (a a' : ByteArray) (b b' : Int) (c c' : Bool) (w : World) : Sem.run Tryd.prog (binOp .neq 67 (.agg #[.string a, .int .i64 b, .bool c]) (.agg #[.string a', .int .i64 b', .bool c'])) w =
    .ok (.bool (!smB a b c a' b' c')) w := by
  have h := run_eql_sym a a' b b' c c' w
  simp only [binOp] at h ⊢
  rw [Sem.run_bind] at h ⊢
  revert h
  generalize Sem.run Tryd.prog (Op.equal 67 (.agg #[.string a, .int .i64 b, .bool c]) (.agg #[.string a', .int .i64 b', .bool c'])) w = r
  intro h
  cases r with
  | ok v w' =>
    simp only [Result.andThen_ok, Sem.run_pure] at h ⊢
    injection h with h1 h2
    injection h1 with h1
    rw [h1, h2]
  | halt x w' => simp [Result.andThen] at h
end Go.Proofs.YtmmiclpedehcpaaDoor
namespace Go.Proofs.YtmmiclpedehcpaaDoor
open Go.RowKit
inductive Tm where
  | node (f : Int) (xs : List Tm)
def Tm.fn : Tm → Int
  | .node f _ => f
def Tm.args : Tm → List Tm
  | .node _ xs => xs
theorem Tm.eta (t : Tm) : Tm.node t.fn t.args = t := by cases t; rfl
theorem Tm.ind {P : Tm → Prop} (h : ∀ f xs, (∀ t ∈ xs, P t) → P (.node f xs)) (t : Tm) : P t :=
  Tm.rec (motive_1 := P) (motive_2 := fun xs => ∀ t ∈ xs, P t) (fun f xs ih => h f xs ih) (by simp) (fun t ts h1 h2 => by simp only [List.mem_cons]; rintro u (rfl | hu); exact h1; exact h2 _ hu) t
mutual
def Tm.size : Tm → Nat
  | .node _ xs => sizes xs + 1
def sizes : List Tm → Nat
  | [] => 0
  | t :: ts => t.size + sizes ts
end
mutual
def Tm.depth : Tm → Nat
  | .node _ xs => depths xs + 1
def depths : List Tm → Nat
  | [] => 0
  | t :: ts => max t.depth (depths ts)
end
theorem size_mem {t : Tm} {xs : List Tm} (h : t ∈ xs) : t.size ≤ sizes xs := by
  induction xs with
  | nil => simp at h
  | cons a xs ih =>
    simp only [List.mem_cons] at h
    simp only [sizes]
    rcases h with rfl | h
    · omega
    · have := ih h; omega
theorem depth_mem {t : Tm} {xs : List Tm} (h : t ∈ xs) : t.depth ≤ depths xs := by
  induction xs with
  | nil => simp at h
  | cons a xs ih =>
    simp only [List.mem_cons] at h
    simp only [depths]
    rcases h with rfl | h
    · omega
    · have := ih h; omega
theorem size_pos (t : Tm) : 1 ≤ t.size := by cases t; simp only [Tm.size]; omega
theorem sizes_len (xs : List Tm) : xs.length ≤ sizes xs := by
  induction xs with
  | nil => simp [sizes]
  | cons a xs ih => have := size_pos a; simp only [List.length_cons, sizes]; omega
def headI (f g : Int) : Int := if f = g then 0 else if f < 0 ∧ g < 0 then (if g < f then -1 else 1) else if f < g then -1 else 1
def numI (a b : Int) : Int := if a < b then -1 else if b < a then 1 else 0
mutual
def cmpT : Tm → Tm → Int
  | .node f xs, u => if headI f u.fn ≠ 0 then headI f u.fn else if cmpL xs u.args ≠ 0 then cmpL xs u.args else numI xs.length u.args.length
def cmpL : List Tm → List Tm → Int
  | [], _ => 0
  | a :: xs, bs => match bs with
    | [] => 0
    | b :: bs => if cmpT a b ≠ 0 then cmpT a b else cmpL xs bs
end
theorem cmpT_eq (t u : Tm) : cmpT t u = if headI t.fn u.fn ≠ 0 then headI t.fn u.fn else if cmpL t.args u.args ≠ 0 then cmpL t.args u.args else numI t.args.length u.args.length := by
  cases t; simp only [cmpT, Tm.fn, Tm.args]; rfl
def I64 (i : Int) : Prop := -9223372036854775808 ≤ i ∧ i ≤ 9223372036854775807
inductive Args (w : World) (B : Nat) : Option Addr → List Tm → Prop
  | nil (A : Option Addr) : Args w B A []
  | row (b off : Nat) (xs : List Tm) (A' : Nat → Option Addr) (c' : Nat → Nat) (hb : b < B) (hlen : xs.length ≤ 9223372036854775807) (hi : ∀ (i : Nat) (t : Tm), xs[i]? = some t → I64 t.fn)
      (h0 : ∀ (i : Nat) (t : Tm), xs[i]? = some t → w.cell? ⟨b, off + i * 2, none⟩ = some (.int .i64 t.fn))
      (h1 : ∀ (i : Nat) (t : Tm), xs[i]? = some t → w.cell? ⟨b, off + i * 2 + 1, none⟩ = some (.slice (A' i) t.args.length (c' i)))
      (hs : ∀ (i : Nat) (t : Tm), xs[i]? = some t → Args w B (A' i) t.args) : Args w B (some ⟨b, off, none⟩) xs
section
variable {w w' : World} {B B' : Nat} {A : Option Addr} {xs : List Tm}
theorem Args.keep (h : Args w B A xs) (hk : ∀ p : Addr, p.block < B → w'.cell? p = w.cell? p) : Args w' B A xs := by
  induction h with
  | nil A => exact .nil A
  | row b off xs A' c' hb hlen hi h0 h1 _ ih => exact .row b off xs A' c' hb hlen hi (fun i t e => (hk ⟨b, _, none⟩ hb).trans (h0 i t e)) (fun i t e => (hk ⟨b, _, none⟩ hb).trans (h1 i t e)) ih
theorem Args.blw (h : Args w B A xs) (hb : Below B w w') : Args w' B A xs := h.keep fun _ hp => hb.cell hp
theorem Args.more (h : Args w B A xs) (hB : B ≤ B') : Args w B' A xs := by
  induction h with
  | nil A => exact .nil A
  | row b off xs A' c' hb hlen hi h0 h1 _ ih => exact .row b off xs A' c' (by omega) hlen hi h0 h1 ih
theorem Args.len (h : Args w B A xs) : xs.length ≤ 9223372036854775807 := by
  cases h with
  | nil => simp
  | row => assumption
structure ArgAt (w : World) (B b off i : Nat) (t : Tm) (A' : Option Addr) (c' : Nat) : Prop where
  hb : b < B
  hi : I64 t.fn
  c0 : w.cell? ⟨b, off + i * 2, none⟩ = some (.int .i64 t.fn)
  c1 : w.cell? ⟨b, off + i * 2 + 1, none⟩ = some (.slice A' t.args.length c')
  sub : Args w B A' t.args
theorem Args.get (h : Args w B A xs) {i : Nat} {t : Tm} (hi : xs[i]? = some t) : ∃ b off A' c', A = some ⟨b, off, none⟩ ∧ ArgAt w B b off i t A' c' := by
  cases h with
  | nil => simp at hi
  | row b off _ A' c' hb hlen hi' h0 h1 hs => exact ⟨b, off, A' i, c' i, rfl, hb, hi' i t hi, h0 i t hi, h1 i t hi, hs i t hi⟩
end
end Go.Proofs.YtmmiclpedehcpaaDoor
namespace Go.Proofs.YtmmiclpedehcpaaDoor
def cmpX : List Tm → List Tm → Int
  | [], [] => 0
  | [], _ :: _ => -1
  | _ :: _, [] => 1
  | x :: xs, y :: ys => if cmpT x y ≠ 0 then cmpT x y else cmpX xs ys
theorem cmpX_eq : ∀ xs ys : List Tm, cmpX xs ys = if cmpL xs ys ≠ 0 then cmpL xs ys else numI xs.length ys.length
  | [], [] => by simp [cmpX, cmpL, numI]
  | [], y :: ys => by simp [cmpX, cmpL, numI]
  | x :: xs, [] => by simp [cmpX, cmpL, numI]; omega
  | x :: xs, y :: ys => by
    by_cases h : cmpT x y = 0
    · simp only [cmpX, cmpL, h, ne_eq, not_true_eq_false, if_false]
      rw [cmpX_eq xs ys]
      have : numI (x :: xs).length (y :: ys).length = numI xs.length ys.length := by
        unfold numI
        simp only [List.length_cons]
        by_cases h1 : (xs.length : Int) < ys.length
        · rw [if_pos h1, if_pos (by omega)]
        · rw [if_neg h1, if_neg (by omega)]
          by_cases h2 : (ys.length : Int) < xs.length
          · rw [if_pos h2, if_pos (by omega)]
          · rw [if_neg h2, if_neg (by omega)]
      rw [this]
    · simp only [cmpX, cmpL, ne_eq, h, not_false_eq_true, if_true]
theorem cmpT_x (f g : Int) (xs ys : List Tm) : cmpT (.node f xs) (.node g ys) = if headI f g ≠ 0 then headI f g else cmpX xs ys := by
  rw [cmpX_eq]
  exact cmpT_eq _ _
theorem head_anti (f g : Int) : headI g f = - headI f g := by
  unfold headI
  by_cases h : f = g
  · subst h; simp
  · rw [if_neg h, if_neg (fun e => h e.symm)]
    by_cases h1 : f < 0 ∧ g < 0
    · rw [if_pos h1, if_pos ⟨h1.2, h1.1⟩]
      by_cases h2 : g < f
      · rw [if_pos h2, if_neg (by omega)]; rfl
      · rw [if_neg h2, if_pos (by omega)]
    · rw [if_neg h1, if_neg (fun e => h1 ⟨e.2, e.1⟩)]
      by_cases h2 : f < g
      · rw [if_pos h2, if_neg (by omega)]; rfl
      · rw [if_neg h2, if_pos (by omega)]
theorem head_zero {f g : Int} (h : headI f g = 0) : f = g := by
  unfold headI at h
  split at h
  · assumption
  · split at h
    · split at h <;> omega
    · split at h <;> omega
theorem cmp_anti (t : Tm) : ∀ u, cmpT u t = - cmpT t u := by
  refine Tm.ind (P := fun t => ∀ u, cmpT u t = - cmpT t u) (fun f xs ih u => ?_) t
  obtain ⟨g, ys⟩ := u
  rw [cmpT_x, cmpT_x, head_anti f g]
  have key : ∀ xs : List Tm, (∀ t ∈ xs, ∀ u, cmpT u t = - cmpT t u) → ∀ ys, cmpX ys xs = - cmpX xs ys := by
    intro xs
    induction xs with
    | nil => intro _ ys; cases ys <;> simp [cmpX]
    | cons x xs ihx =>
      intro h ys
      cases ys with
      | nil => simp [cmpX]
      | cons y ys =>
        simp only [cmpX]
        rw [h x (by simp) y, ihx (fun t ht => h t (by simp [ht])) ys]
        by_cases e : cmpT x y = 0
        · simp [e]
        · rw [if_pos (by omega), if_pos e]
  by_cases e : headI f g = 0
  · rw [if_neg (by simp [e]), if_neg (by simp [e]), key xs ih ys]
  · rw [if_pos (by omega), if_pos e]
theorem cmp_zero (t : Tm) : ∀ u, cmpT t u = 0 → t = u := by
  refine Tm.ind (P := fun t => ∀ u, cmpT t u = 0 → t = u) (fun f xs ih u h => ?_) t
  obtain ⟨g, ys⟩ := u
  rw [cmpT_x] at h
  have key : ∀ xs : List Tm, (∀ t ∈ xs, ∀ u, cmpT t u = 0 → t = u) → ∀ ys, cmpX xs ys = 0 → xs = ys := by
    intro xs
    induction xs with
    | nil => intro _ ys h; cases ys <;> simp [cmpX] at h ⊢
    | cons x xs ihx =>
      intro hh ys h
      cases ys with
      | nil => simp [cmpX] at h
      | cons y ys =>
        simp only [cmpX] at h
        by_cases e : cmpT x y = 0
        · rw [if_neg (by simp [e])] at h
          rw [hh x (by simp) y e, ihx (fun t ht => hh t (by simp [ht])) ys h]
        · rw [if_pos e] at h; exact absurd h e
  by_cases e : headI f g = 0
  · rw [if_neg (by simp [e])] at h
    rw [head_zero e, key xs ih ys h]
  · rw [if_pos e] at h; exact absurd h e
theorem cmp_refl (t : Tm) : cmpT t t = 0 := by have := cmp_anti t t; omega
theorem cmp_zero_iff {t u : Tm} : cmpT t u = 0 ↔ t = u := ⟨cmp_zero t u, fun h => by subst h; exact cmp_refl t⟩
end Go.Proofs.YtmmiclpedehcpaaDoor
namespace Go.Proofs.YtmmiclpedehcpaaDoor
open Go.RowKit
set_option maxRecDepth 20000
def eqT (s t : Tm) : Bool := decide (cmpT s t = 0)
theorem eqT_iff {s t : Tm} : eqT s t = true ↔ s = t := by unfold eqT; rw [decide_eq_true_eq, cmp_zero_iff]
def idxT (ts : List Tm) (t : Tm) : Nat := ts.findIdx (eqT t)
theorem idxT_lt {ts : List Tm} {t : Tm} : idxT ts t < ts.length ↔ t ∈ ts := by
  unfold idxT
  rw [List.findIdx_lt_length]
  exact ⟨fun ⟨x, hx, he⟩ => by rw [eqT_iff.1 he]; exact hx, fun h => ⟨t, h, eqT_iff.2 rfl⟩⟩
theorem idxT_at {ts : List Tm} {t : Tm} (h : t ∈ ts) : ts[idxT ts t]? = some t := by
  have hlt := idxT_lt.2 h
  have := List.findIdx_getElem (xs := ts) (p := eqT t) (w := hlt)
  rw [List.getElem?_eq_getElem hlt]
  exact congrArg some (eqT_iff.1 this).symm
theorem nodup_at : ∀ {ts : List Tm} {i j : Nat} {t : Tm}, ts.Nodup → ts[i]? = some t → ts[j]? = some t → i = j := fun {ts i j t} nd h1 h2 => by
  obtain ⟨l1, e1⟩ := List.getElem?_eq_some_iff.1 h1
  obtain ⟨l2, e2⟩ := List.getElem?_eq_some_iff.1 h2
  rcases Nat.lt_trichotomy i j with h | h | h
  · exact absurd (e1.trans e2.symm) (List.pairwise_iff_getElem.1 nd i j l1 l2 h)
  · exact h
  · exact absurd (e2.trans e1.symm) (List.pairwise_iff_getElem.1 nd j i l2 l1 h)
theorem idxT_of {ts : List Tm} {k : Nat} {t : Tm} (nd : ts.Nodup) (h : ts[k]? = some t) : idxT ts t = k := nodup_at nd (idxT_at (List.mem_of_getElem? h)) h
theorem idxT_pre {ts : List Tm} {t : Tm} (h : t ∈ ts) (us : List Tm) : idxT (ts ++ us) t = idxT ts t := by
  unfold idxT
  have h1 := idxT_lt.2 h
  unfold idxT at h1
  rw [List.findIdx_append, if_pos h1]
theorem idxT_new {ts : List Tm} {t : Tm} (h : ¬ t ∈ ts) : idxT (ts ++ [t]) t = ts.length := by
  have h1 : idxT ts t = ts.length := by
    have h2 : ¬ idxT ts t < ts.length := fun e => h (idxT_lt.1 e)
    have h3 : idxT ts t ≤ ts.length := List.findIdx_le_length
    omega
  unfold idxT at h1 ⊢
  rw [List.findIdx_append, if_neg (by omega)]
  have : eqT t t = true := eqT_iff.2 rfl
  simp [List.findIdx_cons, this]
def ad1 (r : List Tm) (t : Tm) : List Tm := if idxT r t < r.length then r else r ++ [t]
mutual
def addT (ts : List Tm) : Tm → List Tm
  | .node f xs => ad1 (addL ts xs) (.node f xs)
def addL (ts : List Tm) : List Tm → List Tm
  | [] => ts
  | x :: xs => addL (addT ts x) xs
end
theorem addL_app : ∀ (xs ys ts : List Tm), addL ts (xs ++ ys) = addL (addL ts xs) ys
  | [], _, _ => rfl
  | x :: xs, ys, ts => by rw [List.cons_append, addL, addL_app xs ys, addL]
theorem addL_take {xs : List Tm} {k : Nat} {x : Tm} (h : xs[k]? = some x) (ts : List Tm) : addL ts (xs.take (k + 1)) = addT (addL ts (xs.take k)) x := by
  rw [List.take_add_one, h, addL_app]; rfl
theorem ad1_pre (r : List Tm) (t : Tm) : ∃ us, ad1 r t = r ++ us ∧ us.length ≤ 1 := by
  unfold ad1
  split
  · exact ⟨[], by simp, by simp⟩
  · exact ⟨[t], rfl, by simp⟩
mutual
theorem addT_pre : ∀ (t : Tm) (ts : List Tm), ∃ us, addT ts t = ts ++ us ∧ us.length ≤ t.size
  | .node f xs, ts => by
    obtain ⟨us, e, h⟩ := addL_pre xs ts
    obtain ⟨vs, e2, h2⟩ := ad1_pre (addL ts xs) (.node f xs)
    refine ⟨us ++ vs, by rw [addT, e2, e, List.append_assoc], ?_⟩
    rw [List.length_append, Tm.size]; omega
theorem addL_pre : ∀ (xs ts : List Tm), ∃ us, addL ts xs = ts ++ us ∧ us.length ≤ sizes xs
  | [], ts => ⟨[], by simp [addL], by simp⟩
  | x :: xs, ts => by
    obtain ⟨us, e, h⟩ := addT_pre x ts
    obtain ⟨vs, e2, h2⟩ := addL_pre xs (addT ts x)
    refine ⟨us ++ vs, by rw [addL, e2, e, List.append_assoc], ?_⟩
    rw [List.length_append, sizes]; omega
end
theorem ad1_mem (r : List Tm) (t : Tm) : t ∈ ad1 r t := by
  unfold ad1
  split
  · rename_i h; exact idxT_lt.1 h
  · simp
theorem addT_mem (t : Tm) (ts : List Tm) : t ∈ addT ts t := by
  obtain ⟨f, xs⟩ := t
  rw [addT]; exact ad1_mem _ _
theorem addL_keep {u : Tm} {ts : List Tm} (h : u ∈ ts) (xs : List Tm) : u ∈ addL ts xs := by
  obtain ⟨us, e, _⟩ := addL_pre xs ts
  rw [e]; exact List.mem_append_left _ h
theorem addL_mem : ∀ {xs : List Tm} {x : Tm}, x ∈ xs → ∀ ts, x ∈ addL ts xs
  | y :: ys, x, h, ts => by
    rw [addL]
    rcases List.mem_cons.1 h with rfl | h
    · exact addL_keep (addT_mem _ _) _
    · exact addL_mem h _
structure BOk (ts : List Tm) : Prop where
  nd : ts.Nodup
  cl : ∀ (k : Nat) (t : Tm), ts[k]? = some t → ∀ a ∈ t.args, idxT ts a < k
theorem BOk.nil : BOk [] := ⟨List.nodup_nil, fun k t h => by simp at h⟩
theorem BOk.arg {ts : List Tm} (h : BOk ts) {t a : Tm} (ht : t ∈ ts) (ha : a ∈ t.args) : a ∈ ts := by
  have h1 := h.cl _ t (idxT_at ht) a ha
  exact idxT_lt.1 (Nat.lt_trans h1 (idxT_lt.2 ht))
theorem BOk.ad1 {r : List Tm} (h : BOk r) {t : Tm} (har : ∀ a ∈ t.args, a ∈ r) : BOk (ad1 r t) := by
  unfold Go.Proofs.YtmmiclpedehcpaaDoor.ad1
  split
  · exact h
  · rename_i hn
    have hn' : ¬ t ∈ r := fun e => hn (idxT_lt.2 e)
    refine ⟨List.nodup_append.2 ⟨h.nd, by simp, fun a ha b hb => by simp at hb; subst hb; exact fun e => hn' (e ▸ ha)⟩, fun k u hu a hau => ?_⟩
    rcases Nat.lt_or_ge k r.length with hk | hk
    · rw [List.getElem?_append_left hk] at hu
      have h1 := h.cl k u hu a hau
      rw [idxT_pre (idxT_lt.1 (Nat.lt_trans h1 hk))]; exact h1
    · rw [List.getElem?_append_right hk] at hu
      have hk0 : k - r.length = 0 := by
        have := (List.getElem?_eq_some_iff.1 hu).1
        simp at this; omega
      rw [hk0] at hu
      simp at hu; subst hu
      rw [idxT_pre (har a hau)]
      have := idxT_lt.2 (har a hau)
      omega
mutual
theorem BOk.addT : ∀ (t : Tm) {ts : List Tm}, BOk ts → BOk (addT ts t)
  | .node f xs, ts, h => by
    rw [Go.Proofs.YtmmiclpedehcpaaDoor.addT]
    exact (BOk.addL xs h).ad1 (t := .node f xs) fun a ha => addL_mem ha ts
theorem BOk.addL : ∀ (xs : List Tm) {ts : List Tm}, BOk ts → BOk (addL ts xs)
  | [], ts, h => h
  | x :: xs, ts, h => by
    rw [Go.Proofs.YtmmiclpedehcpaaDoor.addL]
    exact BOk.addL xs (BOk.addT x h)
end
def numsT (ts xs : List Tm) : List Nat := xs.map (idxT ts)
theorem nums_inj {ts xs ys : List Tm} (hx : ∀ x ∈ xs, x ∈ ts) (hy : ∀ y ∈ ys, y ∈ ts) (h : numsT ts xs = numsT ts ys) : xs = ys := by
  induction xs generalizing ys with
  | nil => cases ys with
    | nil => rfl
    | cons y ys => simp [numsT] at h
  | cons x xs ih => cases ys with
    | nil => simp [numsT] at h
    | cons y ys =>
      simp only [numsT, List.map_cons, List.cons.injEq] at h
      have e1 := idxT_at (hx x (by simp))
      have e2 := idxT_at (hy y (by simp))
      rw [h.1, e2] at e1
      injection e1 with e1
      rw [e1, ih (fun z hz => hx z (by simp [hz])) (fun z hz => hy z (by simp [hz])) h.2]
theorem nums_pre {ts xs : List Tm} (hx : ∀ x ∈ xs, x ∈ ts) (us : List Tm) : numsT (ts ++ us) xs = numsT ts xs := by
  unfold numsT
  exact List.map_congr_left fun x h => idxT_pre (hx x h) us
def num4 (n : Nat) : List UInt8 := [UInt8.ofNat n, UInt8.ofNat (n / 256), UInt8.ofNat (n / 65536), UInt8.ofNat (n / 16777216)]
def textB (l : List Nat) : List UInt8 := l.flatMap num4
theorem num4_inj {m n : Nat} (hm : m < 4294967296) (hn : n < 4294967296) (h : num4 m = num4 n) : m = n := by
  unfold num4 at h
  simp only [List.cons.injEq, and_true] at h
  obtain ⟨h0, h1, h2, h3⟩ := h
  have k := fun {a b : Nat} (e : UInt8.ofNat a = UInt8.ofNat b) => by
    have := congrArg UInt8.toNat e
    rwa [UInt8.toNat_ofNat', UInt8.toNat_ofNat'] at this
  have k0 := k h0
  have k1 := k h1
  have k2 := k h2
  have k3 := k h3
  omega
theorem textB_inj : ∀ {l k : List Nat}, (∀ x ∈ l, x < 4294967296) → (∀ x ∈ k, x < 4294967296) → textB l = textB k → l = k
  | [], [], _, _, _ => rfl
  | [], y :: k, _, _, h => by simp [textB, num4] at h
  | x :: l, [], _, _, h => by simp [textB, num4] at h
  | x :: l, y :: k, hl, hk, h => by
    have h' : num4 x ++ textB l = num4 y ++ textB k := by simpa [textB] using h
    obtain ⟨h1, h2⟩ := List.append_inj h' rfl
    rw [num4_inj (hl x (by simp)) (hk y (by simp)) h1, textB_inj (fun z hz => hl z (by simp [hz])) (fun z hz => hk z (by simp [hz])) h2]
theorem textB_len : ∀ l : List Nat, (textB l).length = 4 * l.length
  | [] => rfl
  | n :: l => by
    have := textB_len l
    have e : textB (n :: l) = num4 n ++ textB l := by simp [textB]
    rw [e, List.length_append, this, List.length_cons]
    show 4 + _ = _
    omega
mutual
def grB : Tm → Bool
  | .node f xs => decide (0 ≤ f) && grL xs
def grL : List Tm → Bool
  | [] => true
  | t :: ts => grB t && grL ts
end
theorem grL_take {xs : List Tm} {k : Nat} {x : Tm} (h : xs[k]? = some x) : grL (xs.take (k + 1)) = (grL (xs.take k) && grB x) := by
  rw [List.take_add_one, h]
  have : ∀ l : List Tm, grL (l ++ [x]) = (grL l && grB x) := by
    intro l
    induction l with
    | nil => simp [grL]
    | cons a l ih => rw [List.cons_append, grL, ih, grL, Bool.and_assoc]
  exact this _
def usT (ts : List Tm) (n : Nat) : List Nat := (List.range ts.length).filter fun i => (numsT ts (ts.getD i (.node 0 [])).args).contains n
theorem usT_add {r : List Tm} (h : BOk r) {t : Tm} (ha : ∀ a ∈ t.args, a ∈ r) (n : Nat) : usT (r ++ [t]) n = usT r n ++ if (numsT r t.args).contains n then [r.length] else [] := by
  unfold usT
  rw [List.length_append, List.length_singleton, List.range_succ, List.filter_append]
  congr 1
  · refine List.filter_congr fun i hi => ?_
    rw [List.mem_range] at hi
    rw [List.getD_eq_getElem?_getD, List.getElem?_append_left hi, ← List.getD_eq_getElem?_getD]
    have hx : r[i]? = some (r.getD i (.node 0 [])) := by rw [List.getD_eq_getElem?_getD, List.getElem?_eq_getElem hi]; rfl
    rw [nums_pre fun a hau => h.arg (List.mem_of_getElem? hx) hau]
  · rw [List.filter_cons, List.filter_nil, List.getD_eq_getElem?_getD, List.getElem?_append_right (Nat.le_refl _), Nat.sub_self]
    simp only [List.getElem?_cons_zero, Option.getD_some, nums_pre ha]
theorem usT_lt {ts : List Tm} {n i : Nat} (h : i ∈ usT ts n) : i < ts.length := by
  unfold usT at h
  rw [List.mem_filter, List.mem_range] at h
  exact h.1
theorem usT_new {r : List Tm} (h : BOk r) : usT r r.length = [] := by
  unfold usT
  rw [List.filter_eq_nil_iff]
  intro i hi
  rw [List.mem_range] at hi
  have hx : r[i]? = some (r.getD i (.node 0 [])) := by rw [List.getD_eq_getElem?_getD, List.getElem?_eq_getElem hi]; rfl
  intro hc
  rw [List.contains_iff_mem] at hc
  obtain ⟨a, hau, e⟩ := List.mem_map.1 hc
  have := h.cl i _ hx a hau
  omega
end Go.Proofs.YtmmiclpedehcpaaDoor
namespace Go.Proofs.YtmmiclpedehcpaaDoor
open Go.RowKit
theorem info_sym : (Tryd.prog.info? 67).map (fun i => (i.zero, i.size, i.bytes)) = some (some (.agg #[.string ByteArray.empty, .int .i64 0, .bool false]), 3, 32) := by kernel_rfl
structure Own (w : World) (base : Nat) (v : Value) (l : List Sm) : Prop where
  row : w.ownsRow base 67 3 v l.length (l.flatMap Sm.cells)
  ok : ∀ x ∈ l, x.Ok
section
variable {w w' : World} {base B n : Nat} {v : Value} {l l' : List Sm} {A : Option Addr}
theorem Own.nil_ (w : World) (base : Nat) : Own w base (.slice none 0 0) [] := ⟨⟨rfl, .inl ⟨rfl, rfl⟩⟩, fun x hx => by simp at hx⟩
theorem Own.shape (h : Own w base v l) : ∃ A c, v = .slice A l.length c := by
  rcases h.row.2 with ⟨hv, h0⟩ | ⟨g, cap, cur, hv, _⟩
  · exact ⟨none, 0, by rw [hv, h0]⟩
  · exact ⟨_, cap, hv⟩
theorem Own.syms {c : Nat} (h : Own w base (.slice A n c) l) : Syms w w.heap.size A n l := by
  have hn : n = l.length := by
    obtain ⟨A', c', e⟩ := h.shape
    injection e
  subst hn
  refine Syms.of_flat rfl h.ok fun hpos => ?_
  rcases h.row.2 with ⟨_, h0⟩ | ⟨g, cap, cur, hv, _, hg, _, _, _, htake⟩
  · omega
  · injection hv with hA
    refine ⟨g, 0, hA, (Array.getElem?_eq_some_iff.1 hg).1, fun j u hu => ?_⟩
    rw [← htake, List.getElem?_take] at hu
    simp only [World.cell?, hg, Nat.zero_add]
    split at hu
    · simpa using hu
    · cases hu
theorem Own.below (h : Own w base v l) (hb : Below w.heap.size w w') : Own w' base v l := by
  refine ⟨⟨h.row.1, ?_⟩, h.ok⟩
  rcases h.row.2 with h0 | ⟨g, cap, cur, hv, hbase, hg, hrest⟩
  · exact .inl h0
  · exact .inr ⟨g, cap, cur, hv, hbase, (hb.block g (Array.getElem?_eq_some_iff.1 hg).1).trans hg, hrest⟩
theorem Own.keep (h : Own w base v l) (hk : ∀ g, base ≤ g → g < w.heap.size → w'.heap[g]? = w.heap[g]?) : Own w' base v l := by
  refine ⟨⟨h.row.1, ?_⟩, h.ok⟩
  rcases h.row.2 with h0 | ⟨g, cap, cur, hv, hbase, hg, hrest⟩
  · exact .inl h0
  · exact .inr ⟨g, cap, cur, hv, hbase, (hk g hbase (Array.getElem?_eq_some_iff.1 hg).1).trans hg, hrest⟩
theorem Own.setCell (h : Own w base v l) {p : Addr} (hp : p.block < base) (u : Value) : Own (w.setCell p u) base v l :=
  h.keep fun g hg _ => Below.heap_setCell w p u g (by omega)
theorem run_append_none (ty c : Nat) (h : Own w base v l) : (Builtin.append_ #[22, 22] ty #[v, .slice none 0 c]).run Tryd.prog w = .ok v w := by
  obtain ⟨i, hi, _⟩ := info_parts info_sym
  rcases h.row.2 with ⟨rfl, _⟩ | ⟨g, cap, cur, rfl, _, _, hnc, _⟩
  · simp [Builtin.append_, run_underlying Tryd.underlying22, sizeOf, typeInfo, hi, Builtin.lenOf, Builtin.firstCells]
  · simp [Builtin.append_, run_underlying Tryd.underlying22, sizeOf, typeInfo, hi, Builtin.lenOf, Builtin.firstCells, hnc, storeCells]
theorem run_append_syms (ty c m : Nat) (h : Own w base v l) (hs : Syms w B A m l') (hm : (l.length + m) * 32 ≤ 140737488355328) (hbase : base ≤ w.heap.size) :
    ∃ A' c' w', (Builtin.append_ #[22, 22] ty #[v, .slice A m c]).run Tryd.prog w = .ok (.slice A' (l.length + m) c') w' ∧ Own w' base (.slice A' (l.length + m) c') (l ++ l') ∧ w.grownBy w' v.ownBlock := by
  have hm' : l'.length = m := hs.len
  have key : ∃ v' w', (Builtin.append_ #[22, 22] ty #[v, .slice A m c]).run Tryd.prog w = .ok v' w' ∧ Own w' base v' (l ++ l') ∧ w.grownBy w' v.ownBlock := by
    rcases A with _ | ad
    · have h0 : m = 0 := by
        rcases Nat.eq_zero_or_pos m with h0 | h0
        · exact h0
        · obtain ⟨_, _, e, _⟩ := hs.ad h0
          cases e
      subst h0
      have : l' = [] := List.eq_nil_of_length_eq_zero hm'
      subst this
      exact ⟨v, w, run_append_none ty c h, by rw [List.append_nil]; exact h, World.grownBy.refl w _⟩
    · have hcells : ∀ j u, (l'.flatMap Sm.cells)[j]? = some u → w.cell? (ad.add j) = some u := by
        intro j u hu
        rcases Nat.eq_zero_or_pos m with h0 | h0
        · have : l' = [] := List.eq_nil_of_length_eq_zero (hm'.trans h0)
          subst this
          simp at hu
        · obtain ⟨b, off, e, _, hc⟩ := hs.flat h0
          injection e with e
          subst e
          have := hc j u hu
          unfold Addr.add
          split
          · rename_i hj; subst hj; simpa using this
          · exact this
      obtain ⟨i0, hi0, hz0, hz1, hz2⟩ := info_parts info_sym
      obtain ⟨v', w', hrun, hrow, hg, _⟩ := run_append_own (P := Tryd.prog) w base 22 ty 67 i0 _ 3 32 Tryd.underlying22 hi0 hz0 hz1 hz2 rfl (by omega) v l.length _ h.row ad m c (l'.flatMap Sm.cells)
        (by rw [flat_len, hm']) hcells (flat_one l') (by simp only [maxLen]; omega) hm hbase
      refine ⟨v', w', hrun, ⟨?_, fun x hx => ?_⟩, hg⟩
      · rw [List.flatMap_append, List.length_append, hm']; exact hrow
      · rcases List.mem_append.1 hx with hx | hx
        · exact h.ok x hx
        · exact hs.ok x hx
  obtain ⟨v', w', hrun, hown, hg⟩ := key
  obtain ⟨A', c', e⟩ := hown.shape
  rw [List.length_append, hm'] at e
  subst e
  exact ⟨A', c', w', hrun, hown, hg⟩
theorem wp_append_syms {o : Oper} {a : Act} {K : Act → World → Prop} {Q : Exit → Act → World → Prop} (s x : Operand)
    (ho : o.op = .call { callee := .builtin .append, args := #[s, x], argTypes := #[22, 22] }) (v : Value) (l : List Sm) (hs : a.eval s = v) (base : Nat) (hown : Own w base v l)
    (A : Option Addr) (m c B : Nat) (l' : List Sm) (hx : a.eval x = .slice A m c) (hr : Syms w B A m l') (hm : (l.length + m) * 32 ≤ 140737488355328) (hbase : base ≤ w.heap.size)
    (h : ∀ A' c' w', Own w' base (.slice A' (l.length + m) c') (l ++ l') → w.grownBy w' v.ownBlock → K (a.put o.dst (.slice A' (l.length + m) c')) w') : o.wp Tryd.prog a w K Q := by
  obtain ⟨A', c', w', hrun, h2, h3⟩ := run_append_syms o.type c m hown hr hm hbase
  unfold Oper.wp
  simp [execOp, ho, resolve, invoke, builtin, hs, hx, hrun, Result.andThen]
  exact h A' c' w' h2 h3
theorem wpList_append_syms {ops : Array Oper} {rest : List Oper} {o : Oper} {a : Act} {Q : Exit → Act → World → Prop} (hgd : o.guard = none) (s x : Operand)
    (ho : o.op = .call { callee := .builtin .append, args := #[s, x], argTypes := #[22, 22] }) (v : Value) (l : List Sm) (hs : a.eval s = v) (base : Nat) (hown : Own w base v l)
    (A : Option Addr) (m c B : Nat) (l' : List Sm) (hx : a.eval x = .slice A m c) (hr : Syms w B A m l') (hm : (l.length + m) * 32 ≤ 140737488355328) (hbase : base ≤ w.heap.size)
    (h : ∀ A' c' w', Own w' base (.slice A' (l.length + m) c') (l ++ l') → w.grownBy w' v.ownBlock → wpList Tryd.prog ops Q rest (a.put o.dst (.slice A' (l.length + m) c')) w') : wpList Tryd.prog ops Q (o :: rest) a w :=
  wpList_plain hgd fun _ hK => wp_append_syms s x ho v l hs base hown A m c B l' hx hr hm hbase fun A' c' w' h2 h3 => hK _ _ (h A' c' w' h2 h3)
end
end Go.Proofs.YtmmiclpedehcpaaDoor
namespace Go.Proofs.YtmmiclpedehcpaaDoor
open Go.RowKit
def nameC (c : Int) : Bool := decide ((97 ≤ c ∧ c ≤ 122) ∨ (65 ≤ c ∧ c ≤ 90) ∨ (48 ≤ c ∧ c ≤ 57) ∨ c = 95)
set_option maxHeartbeats 400000 in
theorem nameByte_any (c : Int) (w : World) :
    Calls Tryd.prog 73 #[.int .u8 c] w fun e w' => e = .returned (.bool (nameC c)) ∧ w = w' := by
  go_enter Tryd.func73, Tryd.ntmps73
  go_wp2
  all_goals
    go_ret
    refine ⟨ret_bool ?_, rfl⟩
    rw [eq_comm, Bool.eq_iff_iff]
    simp only [nameC, decide_eq_true_eq, Bool.or_eq_true, beq_iff_eq]
    first | omega | (simp only [iff_true]; omega)
def nameAll (l : List UInt8) : Bool := l.all fun c => nameC c.toNat
theorem take_snoc (s : ByteArray) (k : Nat) (h : k < s.size) : s.data.toList.take (k + 1) = s.data.toList.take k ++ [s[k]] := by
  rw [List.take_succ_eq_append_getElem (by simpa using h)]; rfl
theorem nameAll_snoc (l : List UInt8) (c : UInt8) : nameAll (l ++ [c]) = (nameAll l && nameC c.toNat) := by simp [nameAll]
theorem nameAll_cut {l : List UInt8} {k : Nat} (h : nameAll (l.take k) = false) : nameAll l = false := by
  cases hl : nameAll l with
  | false => rfl
  | true =>
    unfold nameAll at hl h
    rw [List.all_eq_true] at hl
    rw [List.all_eq_false] at h
    obtain ⟨x, hx, hf⟩ := h
    exact absurd (hl x (List.mem_of_mem_take hx)) hf
set_option maxHeartbeats 400000 in
theorem all_any (s : ByteArray) (w : World) (hs : s.size ≤ maxLen) :
    Calls Tryd.prog 72 #[.string s, .func (.func 73) #[] #[]] w fun e w' => e = .returned (.bool (nameAll s.data.toList)) ∧ w = w' := by
  unfold maxLen at hs
  go_enter Tryd.func72, Tryd.ntmps72
  go_wp2
  go_loop [8] (fun i => ∃ k : Nat, k ≤ s.size ∧ i = .int .i64 k ∧ Hid (nameAll (s.data.toList.take k) = true)) (fun i => s.size - (intOf i).toNat)
  case atStart => exact ⟨0, Nat.zero_le _, rfl, by simp [Hid, nameAll]⟩
  case round =>
    obtain ⟨k, hk, rfl, HA⟩ := hrel
    by_cases hlt : k < s.size
    · have hts := take_snoc s k hlt
      have hsn := nameAll_snoc (s.data.toList.take k) s[k]
      rw [← hts, HA.out, Bool.true_and] at hsn
      have HS := Lib.hid hsn
      clear hsn hts
      cases hc : nameC (s[k].toNat : Int) with
      | true =>
        go_wp2_with (first | (go_at_call 73; refine (nameByte_any _ _).mono ?_; rintro e w' ⟨rfl, rfl⟩) | fail)
        go_round
        case rel => exact ⟨k + 1, by omega, by go_num, by rw [Hid, HS.out]; exact hc⟩
        case measure => simp [intOf]; omega
      | false =>
        go_wp2_with (first | (go_at_call 73; refine (nameByte_any _ _).mono ?_; rintro e w' ⟨rfl, rfl⟩) | fail)
        go_ret
        exact ⟨ret_bool (nameAll_cut (HS.out.trans hc)).symm, rfl⟩
    · have : k = s.size := by omega
      subst this
      go_wp2
      go_ret
      exact ⟨ret_bool (by have := HA.out; rw [List.take_of_length_le (by simp)] at this; exact this.symm), rfl⟩
end Go.Proofs.YtmmiclpedehcpaaDoor
namespace Go.Proofs.YtmmiclpedehcpaaDoor
open Go.RowKit
def namedB (s : ByteArray) : Bool := decide (1 ≤ s.size) && decide (s.size ≤ 40) && nameAll s.data.toList
def oneI (name : ByteArray) (arity : Int) : Int := if namedB name = false then 111 else if arity < 0 ∨ 6 < arity then 112 else 0
set_option maxHeartbeats 400000 in
theorem fits_any (s : ByteArray) (a : Int) (w : World) (hs : s.size ≤ maxLen) :
    Calls Tryd.prog 64 #[.string s, .int .i64 a] w fun e w' => e = .returned (.int .i64 (oneI s a)) ∧ w = w' := by
  by_cases h0 : s.size = 0
  · have hf := Lib.hid (show oneI s a = 111 by simp [oneI, namedB, h0])
    have h0' : (((s.size : Nat) : Int) == 0) = true := by simp [h0]
    clear h0
    go_enter Tryd.func64, Tryd.ntmps64
    go_wp2_with fail
    go_ret
    exact ⟨ret_int hf.out.symm, rfl⟩
  · have h0' : (((s.size : Nat) : Int) == 0) = false := by simpa using h0
    by_cases h1 : 40 < s.size
    · have hf := Lib.hid (show oneI s a = 111 by simp [oneI, namedB, Nat.not_le.2 h1])
      clear h0
      go_enter Tryd.func64, Tryd.ntmps64
      go_wp2_with fail
      go_ret
      exact ⟨ret_int hf.out.symm, rfl⟩
    · cases h2 : nameAll s.data.toList with
      | false =>
        have hf := Lib.hid (show oneI s a = 111 by simp [oneI, namedB, h2])
        clear h0
        go_enter Tryd.func64, Tryd.ntmps64
        go_wp2_with (first | (go_at_call 72; refine (all_any _ _ hs).mono ?_; rintro e w' ⟨rfl, rfl⟩) | fail)
        go_ret
        exact ⟨ret_int hf.out.symm, rfl⟩
      | true =>
        have hf := Lib.hid (show oneI s a = if a < 0 ∨ 6 < a then 112 else 0 by
          have e : namedB s = true := by simp [namedB, h2]; omega
          simp [oneI, e])
        clear h0
        go_enter Tryd.func64, Tryd.ntmps64
        go_wp2_with (first | (go_at_call 72; refine (all_any _ _ hs).mono ?_; rintro e w' ⟨rfl, rfl⟩) | fail)
        all_goals
          go_ret
          refine ⟨ret_int ?_, rfl⟩
          rw [hf.out]
          first | rw [if_pos (by omega)] | rw [if_neg (by omega)]
end Go.Proofs.YtmmiclpedehcpaaDoor
namespace Go.Proofs.YtmmiclpedehcpaaDoor
open Go.RowKit
def truthS : ByteArray := ⟨#[36, 116, 114, 117, 101]⟩
def truthSm : Sm := ⟨truthS, 0, true⟩
set_option maxHeartbeats 400000 in
theorem Truth_any (w : World) :
    Calls Tryd.prog 48 #[] w fun e w' => e = .returned (.agg #[.string truthSm.name, .int .i64 truthSm.arity, .bool truthSm.pred]) ∧ Below w.heap.size w w' := by
  go_enter Tryd.func48, Tryd.ntmps48
  go_wp2
  refine bodyPost_ret (v := .agg #[.string truthSm.name, .int .i64 truthSm.arity, .bool truthSm.pred]) (by simp [results, Tryd.results48, go_sem, truthSm, truthS]) rfl ⟨rfl, ?_⟩
  repeat first | exact Below.refl _ _ | refine bl_drewN ?_ _ | refine Below.alloc ?_ (by simp) _ | refine Below.setCell ?_ (by simp) _
def atI (l : List Sm) (x : Sm) : Int := match l.findIdx? (· == x) with | some i => i | none => -1
theorem atI_hit (l : List Sm) (x : Sm) (k : Nat) (hx : l[k]? = some x) (h : ∀ j, j < k → l[j]? ≠ some x) : atI l x = k := by
  have : l.findIdx? (· == x) = some k := by
    rw [List.findIdx?_eq_some_iff_getElem]
    obtain ⟨hk, hx⟩ := List.getElem?_eq_some_iff.1 hx
    refine ⟨hk, by simp [hx], fun j hj => ?_⟩
    have := h j hj
    rw [List.getElem?_eq_getElem (by omega)] at this
    simpa using this
  simp [atI, this]
theorem atI_miss (l : List Sm) (x : Sm) (h : ∀ j, j < l.length → l[j]? ≠ some x) : atI l x = -1 := by
  have : l.findIdx? (· == x) = none := by
    rw [List.findIdx?_eq_none_iff]
    intro y hy
    obtain ⟨j, hj, rfl⟩ := List.getElem_of_mem hy
    have := h j hj
    rw [List.getElem?_eq_getElem hj] at this
    simpa using this
  simp [atI, this]
end Go.Proofs.YtmmiclpedehcpaaDoor
namespace Go.Proofs.YtmmiclpedehcpaaDoor
open Go.RowKit
theorem cell_on {B : Nat} {W w1 : World} (hb : Below B W w1) {b o : Nat} {v : Value} (hlt : b < B) (h : W.cell? ⟨b, o, none⟩ = some v) : w1.cell? ⟨b, o, none⟩ = some v := (hb.cell (p := ⟨b, o, none⟩) hlt).trans h
end Go.Proofs.YtmmiclpedehcpaaDoor
namespace Go.Proofs.YtmmiclpedehcpaaDoor
open Go.RowKit
set_option maxRecDepth 100000
theorem info_term : (Tryd.prog.info? 37).map (fun i => (i.zero, i.size, i.bytes)) = some (some (.agg #[.int .i64 0, .slice none 0 0]), 2, 32) := by kernel_rfl
section
variable {w w' : World} {lo hi lo' hi' : Nat} {A : Option Addr} {xs : List Tm}
end
section
variable {w w' : World} {lo hi : Nat} {xs : List Tm} {b cap k : Nat} {vs : List Value} {A' : Nat → Option Addr} {c' m : Nat → Nat}
end
end Go.Proofs.YtmmiclpedehcpaaDoor
namespace Go.Proofs.YtmmiclpedehcpaaDoor
open Go Go.RowKit
variable {F : Fence} {n : Nat} {P : Program} {α : Type}
structure Keeps (S : Nat → Prop) (W W' : World) : Prop where
  os : W'.os = W.os
  tape : W'.tape = W.tape
  output : W'.output = W.output
  size : W.heap.size ≤ W'.heap.size
  block : ∀ g, S g → W'.heap[g]? = W.heap[g]?
theorem Keeps.refl (S : Nat → Prop) (W : World) : Keeps S W W := ⟨rfl, rfl, rfl, Nat.le_refl _, fun _ _ => rfl⟩
theorem Keeps.trans {S : Nat → Prop} {A B C : World} (h : Keeps S A B) (k : Keeps S B C) : Keeps S A C :=
  ⟨k.os.trans h.os, k.tape.trans h.tape, k.output.trans h.output, Nat.le_trans h.size k.size, fun g hg => (k.block g hg).trans (h.block g hg)⟩
theorem Keeps.mono {S T : Nat → Prop} {A B : World} (h : Keeps S A B) (hs : ∀ g, T g → S g) : Keeps T A B := ⟨h.os, h.tape, h.output, h.size, fun g hg => h.block g (hs g hg)⟩
theorem Keeps.below {S : Nat → Prop} {b : Nat} {A B : World} (h : Keeps S A B) (hs : ∀ g, g < b → S g) : Below b A B := ⟨h.os, h.tape, h.output, h.size, fun g hg => h.block g (hs g hg)⟩
theorem Keeps.of_below {b : Nat} {A B : World} (h : Below b A B) : Keeps (· < b) A B := ⟨h.os, h.tape, h.output, h.size, h.block⟩
theorem Keeps.of_grown {A B : World} {row : Option Nat} (h : A.grownBy B row) : Keeps (fun g => g < A.heap.size ∧ some g ≠ row) A B := ⟨h.os, h.tape, h.output, h.size, fun g hg => h.block g hg.1 hg.2⟩
theorem Keeps.put (W : World) (l : Nat) (o : Obj) : Keeps (· ≠ l) W (W.putObj l o) :=
  ⟨rfl, rfl, rfl, by simp, fun _ hk => World.putObj_heap_other (fun e => hk e)⟩
theorem Keeps.set (W : World) (p : Addr) (v : Value) : Keeps (· ≠ p.block) W (W.setCell p v) := ⟨rfl, rfl, rfl, by simp, fun g hg => Below.heap_setCell W p v g hg⟩
structure Stp (N : Nat → Prop) (C : World → Nat → Prop) (A B : World) : Prop where
  keeps : Keeps (fun g => N g ∨ (g < A.heap.size ∧ ¬ C A g)) A B
  grows : ∀ g, C B g → C A g ∨ A.heap.size ≤ g
theorem Stp.refl (N : Nat → Prop) (C : World → Nat → Prop) (A : World) : Stp N C A A := ⟨Keeps.refl _ _, fun _ h => .inl h⟩
theorem Stp.trans {N : Nat → Prop} {C : World → Nat → Prop} {A B D : World} (h : Stp N C A B) (k : Stp N C B D) : Stp N C A D := by
  refine ⟨h.keeps.trans (k.keeps.mono fun g hg => ?_), fun g hg => ?_⟩
  · rcases hg with hg | ⟨h1, h2⟩
    · exact .inl hg
    · exact .inr ⟨Nat.lt_of_lt_of_le h1 h.keeps.size, fun e => (h.grows g e).elim h2 (fun e => by omega)⟩
  · rcases k.grows g hg with h1 | h1
    · exact h.grows g h1
    · exact .inr (Nat.le_trans h.keeps.size h1)
def FrameC {β : Type} (C : World → Nat → Prop) (J : β → World → Prop) : Prop := ∀ s W W', J s W → Keeps (C W) W W' → J s W' ∧ ∀ g, C W' g → C W g
def BoundC {β : Type} (C : World → Nat → Prop) (J : β → World → Prop) : Prop := ∀ s W, J s W → ∀ g, C W g → g < W.heap.size
def SeqC (F : Fence) (n : Nat) (P : Program) (gf : Nat) (lb : Array Value) (encs : α → Array Value) (Fx : α → World → Prop) (N : Nat → Prop) (S Sp : List α → Prop) (w : World) : Prop :=
  ∀ (l : Nat) (C : World → Nat → Prop) (J Jx : List α → World → Prop) (W : World), Below w.heap.size w W → FrameC C J → BoundC C J →
    (∀ m pre x W1, J pre W1 → Sp (pre ++ [x]) → Fx x W1 → YieldAt F m P l (encs x) W1 fun e W' =>
      (e = .returned (.bool true) ∧ J (pre ++ [x]) W' ∧ Stp N C W1 W') ∨ (e = .returned (.bool false) ∧ Jx (pre ++ [x]) W')) →
    J [] W →
    CallsIn F n P gf (#[.func (.yield l) #[] #[]] ++ lb) W fun e W' => (∃ v, e = .returned v) ∧ ((∃ xs, S xs ∧ J xs W') ∨ (∃ pre, Sp pre ∧ Jx pre W'))
def bodyC (N : Nat → Prop) (C : World → Nat → Prop) (I : List α → World → Prop) (Ix : Code → List α → World → Prop) (xs : List α) (W : World) : Exit → Act → World → Prop
  | .normal, _, W' => I xs W' ∧ Stp N C W W'
  | .ret, _, W' => Ix .ret xs W' ∧ Stp N C W W'
  | .exit id, _, W' => Ix (.exit id) xs W' ∧ Stp N C W W'
  | .goto t, _, W' => Ix (.goto t) xs W' ∧ Stp N C W W'
  | .panic _, _, _ => False
  | .outgrown, _, _ => False
theorem range_law {g : Operand} {ps : Array Tmp} {assign body : Code} {Q : Exit → Act → World → Prop} {a : Act} {w : World}
    (hro : F.round = none) (hd : F.depth = none) {gf : Nat} {lb : Array Value} (hg : a.eval g = .func (.func gf) #[] lb) (hFg : F.fn gf) (eg : ∀ args w, (callFunc gf args).run P w = .ok (.enter gf args) w)
    {encs : α → Array Value} {Fx : α → World → Prop} {N : Nat → Prop} {S Sp : List α → Prop} {w0 : World} (hseq : ∀ m, SeqC F m P gf lb encs Fx N S Sp w0) (hb0 : Below w0.heap.size w0 w) (hps : ∀ x, (encs x).size = ps.size) (hN : ∀ g, N g → g < w.heap.size)
    (C : World → Nat → Prop) (I : List α → World → Prop) (Ix : Code → List α → World → Prop) (hI : FrameC C I) (hbd : BoundC C I) (hIx : ∀ c, FrameC C (Ix c))
    (h0 : I [] w) (Ax : List α → α → Act → World → Prop)
    (hAx : ∀ pre x a' W l r o, Ax pre x a' W → w.heap.size ≤ l → W.heap[l]? = some (.loop r) → ¬ C W l → (∀ g, C (W.putObj l o) g → C W g) ∧ Ax pre x a' (W.putObj l o))
    (hassign : ∀ (l m : Nat) (pre : List α) (x : α) (W : World) (K : Act → World → Prop), I pre W → Sp (pre ++ [x]) → Fx x W → (∀ a' W', Stp N C W W' → Ax pre x a' W' → K a' W') →
      assign.wpIn (F.inRound l) m P (Exit.then K (fun _ _ _ => False)) { tmps := (ps.zip (encs x)).foldl (fun t (p, v) => t.setIfInBounds p v) a.tmps, defers := [] } W)
    (hbody : ∀ (l m : Nat) (pre : List α) (x : α) (a' : Act) (W : World), Sp (pre ++ [x]) → Ax pre x a' W → body.wpIn (F.inRound l) m P (bodyC N C I Ix (pre ++ [x]) W) a' W)
    (hdone : ∀ (D : Nat) (xs : List α) (W : World), w.heap.size ≤ D → S xs → I xs W → W.heap[D]? = some (.deferred (some [])) → Q .normal { a with defers := { target := .collected D, args := #[] } :: a.defers } W)
    (hstop : ∀ (D : Nat) (c : Code) (pre : List α) (W : World), w.heap.size ≤ D → Sp pre → Ix c pre W → W.heap[D]? = some (.deferred (some [])) → c.wpIn F n P Q { a with defers := { target := .collected D, args := #[] } :: a.defers } W) :
    (Code.rangeFunc g ps assign body).wpIn F n P Q a w := by
  refine wpIn_rangeFunc fun fn hfn => ?_
  rw [hro]
  have hdd : ∀ k : Nat, F.depth.isSome = true → 1 ≤ k := fun k h => by rw [hd] at h; cases h
  obtain ⟨d, hd0⟩ : ∃ d, d = w.heap.size := ⟨_, rfl⟩
  obtain ⟨rec, hrec⟩ : ∃ rec : LoopState → Option Code → Loop, rec = fun st pe => { state := st, pending := pe, fn, tmps := a.tmps, params := ps, assign, body, defers := w.heap.size } := ⟨_, rfl⟩
  obtain ⟨W1, hW1⟩ : ∃ W1, (w.alloc (.deferred (some []))).alloc (.loop (rec .ready none)) = W1 := ⟨_, rfl⟩
  have hl1 : W1.heap[d + 1]? = some (.loop (rec .ready none)) := by
    rw [← hW1, hd0, show w.heap.size + 1 = (w.alloc (.deferred (some []))).heap.size by simp]; exact World.alloc_heap_new _ _
  have hk1 : W1.heap[d]? = some (.deferred (some [])) := by rw [← hW1, hd0]; exact (Below.heap_alloc _ _ _ (by simp)).trans (World.alloc_heap_new w _)
  have hBw : Below w.heap.size w W1 := by rw [← hW1]; exact ((Below.refl _ w).alloc (Nat.le_refl _) _).alloc (by simp) _
  have hIw := hI [] w W1 h0 ((Keeps.of_below hBw).mono fun g e => hbd [] w h0 g e)
  have hbw : ∀ g, C W1 g → g < w.heap.size := fun g e => hbd [] w h0 g (hIw.2 g e)
  have hNd : ∀ g, N g → g < d := fun g e => by rw [hd0]; exact hN g e
  let CJ : World → Nat → Prop := fun W g => C W g ∨ g = d + 1 ∨ g = d
  let J : List α → World → Prop := fun pre W => I pre W ∧ (W.heap[d + 1]? = some (.loop (rec .ready none)) ∧ W.heap[d]? = some (.deferred (some []))) ∧ ¬ C W (d + 1) ∧ ¬ C W d
  let Jx : List α → World → Prop := fun pre W => ∃ c, Ix c pre W ∧ (W.heap[d + 1]? = some (.loop (rec .done (some c))) ∧ W.heap[d]? = some (.deferred (some []))) ∧ ¬ C W (d + 1)
  have hJF : FrameC CJ J := by
    rintro s A B ⟨h1, ⟨h2, h3⟩, h4, h5⟩ hk
    have hi := hI s A B h1 (hk.mono fun g e => .inl e)
    exact ⟨⟨hi.1, ⟨(hk.block _ (.inr (.inl rfl))).trans h2, (hk.block _ (.inr (.inr rfl))).trans h3⟩, fun e => h4 (hi.2 _ e), fun e => h5 (hi.2 _ e)⟩, fun g e => e.elim (fun e => .inl (hi.2 g e)) .inr⟩
  have hJB : BoundC CJ J := by
    rintro s A ⟨h1, ⟨h2, h3⟩, _, _⟩ g (e | rfl | rfl)
    · exact hbd s A h1 g e
    · exact (Array.getElem?_eq_some_iff.1 h2).1
    · exact (Array.getElem?_eq_some_iff.1 h3).1
  refine ⟨d + 1, [{ target := .collected d, args := #[] }], W1, { target := .fn (.func gf) lb, args := #[.func (.yield (d + 1)) #[] #[]] }, W1, gf, #[.func (.yield (d + 1)) #[] #[]] ++ lb, W1, ?_, ?_, ?_, ?_, fun h => hdd _ h, ?_⟩
  · rw [← hW1, hrec, hd0]; exact run_enterLoop_outer _ _ _ _ _
  · simp only [resolve, hg]
    simp [go_sem]
  · intro f' hf'; simp [Target.leads] at hf'; subst hf'; exact hFg
  · simp [invoke, go_sem, eg]
  · refine (hseq _ (d + 1) CJ J Jx W1 (hb0.trans (hBw.mono hb0.size)) hJF hJB ?_ ⟨hIw.1, ⟨hl1, hk1⟩, fun e => ?_, fun e => ?_⟩).mono ?_
    · -- one round
      rintro m pre x W ⟨hi, ⟨hl, hk⟩, hnl, hnd⟩ hsp hfx
      have hy := run_yield (P := P) (args := encs x) hl (by rw [hrec]; exact hps x)
      rw [hrec] at hy
      refine ⟨fn, _, assign, body, hy, roundIn_of_wpIn hfn (hassign _ m pre x W _ hi hsp hfx ?_)⟩
      clear hy
      intro a' Wa hst hax
      have hlW : d + 1 < W.heap.size := (Array.getElem?_eq_some_iff.1 hl).1
      have hla : Wa.heap[d + 1]? = some (.loop (rec .ready none)) := (hst.keeps.block _ (.inr ⟨hlW, hnl⟩)).trans hl
      have hka : Wa.heap[d]? = some (.deferred (some [])) := (hst.keeps.block _ (.inr ⟨by omega, hnd⟩)).trans hk
      have hnla : ¬ C Wa (d + 1) := fun e => (hst.grows _ e).elim hnl (fun e => by omega)
      have hnda : ¬ C Wa d := fun e => (hst.grows _ e).elim hnd (fun e => by omega)
      have hla1 : d + 1 < Wa.heap.size := (Array.getElem?_eq_some_iff.1 hla).1
      refine ⟨_, run_beginRound hla (by rw [hrec]), ?_⟩
      obtain ⟨hgr, hax2⟩ := hAx pre x a' Wa (d + 1) _ (.loop { rec .ready none with state := .busy }) hax (by omega) hla hnla
      obtain ⟨Wb, hWb⟩ : ∃ Wb, Wa.putObj (d + 1) (.loop { rec .ready none with state := .busy }) = Wb := ⟨_, rfl⟩
      have hlb : Wb.heap[d + 1]? = some (.loop { rec .ready none with state := .busy }) := by rw [← hWb]; exact World.putObj_heap_same hla1
      have hkb : Wb.heap[d]? = some (.deferred (some [])) := by rw [← hWb]; exact (World.putObj_heap_other (by omega)).trans hka
      have hKab : Keeps (· ≠ d + 1) Wa Wb := by rw [← hWb]; exact Keeps.put _ _ _
      rw [hWb] at hgr hax2 ⊢
      have hnlb : ¬ C Wb (d + 1) := fun e => hnla (hgr _ e)
      have hndb : ¬ C Wb d := fun e => hnda (hgr _ e)
      refine wpIn_mono (hbody _ m pre x a' Wb hsp hax2) ?_
      have hszb : Wa.heap.size ≤ Wb.heap.size := hKab.size
      have fin : ∀ (jump : Option Code) (W3 : World), Stp N C Wb W3 →
          (Instr.endRound (d + 1) jump).run P W3 = .ok (.bool jump.isNone) (W3.putObj (d + 1) (.loop (rec (if jump.isNone then .ready else .done) jump))) ∧
          (W3.putObj (d + 1) (.loop (rec (if jump.isNone then .ready else .done) jump))).heap[d + 1]? = some (.loop (rec (if jump.isNone then .ready else .done) jump)) ∧
          (W3.putObj (d + 1) (.loop (rec (if jump.isNone then .ready else .done) jump))).heap[d]? = some (.deferred (some [])) ∧ ¬ C W3 (d + 1) ∧ ¬ C W3 d := fun jump W3 h3 => by
        have hl3 : W3.heap[d + 1]? = some (.loop { rec .ready none with state := .busy }) := (h3.keeps.block _ (.inr ⟨by omega, hnlb⟩)).trans hlb
        have hk3 : W3.heap[d]? = some (.deferred (some [])) := (h3.keeps.block _ (.inr ⟨by omega, hndb⟩)).trans hkb
        have := run_endRound (P := P) jump hl3
        rw [hrec] at this ⊢
        exact ⟨this, World.putObj_heap_same (Array.getElem?_eq_some_iff.1 hl3).1, (World.putObj_heap_other (by omega)).trans hk3, fun e => (h3.grows _ e).elim hnlb (fun e => by omega), fun e => (h3.grows _ e).elim hndb (fun e => by omega)⟩
      rintro e a3 W3 hp
      cases e with
      | normal =>
        obtain ⟨hi3, h3⟩ := hp
        obtain ⟨hr, hl4, hk4, hn4, hm4⟩ := fin none W3 h3
        obtain ⟨hi4, hg4⟩ := hI _ W3 _ hi3 ((Keeps.put W3 (d + 1) (.loop (rec (if (none : Option Code).isNone then .ready else .done) none))).mono fun g e he => hn4 (he ▸ e))
        refine ⟨_, _, hr, .inl ⟨rfl, ⟨hi4, ⟨hl4, hk4⟩, fun e => hn4 (hg4 _ e), fun e => hm4 (hg4 _ e)⟩, ⟨?_, ?_⟩⟩⟩
        · refine (hst.keeps.mono fun g hg => ?_).trans ((hKab.mono fun g hg => ?_).trans ((h3.keeps.mono fun g hg => ?_).trans ((Keeps.put W3 (d + 1) _).mono fun g hg => ?_)))
          · exact hg.elim .inl fun hg => .inr ⟨hg.1, fun e => hg.2 (.inl e)⟩
          · exact hg.elim (fun e => by have := hNd _ e; omega) fun hg e => hg.2 (.inr (.inl e))
          · exact hg.elim .inl fun hg => .inr ⟨by have := hst.keeps.size; omega, fun e => (hst.grows g (hgr g e)).elim (fun e => hg.2 (.inl e)) (fun e => by omega)⟩
          · exact hg.elim (fun e => by have := hNd _ e; omega) fun hg e => hg.2 (.inr (.inl e))
        · rintro g (e | e)
          · rcases h3.grows g (hg4 g e) with e | e
            · rcases hst.grows g (hgr g e) with e | e
              · exact .inl (.inl e)
              · exact .inr e
            · exact .inr (Nat.le_trans hst.keeps.size (Nat.le_trans hszb e))
          · exact .inl (.inr e)
      | ret =>
        obtain ⟨hi3, h3⟩ := hp
        obtain ⟨hr, hl4, hk4, hn4, hm4⟩ := fin (some .ret) W3 h3
        have hK4 := (Keeps.put W3 (d + 1) (.loop (rec (if (some Code.ret).isNone then .ready else .done) (some .ret)))).mono (T := C W3) fun g e he => hn4 (he ▸ e)
        exact ⟨_, _, hr, .inr ⟨rfl, .ret, (hIx _ _ W3 _ hi3 hK4).1, ⟨hl4, hk4⟩, fun e => hn4 ((hIx _ _ W3 _ hi3 hK4).2 _ e)⟩⟩
      | exit id =>
        obtain ⟨hi3, h3⟩ := hp
        obtain ⟨hr, hl4, hk4, hn4, hm4⟩ := fin (some (.exit id)) W3 h3
        have hK4 := (Keeps.put W3 (d + 1) (.loop (rec (if (some (Code.exit id)).isNone then .ready else .done) (some (.exit id))))).mono (T := C W3) fun g e he => hn4 (he ▸ e)
        exact ⟨_, _, hr, .inr ⟨rfl, .exit id, (hIx _ _ W3 _ hi3 hK4).1, ⟨hl4, hk4⟩, fun e => hn4 ((hIx _ _ W3 _ hi3 hK4).2 _ e)⟩⟩
      | goto t =>
        obtain ⟨hi3, h3⟩ := hp
        obtain ⟨hr, hl4, hk4, hn4, hm4⟩ := fin (some (.goto t)) W3 h3
        have hK4 := (Keeps.put W3 (d + 1) (.loop (rec (if (some (Code.goto t)).isNone then .ready else .done) (some (.goto t))))).mono (T := C W3) fun g e he => hn4 (he ▸ e)
        exact ⟨_, _, hr, .inr ⟨rfl, .goto t, (hIx _ _ W3 _ hi3 hK4).1, ⟨hl4, hk4⟩, fun e => hn4 ((hIx _ _ W3 _ hi3 hK4).2 _ e)⟩⟩
      | panic ch => exact hp.elim
      | outgrown => exact hp.elim
    · have := hbw _ e; omega
    · have := hbw _ e; omega
    · -- behind the iterator
      rintro e W2 ⟨⟨v, rfl⟩, (⟨xs, hS, hi, ⟨hl, hk⟩, hnl, _⟩ | ⟨pre, hSp, c, hi, ⟨hl, hk⟩, hnl⟩)⟩
      · refine ⟨none, _, by have := run_endLoop (P := P) hl (by rw [hrec]; simp); rw [hrec] at this; exact this, hdone d xs _ (by omega) hS ?_ ((World.putObj_heap_other (by omega)).trans hk)⟩
        exact (hI xs W2 _ hi ((Keeps.put W2 (d + 1) _).mono fun g e he => hnl (he ▸ e))).1
      · refine ⟨some c, _, by have := run_endLoop (P := P) hl (by rw [hrec]; simp); rw [hrec] at this; exact this, hstop d c pre _ (by omega) hSp ?_ ((World.putObj_heap_other (by omega)).trans hk)⟩
        exact (hIx c pre W2 _ hi ((Keeps.put W2 (d + 1) _).mono fun g e he => hnl (he ▸ e))).1
end Go.Proofs.YtmmiclpedehcpaaDoor
namespace Go.Proofs.YtmmiclpedehcpaaDoor
open Go.RowKit
set_option maxRecDepth 100000
theorem heap3 (w : World) (o1 o2 o3 : Obj) : (((w.alloc o1).alloc o2).alloc o3).heap[w.heap.size]? = some o1 ∧ (((w.alloc o1).alloc o2).alloc o3).heap[w.heap.size + 1]? = some o2 ∧ (((w.alloc o1).alloc o2).alloc o3).heap[w.heap.size + 1 + 1]? = some o3 := by
  have e1 : (w.alloc o1).heap.size = w.heap.size + 1 := by simp
  have e2 : ((w.alloc o1).alloc o2).heap.size = w.heap.size + 1 + 1 := by simp
  refine ⟨?_, ?_, ?_⟩
  · rw [Below.heap_alloc _ _ _ (by omega), Below.heap_alloc _ _ _ (by omega)]
    exact heap_alloc_new w o1
  · rw [Below.heap_alloc _ _ _ (by omega), ← e1]
    exact heap_alloc_new _ o2
  · rw [← e2]
    exact heap_alloc_new _ o3
theorem cells_two {W : World} {b : Nat} {x y : Value} {t : TypeId} (h : W.heap[b]? = some (.cells #[x, y] t)) : W.cell? ⟨b, 0, none⟩ = some x ∧ W.cell? ⟨b, 1, none⟩ = some y ∧ W.frozen? ⟨b, 0, none⟩ = false ∧ W.frozen? ⟨b, 1, none⟩ = false := by
  refine ⟨?_, ?_, ?_, ?_⟩ <;> simp [World.cell?, World.frozen?, h]
end Go.Proofs.YtmmiclpedehcpaaDoor
namespace Go.Proofs.YtmmiclpedehcpaaDoor
open Go.RowKit
set_option maxRecDepth 100000
def subT : Tm → List Int → Option Tm
  | t, [] => some t
  | t, i :: p => if 0 ≤ i ∧ i < t.args.length then (t.args[i.toNat]?).bind (subT · p) else none
section
variable {w w' : World} {B B' : Nat} {A : Option Addr} {l : List Int}
end
theorem set2_two {W : World} {b : Nat} {x y u v : Value} {t : TypeId} (h : W.heap[b]? = some (.cells #[x, y] t)) : (W.setCell ⟨b, 0, none⟩ u).heap[b]? = some (.cells #[u, y] t) ∧ ((W.setCell ⟨b, 0, none⟩ u).setCell ⟨b, 1, none⟩ v).heap[b]? = some (.cells #[u, v] t) :=
  have h1 : (W.setCell ⟨b, 0, none⟩ u).heap[b]? = some (.cells #[u, y] t) := heap_setCell_same W _ 0 _ _ _ h
  ⟨h1, heap_setCell_same _ _ 1 _ _ _ h1⟩
end Go.Proofs.YtmmiclpedehcpaaDoor
namespace Go.Proofs.YtmmiclpedehcpaaDoor
open Go.RowKit
set_option maxRecDepth 100000
inductive ArgsN (w : World) (N : Nat → Prop) : Option Addr → List Tm → Prop
  | nil (A : Option Addr) : ArgsN w N A []
  | row (b off : Nat) (xs : List Tm) (A' : Nat → Option Addr) (c' : Nat → Nat) (hb : N b) (hlen : xs.length ≤ 9223372036854775807) (hi : ∀ (i : Nat) (t : Tm), xs[i]? = some t → I64 t.fn)
      (h0 : ∀ (i : Nat) (t : Tm), xs[i]? = some t → w.cell? ⟨b, off + i * 2, none⟩ = some (.int .i64 t.fn))
      (h1 : ∀ (i : Nat) (t : Tm), xs[i]? = some t → w.cell? ⟨b, off + i * 2 + 1, none⟩ = some (.slice (A' i) t.args.length (c' i)))
      (hs : ∀ (i : Nat) (t : Tm), xs[i]? = some t → ArgsN w N (A' i) t.args) : ArgsN w N (some ⟨b, off, none⟩) xs
theorem cell_of_heap {w w' : World} {b o : Nat} (h : w'.heap[b]? = w.heap[b]?) : w'.cell? ⟨b, o, none⟩ = w.cell? ⟨b, o, none⟩ := World.cell?_of_block h
section
variable {w w' : World} {N : Nat → Prop} {B : Nat} {A : Option Addr} {xs : List Tm}
theorem Args.toN (h : Args w B A xs) : ArgsN w (· < B) A xs := by
  induction h with
  | nil A => exact .nil A
  | row b off xs A' c' hb hlen hi h0 h1 _ ih => exact .row b off xs A' c' hb hlen hi h0 h1 ih
theorem ArgsN.args (h : ArgsN w N A xs) (hN : ∀ g, N g → g < B) : Args w B A xs := by
  induction h with
  | nil A => exact .nil A
  | row b off xs A' c' hb hlen hi h0 h1 _ ih => exact .row b off xs A' c' (hN b hb) hlen hi h0 h1 ih
theorem ArgsN.keep (h : ArgsN w N A xs) (hk : ∀ g, N g → w'.heap[g]? = w.heap[g]?) : ArgsN w' N A xs := by
  induction h with
  | nil A => exact .nil A
  | row b off xs A' c' hb hlen hi h0 h1 _ ih => exact .row b off xs A' c' hb hlen hi (fun i t e => (cell_of_heap (hk b hb)).trans (h0 i t e)) (fun i t e => (cell_of_heap (hk b hb)).trans (h1 i t e)) ih
theorem ArgsN.wide {M : Nat → Prop} (h : ArgsN w N A xs) (hk : ∀ g, N g → M g) : ArgsN w M A xs := by
  induction h with
  | nil A => exact .nil A
  | row b off xs A' c' hb hlen hi h0 h1 _ ih => exact .row b off xs A' c' (hk b hb) hlen hi h0 h1 ih
structure ArgAtN (w : World) (N : Nat → Prop) (b off i : Nat) (t : Tm) (A' : Option Addr) (c' : Nat) : Prop where
  hb : N b
  hi : I64 t.fn
  c0 : w.cell? ⟨b, off + i * 2, none⟩ = some (.int .i64 t.fn)
  c1 : w.cell? ⟨b, off + i * 2 + 1, none⟩ = some (.slice A' t.args.length c')
  sub : ArgsN w N A' t.args
theorem ArgsN.get (h : ArgsN w N A xs) {i : Nat} {t : Tm} (hi : xs[i]? = some t) : ∃ b off A' c', A = some ⟨b, off, none⟩ ∧ ArgAtN w N b off i t A' c' := by
  cases h with
  | nil => simp at hi
  | row b off _ A' c' hb hlen hi' h0 h1 hs => exact ⟨b, off, A' i, c' i, rfl, hb, hi' i t hi, h0 i t hi, h1 i t hi, hs i t hi⟩
end
theorem row_lt {W : World} {base n : Nat} {e : TypeId} {size : Nat} {v : Value} {vs : List Value} (h : W.ownsRow base e size v n vs) : ∀ g, v.ownBlock = some g → base ≤ g ∧ g < W.heap.size := by
  intro g hg
  rcases h.2 with ⟨rfl, _⟩ | ⟨g', cap, cur, rfl, hb, hgc, _⟩
  · cases hg
  · simp [Value.ownBlock] at hg
    subst hg
    exact ⟨hb, (Array.getElem?_eq_some_iff.1 hgc).1⟩
theorem row_keep {W W' : World} {base n : Nat} {e : TypeId} {size : Nat} {v : Value} {vs : List Value} (h : W.ownsRow base e size v n vs) (hk : ∀ g, v.ownBlock = some g → W'.heap[g]? = W.heap[g]?) : W'.ownsRow base e size v n vs := by
  refine ⟨h.1, ?_⟩
  rcases h.2 with h0 | ⟨g', cap, cur, rfl, hb, hgc, hrest⟩
  · exact .inl h0
  · exact .inr ⟨g', cap, cur, rfl, hb, (hk g' rfl).trans hgc, hrest⟩
section
variable {W W' : World} {C : World → Nat → Prop} {N : Nat → Prop} {l b : Nat} {pos : List Int}
end
end Go.Proofs.YtmmiclpedehcpaaDoor
namespace Go.Proofs.YtmmiclpedehcpaaDoor
open Go.RowKit
set_option maxRecDepth 100000
section
variable {σ : Type} (nx : σ → Int → σ × Int)
end
def KeepsC (C : Nat → Prop) (w w' : World) : Prop := Keeps (fun g => g < w.heap.size ∧ ¬ C g) w w'
section
variable {C : Nat → Prop} {a b c : World}
theorem KeepsC.k (h : KeepsC C a b) : Keeps (fun g => g < a.heap.size ∧ ¬ C g) a b := h
theorem KeepsC.refl (C : Nat → Prop) (a : World) : KeepsC C a a := Keeps.refl _ _
theorem KeepsC.size (h : KeepsC C a b) : a.heap.size ≤ b.heap.size := Keeps.size h
theorem KeepsC.trans (h : KeepsC C a b) (k : KeepsC C b c) : KeepsC C a c := Keeps.trans h (Keeps.mono k fun _ e => ⟨Nat.lt_of_lt_of_le e.1 h.size, e.2⟩)
theorem KeepsC.of_below (h : Below a.heap.size a b) : KeepsC C a b := (Keeps.of_below h).mono fun _ e => e.1
theorem KeepsC.set (h : KeepsC C a b) {p : Addr} (hp : a.heap.size ≤ p.block) (v : Value) : KeepsC C a (b.setCell p v) :=
  Keeps.trans h ((Keeps.set b p v).mono fun g e => by show g ≠ p.block; have := e.1; omega)
theorem KeepsC.block (h : KeepsC C a b) {g : Nat} (hg : g < a.heap.size) (hc : ¬ C g) : b.heap[g]? = a.heap[g]? := Keeps.block h g ⟨hg, hc⟩
theorem KeepsC.below (h : KeepsC C a b) {n : Nat} (hn : n ≤ a.heap.size) (hc : ∀ g, g < n → ¬ C g) : Below n a b := Keeps.below h fun g e => ⟨by omega, hc g e⟩
theorem KeepsC.none (h : KeepsC (fun _ => False) a b) : Below a.heap.size a b := h.below (Nat.le_refl _) fun _ _ e => e
theorem KeepsC.mono {D : Nat → Prop} (h : KeepsC C a b) (hd : ∀ g, C g → D g) : KeepsC D a b := Keeps.mono h fun _ e => ⟨e.1, fun k => e.2 (hd _ k)⟩
end
end Go.Proofs.YtmmiclpedehcpaaDoor
namespace Go.Proofs.YtmmiclpedehcpaaDoor
open Go.RowKit
set_option maxRecDepth 100000
end Go.Proofs.YtmmiclpedehcpaaDoor
namespace Go.Proofs.YtmmiclpedehcpaaDoor
open Go.RowKit Go.Shelf
attribute [local go_sem] Oper.semAt_some
set_option maxRecDepth 100000
theorem wpListIn_append_at {F : Fence} {n : Nat} {P : Program} (w : World) {ops : Array Oper} {rest : List Oper} {o : Oper} {a : Act} {Q : Exit → Act → World → Prop}
    (hg : o.guard = none) (s x : Operand) (t : TypeId) (hop : o.op = Op.call { callee := Callee.builtin Builtin.append, args := #[s, x], argTypes := #[t, t] })
    (base : Nat) (e : TypeId) (i : TypeInfo) (z : Value) (size bytes : Nat) (h1 : P.underlying t = some (.slice e)) (h2 : P.info? e = some i) (h3 : i.zero = some z) (h4 : i.size = size) (h5 : i.bytes = bytes) (h6 : z.cells.size = size) (h7 : 0 < size)
    (v : Value) (k : Nat) (xs : List Value) (hs : a.eval s = v) (hown : w.ownsRow base e size v k xs) (ad : Addr) (m c : Nat) (news : List Value) (hx : a.eval x = .slice (some ad) m c) (hn : news.length = m * size)
    (hc : ∀ j u, news[j]? = some u → w.cell? (ad.add j) = some u) (h1c : ∀ u ∈ news, u.oneCell' = true) (b1 : k + m ≤ maxLen) (b2 : (k + m) * bytes ≤ 140737488355328) (b3 : base ≤ w.heap.size)
    (hK : ∀ v' w', w'.ownsRow base e size v' (k + m) (xs ++ news) → w.grownBy w' v.ownBlock → (v'.ownBlock = v.ownBlock ∨ v'.ownBlock = some w.heap.size) → wpListIn F n P ops Q rest (a.put o.dst v') w') :
    wpListIn F n P ops Q (o :: rest) a w := by
  obtain ⟨v', w', hrun, r1, r2, _, r4⟩ := run_append_own_at (P := P) w base t o.type e i z size bytes h1 h2 h3 h4 h5 h6 h7 v k xs hown ad m c news hn hc h1c b1 b2 b3
  refine wpListIn_plain hg fun K hK' => ⟨?_, ?_⟩
  · simp [Oper.about, hop, resolve, Target.leads, Sem.run_pure]
  · rw [Oper.semAt_plain F _ _ (by rw [hop]; intro c hc'; cases hc')]
    simp [execOp, hop, resolve, invoke, builtin, hs, hx, hrun, Result.andThen]
    exact hK' _ _ (hK v' w' r1 r2 r4)
end Go.Proofs.YtmmiclpedehcpaaDoor
namespace Go.Proofs.YtmmiclpedehcpaaDoor
open Go.RowKit
set_option maxRecDepth 100000
theorem variable_any (f : Int) (v : Value) (w : World) (hf : I64 f) (hlt : f < 0) :
    Calls Tryd.prog 65 #[.agg #[.int .i64 f, v]] w fun e w' => e = .returned (.int .i64 (-1 - f)) ∧ Below w.heap.size w w' := by
  have h1 := hf.1
  have h2 := hf.2
  go_enter Tryd.func65, Tryd.ntmps65
  go_wp2
  go_ret
  exact ⟨rfl, (Below.refl _ _).alloc (Nat.le_refl _) _⟩
end Go.Proofs.YtmmiclpedehcpaaDoor
namespace Go.Proofs.YtmmiclpedehcpaaDoor
open Go.RowKit
set_option maxRecDepth 100000
mutual
def fitT (l : List Sm) : Tm → Int → Int → Bool × Int
  | .node f xs, d, r =>
    if r - 1 < 0 ∨ 30 < d then (false, r - 1)
    else if f < 0 then (decide (-1 - f < 48 ∧ xs.length = 0), r - 1)
    else match l[f.toNat]? with
      | none => (false, r - 1)
      | some s => if s.arity ≠ xs.length ∨ (s.pred = true ∧ 1 < d) then (false, r - 1) else fitL l xs (d + 1) (r - 1)
def fitL (l : List Sm) : List Tm → Int → Int → Bool × Int
  | [], _, r => (true, r)
  | t :: ts, d, r => if (fitT l t d r).1 = true then fitL l ts d (fitT l t d r).2 else (false, (fitT l t d r).2)
end
section
variable {l : List Sm} {f d r : Int} {xs : List Tm} {s : Sm} {t : Tm}
theorem fit_room (h : r - 1 < 0 ∨ 30 < d) : fitT l (.node f xs) d r = (false, r - 1) := by simp only [fitT, if_pos h]
theorem fit_var (h : ¬ (r - 1 < 0 ∨ 30 < d)) (hf : f < 0) : fitT l (.node f xs) d r = (decide (-1 - f < 48 ∧ xs.length = 0), r - 1) := by simp only [fitT, if_neg h, if_pos hf]
theorem fit_out (h : ¬ (r - 1 < 0 ∨ 30 < d)) (hf : ¬ f < 0) (ho : (l.length : Int) ≤ f) : fitT l (.node f xs) d r = (false, r - 1) := by
  simp only [fitT, if_neg h, if_neg hf, List.getElem?_eq_none (show l.length ≤ f.toNat by omega)]
theorem fit_bad (h : ¬ (r - 1 < 0 ∨ 30 < d)) (hf : ¬ f < 0) (hs : l[f.toNat]? = some s) (hb : s.arity ≠ xs.length ∨ (s.pred = true ∧ 1 < d)) : fitT l (.node f xs) d r = (false, r - 1) := by
  simp only [fitT, if_neg h, if_neg hf, hs, if_pos hb]
theorem fit_in (h : ¬ (r - 1 < 0 ∨ 30 < d)) (hf : ¬ f < 0) (hs : l[f.toNat]? = some s) (hb : ¬ (s.arity ≠ xs.length ∨ (s.pred = true ∧ 1 < d))) : fitT l (.node f xs) d r = fitL l xs (d + 1) (r - 1) := by
  simp only [fitT, if_neg h, if_neg hf, hs, if_neg hb]
theorem fitL_yes (h : (fitT l t d r).1 = true) : fitL l (t :: xs) d r = fitL l xs d (fitT l t d r).2 := by simp only [fitL, if_pos h]
theorem fitL_no (h : (fitT l t d r).1 = false) : fitL l (t :: xs) d r = (false, (fitT l t d r).2) := by simp [fitL, h]
end
theorem fit_le (l : List Sm) (t : Tm) : ∀ d r, 0 ≤ r → (fitT l t d r).2 ≤ r - 1 ∧ -1 ≤ (fitT l t d r).2 ∧ ((fitT l t d r).1 = true → 0 ≤ (fitT l t d r).2) := by
  refine Tm.ind (P := fun t => ∀ d r, 0 ≤ r → (fitT l t d r).2 ≤ r - 1 ∧ -1 ≤ (fitT l t d r).2 ∧ ((fitT l t d r).1 = true → 0 ≤ (fitT l t d r).2)) (fun f xs ih d r hr => ?_) t
  have key : ∀ ys : List Tm, (∀ t ∈ ys, ∀ d r, 0 ≤ r → (fitT l t d r).2 ≤ r - 1 ∧ -1 ≤ (fitT l t d r).2 ∧ ((fitT l t d r).1 = true → 0 ≤ (fitT l t d r).2)) → ∀ d r, 0 ≤ r → (fitL l ys d r).2 ≤ r ∧ -1 ≤ (fitL l ys d r).2 ∧ ((fitL l ys d r).1 = true → 0 ≤ (fitL l ys d r).2) := by
    intro ys
    induction ys with
    | nil => intro _ d r hr; simp only [fitL]; exact ⟨Int.le_refl _, by omega, fun _ => hr⟩
    | cons y ys ihy =>
      intro h d r hr
      have h1 := h y (by simp) d r hr
      cases hb : (fitT l y d r).1 with
      | true =>
        rw [fitL_yes hb]
        have h2 := ihy (fun t ht => h t (by simp [ht])) d _ (h1.2.2 hb)
        exact ⟨by omega, h2.2.1, h2.2.2⟩
      | false => rw [fitL_no hb]; exact ⟨by show _ ≤ r; omega, h1.2.1, fun h => by cases h⟩
  by_cases h1 : r - 1 < 0 ∨ 30 < d
  · rw [fit_room h1]; exact ⟨Int.le_refl _, by show -1 ≤ r - 1; omega, fun h => by cases h⟩
  · by_cases hf : f < 0
    · rw [fit_var h1 hf]; exact ⟨Int.le_refl _, by show -1 ≤ r - 1; omega, fun _ => by show 0 ≤ r - 1; omega⟩
    · cases hs : l[f.toNat]? with
      | none => rw [fit_out h1 hf (by have := List.getElem?_eq_none_iff.1 hs; omega)]; exact ⟨Int.le_refl _, by show -1 ≤ r - 1; omega, fun h => by cases h⟩
      | some s =>
        by_cases hb : s.arity ≠ xs.length ∨ (s.pred = true ∧ 1 < d)
        · rw [fit_bad h1 hf hs hb]; exact ⟨Int.le_refl _, by show -1 ≤ r - 1; omega, fun h => by cases h⟩
        · rw [fit_in h1 hf hs hb]; exact key xs ih (d + 1) (r - 1) (by omega)
def FitPost (l : List Sm) (t : Tm) (d r : Int) (rb : Nat) (w : World) (e : Ending) (w' : World) : Prop :=
  e = .returned (.bool (fitT l t d r).1) ∧ Keeps (fun g => g < w.heap.size ∧ g ≠ rb) w w' ∧ w'.heap[rb]? = some (.cells #[.int .i64 (fitT l t d r).2] 3)
def FitAt (l : List Sm) (t : Tm) : Prop := ∀ (As A : Option Addr) (cs c : Nat) (d r : Int) (rb : Nat) (w : World), I64 t.fn → Syms w rb As l.length l → l.length ≤ 9223372036854775807 → Args w rb A t.args → w.heap[rb]? = some (.cells #[.int .i64 r] 3) → 0 ≤ r → r ≤ 300 → 1 ≤ d → d ≤ 31 →
  Calls Tryd.prog 50 #[.agg #[.slice As l.length cs], .agg #[.int .i64 t.fn, .slice A t.args.length c], .int .i64 d, .pointer (some ⟨rb, 0, none⟩)] w (FitPost l t d r rb w)
theorem heap2 (w : World) (o1 o2 : Obj) : ((w.alloc o1).alloc o2).heap[w.heap.size]? = some o1 ∧ ((w.alloc o1).alloc o2).heap[w.heap.size + 1]? = some o2 := by
  have e1 : (w.alloc o1).heap.size = w.heap.size + 1 := by simp
  refine ⟨?_, ?_⟩
  · rw [Below.heap_alloc _ _ _ (by omega)]
    exact heap_alloc_new w o1
  · rw [← e1]
    exact heap_alloc_new _ o2
theorem cells_one {W : World} {b : Nat} {x : Value} {t : TypeId} (h : W.heap[b]? = some (.cells #[x] t)) : W.cell? ⟨b, 0, none⟩ = some x ∧ W.frozen? ⟨b, 0, none⟩ = false := by
  refine ⟨?_, ?_⟩ <;> simp [World.cell?, World.frozen?, h]
set_option maxHeartbeats 2000000 in
theorem termFits_any (l : List Sm) (t : Tm) : FitAt l t := by
  refine Tm.ind (P := FitAt l) (fun f xs ih => ?_) t
  intro As A cs c d r rb w hf hS hl hA hr hr0 hr3 hd1 hd3
  simp only [Tm.fn, Tm.args] at hf hA ⊢
  have hrb : rb < w.heap.size := (Array.getElem?_eq_some_iff.1 hr).1
  obtain ⟨p0, p1⟩ := heap2 w (.cells #[.slice As l.length cs] 24) (.cells #[.int .i64 f, .slice A xs.length c] 37)
  obtain ⟨W, hW⟩ : ∃ W, ((w.alloc (.cells #[.slice As l.length cs] 24)).alloc (.cells #[.int .i64 f, .slice A xs.length c] 37)) = W := ⟨_, rfl⟩
  have hB : Below w.heap.size w W := by rw [← hW]; exact ((Below.refl _ _).alloc (Nat.le_refl _) _).alloc (by simp) _
  rw [hW] at p0 p1
  have hrW : W.heap[rb]? = some (.cells #[.int .i64 r] 3) := (hB.block rb hrb).trans hr
  obtain ⟨V, hV⟩ : ∃ V, W.setCell ⟨rb, 0, none⟩ (.int .i64 (r - 1)) = V := ⟨_, rfl⟩
  have hKV : Keeps (· ≠ rb) W V := by rw [← hV]; exact (Keeps.set W ⟨rb, 0, none⟩ _).mono fun g e => e
  have q0 := (hKV.block _ (show w.heap.size ≠ rb by omega)).trans p0
  have q1 := (hKV.block _ (show w.heap.size + 1 ≠ rb by omega)).trans p1
  have qr : V.heap[rb]? = some (.cells #[.int .i64 (r - 1)] 3) := by rw [← hV]; exact heap_setCell_same W rb 0 _ _ _ hrW
  obtain ⟨a0, _⟩ := cells_one q0
  obtain ⟨b0, b1, _, _⟩ := cells_two q1
  obtain ⟨r0, r1⟩ := cells_one qr
  obtain ⟨s0, s1⟩ := cells_one hrW
  have hKw : Keeps (fun g => g < w.heap.size ∧ g ≠ rb) w V := ((Keeps.of_below hB).mono fun g e => e.1).trans (hKV.mono fun g e => e.2)
  have hSV := hS.keep (w' := V) fun p hp => World.cell?_of_block (hKw.block _ ⟨by omega, by omega⟩)
  have HW := Lib.hid hW
  have HV := Lib.hid hV
  clear hW hV
  go_enter Tryd.func50, Tryd.ntmps50
  go_upto_region 1 with fail
  rw [HW.out]
  go_upto_region 2 with fail
  rw [HV.out]
  have fin : ∀ {v : Bool} {x : Int} {w' : World}, Hid (fitT l (.node f xs) d r = (v, x)) → Keeps (fun g => g < w.heap.size ∧ g ≠ rb) w w' → w'.heap[rb]? = some (.cells #[.int .i64 x] 3) → FitPost l (.node f xs) d r rb w (.returned (.bool v)) w' := fun h hk hc => ⟨by rw [h.out], hk, by rw [h.out]; exact hc⟩
  have hwV : w.heap.size + 1 < V.heap.size := (Array.getElem?_eq_some_iff.1 q1).1
  have keep2 : ∀ {w2 : World}, Below V.heap.size V w2 → Keeps (fun g => g < w.heap.size ∧ g ≠ rb) w w2 ∧ w2.heap[rb]? = some (.cells #[.int .i64 (r - 1)] 3) := fun h => ⟨hKw.trans ((Keeps.of_below h).mono fun g e => by have := e.1; show g < V.heap.size; omega), (h.block rb (by omega)).trans qr⟩
  by_cases h1 : r - 1 < 0 ∨ 30 < d
  · have hf := Lib.hid (fit_room (l := l) (f := f) (xs := xs) h1)
    by_cases h2 : r - 1 < 0
    · go_wp2
      go_ret
      exact fin hf hKw qr
    · have h3 : 30 < d := by omega
      go_wp2
      go_ret
      exact fin hf hKw qr
  · obtain ⟨h2, h3⟩ := not_or.1 h1
    by_cases hf0 : f < 0
    · have hfv := fit_var (l := l) (xs := xs) h1 hf0
      by_cases hv1 : -1 - f < 48
      · have hfv' := Lib.hid hfv
        go_wp2_with (first
          | (go_at_call 65
             refine (variable_any f _ V hf hf0).mono ?_
             rintro e w2 ⟨rfl, hb2⟩
             have hx2 := cell_on hb2 (b := w.heap.size + 1) (o := 1) (by have := (Array.getElem?_eq_some_iff.1 q1).1; omega) b1)
          | fail)
        go_ret
        have k2 := keep2 hb2
        exact ⟨ret_bool (by rw [hfv'.out]; simp only [hv1, true_and]; cases xs <;> simp; omega), k2.1, by rw [hfv'.out]; exact k2.2⟩
      · have hfv' := Lib.hid hfv
        go_wp2_with (first
          | (go_at_call 65
             refine (variable_any f _ V hf hf0).mono ?_
             rintro e w2 ⟨rfl, hb2⟩)
          | fail)
        go_ret
        have k2 := keep2 hb2
        exact ⟨ret_bool (by rw [hfv'.out]; exact (decide_eq_false fun h => by have := h.1; omega).symm), k2.1, by rw [hfv'.out]; exact k2.2⟩
    · by_cases ho : (l.length : Int) ≤ f
      · have hfo := Lib.hid (fit_out (l := l) (xs := xs) h1 hf0 ho)
        go_wp2
        go_ret
        exact fin hfo hKw qr
      · obtain ⟨k0, rfl⟩ : ∃ k0 : Nat, f = (k0 : Int) := ⟨f.toNat, by omega⟩
        obtain ⟨s, hs⟩ : ∃ s, l[k0]? = some s := ⟨_, List.getElem?_eq_getElem (by omega)⟩
        obtain ⟨sb, so, rfl, hsb, hsc⟩ := hSV.ad (by omega)
        obtain ⟨y0, y1, y2⟩ := hsc _ _ hs
        have hs' : l[((k0 : Int)).toNat]? = some s := by simpa using hs
        have hlt' : (k0 : Int) < l.length := by omega
        have hge' : (k0 : Int) ≥ 0 := by omega
        by_cases hb : s.arity ≠ xs.length ∨ (s.pred = true ∧ 1 < d)
        · have hfb := Lib.hid (fit_bad (xs := xs) h1 hf0 hs' hb)
          by_cases hb1 : s.arity = xs.length
          · have hb2 : s.pred = true ∧ 1 < d := hb.resolve_left (fun h => h hb1)
            obtain ⟨hb3, hb4⟩ := hb2
            clear hs hs' hsc
            go_wp2
            go_ret
            exact fin hfb (keep2 ((Below.refl _ _).alloc (Nat.le_refl _) _)).1 (keep2 ((Below.refl _ _).alloc (Nat.le_refl _) _)).2
          · clear hs hs' hsc
            go_wp2
            go_ret
            exact fin hfb (keep2 ((Below.refl _ _).alloc (Nat.le_refl _) _)).1 (keep2 ((Below.refl _ _).alloc (Nat.le_refl _) _)).2
        · have hfi := Lib.hid (fit_in (xs := xs) h1 hf0 hs' hb)
          have hb1 : s.arity = xs.length := Classical.not_not.1 (fun h => hb (.inl h))
          have hb2 : s.pred = true → ¬ 1 < d := fun h h' => hb (.inr ⟨h, h'⟩)
          have hB5 : Below V.heap.size V (V.alloc (.cells #[.string s.name, .int .i64 s.arity, .bool s.pred] 67)) := (Below.refl _ _).alloc (Nat.le_refl _) _
          clear hs hs' hsc hb
          go_upto_region 9 with fail
          go_cut [62] (fun s62 wx => s62 = .bool false ∧ wx = V.alloc (.cells #[.string s.name, .int .i64 s.arity, .bool s.pred] 67))
          case first =>
            by_cases hp : s.pred = true
            · have hd := hb2 hp
              go_wp2
              go_meet
              case rel => exact ⟨rfl, by rw [hb1, hp]⟩
            · have hp' : s.pred = false := by simpa using hp
              go_wp2
              go_meet
              case rel => exact ⟨rfl, by rw [hb1, hp']⟩
          case rest =>
            obtain ⟨rfl, rfl⟩ := hcut
            obtain ⟨V5, hV5⟩ : ∃ V5, V.alloc (.cells #[.string s.name, .int .i64 s.arity, .bool s.pred] 67) = V5 := ⟨_, rfl⟩
            rw [hV5] at hB5 ⊢
            have k5 := keep2 hB5
            have x0 := (hB5.block _ (by omega)).trans q0
            have x1 := (hB5.block _ hwV).trans q1
            have hV5s : w.heap.size + 1 < V5.heap.size := (Array.getElem?_eq_some_iff.1 x1).1
            obtain ⟨z0, _⟩ := cells_one x0
            obtain ⟨_, z1, _, _⟩ := cells_two x1
            clear hV5 q0 q1 qr a0 b0 b1 r0 r1 s0 s1 y0 y1 y2 hB5 hB hrW p0 p1 HW HV
            go_wp2
            go_loopw [66] (fun i wr => ∃ (k : Nat) (r' : Int), k ≤ xs.length ∧ i = .int .i64 (k : Int) ∧ Keeps (fun g => g < V5.heap.size ∧ g ≠ rb) V5 wr ∧ wr.heap[rb]? = some (.cells #[.int .i64 r'] 3) ∧ 0 ≤ r' ∧ r' ≤ 300 ∧ Hid (fitL l xs (d + 1) (r - 1) = fitL l (xs.drop k) (d + 1) r')) (fun i _ => xs.length - (intOf i).toNat)
            case atStart => exact ⟨0, r - 1, Nat.zero_le _, rfl, Keeps.refl _ _, k5.2, by omega, by omega, rfl⟩
            case round =>
              obtain ⟨k, r', hk, rfl, hKr, hcr, hr0', hr3', H⟩ := hrel
              have hKwr : Keeps (fun g => g < w.heap.size ∧ g ≠ rb) w wr := k5.1.trans (hKr.mono fun g e => ⟨by have := e.1; omega, e.2⟩)
              by_cases hlt : k < xs.length
              · obtain ⟨u, hu⟩ : ∃ u, xs[k]? = some u := ⟨_, List.getElem?_eq_getElem hlt⟩
                obtain ⟨bb, off, A1, c1, rfl, ha⟩ := (hA.keep (w' := wr) fun p hp => World.cell?_of_block (hKwr.block _ ⟨by omega, by omega⟩)).get hu
                have e0 := ha.c0
                have e1 := ha.c1
                have hl2 := hA.len
                have hwr : rb < wr.heap.size := (Array.getElem?_eq_some_iff.1 hcr).1
                have hdrop : xs.drop k = u :: xs.drop (k + 1) := by
                  rw [List.drop_eq_getElem_cons hlt]
                  rw [List.getElem?_eq_getElem hlt] at hu
                  injection hu with hu
                  rw [hu]
                have hBa : Below wr.heap.size wr (wr.alloc (.cells #[.int .i64 u.fn, .slice A1 u.args.length c1] 37)) := (Below.refl _ _).alloc (Nat.le_refl _) _
                have g0 := cell_on hBa (b := w.heap.size) (o := 0) (by have := hKr.size; omega) ((World.cell?_of_block (a := ⟨w.heap.size, 0, none⟩) (hKr.block w.heap.size ⟨by omega, by omega⟩)).trans z0)
                have hsy := Lib.hid ((hS.keep (w' := wr) fun p hp => World.cell?_of_block (hKwr.block _ ⟨by omega, by omega⟩)).below (hBa.mono (show rb ≤ wr.heap.size by omega)))
                have hsu := Lib.hid (ha.sub.blw (hBa.mono (show rb ≤ wr.heap.size by omega)))
                have hcr' := Lib.hid ((hBa.block rb hwr).trans hcr)
                have hfle := fit_le l u (d + 1) r' hr0'
                have hu64 := ha.hi
                have hmem := List.mem_of_getElem? hu
                clear hu ha
                cases hb : (fitT l u (d + 1) r').1 with
                | true =>
                  have hfy := fitL_yes (xs := xs.drop (k + 1)) hb
                  have H2 : Hid (fitL l xs (d + 1) (r - 1) = fitL l (xs.drop (k + 1)) (d + 1) (fitT l u (d + 1) r').2) := by
                    rw [show fitL l xs (d + 1) (r - 1) = _ from H.out, hdrop, hfy]; rfl
                  have hb' := Lib.hid hb
                  clear hb hfy H hdrop
                  go_wp2_with (first
                    | (go_at_call 50
                       refine (ih u hmem (some ⟨sb, so, none⟩) A1 cs c1 (d + 1) r' rb _ hu64 hsy.out hl hsu.out hcr'.out hr0' hr3' (by omega) (by omega)).mono ?_
                       rintro e w8 ⟨rfl, hK8, hc8⟩
                       rw [hb'.out])
                    | fail)
                  exact ⟨⟨k + 1, _, by omega, by go_num, (hKr.trans ((Keeps.of_below hBa).mono fun g e => by have := e.1; have := hKr.size; show g < wr.heap.size; omega)).trans (hK8.mono fun g e => ⟨by have := e.1; have := hKr.size; simp; omega, e.2⟩), hc8, hfle.2.2 hb'.out, by omega, H2.out⟩, by simp [intOf]; omega⟩
                | false =>
                  have hfn := fitL_no (xs := xs.drop (k + 1)) hb
                  have H2 : Hid (fitT l (.node (k0 : Int) xs) d r = (false, (fitT l u (d + 1) r').2)) := by
                    rw [hfi.out, show fitL l xs (d + 1) (r - 1) = _ from H.out, hdrop, hfn]; rfl
                  have hb' := Lib.hid hb
                  clear hb hfn H hdrop
                  go_wp2_with (first
                    | (go_at_call 50
                       refine (ih u hmem (some ⟨sb, so, none⟩) A1 cs c1 (d + 1) r' rb _ hu64 hsy.out hl hsu.out hcr'.out hr0' hr3' (by omega) (by omega)).mono ?_
                       rintro e w8 ⟨rfl, hK8, hc8⟩
                       rw [hb'.out])
                    | fail)
                  go_ret
                  exact fin H2 (hKwr.trans (((Keeps.of_below hBa).mono (T := fun g => g < w.heap.size ∧ g ≠ rb) fun g e => by have := e.1; have := hKr.size; show g < wr.heap.size; omega).trans (hK8.mono fun g e => ⟨by have := e.1; have := hKr.size; simp; omega, e.2⟩))) hc8
              · obtain rfl : k = xs.length := by omega
                have H2 : fitT l (.node (k0 : Int) xs) d r = (true, r') := by
                  rw [hfi.out, show fitL l xs (d + 1) (r - 1) = _ from H.out]; simp [fitL]
                have H2 := Lib.hid H2
                go_wp2
                go_ret
                exact fin H2 hKwr hcr
end Go.Proofs.YtmmiclpedehcpaaDoor
namespace Go.Proofs.YtmmiclpedehcpaaDoor
open Go.RowKit Go.Shelf
set_option maxRecDepth 100000
section
variable {σ : Type} {nx : σ → Int → σ × Int} {kn : FuncId} {nc : Array Value} {C D N : Nat → Prop} {I : σ → World → Prop} {B0 : Nat}
end
end Go.Proofs.YtmmiclpedehcpaaDoor
namespace Go.Proofs.YtmmiclpedehcpaaDoor
open Go.RowKit Go.Shelf
set_option maxRecDepth 100000
end Go.Proofs.YtmmiclpedehcpaaDoor
namespace Go.Proofs.YtmmiclpedehcpaaDoor
open Go.RowKit Go.Shelf
set_option maxRecDepth 100000
end Go.Proofs.YtmmiclpedehcpaaDoor
namespace Go.Proofs.YtmmiclpedehcpaaDoor
open Go.RowKit Go.Shelf
set_option maxRecDepth 100000
structure Ti where
  t : Tm
  A : Option Addr
  c : Nat
def Ti.cells (x : Ti) : List Value := [.int .i64 x.t.fn, .slice x.A x.t.args.length x.c]
theorem ti_get (l : List Ti) (i r : Nat) (hr : r < 2) : (l.flatMap Ti.cells)[i * 2 + r]? = (l[i]?).bind fun x => x.cells[r]? := by
  induction l generalizing i with
  | nil => simp
  | cons x l ih =>
    have hlen : x.cells.length = 2 := rfl
    rw [List.flatMap_cons]
    cases i with
    | zero => rw [List.getElem?_append_left (by omega)]; simp
    | succ i =>
      rw [List.getElem?_append_right (by omega), hlen, show (i + 1) * 2 + r - 2 = i * 2 + r from by omega, ih]
      simp
theorem ti_one (l : List Ti) : ∀ u ∈ l.flatMap Ti.cells, u.oneCell' = true := by
  intro u hu
  obtain ⟨x, _, hx⟩ := List.mem_flatMap.1 hu
  simp only [Ti.cells, List.mem_cons, List.not_mem_nil, or_false] at hx
  rcases hx with rfl | rfl <;> rfl
structure RowT (w : World) (base : Nat) (v : Value) (l : List Ti) (N : Nat → Prop) : Prop where
  row : w.ownsRow base 37 2 v l.length (l.flatMap Ti.cells)
  i64 : ∀ x ∈ l, I64 x.t.fn
  sub : ∀ x ∈ l, ArgsN w N x.A x.t.args
section
variable {w w' : World} {base base' : Nat} {v : Value} {l : List Ti} {N M : Nat → Prop}
theorem RowT.nil_ (w : World) (base : Nat) (N : Nat → Prop) : RowT w base (.slice none 0 0) [] N :=
  ⟨World.ownsRow_nil w _ _ _, fun x hx => by simp at hx, fun x hx => by simp at hx⟩
theorem RowT.keep (h : RowT w base v l N) (hv : ∀ g, v.ownBlock = some g → w'.heap[g]? = w.heap[g]?) (hN : ∀ g, N g → w'.heap[g]? = w.heap[g]?) : RowT w' base v l N :=
  ⟨row_keep h.row hv, h.i64, fun x hx => (h.sub x hx).keep hN⟩
theorem RowT.wide (h : RowT w base v l N) (hk : ∀ g, N g → M g) : RowT w base v l M := ⟨h.row, h.i64, fun x hx => (h.sub x hx).wide hk⟩
theorem RowT.argsN (h : RowT w base v l N) (hl : l.length ≤ 9223372036854775807) (hv : ∀ g, v.ownBlock = some g → M g) (hN : ∀ g, N g → M g) : ∃ A c, v = .slice A l.length c ∧ ArgsN w M A (l.map Ti.t) := by
  rcases h.row.2 with ⟨rfl, h0⟩ | ⟨g, cap, cur, rfl, hb, hg, _⟩
  · obtain rfl : l = [] := List.eq_nil_of_length_eq_zero h0
    exact ⟨none, 0, rfl, .nil _⟩
  · refine ⟨_, _, rfl, .row g 0 _ (fun i => ((l[i]?).map Ti.A).getD none) (fun i => ((l[i]?).map Ti.c).getD 0) (hv g rfl) (by simpa using hl) (fun i t e => ?_) (fun i t e => ?_) (fun i t e => ?_) fun i t e => ?_⟩
    all_goals
      rw [List.getElem?_map] at e
      cases hx : l[i]? with
      | none => rw [hx] at e; cases e
      | some x =>
        rw [hx] at e
        injection e with e
        subst e
        have hlt := (List.getElem?_eq_some_iff.1 hx).1
        have hm := List.mem_of_getElem? hx
        have q0 := ti_get l i 0 (by omega)
        have q1 := ti_get l i 1 (by omega)
        have c0 := h.row.cellAt (i * 2) (by omega)
        have c1 := h.row.cellAt (i * 2 + 1) (by omega)
        rw [Nat.add_zero, hx] at q0
        rw [hx] at q1
        rw [q0] at c0
        rw [q1] at c1
        try simp only [Option.map_some, Option.getD_some]
        try rw [Nat.zero_add]
        first | exact h.i64 x hm | exact c0 | exact c1 | exact (h.sub x hm).wide hN
theorem RowT.push {x : Ti} {v' : Value} (h : RowT w base v l N) (hrow : w'.ownsRow base 37 2 v' (l.length + 1) (l.flatMap Ti.cells ++ x.cells)) (hi : I64 x.t.fn) (hx : ArgsN w' M x.A x.t.args) (hk : ∀ g, N g → w'.heap[g]? = w.heap[g]?) (hNM : ∀ g, N g → M g) : RowT w' base v' (l ++ [x]) M := by
  refine ⟨?_, ?_, ?_⟩
  · rw [List.length_append, List.flatMap_append]
    simpa using hrow
  · intro y hy
    rcases List.mem_append.1 hy with hy | hy
    · exact h.i64 y hy
    · simp only [List.mem_cons, List.not_mem_nil, or_false] at hy
      subst hy; exact hi
  · intro y hy
    rcases List.mem_append.1 hy with hy | hy
    · exact ((h.sub y hy).keep hk).wide hNM
    · simp only [List.mem_cons, List.not_mem_nil, or_false] at hy
      subst hy; exact hx
end
theorem step_append_at {P : Program} {w : World} {ops : Array Oper} {o : Oper} {a : Act} {K : Act → World → Prop} {Q : Exit → Act → World → Prop} {E : Prop}
    (hg : o.guard = none) (s x : Operand) (t : TypeId) (hop : o.op = Op.call { callee := Callee.builtin Builtin.append, args := #[s, x], argTypes := #[t, t] })
    (base : Nat) (e : TypeId) (i : TypeInfo) (z : Value) (size bytes : Nat) (h1 : P.underlying t = some (.slice e)) (h2 : P.info? e = some i) (h3 : i.zero = some z) (h4 : i.size = size) (h5 : i.bytes = bytes) (h6 : z.cells.size = size) (h7 : 0 < size)
    (v : Value) (k : Nat) (xs : List Value) (hs : a.eval s = v) (hown : w.ownsRow base e size v k xs) (ad : Addr) (m c : Nat) (news : List Value) (hx : a.eval x = .slice (some ad) m c) (hn : news.length = m * size)
    (hc : ∀ j u, news[j]? = some u → w.cell? (ad.add j) = some u) (h1c : ∀ u ∈ news, u.oneCell' = true) (b1 : k + m ≤ maxLen) (b2 : (k + m) * bytes ≤ 140737488355328) (b3 : base ≤ w.heap.size)
    (hK : ∀ v' w', w'.ownsRow base e size v' (k + m) (xs ++ news) → w.grownBy w' v.ownBlock → (v'.ownBlock = v.ownBlock ∨ v'.ownBlock = some w.heap.size) → K (a.put o.dst v') w') :
    if Region.wanted o (yielded ops a.tmps) = true then Oper.wp P o a w K Q else E := by
  obtain ⟨v', w', hrun, r1, r2, _, r4⟩ := run_append_own_at (P := P) w base t o.type e i z size bytes h1 h2 h3 h4 h5 h6 h7 v k xs hown ad m c news hn hc h1c b1 b2 b3
  rw [if_pos (by simp [Region.wanted, hg])]
  unfold Oper.wp
  simp [execOp, hop, resolve, invoke, builtin, hs, hx, hrun, Result.andThen]
  exact hK _ _ r1 r2 r4
theorem cells_new_two (w : World) (x y : Value) (t : TypeId) : ∀ j u, [x, y][j]? = some u → (w.alloc (.cells #[x, y] t)).cell? ((⟨w.heap.size, 0, none⟩ : Addr).add j) = some u := by
  intro j u hj
  match j, hj with
  | 0, hj => simp at hj; subst hj; simp [Addr.add]
  | 1, hj => simp at hj; subst hj; simp [Addr.add]
  | j + 2, hj => simp at hj
end Go.Proofs.YtmmiclpedehcpaaDoor
namespace Go.Proofs.YtmmiclpedehcpaaDoor
open Go.RowKit Go.Shelf
set_option maxRecDepth 100000
structure Bd where
  v : Int
  t : Tm
section
variable {w w' : World} {N M : Nat → Prop} {A : Option Addr} {l : List Bd}
end
def selfB (x : Bd) : Prop := x.t.fn = -1 - x.v ∧ x.t.args.length = 0
instance (x : Bd) : Decidable (selfB x) := inferInstanceAs (Decidable (_ ∧ _))
end Go.Proofs.YtmmiclpedehcpaaDoor
namespace Go.Proofs.YtmmiclpedehcpaaDoor
open Go.RowKit Go.Shelf
set_option maxRecDepth 100000
end Go.Proofs.YtmmiclpedehcpaaDoor
namespace Go.Proofs.YtmmiclpedehcpaaDoor
open Go.RowKit Go.Shelf
set_option maxRecDepth 100000
end Go.Proofs.YtmmiclpedehcpaaDoor
namespace Go.Proofs.YtmmiclpedehcpaaDoor
open Go.RowKit Go.Shelf
set_option maxRecDepth 100000
end Go.Proofs.YtmmiclpedehcpaaDoor
namespace Go.Proofs.YtmmiclpedehcpaaDoor
open Go.RowKit Go.Shelf
set_option maxRecDepth 100000
end Go.Proofs.YtmmiclpedehcpaaDoor
namespace Go.Proofs.YtmmiclpedehcpaaDoor
open Go.RowKit Go.Shelf
set_option maxRecDepth 100000
end Go.Proofs.YtmmiclpedehcpaaDoor
namespace Go.Proofs.YtmmiclpedehcpaaDoor
open Go.RowKit Go.Shelf
set_option maxRecDepth 100000
end Go.Proofs.YtmmiclpedehcpaaDoor
namespace Go.Proofs.YtmmiclpedehcpaaDoor
open Go Go.RowKit
structure Later (n : Nat) (W : World) where
  w : World
  h : Below n W w
instance (n : Nat) (W : World) : Nonempty (Later n W) := ⟨⟨W, Below.refl _ _⟩⟩
def Later.step {n : Nat} {W : World} (x : Later n W) {w' : World} (h : Below x.w.heap.size x.w w') (hn : n ≤ W.heap.size) : Later n W := ⟨w', x.h.trans (h.mono (Nat.le_trans hn x.h.size))⟩
theorem wp_region_later {P : Program} {id : Nat} {Q : Exit → Act → World → Prop} {a : Act} {w : World} {l : List Oper} (n : Nat) (W : World) (hm : P.follows .mixedOrders = true) (hB : Region.lexB .any l.toArray = true) (h0 : Below n W w.drew)
    (h : wpQuiet P l.toArray (fun w' => ∃ x : Later n W, w' = x.w) (fun a' => ∀ w', (∃ x : Later n W, w' = x.w) → Q .normal a' w') l a) : (Code.region id l.toArray true).wp P Q a w :=
  wp_region_quiet (C := fun w' => ∃ x : Later n W, w' = x.w) hm hB ⟨⟨_, h0⟩, rfl⟩ (by simpa using h)
theorem calls_later {P : Program} {f : FuncId} {args : Array Value} {n : Nat} {W : World} {v : Value} (x : Later n W) (hn : n ≤ W.heap.size) (h : Calls P f args x.w fun e w' => e = .returned v ∧ Below x.w.heap.size x.w w') :
    Calls P f args x.w fun e w' => e = .returned v ∧ ∃ y : Later n W, w' = y.w :=
  h.mono fun _ _ ⟨he, hb⟩ => ⟨he, x.step hb hn, rfl⟩
end Go.Proofs.YtmmiclpedehcpaaDoor
namespace Go.Proofs.YtmmiclpedehcpaaDoor
open Go.RowKit Go.Shelf
set_option maxRecDepth 100000
section
variable {l : List Bd} {k : Nat} {lo : Int} {x : Bd}
end
end Go.Proofs.YtmmiclpedehcpaaDoor
namespace Go.Proofs.YtmmiclpedehcpaaDoor
open Go.RowKit Go.Shelf
set_option maxRecDepth 100000
set_option maxRecDepth 100000
structure IntsR (w : World) (base : Nat) (v : Value) (l : List Int) : Prop where
  row : w.ownsRow base 3 1 v l.length (l.map (Value.int .i64))
  i64 : ∀ x ∈ l, I64 x
theorem IntsR.get {w : World} {base : Nat} {v : Value} {l : List Int} (h : IntsR w base v l) {i : Nat} {x : Int} (hx : l[i]? = some x) : ∃ g c, v = .slice (some ⟨g, 0, none⟩) l.length c ∧ g < w.heap.size ∧ w.cell? ⟨g, i, none⟩ = some (.int .i64 x) := by
  have hlt := (List.getElem?_eq_some_iff.1 hx).1
  rcases h.row.2 with ⟨_, h0⟩ | ⟨g, cap, cur, rfl, hb, hg, _⟩
  · omega
  · refine ⟨g, cap, rfl, (Array.getElem?_eq_some_iff.1 hg).1, ?_⟩
    rw [h.row.cellAt i (by simpa using hlt)]
    simp [hx]
theorem IntsR.on {w w' : World} {base : Nat} {v : Value} {l : List Int} (h : IntsR w base v l) (hb : Below w.heap.size w w') : IntsR w' base v l := ⟨row_keep h.row fun g e => hb.block g (row_lt h.row g e).2, h.i64⟩
theorem row_slice {W : World} {base n : Nat} {e : TypeId} {size : Nat} {v : Value} {vs : List Value} (h : W.ownsRow base e size v n vs) : ∃ A c, v = .slice A n c := by
  rcases h.2 with ⟨hv, h0⟩ | ⟨g, cap, cur, hv, _⟩
  · exact ⟨none, 0, by rw [hv, h0]⟩
  · exact ⟨_, cap, hv⟩
theorem info_int : (Tryd.prog.info? 3).map (fun i => (i.zero, i.size, i.bytes)) = some (some (.int .i64 0), 1, 8) := by kernel_rfl
end Go.Proofs.YtmmiclpedehcpaaDoor
namespace Go.Proofs.YtmmiclpedehcpaaDoor
open Go.RowKit Go.Shelf Go.Maps
set_option maxRecDepth 100000
theorem laidOutBk : laidOutB Tryd.prog = true := by kernel_rfl
theorem bkeyLaw : Keyed Tryd.prog 103 := Keyed.of_law (deep_law_gate laidOutBk (by decide +kernel) (by decide +kernel) (by kernel_rfl) (by kernel_rfl))
def kvB (x : Int × ByteArray) : Value := .agg #[.int .i64 x.1, .string x.2]
theorem keyOf_bk {x : Int × ByteArray} (h1 : I64 x.1) (h2 : x.2.size ≤ 9223372036854775807) : ∃ kl, keyOf Tryd.prog 103 (kvB x) = some kl := by
  have hT : Tryd.prog.keyType 103 = true := by kernel_rfl
  obtain ⟨m, hm⟩ : ∃ m, Tryd.prog.types.size + 1 = m + 1 + 1 := ⟨Tryd.prog.types.size - 1, by
    have : 0 < Tryd.prog.types.size := by decide +kernel
    omega⟩
  have hC : Tryd.prog.cellsOf 103 = 2 := by kernel_rfl
  have hC1 : Tryd.prog.cellsOf 9 = 1 := by kernel_rfl
  have hC2 : Tryd.prog.cellsOf 3 = 1 := by kernel_rfl
  have hw : (Lit.int .i64 x.1).wf = true := WalkArith.wf_i64 ⟨by have := h1.1; omega, by have := h1.2; omega⟩
  have h2' : x.2.size ≤ maxLen := by unfold maxLen; exact h2
  refine ⟨.string (keyBytes [.int .i64 x.1, .string x.2.data.toList]), ?_⟩
  simp only [keyOf, Tryd.underlying103, hT, hm, kvB, Value.formed, hC]
  simp [Program.keyLits, Tryd.underlying103, hC, hC1, hC2, Value.cells, Tryd.underlying9, Tryd.underlying3, h2', hw]
def rawE (v : Value) : Option (DataW Value × List MemPlace) := some (.held v, [])
theorem zeroEntP (w : World) : (zeroValue 80).run Tryd.prog w = .ok (.pointer none) w := by kernel_rfl
def BMap (w : World) (b n : Nat) (V : Int × ByteArray → Option Value) : Prop :=
  ∃ D : DataW Value, w.ownsMap Tryd.prog 103 rawE b n D ∧ Maps.size D = n ∧ ∀ x kl, keyOf Tryd.prog 103 (kvB x) = some kl → Maps.has D kl = (V x).isSome ∧ ∀ z, D.atKey kl (.held z) = .held ((V x).getD z)
theorem BMap.lt {w : World} {b n : Nat} {V : Int × ByteArray → Option Value} (h : BMap w b n V) : b < w.heap.size := h.elim fun _ h => h.1.lt
theorem BMap.kept {w w' : World} {b n : Nat} {V : Int × ByteArray → Option Value} (h : BMap w b n V) (hk : w'.heap[b]? = w.heap[b]?) : BMap w' b n V := by
  obtain ⟨D, ⟨es, clock, hb, F, hs, hD⟩, hat⟩ := h
  exact ⟨D, ⟨es, clock, hk.trans hb, F, hs, hD⟩, hat⟩
theorem BMap.ext {w : World} {b n : Nat} {V V' : Int × ByteArray → Option Value} (h : BMap w b n V) (he : ∀ x, V' x = V x) : BMap w b n V' := by
  obtain ⟨D, h1, h2, h3⟩ := h
  exact ⟨D, h1, h2, fun x kl hk => by rw [he x]; exact h3 x kl hk⟩
theorem BMap.made (w : World) : BMap (w.alloc (.map #[] 0)) w.heap.size 0 fun _ => none :=
  ⟨_, World.ownsMap_made w _ _ _, rfl, fun _ _ _ => ⟨rfl, fun _ => rfl⟩⟩
theorem BMap.look {w : World} {b n : Nat} {V : Int × ByteArray → Option Value} (h : BMap w b n V) {x : Int} {s : ByteArray} (h1 : I64 x) (h2 : s.size ≤ 9223372036854775807) :
    (Instr.lookup 69 (.map (some b)) (.agg #[.int .i64 x, .string s]) true).run Tryd.prog w = .ok (.tuple #[(V (x, s)).getD (.pointer none), .bool (V (x, s)).isSome]) w := by
  obtain ⟨D, hown, _, hat⟩ := h
  obtain ⟨kl, hk⟩ := keyOf_bk (x := (x, s)) h1 h2
  obtain ⟨v, ps, hrun, hv⟩ := hown.look_ok bkeyLaw Tryd.underlying69 (zeroEntP w) (zd := .held (.pointer none)) (zp := []) rfl hk
  obtain ⟨e1, e2⟩ := hat (x, s) kl hk
  rw [e1] at hrun
  rw [e2 (.pointer none)] at hv
  simp only [rawE, Option.some.injEq, Prod.mk.injEq, DataW.held.injEq] at hv
  rw [hv.1] at hrun
  exact hrun
theorem BMap.put {w : World} {b n : Nat} {V : Int × ByteArray → Option Value} (h : BMap w b n V) (hn : n < 9223372036854775807) {x : Int} {s : ByteArray} {v : Value} (h1 : I64 x) (h2 : s.size ≤ 9223372036854775807) (hV : V (x, s) = none) :
    ∃ w', (Instr.mapUpdate 69 (.map (some b)) (.agg #[.int .i64 x, .string s]) v).run Tryd.prog w = .ok () w' ∧ BMap w' b (n + 1) (fun y => if y = (x, s) then some v else V y) ∧ w.grownBy w' (some b) := by
  obtain ⟨D, hown, hsz, hat⟩ := h
  obtain ⟨kl, hk⟩ := keyOf_bk (x := (x, s)) h1 h2
  obtain ⟨w', hrun, hown', hgr⟩ := hown.update (d := .held v) (ps := []) (val := v) bkeyLaw Tryd.underlying69 (by unfold maxLen; omega) hk rfl
  refine ⟨w', hrun, ⟨_, hown', ?_, fun y ky hy => ?_⟩, hgr⟩
  · rw [size_put (hown.tidy bkeyLaw), (hat (x, s) kl hk).1, hV, hsz]
    simp
  · by_cases e : y = (x, s)
    · subst e
      rw [hk] at hy
      injection hy with hy
      subst hy
      refine ⟨?_, fun z => ?_⟩
      · rw [has_put_same (hown.tidy bkeyLaw).isMap (bkeyLaw.key hk)]; simp
      · rw [atKey_put_same (hown.tidy bkeyLaw).isMap (bkeyLaw.key hk)]; simp
    · have hne : ky ≠ kl := by
        rintro rfl
        have := bkeyLaw.inj hy hk
        simp only [kvB, Value.agg.injEq] at this
        simp at this
        exact e (Prod.ext this.1 this.2)
      refine ⟨?_, fun z => ?_⟩
      · rw [has_put_other hne, (hat y ky hy).1]; simp [e]
      · rw [atKey_put_other hne, (hat y ky hy).2 z]; simp [e]
end Go.Proofs.YtmmiclpedehcpaaDoor
namespace Go.Proofs.YtmmiclpedehcpaaDoor
open Go Go.RowKit Go.Shelf Go.Maps
set_option maxRecDepth 100000
structure BPl where
  bx : Nat
  sx : Nat
  mp : Nat
  T : Value
  E : Nat → Nat
  A : Nat → Value
  U : Nat → Value
def BPl.ptr (p : BPl) (i : Nat) : Value := .pointer (some ⟨p.E i, 0, none⟩)
def keyB (ts : List Tm) (t : Tm) : Int × ByteArray := (t.fn, ⟨(textB (numsT ts t.args)).toArray⟩)
def bankV (p : BPl) (ts : List Tm) (x : Int × ByteArray) : Option Value :=
  (ts.zipIdx.find? fun q => decide (keyB ts q.1 = x)).map fun q => p.ptr q.2
structure BankW (w : World) (tag : Nat → Nat) (p : BPl) (sy : List Sm) (As : Option Addr) (n cs : Nat) (ts : List Tm) : Prop where
  bxc : w.heap[p.bx]? = some (.cells #[.pointer (some ⟨p.sx, 0, none⟩)] 74)
  st : w.heap[p.sx]? = some (.cells #[.slice As n cs, p.T, .map (some p.mp)] 72)
  sig : Syms w w.heap.size As n sy
  sgO : 0 < n → ∀ g off sp, As = some ⟨g, off, sp⟩ → tag g = 4
  map : BMap w p.mp ts.length (bankV p ts)
  row : w.ownsRow 0 80 1 p.T ts.length ((List.range ts.length).map p.ptr)
  ent : ∀ (i : Nat) (t : Tm), ts[i]? = some t → w.heap[p.E i]? = some (.cells #[.int .i64 (i : Int), .int .i64 t.fn, p.A i, .int .i64 (t.size : Int), .bool (grB t), p.U i] 79)
  arg : ∀ (i : Nat) (t : Tm), ts[i]? = some t → w.ownsRow 0 80 1 (p.A i) t.args.length (t.args.map fun a => p.ptr (idxT ts a))
  us : ∀ i, i < ts.length → IntsR w 0 (p.U i) ((usT ts i).map Int.ofNat)
  ok : BOk ts
  i64 : ∀ t ∈ ts, I64 t.fn
  tB : tag p.bx = 4
  tS : tag p.sx = 1
  tM : tag p.mp = 2
  tT : ∀ g, p.T.ownBlock = some g → tag g = 3
  tE : ∀ i, i < ts.length → tag (p.E i) = 2 * i + 5
  tU : ∀ i g, i < ts.length → (p.U i).ownBlock = some g → tag g = 2 * i + 6
  tA : ∀ i g, i < ts.length → (p.A i).ownBlock = some g → tag g = 4
  hi : ∀ g, w.heap.size ≤ g → tag g = 0
section
variable {w w' : World} {tag : Nat → Nat} {p : BPl} {sy : List Sm} {As : Option Addr} {n cs : Nat} {ts : List Tm}
theorem BankW.on (h : BankW w tag p sy As n cs ts) (hb : Below w.heap.size w w') : BankW w' tag p sy As n cs ts := by
  have k := fun {i : Nat} {ob : Obj} (e : w.heap[i]? = some ob) => (hb.block i (Array.getElem?_eq_some_iff.1 e).1).trans e
  have k2 : ∀ {v : Value} {m : Nat} {vs : List Value} {ty : TypeId}, w.ownsRow 0 ty 1 v m vs → w'.ownsRow 0 ty 1 v m vs := fun {v m vs ty} hr => row_keep hr fun g e => hb.block g (by
    rcases hr.2 with ⟨rfl, _⟩ | ⟨g', cap, cur, rfl, _, hg, _⟩
    · simp [Value.ownBlock] at e
    · simp [Value.ownBlock] at e
      subst e
      exact (Array.getElem?_eq_some_iff.1 hg).1)
  exact ⟨k h.bxc, k h.st, h.sig.on hb, h.sgO, h.map.kept (hb.block _ h.map.lt), k2 h.row, fun i t e => k (h.ent i t e), fun i t e => k2 (h.arg i t e), fun i hi => ⟨k2 (h.us i hi).row, (h.us i hi).i64⟩, h.ok, h.i64, h.tB, h.tS, h.tM, h.tT, h.tE, h.tU, h.tA, fun g hg => h.hi g (Nat.le_trans hb.size hg)⟩
end
end Go.Proofs.YtmmiclpedehcpaaDoor
namespace Go.Proofs.YtmmiclpedehcpaaDoor
open Go Go.RowKit Go.Shelf Go.Maps
set_option maxRecDepth 100000
section
variable {w : World} {tag : Nat → Nat} {p : BPl} {sy : List Sm} {As : Option Addr} {n cs : Nat} {ts : List Tm}
theorem BankW.cells (h : BankW w tag p sy As n cs ts) : w.cell? ⟨p.bx, 0, none⟩ = some (.pointer (some ⟨p.sx, 0, none⟩)) ∧ w.cell? ⟨p.sx, 0, none⟩ = some (.slice As n cs) ∧ w.cell? ⟨p.sx, 1, none⟩ = some p.T ∧ w.cell? ⟨p.sx, 2, none⟩ = some (.map (some p.mp)) := by
  have q0 := h.bxc
  have q1 := h.st
  refine ⟨?_, ?_, ?_, ?_⟩ <;> simp [World.cell?, q0, q1]
theorem BankW.entC (h : BankW w tag p sy As n cs ts) {i : Nat} {t : Tm} (e : ts[i]? = some t) : w.cell? ⟨p.E i, 0, none⟩ = some (.int .i64 (i : Int)) ∧ w.cell? ⟨p.E i, 1, none⟩ = some (.int .i64 t.fn) ∧ w.cell? ⟨p.E i, 2, none⟩ = some (p.A i) ∧ w.cell? ⟨p.E i, 3, none⟩ = some (.int .i64 (t.size : Int)) ∧ w.cell? ⟨p.E i, 4, none⟩ = some (.bool (grB t)) ∧ w.cell? ⟨p.E i, 5, none⟩ = some (p.U i) := by
  have q := h.ent i t e
  refine ⟨?_, ?_, ?_, ?_, ?_, ?_⟩ <;> simp [World.cell?, q]
theorem BankW.rowAt (h : BankW w tag p sy As n cs ts) {i : Nat} (hi : i < ts.length) : ∃ g c, p.T = .slice (some ⟨g, 0, none⟩) ts.length c ∧ w.cell? ⟨g, i, none⟩ = some (p.ptr i) := by
  rcases h.row.2 with ⟨_, h0⟩ | ⟨g, cap, cur, e, hb, hg, hn, hm, hs, ht⟩
  · omega
  · refine ⟨g, cap, e, ?_⟩
    have hr := h.row
    rw [e] at hr
    have := hr.cellAt i (by have := hr.1; omega)
    rw [this]
    simp [List.getElem?_map, List.getElem?_range hi]
end
section
variable {w : World} {tag : Nat → Nat} {p : BPl} {sy : List Sm} {As : Option Addr} {n cs : Nat} {ts : List Tm}
theorem bMissing_any (h : BankW w tag p sy As n cs ts) : Calls Tryd.prog 30 #[.pointer (some ⟨p.bx, 0, none⟩)] w fun e w' => e = .returned (.bool false) ∧ Below w.heap.size w w' := by
  have H := Lib.hid (Below.refl w.heap.size w)
  obtain ⟨c0, c1, c2, c3⟩ := h.cells
  clear h
  go_enter Tryd.func30, Tryd.ntmps30
  go_wp2
  go_ret
  exact ⟨rfl, H.out⟩
def entP (p : BPl) (ts : List Tm) (i : Int) : Value := if 0 ≤ i ∧ i < (ts.length : Int) then p.ptr i.toNat else .pointer none
theorem bEntry_any (h : BankW w tag p sy As n cs ts) (i : Int) : Calls Tryd.prog 45 #[.pointer (some ⟨p.bx, 0, none⟩), .int .i64 i] w fun e w' => e = .returned (entP p ts i) ∧ Below w.heap.size w w' := by
  have C := Lib.hid (bMissing_any h)
  have HH := Lib.hid h
  obtain ⟨g, c, hT⟩ : ∃ A c, p.T = .slice A ts.length c := by
    have := h.row
    rcases this.2 with ⟨e, h0⟩ | ⟨g, cap, cur, e, _⟩
    · exact ⟨none, 0, by rw [e, h0]⟩
    · exact ⟨_, _, e⟩
  have HT := Lib.hid hT
  clear h hT
  by_cases h0 : i < 0
  case pos =>
    have g0 : decide (i < 0) = true := decide_eq_true h0
    have HR : Hid (entP p ts i = .pointer none) := Lib.hid (by unfold entP; rw [if_neg (by omega)])
    clear h0
    go_enter Tryd.func45, Tryd.ntmps45
    go_wp2_with (first
      | (go_at_call 30; (with_reducible refine C.out.mono ?_); go_must (rintro e w1 ⟨rfl, hb1⟩))
      | fail)
    go_ret
    exact ⟨congrArg Ending.returned HR.out.symm, hb1⟩
  case neg =>
    have g0 : decide (i < 0) = false := decide_eq_false h0
    obtain ⟨k, rfl⟩ : ∃ k : Nat, i = (k : Int) := ⟨i.toNat, by omega⟩
    by_cases h1 : (ts.length : Int) ≤ (k : Int)
    case pos =>
      have g1 : decide (ts.length ≤ k) = true := decide_eq_true (by omega)
      have HR : Hid (entP p ts (k : Int) = .pointer none) := Lib.hid (by unfold entP; rw [if_neg (by omega)])
      clear h0 h1
      go_enter Tryd.func45, Tryd.ntmps45
      go_wp2_with (first
        | (go_at_call 30; (with_reducible refine C.out.mono ?_); go_must (rintro e w1 ⟨rfl, hb1⟩; obtain ⟨c0, c1, c2, c3⟩ := (HH.out.on hb1).cells; rw [HT.out] at c2))
        | fail)
      go_ret
      exact ⟨congrArg Ending.returned HR.out.symm, hb1⟩
    case neg =>
      have g1 : decide (ts.length ≤ k) = false := decide_eq_false (by omega)
      have hk : k < ts.length := by omega
      have hk2 : (k : Int) < (ts.length : Int) := by omega
      have HR : Hid (entP p ts (k : Int) = p.ptr k) := Lib.hid (by unfold entP; rw [if_pos (by omega)]; simp)
      have HK := Lib.hid hk
      clear h0 h1 hk
      go_enter Tryd.func45, Tryd.ntmps45
      go_wp2_with (first
        | (go_at_call 30; (with_reducible refine C.out.mono ?_); go_must (rintro e w1 ⟨rfl, hb1⟩; obtain ⟨c0, c1, c2, c3⟩ := (HH.out.on hb1).cells; obtain ⟨gT, cT, hT2, c4⟩ := (HH.out.on hb1).rowAt HK.out; rw [hT2] at c2; clear hT2))
        | fail)
      go_ret
      exact ⟨congrArg Ending.returned HR.out.symm, hb1⟩
end
end Go.Proofs.YtmmiclpedehcpaaDoor
namespace Go.Proofs.YtmmiclpedehcpaaDoor
open Go Go.RowKit Go.Shelf Go.Maps
set_option maxRecDepth 100000
theorem entP_some {p : BPl} {ts : List Tm} {i : Int} : (∃ k t, i = ((k : Nat) : Int) ∧ ts[k]? = some t ∧ entP p ts i = p.ptr k) ∨ (entP p ts i = .pointer none ∧ ∀ k : Nat, i = (k : Int) → ts[k]? = none) := by
  unfold entP
  by_cases h : 0 ≤ i ∧ i < (ts.length : Int)
  · refine .inl ⟨i.toNat, ts[i.toNat]'(by omega), by omega, List.getElem?_eq_getElem _, by rw [if_pos h]⟩
  · refine .inr ⟨by rw [if_neg h], fun k e => ?_⟩
    rw [List.getElem?_eq_none_iff]; omega
section
variable {w : World} {tag : Nat → Nat} {p : BPl} {sy : List Sm} {As : Option Addr} {n cs : Nat} {ts : List Tm}
theorem BankW.T_slice (h : BankW w tag p sy As n cs ts) : ∃ A c, p.T = .slice A ts.length c := by
  rcases h.row.2 with ⟨e, h0⟩ | ⟨g, cap, cur, e, _⟩
  · exact ⟨none, 0, by rw [e, h0]⟩
  · exact ⟨_, _, e⟩
theorem bLen_any (h : BankW w tag p sy As n cs ts) : Calls Tryd.prog 20 #[.pointer (some ⟨p.bx, 0, none⟩)] w fun e w' => e = .returned (.int .i64 (ts.length : Int)) ∧ Below w.heap.size w w' := by
  have C := Lib.hid (bMissing_any h)
  have HH := Lib.hid h
  obtain ⟨g, c, hT⟩ := h.T_slice
  have HT := Lib.hid hT
  clear h hT
  go_enter Tryd.func20, Tryd.ntmps20
  go_wp2_with (first
    | (go_at_call 30; (with_reducible refine C.out.mono ?_); go_must (rintro e w1 ⟨rfl, hb1⟩; obtain ⟨c0, c1, c2, c3⟩ := (HH.out.on hb1).cells; rw [HT.out] at c2))
    | fail)
  go_ret
  exact ⟨rfl, hb1⟩
def sizB (ts : List Tm) (i : Int) : Int := if 0 ≤ i then match ts[i.toNat]? with | some t => (t.size : Int) | none => 0 else 0
def gndB (ts : List Tm) (i : Int) : Bool := if 0 ≤ i then match ts[i.toNat]? with | some t => grB t | none => false else false
theorem bSize_any (h : BankW w tag p sy As n cs ts) (i : Int) : Calls Tryd.prog 23 #[.pointer (some ⟨p.bx, 0, none⟩), .int .i64 i] w fun e w' => e = .returned (.int .i64 (sizB ts i)) ∧ Below w.heap.size w w' := by
  have C := bEntry_any h i
  have HH := Lib.hid h
  clear h
  rcases entP_some (p := p) (ts := ts) (i := i) with ⟨k, t, rfl, ht, e⟩ | ⟨e, hn⟩
  · rw [e] at C
    have HC := Lib.hid C
    have HT := Lib.hid ht
    have HS := Lib.hid (show sizB ts (k : Int) = (t.size : Int) by unfold sizB; rw [if_pos (by omega), Int.toNat_natCast, ht])
    clear C ht e
    unfold BPl.ptr at HC
    go_enter Tryd.func23, Tryd.ntmps23
    go_wp2_with (first
      | (go_at_call 45; (with_reducible refine HC.out.mono ?_); go_must (rintro e w1 ⟨rfl, hb1⟩; obtain ⟨c0, c1, c2, c3, c4, c5⟩ := (HH.out.on hb1).entC HT.out))
      | fail)
    go_ret
    exact ⟨congrArg (fun z => Ending.returned (.int .i64 z)) HS.out.symm, hb1⟩
  · rw [e] at C
    have HC := Lib.hid C
    have HS := Lib.hid (show sizB ts i = 0 by
      unfold sizB
      by_cases h0 : 0 ≤ i
      · rw [if_pos h0, hn i.toNat (by omega)]
      · rw [if_neg h0])
    clear C hn e
    go_enter Tryd.func23, Tryd.ntmps23
    go_wp2_with (first
      | (go_at_call 45; (with_reducible refine HC.out.mono ?_); go_must (rintro e w1 ⟨rfl, hb1⟩))
      | fail)
    go_ret
    exact ⟨congrArg (fun z => Ending.returned (.int .i64 z)) HS.out.symm, hb1⟩
theorem bGround_any (h : BankW w tag p sy As n cs ts) (i : Int) : Calls Tryd.prog 24 #[.pointer (some ⟨p.bx, 0, none⟩), .int .i64 i] w fun e w' => e = .returned (.bool (gndB ts i)) ∧ Below w.heap.size w w' := by
  have C := bEntry_any h i
  have HH := Lib.hid h
  clear h
  rcases entP_some (p := p) (ts := ts) (i := i) with ⟨k, t, rfl, ht, e⟩ | ⟨e, hn⟩
  · rw [e] at C
    have HC := Lib.hid C
    have HT := Lib.hid ht
    have HS := Lib.hid (show gndB ts (k : Int) = grB t by unfold gndB; rw [if_pos (by omega), Int.toNat_natCast, ht])
    clear C ht e
    unfold BPl.ptr at HC
    go_enter Tryd.func24, Tryd.ntmps24
    go_wp2_with (first
      | (go_at_call 45; (with_reducible refine HC.out.mono ?_); go_must (rintro e w1 ⟨rfl, hb1⟩; obtain ⟨c0, c1, c2, c3, c4, c5⟩ := (HH.out.on hb1).entC HT.out))
      | fail)
    go_ret
    exact ⟨congrArg (fun z => Ending.returned (.bool z)) HS.out.symm, hb1⟩
  · rw [e] at C
    have HC := Lib.hid C
    have HS := Lib.hid (show gndB ts i = false by
      unfold gndB
      by_cases h0 : 0 ≤ i
      · rw [if_pos h0, hn i.toNat (by omega)]
      · rw [if_neg h0])
    clear C hn e
    go_enter Tryd.func24, Tryd.ntmps24
    go_wp2_with (first
      | (go_at_call 45; (with_reducible refine HC.out.mono ?_); go_must (rintro e w1 ⟨rfl, hb1⟩))
      | fail)
    go_ret
    exact ⟨congrArg (fun z => Ending.returned (.bool z)) HS.out.symm, hb1⟩
end
end Go.Proofs.YtmmiclpedehcpaaDoor
namespace Go.Proofs.YtmmiclpedehcpaaDoor
open Go Go.RowKit Go.Shelf Go.Maps
set_option maxRecDepth 100000
section
variable {w : World} {tag : Nat → Nat} {p : BPl} {sy : List Sm} {As : Option Addr} {n cs : Nat} {ts : List Tm}
theorem BankW.argAt (h : BankW w tag p sy As n cs ts) {k : Nat} {t : Tm} (ht : ts[k]? = some t) {j : Nat} {a : Tm} (ha : t.args[j]? = some a) : ∃ g c, p.A k = .slice (some ⟨g, 0, none⟩) t.args.length c ∧ w.cell? ⟨g, j, none⟩ = some (p.ptr (idxT ts a)) := by
  have hj := (List.getElem?_eq_some_iff.1 ha).1
  have hr := h.arg k t ht
  rcases hr.2 with ⟨_, h0⟩ | ⟨g, cap, cur, e, hb, hg, hn, hm, hs, hc⟩
  · omega
  · refine ⟨g, cap, e, ?_⟩
    rw [e] at hr
    rw [hr.cellAt j (by have := hr.1; omega)]
    simp [List.getElem?_map, ha]
theorem BankW.A_slice (h : BankW w tag p sy As n cs ts) {k : Nat} {t : Tm} (ht : ts[k]? = some t) : ∃ A c, p.A k = .slice A t.args.length c := by
  rcases (h.arg k t ht).2 with ⟨e, h0⟩ | ⟨g, cap, cur, e, _⟩
  · exact ⟨none, 0, by rw [e, h0]⟩
  · exact ⟨_, _, e⟩
theorem BankW.argI (h : BankW w tag p sy As n cs ts) {k : Nat} {t : Tm} (ht : ts[k]? = some t) {j : Nat} {a : Tm} (ha : t.args[j]? = some a) : ts[idxT ts a]? = some a :=
  idxT_at (h.ok.arg (List.mem_of_getElem? ht) (List.mem_of_getElem? ha))
theorem numsI_take {ts xs : List Tm} {j : Nat} {a : Tm} (ha : xs[j]? = some a) : (numsT ts (xs.take (j + 1))).map Int.ofNat = (numsT ts (xs.take j)).map Int.ofNat ++ [((idxT ts a : Nat) : Int)] := by
  rw [List.take_add_one, ha]
  simp [numsT]
set_option maxHeartbeats 2000000 in
theorem bArgs_any (h : BankW w tag p sy As n cs ts) {k : Nat} {t : Tm} (ht : ts[k]? = some t) (hts : ts.length ≤ 2147483648) (hta : t.args.length ≤ 1048576) : Calls Tryd.prog 22 #[.pointer (some ⟨p.bx, 0, none⟩), .int .i64 (k : Int)] w fun e w' => ∃ v, e = .returned v ∧ IntsR w' w.heap.size v ((numsT ts t.args).map Int.ofNat) ∧ Below w.heap.size w w' := by
  obtain ⟨i0, hi, hz0, hz1, hz2⟩ := info_parts info_int
  have C := bEntry_any h (k : Int)
  have hk := (List.getElem?_eq_some_iff.1 ht).1
  rw [show entP p ts (k : Int) = p.ptr k by unfold entP; rw [if_pos (by omega), Int.toNat_natCast]] at C
  unfold BPl.ptr at C
  have HC := Lib.hid C
  obtain ⟨Ag, cg, hA⟩ := h.A_slice ht
  have HA := Lib.hid hA
  have HH := Lib.hid h
  have HT := Lib.hid ht
  have H0 : Hid (IntsR w w.heap.size (.slice none 0 0) ((numsT ts (t.args.take 0)).map Int.ofNat)) := Lib.hid ⟨⟨rfl, .inl ⟨rfl, rfl⟩⟩, fun x hx => by simp [numsT] at hx⟩
  clear C h ht hk hA
  go_enter Tryd.func22, Tryd.ntmps22
  go_wp2_with (first
    | (go_at_call 45; (with_reducible refine HC.out.mono ?_); go_must (rintro e w1 ⟨rfl, hb1⟩; obtain ⟨c0, c1, c2, c3, c4, c5⟩ := (HH.out.on hb1).entC HT.out; rw [HA.out] at c2))
    | fail)
  clear c0 c1 c2 c3 c4 c5
  go_loopw [6, 20] (fun v i wr => ∃ (j : Nat), j ≤ t.args.length ∧ i = .int .i64 (j : Int) ∧ Hid (IntsR wr w.heap.size v ((numsT ts (t.args.take j)).map Int.ofNat)) ∧ Below w.heap.size w wr) (fun _ i _ => t.args.length - (intOf i).toNat)
  case atStart => exact ⟨0, Nat.zero_le _, rfl, Lib.hid ⟨⟨rfl, .inl ⟨rfl, rfl⟩⟩, fun x hx => by simp [numsT] at hx⟩, hb1⟩
  case round =>
    obtain ⟨j, hj, rfl, HI, hBr⟩ := hrel
    by_cases hlt : j < t.args.length
    case pos =>
      obtain ⟨a, ha⟩ : ∃ a, t.args[j]? = some a := ⟨_, List.getElem?_eq_getElem hlt⟩
      obtain ⟨g, c', hA2, c0⟩ := (HH.out.on hBr).argAt HT.out ha
      rw [HA.out] at hA2
      injection hA2 with hA3 _ hA4
      subst hA3
      have hai := HH.out.argI HT.out ha
      obtain ⟨d0, _⟩ := (HH.out.on hBr).entC hai
      have hq := (List.getElem?_eq_some_iff.1 hai).1
      obtain ⟨q, hqe⟩ : ∃ q, idxT ts a = q := ⟨_, rfl⟩
      have hnx := numsI_take (ts := ts) ha
      rw [hqe] at c0 d0 hq hnx
      unfold BPl.ptr at c0
      have HNX := Lib.hid hnx
      obtain ⟨Av, cv, hv⟩ := row_slice HI.out.row
      subst hv
      obtain ⟨l, hl⟩ : ∃ l, (numsT ts (t.args.take j)).map Int.ofNat = l := ⟨_, rfl⟩
      have hll : l.length = j := by rw [← hl]; simp [numsT]; omega
      rw [hl] at HI HNX ⊢
      have hrl := row_lt HI.out.row
      have hzz := hBr.size
      have hlt2 : (j : Int) < (t.args.length : Int) := by omega
      have hwr1 : IntKind.i64.wrap ((j : Int) + 1) = (j : Int) + 1 := by rw [IntKind.wrap_i64]; omega
      clear ha hai hqe hnx hl hA4
      go_wp2_with (first
        | (at_builtin
           go_must (
           refine wpList_append_own_at _ rfl _ _ 38 rfl w.heap.size 3 i0 (.int .i64 0) 1 8 Tryd.underlying38 hi hz0 hz1 hz2 rfl (by decide) (.slice Av l.length cv) l.length _ rfl (row_keep HI.out.row fun g e => Below.heap_alloc wr _ g (hrl g e).2) ⟨wr.heap.size, 0, none⟩ 1 1 [.int .i64 (q : Int)] rfl rfl (cell_one_new _ _ _) (by simp [Value.oneCell']) (by unfold maxLen; omega) (by omega) (by simp; omega) ?_
           intro v5 w5 hown5 hgr5 _ hat5
           have HN : Hid (IntsR w5 w.heap.size v5 (l ++ [(q : Int)])) := Lib.hid ⟨by simpa using hown5, fun x hx => by
             rcases List.mem_append.1 hx with hx | hx
             · exact HI.out.i64 x hx
             · simp at hx; subst hx; exact ⟨by omega, by omega⟩⟩
           have HB5 : Hid (Below w.heap.size w w5) := Lib.hid ((hBr.alloc hBr.size _).trans ⟨hgr5.os, hgr5.tape, hgr5.output, hgr5.size, fun g hg => hgr5.block g (by simp; omega) fun e => by have := (hrl g e.symm).1; omega⟩)
           clear hown5 hgr5 hat5))
        | fail)
      go_roundw
      case rel => exact ⟨j + 1, by omega, by go_num, by rw [HNX.out]; exact HN, HB5.out⟩
      case measure => simp [intOf]; omega
    case neg =>
      obtain rfl : j = t.args.length := by omega
      have HI2 := HI.out
      rw [List.take_length] at HI2
      have HF := Lib.hid HI2
      clear HI2
      go_wp2
      go_ret
      exact ⟨_, rfl, HF.out, hBr⟩
end
end Go.Proofs.YtmmiclpedehcpaaDoor
namespace Go.Proofs.YtmmiclpedehcpaaDoor
open Go Go.RowKit Go.Shelf Go.Maps
set_option maxRecDepth 100000
def useI (l : List Int) (n : Int) : List Int := if l.getLast? = some n then l else l ++ [n]
structure UseP (w w' : World) (e : Nat) (a0 a1 a2 a3 a4 v v' : Value) (l : List Int) : Prop where
  ent : w'.heap[e]? = some (.cells #[a0, a1, a2, a3, a4, v'] 79)
  row : IntsR w' 0 v' l
  ne : ¬ v'.ownBlock = some e
  blk : ∀ g, v'.ownBlock = some g → v.ownBlock = some g ∨ w.heap.size ≤ g
  k : KeepsC (fun g => g = e ∨ v.ownBlock = some g) w w'
theorem use_done {w w5 : World} {ob : Obj} {e : Nat} {a0 a1 a2 a3 a4 v v5 : Value} {l : List Int} {n : Int} (he : w.heap[e]? = some (.cells #[a0, a1, a2, a3, a4, v] 79)) (hr : IntsR w 0 v l) (hn : I64 n) (hne : ¬ v.ownBlock = some e)
    (hown5 : w5.ownsRow 0 3 1 v5 (l.length + 1) (l.map (Value.int .i64) ++ [.int .i64 n])) (hgr5 : (w.alloc ob).grownBy w5 v.ownBlock) (hat5 : v5.ownBlock = v.ownBlock ∨ v5.ownBlock = some (w.alloc ob).heap.size) : UseP w (w5.setCell ⟨e, 5, none⟩ v5) e a0 a1 a2 a3 a4 v v5 (l ++ [n]) := by
  have hel := (Array.getElem?_eq_some_iff.1 he).1
  have h5 : w5.heap[e]? = some (.cells #[a0, a1, a2, a3, a4, v] 79) := (hgr5.block e (by simp; omega) (fun h => hne h.symm)).trans ((Below.heap_alloc w ob e hel).trans he)
  have hs := hgr5.size
  have hs' : w.heap.size + 1 ≤ w5.heap.size := by simpa using hs
  have hne5 : ¬ v5.ownBlock = some e := fun h => by
    rcases hat5 with h' | h'
    · exact hne (h' ▸ h)
    · rw [h'] at h; injection h with h; simp at h; omega
  refine ⟨?_, ⟨?_, fun x hx => ?_⟩, hne5, fun g h => ?_, ?_⟩
  · simp [World.setCell, Array.getElem?_modify, h5]
  · have h6 : w5.ownsRow 0 3 1 v5 (l ++ [n]).length ((l ++ [n]).map (Value.int .i64)) := by simpa using hown5
    exact row_keep h6 fun g h => heap_setCell_other w5 ⟨e, 5, none⟩ g _ (fun e' => hne5 (by rw [h]; exact congrArg some e'))
  · rcases List.mem_append.1 hx with hx | hx
    · exact hr.i64 x hx
    · simp at hx; subst hx; exact hn
  · rcases hat5 with h' | h'
    · exact .inl (h' ▸ h)
    · rw [h'] at h; injection h with h; simp at h; exact .inr (by omega)
  · refine ⟨by show w5.os = _; rw [hgr5.os]; rfl, by show w5.tape = _; rw [hgr5.tape]; rfl, by show w5.output = _; rw [hgr5.output]; rfl, by simp; omega, fun g hg => ?_⟩
    rw [heap_setCell_other w5 ⟨e, 5, none⟩ g _ (fun h => hg.2 (.inl h)), hgr5.block g (by simp; have := hg.1; omega) (fun h => hg.2 (.inr h.symm))]
    exact Below.heap_alloc w ob g hg.1
set_option maxHeartbeats 4000000 in
theorem bUse_any {w : World} {e : Nat} {a0 a1 a2 a3 a4 v : Value} {l : List Int} {n : Int} (he : w.heap[e]? = some (.cells #[a0, a1, a2, a3, a4, v] 79)) (hr : IntsR w 0 v l) (hn : I64 n) (hl : l.length ≤ 1099511627776) (hne : ¬ v.ownBlock = some e) :
    Calls Tryd.prog 55 #[.pointer (some ⟨e, 0, none⟩), .int .i64 n] w fun en w' => en = .returned (.tuple #[]) ∧ ∃ v', UseP w w' e a0 a1 a2 a3 a4 v v' (useI l n) := by
  obtain ⟨i0, hi, hz0, hz1, hz2⟩ := info_parts info_int
  have HD := Lib.hid (fun (ob : Obj) (w5 : World) (v5 : Value) => use_done (w5 := w5) (ob := ob) (v5 := v5) he hr hn hne)
  have HS : Hid (UseP w w e a0 a1 a2 a3 a4 v v l) := Lib.hid ⟨he, hr, hne, fun g h => .inl h, KeepsC.refl _ _⟩
  have HR := Lib.hid hr
  have hel := (Array.getElem?_eq_some_iff.1 he).1
  have c5 : w.cell? ⟨e, 5, none⟩ = some v := by simp [World.cell?, he]
  have HE : Hid (∀ (ob : Obj) (w5 : World), (w.alloc ob).grownBy w5 v.ownBlock → w5.cell? ⟨e, 5, none⟩ = some v ∧ w5.frozen? ⟨e, 5, none⟩ = false) := Lib.hid fun ob w5 hg => by
    have h5 : w5.heap[e]? = some (.cells #[a0, a1, a2, a3, a4, v] 79) := (hg.block e (by simp; omega) (fun h => hne h.symm)).trans ((Below.heap_alloc w ob e hel).trans he)
    exact ⟨by simp [World.cell?, h5], by simp [World.frozen?, h5]⟩
  obtain ⟨Av, cv, hv⟩ := row_slice hr.row
  have hrl := row_lt hr.row
  subst hv
  clear hne
  by_cases h0 : l = []
  case pos =>
    subst h0
    have HU : Hid (useI [] n = [] ++ [n]) := Lib.hid rfl
    clear he hr hn hl
    go_enter Tryd.func55, Tryd.ntmps55
    go_wp2_with (first
      | (at_builtin
         go_must (
         refine wpList_append_own_at _ rfl _ _ 38 rfl 0 3 i0 (.int .i64 0) 1 8 Tryd.underlying38 hi hz0 hz1 hz2 rfl (by decide) (.slice Av 0 cv) 0 _ rfl (row_keep HR.out.row fun g e => Below.heap_alloc w _ g (hrl g e).2) ⟨w.heap.size, 0, none⟩ 1 1 [.int .i64 n] rfl rfl (cell_one_new _ _ _) (by simp [Value.oneCell']) (by unfold maxLen; omega) (by omega) (by simp) ?_
         intro v5 w5 hown5 hgr5 _ hat5
         obtain ⟨A5, c5x, rfl⟩ := row_slice hown5
         obtain ⟨k5, f5⟩ := HE.out _ _ hgr5
         have HN := Lib.hid (HD.out _ _ _ hown5 hgr5 hat5)
         clear hown5 hgr5 hat5))
      | fail)
    go_end0
    exact ⟨rfl, _, by rw [HU.out]; exact HN.out⟩
  case neg =>
    obtain ⟨m, hm⟩ : ∃ m, l.length = m + 1 := ⟨l.length - 1, by have := List.length_pos_iff.2 h0; omega⟩
    obtain ⟨x, hx⟩ : ∃ x, l[m]? = some x := ⟨_, List.getElem?_eq_getElem (by omega)⟩
    have hlast : l.getLast? = some x := by rw [List.getLast?_eq_getElem?, hm]; exact hx
    obtain ⟨g, c', hv, hgl, cx⟩ := hr.get hx
    injection hv with hv1 _ hv3
    subst hv1
    have hw1 : IntKind.i64.wrap ((l.length : Int) - 1) = (m : Int) := by rw [IntKind.wrap_i64]; omega
    have hm0 : decide ((m : Int) < 0) = false := decide_eq_false (by omega)
    have hml : (m : Int) < (l.length : Int) := by omega
    by_cases hxn : x = n
    case pos =>
      have HU := Lib.hid (show useI l n = l by unfold useI; rw [hlast, hxn, if_pos rfl])
      have gx : ((x : Int) != n) = false := by simp [hxn]
      clear he hr hn h0 hm hx hlast hv3 hxn
      go_enter Tryd.func55, Tryd.ntmps55
      go_wp2
      go_end0
      exact ⟨rfl, _, by rw [HU.out]; exact HS.out⟩
    case neg =>
      have HU := Lib.hid (show useI l n = l ++ [n] by unfold useI; rw [hlast, if_neg (by simpa using hxn)])
      have gx : ((x : Int) != n) = true := by simpa using hxn
      clear he hr hn h0 hm hx hlast hv3 hxn
      go_enter Tryd.func55, Tryd.ntmps55
      go_wp2_with (first
        | (at_builtin
           go_must (
           refine wpList_append_own_at _ rfl _ _ 38 rfl 0 3 i0 (.int .i64 0) 1 8 Tryd.underlying38 hi hz0 hz1 hz2 rfl (by decide) (.slice (some ⟨g, 0, none⟩) l.length cv) l.length _ rfl (row_keep HR.out.row fun g e => Below.heap_alloc w _ g (hrl g e).2) ⟨w.heap.size, 0, none⟩ 1 1 [.int .i64 n] rfl rfl (cell_one_new _ _ _) (by simp [Value.oneCell']) (by unfold maxLen; omega) (by omega) (by simp) ?_
           intro v5 w5 hown5 hgr5 _ hat5
           obtain ⟨A5, c5x, rfl⟩ := row_slice hown5
           obtain ⟨k5, f5⟩ := HE.out _ _ hgr5
           have HN := Lib.hid (HD.out _ _ _ hown5 hgr5 hat5)
           clear hown5 hgr5 hat5))
        | fail)
      go_end0
      exact ⟨rfl, _, by rw [HU.out]; exact HN.out⟩
end Go.Proofs.YtmmiclpedehcpaaDoor
namespace Go.Proofs.YtmmiclpedehcpaaDoor
open Go Go.RowKit Go.Shelf Go.Maps
set_option maxRecDepth 100000
structure BankU (w : World) (tag : Nat → Nat) (p : BPl) (sy : List Sm) (As : Option Addr) (n cs : Nat) (ts : List Tm) (us : Nat → List Nat) : Prop where
  bxc : w.heap[p.bx]? = some (.cells #[.pointer (some ⟨p.sx, 0, none⟩)] 74)
  st : w.heap[p.sx]? = some (.cells #[.slice As n cs, p.T, .map (some p.mp)] 72)
  sig : Syms w w.heap.size As n sy
  sgO : 0 < n → ∀ g off sp, As = some ⟨g, off, sp⟩ → tag g = 4
  map : BMap w p.mp ts.length (bankV p ts)
  row : w.ownsRow 0 80 1 p.T ts.length ((List.range ts.length).map p.ptr)
  ent : ∀ (i : Nat) (t : Tm), ts[i]? = some t → w.heap[p.E i]? = some (.cells #[.int .i64 (i : Int), .int .i64 t.fn, p.A i, .int .i64 (t.size : Int), .bool (grB t), p.U i] 79)
  arg : ∀ (i : Nat) (t : Tm), ts[i]? = some t → w.ownsRow 0 80 1 (p.A i) t.args.length (t.args.map fun a => p.ptr (idxT ts a))
  us : ∀ i, i < ts.length → IntsR w 0 (p.U i) ((us i).map Int.ofNat)
  ok : BOk ts
  i64 : ∀ t ∈ ts, I64 t.fn
  tB : tag p.bx = 4
  tS : tag p.sx = 1
  tM : tag p.mp = 2
  tT : ∀ g, p.T.ownBlock = some g → tag g = 3
  tE : ∀ i, i < ts.length → tag (p.E i) = 2 * i + 5
  tU : ∀ i g, i < ts.length → (p.U i).ownBlock = some g → tag g = 2 * i + 6
  tA : ∀ i g, i < ts.length → (p.A i).ownBlock = some g → tag g = 4
  hi : ∀ g, w.heap.size ≤ g → tag g = 0
section
variable {w w' : World} {tag tag' : Nat → Nat} {p : BPl} {sy : List Sm} {As : Option Addr} {n cs : Nat} {ts : List Tm} {us : Nat → List Nat}
theorem BankW.toU (h : BankW w tag p sy As n cs ts) : BankU w tag p sy As n cs ts (usT ts) :=
  ⟨h.bxc, h.st, h.sig, h.sgO, h.map, h.row, h.ent, h.arg, h.us, h.ok, h.i64, h.tB, h.tS, h.tM, h.tT, h.tE, h.tU, h.tA, h.hi⟩
theorem BankU.toW (h : BankU w tag p sy As n cs ts us) (he : ∀ i, i < ts.length → us i = usT ts i) : BankW w tag p sy As n cs ts :=
  ⟨h.bxc, h.st, h.sig, h.sgO, h.map, h.row, h.ent, h.arg, fun i hi => by rw [← he i hi]; exact h.us i hi, h.ok, h.i64, h.tB, h.tS, h.tM, h.tT, h.tE, h.tU, h.tA, h.hi⟩
theorem BankU.ext {us' : Nat → List Nat} (h : BankU w tag p sy As n cs ts us) (he : ∀ i, i < ts.length → us i = us' i) : BankU w tag p sy As n cs ts us' :=
  ⟨h.bxc, h.st, h.sig, h.sgO, h.map, h.row, h.ent, h.arg, fun i hi => by rw [← he i hi]; exact h.us i hi, h.ok, h.i64, h.tB, h.tS, h.tM, h.tT, h.tE, h.tU, h.tA, h.hi⟩
theorem syms_keepT (h : Syms w w.heap.size As n sy) (hs : w.heap.size ≤ w'.heap.size) (hk : 0 < n → ∀ g off sp, As = some ⟨g, off, sp⟩ → g < w.heap.size → w'.heap[g]? = w.heap[g]?) : Syms w' w'.heap.size As n sy :=
  ⟨h.len, h.ok, fun hn => by
    obtain ⟨b, off, hA, hlt, hc⟩ := h.ad hn
    have hb := hk hn b off none hA hlt
    refine ⟨b, off, hA, Nat.lt_of_lt_of_le hlt hs, fun i x hi => ?_⟩
    obtain ⟨h1, h2, h3⟩ := hc i x hi
    exact ⟨(World.cell?_of_block hb).trans h1, (World.cell?_of_block hb).trans h2, (World.cell?_of_block hb).trans h3⟩⟩
theorem BankU.keep (h : BankU w tag p sy As n cs ts us) (hs : w.heap.size ≤ w'.heap.size) (hk : ∀ g, g < w.heap.size → tag g ≠ 0 → tag g < 2 * ts.length + 5 → w'.heap[g]? = w.heap[g]?)
    (ht : ∀ g, g < w.heap.size → tag' g = tag g) (hh : ∀ g, w'.heap.size ≤ g → tag' g = 0) : BankU w' tag' p sy As n cs ts us := by
  have lt := fun {i : Nat} {ob : Obj} (e : w.heap[i]? = some ob) => (Array.getElem?_eq_some_iff.1 e).1
  have k := fun {i : Nat} {ob : Obj} (e : w.heap[i]? = some ob) (e2 : tag i ≠ 0 ∧ tag i < 2 * ts.length + 5) => (hk i (lt e) e2.1 e2.2).trans e
  have k2 : ∀ {v : Value} {m : Nat} {vs : List Value} {ty : TypeId}, w.ownsRow 0 ty 1 v m vs → (∀ g, v.ownBlock = some g → tag g ≠ 0 ∧ tag g < 2 * ts.length + 5) → w'.ownsRow 0 ty 1 v m vs := fun {v m vs ty} hr ht => row_keep hr fun g e => hk g (row_lt hr g e).2 (ht g e).1 (ht g e).2
  have il : ∀ {i : Nat} {t : Tm}, ts[i]? = some t → i < ts.length := fun {i t} e => (List.getElem?_eq_some_iff.1 e).1
  refine ⟨k h.bxc (by rw [h.tB]; omega), k h.st (by rw [h.tS]; omega), syms_keepT h.sig hs (fun h0 g off sp e hg => hk g hg (by rw [h.sgO h0 g off sp e]; omega) (by rw [h.sgO h0 g off sp e]; omega)), ?_, h.map.kept (hk _ h.map.lt (by rw [h.tM]; omega) (by rw [h.tM]; omega)), k2 h.row fun g e => by rw [h.tT g e]; omega,
    fun i t e => k (h.ent i t e) (by have := il e; rw [h.tE i this]; omega), fun i t e => k2 (h.arg i t e) fun g e2 => by rw [h.tA i g (il e) e2]; omega, fun i hi => ⟨k2 (h.us i hi).row fun g e => by rw [h.tU i g hi e]; omega, (h.us i hi).i64⟩, h.ok, h.i64,
    by rw [ht _ (lt h.bxc)]; exact h.tB, by rw [ht _ (lt h.st)]; exact h.tS, by rw [ht _ h.map.lt]; exact h.tM, fun g e => by rw [ht _ (row_lt h.row g e).2]; exact h.tT g e,
    fun i hi => by rw [ht _ (lt (h.ent i _ (List.getElem?_eq_getElem hi)))]; exact h.tE i hi, fun i g hi e => by rw [ht _ (row_lt (h.us i hi).row g e).2]; exact h.tU i g hi e, fun i g hi e => by rw [ht _ (row_lt (h.arg i _ (List.getElem?_eq_getElem hi)) g e).2]; exact h.tA i g hi e, hh⟩
  intro h0 g off sp e
  obtain ⟨b, off2, hA, hlt, _⟩ := h.sig.ad h0
  have hg : g < w.heap.size := by
    rw [e] at hA; injection hA with hA; injection hA with hA _; omega
  rw [ht g hg]; exact h.sgO h0 g off sp e
def BPl.setU (p : BPl) (i : Nat) (v : Value) : BPl := { p with U := fun k => if k = i then v else p.U k }
def tagU (tag : Nat → Nat) (i : Nat) (v : Value) : Nat → Nat := fun g => if v.ownBlock = some g then 2 * i + 6 else tag g
theorem tagU_old (h : BankU w tag p sy As n cs ts us) {i : Nat} (hi : i < ts.length) {v : Value} (hv : ∀ g, v.ownBlock = some g → (p.U i).ownBlock = some g ∨ w.heap.size ≤ g) {g : Nat} (hg : g < w.heap.size) : tagU tag i v g = tag g := by
  unfold tagU
  split
  · rename_i e
    rcases hv g e with h1 | h1
    · rw [h.tU i g hi h1]
    · omega
  · rfl
theorem BankU.use (h : BankU w tag p sy As n cs ts us) {i : Nat} {t : Tm} (ht : ts[i]? = some t) {v' : Value} {l : List Nat} (hu : UseP w w' (p.E i) (.int .i64 (i : Int)) (.int .i64 t.fn) (p.A i) (.int .i64 (t.size : Int)) (.bool (grB t)) (p.U i) v' (l.map Int.ofNat)) :
    BankU w' (tagU tag i v') (p.setU i v') sy As n cs ts (fun k => if k = i then l else us k) ∧ KeepsC (fun g => tag g = 2 * i + 5 ∨ tag g = 2 * i + 6) w w' := by
  have hi := (List.getElem?_eq_some_iff.1 ht).1
  have hK : KeepsC (fun g => tag g = 2 * i + 5 ∨ tag g = 2 * i + 6) w w' := hu.k.mono fun g e => by
    rcases e with rfl | e
    · exact .inl (h.tE i hi)
    · exact .inr (h.tU i g hi e)
  have hs := hK.size
  have ho := fun {g : Nat} (hg : g < w.heap.size) => tagU_old h hi hu.blk hg
  have lt := fun {j : Nat} {ob : Obj} (e : w.heap[j]? = some ob) => (Array.getElem?_eq_some_iff.1 e).1
  have kk := fun {g : Nat} (hg : g < w.heap.size) (e1 : tag g ≠ 2 * i + 5) (e2 : tag g ≠ 2 * i + 6) => hK.block hg (fun e => e.elim e1 e2)
  have k2 : ∀ {v : Value} {m : Nat} {vs : List Value} {ty : TypeId}, w.ownsRow 0 ty 1 v m vs → (∀ g, v.ownBlock = some g → tag g ≠ 2 * i + 5 ∧ tag g ≠ 2 * i + 6) → w'.ownsRow 0 ty 1 v m vs := fun {v m vs ty} hr ht => row_keep hr fun g e => kk (row_lt hr g e).2 (ht g e).1 (ht g e).2
  have il : ∀ {j : Nat} {t : Tm}, ts[j]? = some t → j < ts.length := fun {j t} e => (List.getElem?_eq_some_iff.1 e).1
  refine ⟨⟨(kk (lt h.bxc) (by rw [h.tB]; omega) (by rw [h.tB]; omega)).trans h.bxc, (kk (lt h.st) (by rw [h.tS]; omega) (by rw [h.tS]; omega)).trans h.st, syms_keepT h.sig hs (fun h0 g off sp e hg => kk hg (by rw [h.sgO h0 g off sp e]; omega) (by rw [h.sgO h0 g off sp e]; omega)), ?_,
    h.map.kept (kk h.map.lt (by rw [h.tM]; omega) (by rw [h.tM]; omega)), k2 h.row fun g e => by rw [h.tT g e]; omega, ?_, fun j t' e => k2 (h.arg j t' e) fun g e2 => by rw [h.tA j g (il e) e2]; omega, ?_, h.ok, h.i64,
    (ho (lt h.bxc)).trans h.tB, (ho (lt h.st)).trans h.tS, (ho h.map.lt).trans h.tM, fun g e => (ho (row_lt h.row g e).2).trans (h.tT g e),
    fun j hj => (ho (lt (h.ent j _ (List.getElem?_eq_getElem hj)))).trans (h.tE j hj), ?_, fun j g hj e => (ho (row_lt (h.arg j _ (List.getElem?_eq_getElem hj)) g e).2).trans (h.tA j g hj e), ?_⟩, hK⟩
  · intro h0 g off sp e
    obtain ⟨b, off2, hA, hlt, _⟩ := h.sig.ad h0
    have hg : g < w.heap.size := by
      rw [e] at hA; injection hA with hA; injection hA with hA _; omega
    exact (ho hg).trans (h.sgO h0 g off sp e)
  · intro j t' e
    by_cases hj : j = i
    · subst hj
      rw [ht] at e; injection e with e; subst e
      have : (p.setU j v').U j = v' := by simp [BPl.setU]
      rw [this]
      exact hu.ent
    · have : (p.setU i v').U j = p.U j := by simp [BPl.setU, hj]
      rw [this]
      exact (kk (lt (h.ent j t' e)) (by rw [h.tE j (il e)]; omega) (by rw [h.tE j (il e)]; omega)).trans (h.ent j t' e)
  · intro j hj
    by_cases e : j = i
    · subst e
      simp only [BPl.setU, if_true]
      exact hu.row
    · simp only [BPl.setU, if_neg e]
      exact ⟨k2 (h.us j hj).row fun g e2 => by rw [h.tU j g hj e2]; omega, (h.us j hj).i64⟩
  · intro j g hj e
    by_cases ej : j = i
    · subst ej
      simp only [BPl.setU, if_true] at e
      unfold tagU
      rw [if_pos e]
    · simp only [BPl.setU, if_neg ej] at e
      exact (ho (row_lt (h.us j hj).row g e).2).trans (h.tU j g hj e)
  · intro g hg
    have : v'.ownBlock ≠ some g := fun e => by have := (row_lt hu.row.row g e).2; omega
    unfold tagU
    rw [if_neg this]
    exact h.hi g (by omega)
end
end Go.Proofs.YtmmiclpedehcpaaDoor
namespace Go.Proofs.YtmmiclpedehcpaaDoor
open Go Go.RowKit Go.Shelf Go.Maps
set_option maxRecDepth 100000
theorem find_cong {α : Type} {P Q : α → Bool} : ∀ {l : List α}, (∀ q ∈ l, P q = Q q) → l.find? P = l.find? Q
  | [], _ => rfl
  | x :: l, h => by
    rw [List.find?_cons, List.find?_cons, h x (by simp), find_cong fun q hq => h q (by simp [hq])]
theorem nums_lt {ts xs : List Tm} (hx : ∀ x ∈ xs, x ∈ ts) : ∀ k ∈ numsT ts xs, k < ts.length := fun k hk => by
  obtain ⟨x, h1, rfl⟩ := List.mem_map.1 hk
  exact idxT_lt.2 (hx x h1)
theorem keyB_inj {ts : List Tm} {s t : Tm} (hl : ts.length ≤ 4294967296) (hs : ∀ a ∈ s.args, a ∈ ts) (ht : ∀ a ∈ t.args, a ∈ ts) (h : keyB ts s = keyB ts t) : s = t := by
  unfold keyB at h
  simp only [Prod.mk.injEq, ByteArray.mk.injEq] at h
  obtain ⟨h1, h2⟩ := h
  have h3 : textB (numsT ts s.args) = textB (numsT ts t.args) := by simpa using congrArg Array.toList h2
  have h4 := textB_inj (fun x hx => Nat.lt_of_lt_of_le (nums_lt hs x hx) hl) (fun x hx => Nat.lt_of_lt_of_le (nums_lt ht x hx) hl) h3
  rw [← Tm.eta s, ← Tm.eta t, h1, nums_inj hs ht h4]
theorem bankV_key (p : BPl) (ts : List Tm) (x : Int × ByteArray) : bankV p ts x = (ts.zipIdx.find? fun q => decide (keyB ts q.1 = x)).map fun q => p.ptr q.2 := rfl
theorem bankV_some {p : BPl} {ts : List Tm} (ok : BOk ts) (hl : ts.length ≤ 4294967296) {k : Nat} {t : Tm} (ht : ts[k]? = some t) : bankV p ts (keyB ts t) = some (p.ptr k) := by
  rw [bankV_key]
  rcases hf : ts.zipIdx.find? (fun q => decide (keyB ts q.1 = keyB ts t)) with _ | q
  · rw [List.find?_eq_none] at hf
    exact absurd (hf (t, k) (by rw [List.mk_mem_zipIdx_iff_getElem?]; exact ht)) (by simp)
  · have h1 := List.find?_some hf
    have h2 := List.mem_of_find?_eq_some hf
    obtain ⟨u, j⟩ := q
    rw [List.mk_mem_zipIdx_iff_getElem?] at h2
    simp only [decide_eq_true_eq] at h1
    have e := keyB_inj hl (fun a ha => ok.arg (List.mem_of_getElem? h2) ha) (fun a ha => ok.arg (List.mem_of_getElem? ht) ha) h1
    subst e
    have := nodup_at ok.nd h2 ht
    subst this
    rw [hf]
    rfl
theorem bankV_none {p : BPl} {ts : List Tm} (ok : BOk ts) (hl : ts.length ≤ 4294967296) {t : Tm} (ha : ∀ a ∈ t.args, a ∈ ts) (ht : ¬ t ∈ ts) : bankV p ts (keyB ts t) = none := by
  rw [bankV_key, Option.map_eq_none_iff, List.find?_eq_none]
  rintro ⟨u, j⟩ hq
  rw [List.mk_mem_zipIdx_iff_getElem?] at hq
  simp only [decide_eq_true_eq]
  intro e
  have := keyB_inj hl (fun a ha => ok.arg (List.mem_of_getElem? hq) ha) ha e
  subst this
  exact ht (List.mem_of_getElem? hq)
theorem bankV_more {p p' : BPl} {ts : List Tm} (ok : BOk ts) {t : Tm} (ha : ∀ a ∈ t.args, a ∈ ts) (hE : ∀ i, i < ts.length → p'.E i = p.E i) (hn : bankV p ts (keyB ts t) = none) (x : Int × ByteArray) :
    bankV p' (ts ++ [t]) x = if x = keyB ts t then some (p'.ptr ts.length) else bankV p ts x := by
  have hcong : (ts.zipIdx.find? fun q => decide (keyB (ts ++ [t]) q.1 = x)) = ts.zipIdx.find? fun q => decide (keyB ts q.1 = x) := find_cong fun q hq => by
    obtain ⟨u, j⟩ := q
    rw [List.mk_mem_zipIdx_iff_getElem?] at hq
    have : keyB (ts ++ [t]) u = keyB ts u := by
      simp only [keyB]
      rw [nums_pre fun a hau => ok.arg (List.mem_of_getElem? hq) hau]
    show decide (keyB (ts ++ [t]) u = x) = decide (keyB ts u = x)
    rw [this]
  have hkt : keyB (ts ++ [t]) t = keyB ts t := by simp only [keyB]; rw [nums_pre ha]
  have hmap : (ts.zipIdx.find? fun q => decide (keyB ts q.1 = x)).map (fun q => p'.ptr q.2) = bankV p ts x := by
    rw [bankV_key]
    rcases hf : ts.zipIdx.find? (fun q => decide (keyB ts q.1 = x)) with _ | q
    · rw [hf]; rfl
    · have h2 := List.mem_of_find?_eq_some hf
      obtain ⟨u, j⟩ := q
      rw [List.mk_mem_zipIdx_iff_getElem?] at h2
      have := (List.getElem?_eq_some_iff.1 h2).1
      rw [hf]
      simp only [Option.map_some, BPl.ptr, hE j this]
  rw [bankV_key, List.zipIdx_append, List.find?_append, hcong]
  by_cases hx : x = keyB ts t
  · rw [if_pos hx]
    subst hx
    rw [bankV_key, Option.map_eq_none_iff] at hn
    rw [hn]
    simp [hkt]
  · rw [if_neg hx, ← hmap]
    have hx2 : ¬ keyB ts t = x := fun e => hx e.symm
    rcases hf : ts.zipIdx.find? (fun q => decide (keyB ts q.1 = x)) with _ | q
    · rw [hf]; simp [hkt, hx2]
    · rw [hf]; simp
def usJ (ts : List Tm) (l : List Nat) (i : Nat) : List Nat := usT ts i ++ if l.contains i then [ts.length] else []
theorem usJ_len (ts : List Tm) (l : List Nat) (i : Nat) : (usJ ts l i).length ≤ ts.length + 1 := by
  unfold usJ usT
  rw [List.length_append]
  have h1 := List.length_filter_le (fun k => (numsT ts (ts.getD k (.node 0 [])).args).contains i) (List.range ts.length)
  rw [List.length_range] at h1
  split <;> simp only [List.length_singleton, List.length_nil] <;> omega
theorem usJ_use {ts xs : List Tm} {j : Nat} {a : Tm} (ha : xs[j]? = some a) : useI ((usJ ts (numsT ts (xs.take j)) (idxT ts a)).map Int.ofNat) (ts.length : Int) = (usJ ts (numsT ts (xs.take (j + 1))) (idxT ts a)).map Int.ofNat := by
  have h1 : numsT ts (xs.take (j + 1)) = numsT ts (xs.take j) ++ [idxT ts a] := by rw [List.take_add_one, ha]; simp [numsT]
  have h2 : (numsT ts (xs.take (j + 1))).contains (idxT ts a) = true := by rw [h1]; simp
  unfold useI usJ
  rw [h2, if_pos rfl]
  by_cases hc : (numsT ts (xs.take j)).contains (idxT ts a) = true
  · rw [if_pos hc, if_pos (by simp)]
  · rw [if_neg hc, List.append_nil, if_neg, List.map_append]
    · rfl
    · intro e
      rw [List.getLast?_map] at e
      rcases hg : (usT ts (idxT ts a)).getLast? with _ | z
      · rw [hg] at e; simp at e
      · rw [hg] at e
        simp only [Option.map_some, Option.some.injEq] at e
        have := usT_lt (List.mem_of_getLast? hg)
        have : z = ts.length := by
          have e' : (z : Int) = (ts.length : Int) := e
          omega
        omega
theorem usJ_other {ts xs : List Tm} {j : Nat} {a : Tm} (ha : xs[j]? = some a) {k : Nat} (hk : k ≠ idxT ts a) : usJ ts (numsT ts (xs.take (j + 1))) k = usJ ts (numsT ts (xs.take j)) k := by
  have h1 : numsT ts (xs.take (j + 1)) = numsT ts (xs.take j) ++ [idxT ts a] := by rw [List.take_add_one, ha]; simp [numsT]
  unfold usJ
  rw [h1]
  have : (numsT ts (xs.take j) ++ [idxT ts a]).contains k = (numsT ts (xs.take j)).contains k := by
    rw [Bool.eq_iff_iff]; simp [hk]
  rw [this]
theorem usJ_nil (ts : List Tm) (i : Nat) : usJ ts [] i = usT ts i := by simp [usJ]
structure Grew (w w' : World) (tag tag' : Nat → Nat) (p p' : BPl) (N : Nat) : Prop where
  k : KeepsC (fun g => tag g ≠ 0) w w'
  t : ∀ g, g < w.heap.size → tag' g = tag g
  bx : p'.bx = p.bx
  sx : p'.sx = p.sx
  mp : p'.mp = p.mp
  E : ∀ i, i < N → p'.E i = p.E i
theorem Grew.below {w w' : World} {tag : Nat → Nat} {p : BPl} {N : Nat} (h : Below w.heap.size w w') : Grew w w' tag tag p p N := ⟨KeepsC.of_below h, fun _ _ => rfl, rfl, rfl, rfl, fun _ _ => rfl⟩
theorem Grew.trans {w w1 w2 : World} {tag tag1 tag2 : Nat → Nat} {p p1 p2 : BPl} {N M : Nat} (h : Grew w w1 tag tag1 p p1 N) (k : Grew w1 w2 tag1 tag2 p1 p2 M) (hN : N ≤ M) : Grew w w2 tag tag2 p p2 N := by
  have s1 := h.k.size
  refine ⟨Keeps.trans h.k.k (Keeps.mono k.k.k fun g e => ⟨by have := e.1; omega, fun e2 => e.2 ?_⟩), fun g hg => (k.t g (by omega)).trans (h.t g hg), k.bx.trans h.bx, k.sx.trans h.sx, k.mp.trans h.mp, fun i hi => (k.E i (by omega)).trans (h.E i hi)⟩
  show tag g ≠ 0
  rw [← h.t g e.1]; exact e2
structure GrewX (w w' : World) (tag tag' : Nat → Nat) (p p' : BPl) (N : Nat) (V : Value) : Prop where
  k : KeepsC (fun g => tag g ≠ 0) w w'
  t : ∀ g, g < w.heap.size → V.ownBlock ≠ some g → tag' g = tag g
  bx : p'.bx = p.bx
  sx : p'.sx = p.sx
  mp : p'.mp = p.mp
  E : ∀ i, i < N → p'.E i = p.E i
theorem Grew.transX {w w1 w2 : World} {tag tag1 tag2 : Nat → Nat} {p p1 p2 : BPl} {N M : Nat} {V : Value} (h : Grew w w1 tag tag1 p p1 N) (k : GrewX w1 w2 tag1 tag2 p1 p2 M V) (hN : N ≤ M) : GrewX w w2 tag tag2 p p2 N V := by
  have s1 := h.k.size
  refine ⟨Keeps.trans h.k.k (Keeps.mono k.k.k fun g e => ⟨by have := e.1; omega, fun e2 => e.2 ?_⟩), fun g hg hv => (k.t g (by omega) hv).trans (h.t g hg), k.bx.trans h.bx, k.sx.trans h.sx, k.mp.trans h.mp, fun i hi => (k.E i (by omega)).trans (h.E i hi)⟩
  show tag g ≠ 0
  rw [← h.t g e.1]; exact e2
theorem Grew.transF {w w1 w2 : World} {tag tag1 tag2 : Nat → Nat} {p p1 p2 : BPl} {N M : Nat} {V : Value} (h : Grew w w1 tag tag1 p p1 N) (k : GrewX w1 w2 tag1 tag2 p1 p2 M V) (hN : N ≤ M) (hV : ∀ g, V.ownBlock = some g → w.heap.size ≤ g) : Grew w w2 tag tag2 p p2 N := by
  have x := h.transX k hN
  exact ⟨x.k, fun g hg => x.t g hg fun e => by have := hV g e; omega, x.bx, x.sx, x.mp, x.E⟩
section
variable {w w3 w4 w5 : World} {tag : Nat → Nat} {p : BPl} {sy : List Sm} {As : Option Addr} {n cs : Nat} {ts : List Tm} {us : Nat → List Nat}
theorem BankU.more (h : BankU w tag p sy As n cs ts us) {t : Tm} {e : Nat} {VA v3 : Value} {ob : Obj} (har : ∀ a ∈ t.args, a ∈ ts) (hnew : ¬ t ∈ ts) (hf : I64 t.fn) (hV : bankV p ts (keyB ts t) = none)
    (hE : w.heap[e]? = some (.cells #[.int .i64 (ts.length : Int), .int .i64 t.fn, VA, .int .i64 (t.size : Int), .bool (grB t), .slice none 0 0] 79)) (hte : tag e = 2 * ts.length + 5)
    (hA : w.ownsRow 0 80 1 VA t.args.length (t.args.map fun a => p.ptr (idxT ts a))) (htA : ∀ g, VA.ownBlock = some g → tag g = 0) (hus : ∀ i, i < ts.length → us i = usT (ts ++ [t]) i)
    (h3o : w3.ownsRow 0 80 1 v3 (ts.length + 1) ((List.range ts.length).map p.ptr ++ [.pointer (some ⟨e, 0, none⟩)])) (h3g : (w.alloc ob).grownBy w3 p.T.ownBlock) (h3a : v3.ownBlock = p.T.ownBlock ∨ v3.ownBlock = some (w.alloc ob).heap.size)
    (h4 : Below w3.heap.size (w3.setCell ⟨p.sx, 1, none⟩ v3) w4) (hm : BMap w5 p.mp (ts.length + 1) (fun y => if y = keyB ts t then some (.pointer (some ⟨e, 0, none⟩)) else bankV p ts y)) (h5 : w4.grownBy w5 (some p.mp)) :
    ∃ p' tag', BankW w5 tag' p' sy As n cs (ts ++ [t]) ∧ p'.E ts.length = e ∧ GrewX w w5 tag tag' p p' ts.length VA := by
  have lt := fun {j : Nat} {ob : Obj} (e : w.heap[j]? = some ob) => (Array.getElem?_eq_some_iff.1 e).1
  have il : ∀ {j : Nat} {t : Tm}, ts[j]? = some t → j < ts.length := fun {j t} e => (List.getElem?_eq_some_iff.1 e).1
  have s3 : w.heap.size + 1 ≤ w3.heap.size := by simpa using h3g.size
  have s4 : w3.heap.size ≤ w4.heap.size := by simpa using h4.size
  have s5 := h5.size
  have hsx := lt h.st
  have hmp := h.map.lt
  have hw3 : ∀ g, g < w.heap.size → tag g ≠ 3 → w3.heap[g]? = w.heap[g]? := fun g hg e1 => (h3g.block g (by simp; omega) (fun e2 => e1 (h.tT g e2.symm))).trans (Below.heap_alloc w ob g hg)
  have hv3 : ∀ g, v3.ownBlock = some g → p.T.ownBlock = some g ∨ w.heap.size + 1 = g := fun g e1 => by
    rcases h3a with h' | h'
    · exact .inl (h' ▸ e1)
    · rw [h'] at e1; injection e1 with e1; simp at e1; exact .inr e1
  have hv3lt : ∀ g, v3.ownBlock = some g → g < w3.heap.size := fun g e1 => (row_lt h3o g e1).2
  have hnsx : v3.ownBlock ≠ some p.sx := fun e1 => by
    rcases hv3 _ e1 with h' | h'
    · have := h.tT _ h'; rw [h.tS] at this; omega
    · omega
  have hnmp : v3.ownBlock ≠ some p.mp := fun e1 => by
    rcases hv3 _ e1 with h' | h'
    · have := h.tT _ h'; rw [h.tM] at this; omega
    · omega
  have h35 : ∀ g, g < w3.heap.size → g ≠ p.sx → g ≠ p.mp → w5.heap[g]? = w3.heap[g]? := fun g hg e1 e2 => (h5.block g (by omega) (fun e3 => e2 (by injection e3))).trans ((h4.block g hg).trans (heap_setCell_other w3 ⟨p.sx, 1, none⟩ g _ e1))
  have kk : ∀ g, g < w.heap.size → tag g ≠ 1 → tag g ≠ 2 → tag g ≠ 3 → w5.heap[g]? = w.heap[g]? := fun g hg e1 e2 e3 => (h35 g (by omega) (fun e4 => e1 (e4 ▸ h.tS)) (fun e4 => e2 (e4 ▸ h.tM))).trans (hw3 g hg e3)
  have hK : KeepsC (fun g => tag g ≠ 0) w w5 := ⟨by rw [h5.os, h4.os]; show w3.os = _; rw [h3g.os]; rfl, by rw [h5.tape, h4.tape]; show w3.tape = _; rw [h3g.tape]; rfl, by rw [h5.output, h4.output]; show w3.output = _; rw [h3g.output]; rfl, by omega, fun g hg => by
    have := hg.2
    have e0 : tag g = 0 := by
      rcases Nat.eq_zero_or_pos (tag g) with e | e
      · exact e
      · exact absurd (by omega) this
    exact kk g hg.1 (by omega) (by omega) (by omega)⟩
  have k2 : ∀ {v : Value} {m : Nat} {vs : List Value} {ty : TypeId}, w.ownsRow 0 ty 1 v m vs → (∀ g, v.ownBlock = some g → tag g ≠ 1 ∧ tag g ≠ 2 ∧ tag g ≠ 3) → w5.ownsRow 0 ty 1 v m vs := fun {v m vs ty} hr ht => row_keep hr fun g e => kk g (row_lt hr g e).2 (ht g e).1 (ht g e).2.1 (ht g e).2.2
  let p' : BPl := { p with T := v3, E := fun k => if k = ts.length then e else p.E k, A := fun k => if k = ts.length then VA else p.A k, U := fun k => if k = ts.length then .slice none 0 0 else p.U k }
  have hvA : ∀ g, VA.ownBlock = some g → g < w.heap.size ∧ v3.ownBlock ≠ some g := fun g e1 => ⟨(row_lt hA g e1).2, fun e2 => by
    have h1 := htA g e1
    rcases hv3 g e2 with h2 | h2
    · have := h.tT g h2; omega
    · have := (row_lt hA g e1).2; omega⟩
  let tag' : Nat → Nat := fun g => if v3.ownBlock = some g then 3 else if VA.ownBlock = some g then 4 else tag g
  have htx : ∀ g, g < w.heap.size → VA.ownBlock ≠ some g → tag' g = tag g := fun g hg hv => by
    show (if v3.ownBlock = some g then 3 else if VA.ownBlock = some g then 4 else tag g) = tag g
    split
    · rename_i e1
      rcases hv3 g e1 with h' | h'
      · exact (h.tT g h').symm
      · omega
    · first | rfl | rw [if_neg hv]
  have hto : ∀ {g m : Nat}, g < w.heap.size → tag g = m + 1 → tag' g = m + 1 := fun {g m} hg e1 => (htx g hg fun e2 => by have := htA g e2; omega).trans e1
  have pE : ∀ i, i < ts.length → p'.E i = p.E i := fun i hi => by show (if i = ts.length then e else p.E i) = _; rw [if_neg (by omega)]
  have pA : ∀ i, i < ts.length → p'.A i = p.A i := fun i hi => by show (if i = ts.length then VA else p.A i) = _; rw [if_neg (by omega)]
  have pU : ∀ i, i < ts.length → p'.U i = p.U i := fun i hi => by show (if i = ts.length then Value.slice none 0 0 else p.U i) = _; rw [if_neg (by omega)]
  have pE0 : p'.E ts.length = e := if_pos rfl
  have pA0 : p'.A ts.length = VA := if_pos rfl
  have pU0 : p'.U ts.length = .slice none 0 0 := if_pos rfl
  have pP : ∀ i, i < ts.length → p'.ptr i = p.ptr i := fun i hi => by unfold BPl.ptr; rw [pE i hi]
  have pP0 : p'.ptr ts.length = .pointer (some ⟨e, 0, none⟩) := by unfold BPl.ptr; rw [pE0]
  have hat : ∀ (i : Nat) (t' : Tm), (ts ++ [t])[i]? = some t' → (i < ts.length ∧ ts[i]? = some t') ∨ (i = ts.length ∧ t' = t) := fun i t' e1 => by
    rcases Nat.lt_or_ge i ts.length with hi | hi
    · rw [List.getElem?_append_left hi] at e1; exact .inl ⟨hi, e1⟩
    · rw [List.getElem?_append_right hi] at e1
      have hk0 : i - ts.length = 0 := by
        have := (List.getElem?_eq_some_iff.1 e1).1
        simp at this; omega
      rw [hk0] at e1
      simp at e1
      exact .inr ⟨by omega, e1.symm⟩
  have hlen : (ts ++ [t]).length = ts.length + 1 := by simp
  have hargs : ∀ xs : List Tm, (∀ a ∈ xs, a ∈ ts) → xs.map (fun a => p'.ptr (idxT (ts ++ [t]) a)) = xs.map fun a => p.ptr (idxT ts a) := fun xs hx => List.map_congr_left fun a ha => by
    rw [idxT_pre (hx a ha), pP _ (idxT_lt.2 (hx a ha))]
  refine ⟨p', tag', ⟨?_, ?_, ?_, ?_, ?_, ?_, ?_, ?_, ?_, ?_, ?_, ?_, ?_, ?_, ?_, ?_, ?_, ?_, ?_⟩, pE0, hK, htx, rfl, rfl, rfl, pE⟩
  · exact (kk _ (lt h.bxc) (by rw [h.tB]; omega) (by rw [h.tB]; omega) (by rw [h.tB]; omega)).trans h.bxc
  · have h1 : w3.heap[p.sx]? = some (.cells #[.slice As n cs, p.T, .map (some p.mp)] 72) := (hw3 _ hsx (by rw [h.tS]; omega)).trans h.st
    have h2 := heap_setCell_same w3 p.sx 1 _ _ v3 h1
    have h6 : p.sx ≠ p.mp := fun e1 => by have := h.tS; rw [e1, h.tM] at this; omega
    exact ((h5.block p.sx (by omega) (fun e3 => h6 (by injection e3))).trans (h4.block p.sx (by omega))).trans (by simpa using h2)
  · exact syms_keepT h.sig hK.size fun h0 g off sp e1 hg => kk g hg (by rw [h.sgO h0 g off sp e1]; omega) (by rw [h.sgO h0 g off sp e1]; omega) (by rw [h.sgO h0 g off sp e1]; omega)
  · intro h0 g off sp e1
    obtain ⟨b, off2, hA1, hlt, _⟩ := h.sig.ad h0
    have hg : g < w.heap.size := by
      rw [e1] at hA1; injection hA1 with hA1; injection hA1 with hA1 _; omega
    exact hto hg (h.sgO h0 g off sp e1)
  · rw [hlen]
    exact hm.ext fun y => by rw [bankV_more h.ok har pE hV y, pP0]
  · have hr : w5.ownsRow 0 80 1 v3 (ts.length + 1) ((List.range ts.length).map p.ptr ++ [.pointer (some ⟨e, 0, none⟩)]) := row_keep h3o fun g e1 => h35 g (hv3lt g e1) (fun e2 => hnsx (e2 ▸ e1)) (fun e2 => hnmp (e2 ▸ e1))
    rw [hlen, List.range_succ, List.map_append]
    have : (List.range ts.length).map p'.ptr = (List.range ts.length).map p.ptr := List.map_congr_left fun i hi => pP i (List.mem_range.1 hi)
    rw [this]
    simpa [pP0] using hr
  · intro i t' e1
    rcases hat i t' e1 with ⟨hi, e2⟩ | ⟨rfl, rfl⟩
    · rw [pE i hi, pA i hi, pU i hi]
      have := h.tE i hi
      exact (kk _ (lt (h.ent i t' e2)) (by omega) (by omega) (by omega)).trans (h.ent i t' e2)
    · rw [pE0, pA0, pU0]
      exact (kk _ (lt hE) (by omega) (by omega) (by omega)).trans hE
  · intro i t' e1
    rcases hat i t' e1 with ⟨hi, e2⟩ | ⟨rfl, rfl⟩
    · rw [pA i hi, hargs _ fun a ha => h.ok.arg (List.mem_of_getElem? e2) ha]
      exact k2 (h.arg i t' e2) fun g e3 => by rw [h.tA i g hi e3]; omega
    · rw [pA0, hargs _ har]
      exact k2 hA fun g e3 => by rw [htA g e3]; omega
  · intro i hi
    rw [hlen] at hi
    rcases Nat.lt_or_ge i ts.length with h1 | h1
    · rw [pU i h1, ← hus i h1]
      exact ⟨k2 (h.us i h1).row fun g e3 => by rw [h.tU i g h1 e3]; omega, (h.us i h1).i64⟩
    · obtain rfl : i = ts.length := by omega
      rw [pU0]
      have : usT (ts ++ [t]) ts.length = [] := by
        rw [usT_add h.ok har, usT_new h.ok]
        have : (numsT ts t.args).contains ts.length = false := by
          rw [Bool.eq_false_iff]
          intro hc
          rw [List.contains_iff_mem] at hc
          exact absurd (nums_lt har _ hc) (by omega)
        rw [this]; simp
      rw [this]
      exact ⟨⟨rfl, .inl ⟨rfl, rfl⟩⟩, fun x hx => by simp at hx⟩
  · have := h.ok.ad1 (t := t) har
    unfold ad1 at this
    rwa [if_neg fun e1 => hnew (idxT_lt.1 e1)] at this
  · intro u hu
    rcases List.mem_append.1 hu with hu | hu
    · exact h.i64 u hu
    · simp at hu; subst hu; exact hf
  · exact hto (lt h.bxc) h.tB
  · exact hto hsx h.tS
  · exact hto hmp h.tM
  · intro g e1
    exact if_pos e1
  · intro i hi
    rw [hlen] at hi
    rcases Nat.lt_or_ge i ts.length with h1 | h1
    · rw [pE i h1]; exact hto (lt (h.ent i _ (List.getElem?_eq_getElem h1))) (h.tE i h1)
    · obtain rfl : i = ts.length := by omega
      rw [pE0]; exact hto (lt hE) hte
  · intro i g hi e1
    rw [hlen] at hi
    rcases Nat.lt_or_ge i ts.length with h1 | h1
    · rw [pU i h1] at e1; exact hto (row_lt (h.us i h1).row g e1).2 (h.tU i g h1 e1)
    · obtain rfl : i = ts.length := by omega
      rw [pU0] at e1; simp [Value.ownBlock] at e1
  · intro i g hi e1
    rw [hlen] at hi
    rcases Nat.lt_or_ge i ts.length with h1 | h1
    · rw [pA i h1] at e1; exact hto (row_lt (h.arg i _ (List.getElem?_eq_getElem h1)) g e1).2 (h.tA i g h1 e1)
    · obtain rfl : i = ts.length := by omega
      rw [pA0] at e1; show (if v3.ownBlock = some g then 3 else if VA.ownBlock = some g then 4 else tag g) = 4; rw [if_neg (hvA g e1).2, if_pos e1]
  · intro g hg
    show (if v3.ownBlock = some g then 3 else if VA.ownBlock = some g then 4 else tag g) = 0
    rw [if_neg fun e1 => by have := hv3lt g e1; omega, if_neg fun e1 => by have := (hvA g e1).1; omega]
    exact h.hi g (by omega)
end
end Go.Proofs.YtmmiclpedehcpaaDoor
namespace Go.Proofs.YtmmiclpedehcpaaDoor
open Go Go.RowKit Go.Shelf Go.Maps
set_option maxRecDepth 100000
theorem info_u8 : (Tryd.prog.info? 5).map (fun i => (i.zero, i.size, i.bytes)) = some (some (.int .u8 0), 1, 1) := by kernel_rfl
def BytR (w : World) (base : Nat) (v : Value) (l : List UInt8) : Prop := w.ownsRow base 5 1 v l.length (l.map fun b => .int .u8 (b.toNat : Int))
theorem BytR.text {w : World} {base : Nat} {A : Option Addr} {m c : Nat} {l : List UInt8} (h : BytR w base (.slice A m c) l) : (convert 117 9 (.slice A m c)).run Tryd.prog w = .ok (.string ⟨l.toArray⟩) w := by
  have h0 := h
  rcases h.2 with ⟨e, hz⟩ | ⟨g, cap, cur, e, hb, hg, hn, hm, hs, hc⟩
  · injection e with e1 e2 e3
    subst e1; subst e2; subst e3
    have hl : l = [] := List.eq_nil_of_length_eq_zero (by omega)
    subst hl
    rw [run_convert_bytes_string w 117 9 5 none 0 0 Tryd.underlying117 Tryd.underlying5 Tryd.underlying9]
    rfl
  · injection e with e1 e2 e3
    subst e1; subst e2; subst e3
    refine run_convert_bytes_back _ 117 9 5 _ _ l Tryd.underlying117 Tryd.underlying5 Tryd.underlying9 fun j hj => ?_
    have := World.ownsRow.cellAt h0 j (by simpa using hj)
    rw [Addr.add_lit, Nat.zero_add, this]
    simp [List.getElem?_eq_getElem hj]
theorem num4_take (q k : Nat) (hk : k < 4) : (num4 q).take (k + 1) = (num4 q).take k ++ [UInt8.ofNat (q / 256 ^ k)] := by
  unfold num4
  match k, hk with
  | 0, _ => simp
  | 1, _ => simp
  | 2, _ => simp
  | 3, _ => simp
section
variable {w : World} {tag : Nat → Nat} {p : BPl} {sy : List Sm} {As : Option Addr} {n cs : Nat} {ts : List Tm}
set_option maxHeartbeats 4000000 in
theorem bText_any (h : BankW w tag p sy As n cs ts) {xs : List Tm} (hx : ∀ a ∈ xs, a ∈ ts) (hxl : xs.length ≤ 1048576) {A : Option Addr} {c base : Nat} (hA : w.ownsRow base 80 1 (.slice A xs.length c) xs.length (xs.map fun a => p.ptr (idxT ts a))) :
    Calls Tryd.prog 54 #[.slice A xs.length c] w fun e w' => e = .returned (.string ⟨(textB (numsT ts xs)).toArray⟩) ∧ Below w.heap.size w w' := by
  obtain ⟨i0, hi, hz0, hz1, hz2⟩ := info_parts info_u8
  have HH := Lib.hid h
  have HXs := Lib.hid hx
  have HAt : Hid (∀ w', Below w.heap.size w w' → ∀ (j : Nat) (a : Tm), xs[j]? = some a → ∃ g, A = some ⟨g, 0, none⟩ ∧ w'.cell? ⟨g, j, none⟩ = some (p.ptr (idxT ts a))) := Lib.hid fun w' hb j a ha => by
    have hj := (List.getElem?_eq_some_iff.1 ha).1
    rcases hA.2 with ⟨_, h0⟩ | ⟨g, cap, cur, e, hb', hg, hn, hm, hs, hc⟩
    · omega
    · injection e with e1 e2 e3
      refine ⟨g, e1, ?_⟩
      have h1 := hA
      rw [e1] at h1
      have h2 : w.cell? ⟨g, j, none⟩ = some (p.ptr (idxT ts a)) := by
        rw [h1.cellAt j (by omega)]
        simp [List.getElem?_map, ha]
      exact cell_on hb (Array.getElem?_eq_some_iff.1 hg).1 h2
  clear h hx hA
  go_enter Tryd.func54, Tryd.ntmps54
  go_wp2
  go_loopw [3, 9] (fun v i wr => ∃ (j : Nat), j ≤ xs.length ∧ i = .int .i64 (j : Int) ∧ Hid (BytR wr w.heap.size v (textB (numsT ts (xs.take j)))) ∧ Below w.heap.size w wr) (fun _ i _ => xs.length - (intOf i).toNat)
  case atStart => exact ⟨0, Nat.zero_le _, rfl, Lib.hid ⟨rfl, .inl ⟨rfl, rfl⟩⟩, Below.refl _ _⟩
  case round =>
    obtain ⟨j, hj, rfl, HI, hBr⟩ := hrel
    by_cases hlt : j < xs.length
    case pos =>
      obtain ⟨a, ha⟩ : ∃ a, xs[j]? = some a := ⟨_, List.getElem?_eq_getElem hlt⟩
      obtain ⟨g, hA2, c0⟩ := HAt.out _ hBr j a ha
      subst hA2
      have hai := idxT_at (HXs.out a (List.mem_of_getElem? ha))
      have hq := (List.getElem?_eq_some_iff.1 hai).1
      have HAI := Lib.hid hai
      have hnx : textB (numsT ts (xs.take (j + 1))) = textB (numsT ts (xs.take j)) ++ num4 (idxT ts a) := by
        rw [List.take_add_one, ha]
        simp [numsT, textB]
      obtain ⟨q, hqe⟩ : ∃ q, idxT ts a = q := ⟨_, rfl⟩
      rw [hqe] at c0 hq hnx HAI
      unfold BPl.ptr at c0
      obtain ⟨bs, hbs⟩ : ∃ bs, textB (numsT ts (xs.take j)) = bs := ⟨_, rfl⟩
      have hbl : bs.length ≤ 4194304 := by rw [← hbs, textB_len]; simp [numsT]; omega
      rw [hbs] at HI hnx
      have HNX := Lib.hid hnx
      have hlt2 : (j : Int) < (xs.length : Int) := by omega
      clear ha hai hqe hnx hbs
      go_wp2
      obtain ⟨wo, hwo⟩ : ∃ wo : World, wo = wr := ⟨_, rfl⟩
      rw [← hwo] at HI hBr c0 ⊢
      clear hwo c0
      go_loopw [3, 6] (fun v s wi => ∃ (k : Nat), k ≤ 4 ∧ s = .int .i64 ((8 * k : Nat) : Int) ∧ Hid (BytR wi w.heap.size v (bs ++ (num4 q).take k)) ∧ Below w.heap.size w wi) (fun _ s _ => 32 - (intOf s).toNat)
      case atStart => exact ⟨0, Nat.zero_le _, rfl, by simpa using HI, hBr⟩
      case round =>
        obtain ⟨k, hk, rfl, HB, hBi⟩ := hrel
        obtain ⟨d0, _⟩ := (HH.out.on hBi).entC HAI.out
        obtain ⟨Av, cv, hv⟩ := row_slice HB.out
        subst hv
        by_cases hk4 : k < 4
        case pos =>
          have hsh : ((8 * k : Nat) : Int) < 32 := by omega
          have htk := num4_take q k hk4
          have HTK := Lib.hid htk
          obtain ⟨l, hl⟩ : ∃ l, bs ++ (num4 q).take k = l := ⟨_, rfl⟩
          have hll : l.length ≤ 4194308 := by rw [← hl]; simp; omega
          rw [hl] at HB ⊢
          have HL := Lib.hid hl
          have hrl := row_lt HB.out
          have hzz := hBi.size
          clear htk hl
          have hby : ((q : Int) / 2 ^ (8 * k) % 256) = ((UInt8.ofNat (q / 256 ^ k)).toNat : Int) := by
            have e : 256 ^ k = 2 ^ (8 * k) := by rw [Nat.pow_mul]
            rw [UInt8.toNat_ofNat', e]; push_cast; rfl
          have HBY := Lib.hid hby
          have hw8 : IntKind.i64.wrap ((8 : Int) * (k : Int) + 8) = ((8 * (k + 1) : Nat) : Int) := by rw [IntKind.wrap_i64]; omega
          clear hby
          go_wp2_with (first
            | (at_builtin
               go_must (
               refine wpList_append_own_at _ rfl _ _ 117 rfl w.heap.size 5 i0 (.int .u8 0) 1 1 Tryd.underlying117 hi hz0 hz1 hz2 rfl (by decide) (.slice Av l.length cv) l.length _ rfl (row_keep HB.out fun g e => Below.heap_alloc wr _ g (hrl g e).2) ⟨wr.heap.size, 0, none⟩ 1 1 [.int .u8 ((q : Int) / 2 ^ (8 * k) % 256)] rfl rfl (cell_one_new _ _ _) (by simp [Value.oneCell']) (by unfold maxLen; omega) (by omega) (by simp; omega) ?_
               intro v5 w5 hown5 hgr5 _ hat5
               have HN : Hid (BytR w5 w.heap.size v5 (l ++ [UInt8.ofNat (q / 256 ^ k)])) := Lib.hid (by
                 rw [HBY.out] at hown5
                 unfold BytR
                 simpa using hown5)
               have HB5 : Hid (Below w.heap.size w w5) := Lib.hid ((hBi.alloc hBi.size _).trans ⟨hgr5.os, hgr5.tape, hgr5.output, hgr5.size, fun g hg => hgr5.block g (by simp; omega) fun e => by have := (hrl g e.symm).1; omega⟩)
               clear hown5 hgr5 hat5))
            | fail)
          go_roundw
          case rel => exact ⟨k + 1, by omega, by first | rfl | (rw [hw8]) | go_num, by rw [HTK.out, ← List.append_assoc, HL.out]; exact HN, HB5.out⟩
          case measure => simp [intOf]; omega
        case neg =>
          obtain rfl : k = 4 := by omega
          have h4 : bs ++ (num4 q).take 4 = textB (numsT ts (xs.take (j + 1))) := by rw [HNX.out]; rfl
          rw [h4] at HB ⊢
          have hwr1 : IntKind.i64.wrap ((j : Int) + 1) = (j : Int) + 1 := by rw [IntKind.wrap_i64]; omega
          clear h4
          go_wp2
          go_roundw
          case rel => exact ⟨j + 1, by omega, by go_num, HB, hBi⟩
          case measure => simp [intOf]; omega
    case neg =>
      obtain rfl : j = xs.length := by omega
      have HI2 := HI.out
      rw [List.take_length] at HI2
      obtain ⟨Av, cv, hv⟩ := row_slice HI2
      subst hv
      have hcv := HI2.text
      clear HI2
      go_wp2
      go_ret
      exact ⟨rfl, hBr⟩
end
end Go.Proofs.YtmmiclpedehcpaaDoor
namespace Go.Proofs.YtmmiclpedehcpaaDoor
open Go.RowKit
set_option maxRecDepth 100000
theorem sizes_snoc : ∀ (xs : List Tm) (u : Tm), sizes (xs ++ [u]) = sizes xs + u.size
  | [], u => by simp [sizes]
  | x :: xs, u => by simp only [List.cons_append, sizes, sizes_snoc xs u]; omega
theorem sizes_take {xs : List Tm} {k : Nat} {u : Tm} (h : xs[k]? = some u) : sizes (xs.take (k + 1)) = sizes (xs.take k) + u.size := by
  rw [List.take_add_one, h]; exact sizes_snoc _ _
theorem sizes_le (xs : List Tm) (k : Nat) : sizes (xs.take k) ≤ sizes xs := by
  have key : ∀ (ys zs : List Tm), sizes zs ≤ sizes (zs ++ ys) := by
    intro ys zs
    induction zs with
    | nil => simp [sizes]
    | cons z zs ih => simp only [List.cons_append, sizes]; omega
  have := key (xs.drop k) (xs.take k)
  rwa [List.take_append_drop] at this
end Go.Proofs.YtmmiclpedehcpaaDoor
namespace Go.Proofs.YtmmiclpedehcpaaDoor
open Go Go.RowKit Go.Shelf Go.Maps
set_option maxRecDepth 100000
def entC6 (N : Nat) (f : Int) (VA : Value) (s : Nat) (g : Bool) (v : Value) : Obj := .cells #[.int .i64 (N : Int), .int .i64 f, VA, .int .i64 (s : Int), .bool g, v] 79
structure AddI (w1 wr : World) (e : Nat) (VA : Value) (tag1 tagr : Nat → Nat) (p pr : BPl) (sy : List Sm) (As : Option Addr) (n cs : Nat) (ts : List Tm) (t : Tm) (j : Nat) : Prop where
  b : BankU wr tagr pr sy As n cs ts (usJ ts (numsT ts (t.args.take j)))
  en : wr.heap[e]? = some (entC6 ts.length t.fn VA (sizes (t.args.take j) + 1) (decide (0 ≤ t.fn) && grL (t.args.take j)) (.slice none 0 0))
  te : tagr e = 2 * ts.length + 5
  g : Grew w1 wr tag1 tagr p pr ts.length
section
variable {w1 wr X w2 : World} {e : Nat} {VA : Value} {tag1 tagr : Nat → Nat} {p pr : BPl} {sy : List Sm} {As : Option Addr} {n cs : Nat} {ts : List Tm} {t : Tm} {j : Nat}
theorem AddI.mid (h : AddI w1 wr e VA tag1 tagr p pr sy As n cs ts t j) {ob : Obj} (hk : KeepsC (· = e) wr X) (hX : X.heap[e]? = some ob) : BankU X tagr pr sy As n cs ts (usJ ts (numsT ts (t.args.take j))) ∧ Grew w1 X tag1 tagr p pr ts.length := by
  refine ⟨h.b.keep hk.size (fun g hg _ e1 => hk.block hg fun e2 => ?_) (fun _ _ => rfl) (fun g hg => h.b.hi g (Nat.le_trans hk.size hg)), h.g.trans ⟨hk.mono fun g e1 => ?_, fun _ _ => rfl, rfl, rfl, rfl, fun _ _ => rfl⟩ (Nat.le_refl _)⟩
  · subst e2; have := h.te; omega
  · subst e1; have := h.te; omega
theorem AddI.next (h : AddI w1 wr e VA tag1 tagr p pr sy As n cs ts t j) {a : Tm} (ha : t.args[j]? = some a) (hai : ts[idxT ts a]? = some a) (hk : KeepsC (· = e) wr X)
    (hX : X.heap[e]? = some (entC6 ts.length t.fn VA (sizes (t.args.take (j + 1)) + 1) (decide (0 ≤ t.fn) && grL (t.args.take (j + 1))) (.slice none 0 0)))
    {v' : Value} (hu : UseP X w2 (pr.E (idxT ts a)) (.int .i64 ((idxT ts a : Nat) : Int)) (.int .i64 a.fn) (pr.A (idxT ts a)) (.int .i64 (a.size : Int)) (.bool (grB a)) (pr.U (idxT ts a)) v' (useI ((usJ ts (numsT ts (t.args.take j)) (idxT ts a)).map Int.ofNat) (ts.length : Int))) :
    ∃ tag2 p2, AddI w1 w2 e VA tag1 tag2 p p2 sy As n cs ts t (j + 1) := by
  obtain ⟨hb, hg⟩ := h.mid hk hX
  rw [usJ_use ha] at hu
  have hi := (List.getElem?_eq_some_iff.1 hai).1
  obtain ⟨b2, k2⟩ := hb.use hai hu
  refine ⟨_, _, b2.ext fun i _ => ?_, ?_, ?_, hg.trans ⟨k2.mono fun g e1 => ?_, fun g hgl => tagU_old hb hi hu.blk hgl, rfl, rfl, rfl, fun _ _ => rfl⟩ (Nat.le_refl _)⟩
  · by_cases e1 : i = idxT ts a
    · subst e1; rw [if_pos rfl]
    · rw [if_neg e1, usJ_other ha e1]
  · rw [k2.block (Array.getElem?_eq_some_iff.1 hX).1 (fun e1 => by have := h.te; rcases e1 with e1 | e1 <;> omega)]
    exact hX
  · rw [tagU_old hb hi hu.blk (Array.getElem?_eq_some_iff.1 hX).1]; exact h.te
  · rcases e1 with e1 | e1 <;> omega
theorem AddI.us (h : AddI w1 wr e VA tag1 tagr p pr sy As n cs ts t t.args.length) (har : ∀ a ∈ t.args, a ∈ ts) : (∀ i, i < ts.length → usJ ts (numsT ts (t.args.take t.args.length)) i = usT (ts ++ [t]) i) ∧ wr.heap[e]? = some (.cells #[.int .i64 (ts.length : Int), .int .i64 t.fn, VA, .int .i64 (t.size : Int), .bool (grB t), .slice none 0 0] 79) := by
  refine ⟨fun i _ => ?_, ?_⟩
  · rw [List.take_length, usT_add h.b.ok har]; rfl
  · have h1 := h.en
    rw [List.take_length] at h1
    have h2 : t.size = sizes t.args + 1 := by cases t; simp [Tm.size, Tm.args]
    have h3 : grB t = (decide (0 ≤ t.fn) && grL t.args) := by cases t; rfl
    rw [h2, h3]; exact h1
end
section
variable {w : World} {tag : Nat → Nat} {p : BPl} {sy : List Sm} {As : Option Addr} {n cs : Nat} {ts : List Tm}
theorem AddI.first (h : BankW w tag p sy As n cs ts) {w1 : World} (hb : Below w.heap.size w w1) {e : Nat} {VA : Value} {t : Tm} (he0 : w.heap.size ≤ e) (he : w1.heap[e]? = some (entC6 ts.length t.fn VA 1 (decide (0 ≤ t.fn)) (.slice none 0 0))) :
    ∃ tag1, (∀ g, g ≠ e → tag1 g = tag g) ∧ AddI w1 w1 e VA tag1 tag1 p p sy As n cs ts t 0 ∧ Grew w w1 tag tag1 p p ts.length := by
  refine ⟨fun g => if g = e then 2 * ts.length + 5 else tag g, fun g hg => if_neg hg, ⟨?_, ?_, if_pos rfl, .below (Below.refl _ _)⟩, ⟨KeepsC.of_below hb, fun g hg => if_neg (by omega), rfl, rfl, rfl, fun _ _ => rfl⟩⟩
  · refine (h.toU.ext fun i _ => (usJ_nil ts i).symm).keep hb.size (fun g hg _ _ => hb.block g hg) (fun g hg => if_neg (by omega)) fun g hg => ?_
    have := (Array.getElem?_eq_some_iff.1 he).1
    rw [if_neg (by omega)]
    exact h.hi g (Nat.le_trans hb.size hg)
  · simpa [sizes, grL] using he
end
end Go.Proofs.YtmmiclpedehcpaaDoor
namespace Go.Proofs.YtmmiclpedehcpaaDoor
open Go Go.RowKit Go.Shelf Go.Maps
set_option maxRecDepth 100000
theorem info_entp : (Tryd.prog.info? 80).map (fun i => (i.zero, i.size, i.bytes)) = some (some (.pointer none), 1, 8) := by kernel_rfl
theorem cells_six {W : World} {b : Nat} {x0 x1 x2 x3 x4 x5 : Value} {t : TypeId} (h : W.heap[b]? = some (.cells #[x0, x1, x2, x3, x4, x5] t)) : W.cell? ⟨b, 0, none⟩ = some x0 ∧ W.cell? ⟨b, 1, none⟩ = some x1 ∧ W.cell? ⟨b, 2, none⟩ = some x2 ∧ W.cell? ⟨b, 3, none⟩ = some x3 ∧ W.cell? ⟨b, 4, none⟩ = some x4 ∧ W.cell? ⟨b, 5, none⟩ = some x5 ∧ W.frozen? ⟨b, 3, none⟩ = false ∧ W.frozen? ⟨b, 4, none⟩ = false := by
  refine ⟨?_, ?_, ?_, ?_, ?_, ?_, ?_, ?_⟩ <;> simp [World.cell?, World.frozen?, h]
def AddPost (w : World) (tag : Nat → Nat) (p : BPl) (sy : List Sm) (As : Option Addr) (n cs : Nat) (ts : List Tm) (t : Tm) (V : Value) (e : Ending) (w' : World) : Prop :=
  ∃ p' tag', e = .returned (p'.ptr ts.length) ∧ BankW w' tag' p' sy As n cs (ts ++ [t]) ∧ GrewX w w' tag tag' p p' ts.length V
section
variable {w : World} {tag : Nat → Nat} {p : BPl} {sy : List Sm} {As : Option Addr} {n cs : Nat} {ts : List Tm}
set_option maxHeartbeats 4000000 in
theorem bAdd_any (h : BankW w tag p sy As n cs ts) {t : Tm} {A : Option Addr} {c : Nat} (hts : ts.length ≤ 2147483648) (hsz : t.size ≤ 4398046511104) (har : ∀ a ∈ t.args, a ∈ ts) (hnew : ¬ t ∈ ts) (hf : I64 t.fn)
    (hA : w.ownsRow 0 80 1 (.slice A t.args.length c) t.args.length (t.args.map fun a => p.ptr (idxT ts a))) (htA : ∀ g, (Value.slice A t.args.length c).ownBlock = some g → tag g = 0) :
    Calls Tryd.prog 32 #[.pointer (some ⟨p.sx, 0, none⟩), .agg #[.int .i64 t.fn, .string (keyB ts t).2], .slice A t.args.length c] w (AddPost w tag p sy As n cs ts t (.slice A t.args.length c)) := by
  obtain ⟨i0, hi, hz0, hz1, hz2⟩ := info_parts info_entp
  obtain ⟨AT, cT, hT⟩ := h.T_slice
  have hlen : t.args.length ≤ 4398046511104 := by have := sizes_len t.args; cases t; simp only [Tm.size, Tm.args] at *; omega
  obtain ⟨k2, hk2⟩ : ∃ k2, (keyB ts t).2 = k2 := ⟨_, rfl⟩
  obtain ⟨W0, hW0⟩ : ∃ W0, w.alloc (.cells #[.int .i64 t.fn, .string k2] 103) = W0 := ⟨_, rfl⟩
  have hB0 : Below w.heap.size w W0 := by rw [← hW0]; exact (Below.refl _ _).alloc (Nat.le_refl _) _
  have q0 := heap_alloc_new w (.cells #[.int .i64 t.fn, .string k2] 103)
  rw [hW0] at q0
  have hs0 : W0.heap.size = w.heap.size + 1 := by rw [← hW0]; simp
  obtain ⟨y0, y1, _, _⟩ := cells_two q0
  obtain ⟨c0, c1, c2, c3⟩ := (h.on hB0).cells
  rw [hT] at c2
  have hB1 : Below w.heap.size w (W0.alloc (.cells #[.int .i64 (ts.length : Int), .int .i64 t.fn, .slice A t.args.length c, .int .i64 1, .bool (decide (0 ≤ t.fn)), .slice none 0 0] 79)).drew := by
    have := hB0.alloc hB0.size (.cells #[.int .i64 (ts.length : Int), .int .i64 t.fn, .slice A t.args.length c, .int .i64 1, .bool (decide (0 ≤ t.fn)), .slice none 0 0] 79)
    exact ⟨this.os, this.tape, this.output, this.size, this.block⟩
  have q1 := heap_alloc_new W0 (.cells #[.int .i64 (ts.length : Int), .int .i64 t.fn, .slice A t.args.length c, .int .i64 1, .bool (decide (0 ≤ t.fn)), .slice none 0 0] 79)
  have q2 : (W0.alloc (.cells #[.int .i64 (ts.length : Int), .int .i64 t.fn, .slice A t.args.length c, .int .i64 1, .bool (decide (0 ≤ t.fn)), .slice none 0 0] 79)).drew.heap[w.heap.size]? = some (.cells #[.int .i64 t.fn, .string k2] 103) := (Below.heap_alloc W0 _ _ (by omega)).trans q0
  obtain ⟨W1, hW1⟩ : ∃ W1, (W0.alloc (.cells #[.int .i64 (ts.length : Int), .int .i64 t.fn, .slice A t.args.length c, .int .i64 1, .bool (decide (0 ≤ t.fn)), .slice none 0 0] 79)).drew = W1 := ⟨_, rfl⟩
  have hq1 : W1.heap[w.heap.size + 1]? = some (entC6 ts.length t.fn (.slice A t.args.length c) 1 (decide (0 ≤ t.fn)) (.slice none 0 0)) := by
    rw [← hW1, ← hs0]; exact q1
  rw [hW1] at hB1 q2
  have hs1 : W1.heap.size = w.heap.size + 2 := by rw [← hW1]; show (W0.alloc _).heap.size = _; simp; omega
  obtain ⟨tag1, htag1, hI, hG⟩ := AddI.first (e := w.heap.size + 1) h hB1 (by omega) hq1
  have HI := Lib.hid hI
  have HG := Lib.hid hG
  have HArg : Hid (∀ wr tagr pr, Grew W1 wr tag1 tagr p pr ts.length → ∀ (j : Nat) (a : Tm), t.args[j]? = some a → ∃ g, A = some ⟨g, 0, none⟩ ∧ wr.cell? ⟨g, j, none⟩ = some (p.ptr (idxT ts a))) := Lib.hid fun wr tagr pr hg j a ha => by
    have hj := (List.getElem?_eq_some_iff.1 ha).1
    rcases hA.2 with ⟨_, h0⟩ | ⟨g, cap, cur, e, hb', hg', hn, hm, hs, hc⟩
    · omega
    · injection e with e1 e2 e3
      refine ⟨g, e1, ?_⟩
      have h1 := hA
      rw [e1] at h1
      have h2 : w.cell? ⟨g, j, none⟩ = some (p.ptr (idxT ts a)) := by
        rw [h1.cellAt j (by omega)]
        simp [List.getElem?_map, ha]
      have hgl := (Array.getElem?_eq_some_iff.1 hg').1
      have h0 : tag g = 0 := htA g (by rw [e1]; rfl)
      exact (World.cell?_of_block ((hg.k.block (g := g) (by omega) (fun e => e (by rw [htag1 g (by omega)]; exact h0))).trans (hB1.block g hgl))).trans h2
  have HArow : Hid (∀ wr tagr pr, Grew W1 wr tag1 tagr p pr ts.length → wr.ownsRow 0 80 1 (.slice A t.args.length c) t.args.length (t.args.map fun a => pr.ptr (idxT ts a)) ∧ (∀ g, (Value.slice A t.args.length c).ownBlock = some g → tagr g = 0) ∧ wr.cell? ⟨w.heap.size, 0, none⟩ = some (.int .i64 t.fn) ∧ wr.cell? ⟨w.heap.size, 1, none⟩ = some (.string k2) ∧ tagr w.heap.size = 0 ∧ w.heap.size < wr.heap.size) := Lib.hid fun wr tagr pr hg => by
    have hrl := row_lt hA
    have t1 : ∀ g, (Value.slice A t.args.length c).ownBlock = some g → tag1 g = 0 := fun g e => by
      have := (hrl g e).2
      rw [htag1 g (by omega)]; exact htA g e
    have hkb : wr.heap[w.heap.size]? = some (.cells #[.int .i64 t.fn, .string k2] 103) := (hg.k.block (by omega) (fun e => e (by rw [htag1 _ (by omega)]; exact h.hi _ (Nat.le_refl _)))).trans q2
    refine ⟨?_, fun g e => ?_, (cells_two hkb).1, (cells_two hkb).2.1, by rw [hg.t _ (by omega), htag1 _ (by omega)]; exact h.hi _ (Nat.le_refl _), (Array.getElem?_eq_some_iff.1 hkb).1⟩
    · have e1 : (t.args.map fun a => pr.ptr (idxT ts a)) = t.args.map fun a => p.ptr (idxT ts a) := List.map_congr_left fun a ha => by
        unfold BPl.ptr; rw [hg.E _ (idxT_lt.2 (har a ha))]
      rw [e1]
      refine row_keep hA fun g e => ?_
      have := (hrl g e).2
      exact (hg.k.block (by omega) (fun e2 => e2 (t1 g e))).trans (hB1.block g this)
    · have := (hrl g e).2
      rw [hg.t g (by omega)]; exact t1 g e
  have HW0 := Lib.hid hW0
  have HW1 := Lib.hid hW1
  have HAR := Lib.hid har
  have Hnew := Lib.hid hnew
  have HK2 := Lib.hid hk2
  rw [hk2]
  obtain ⟨e, he⟩ : ∃ e, w.heap.size + 1 = e := ⟨_, rfl⟩
  have HE := Lib.hid he
  clear hW0 hW1 hI hG hA htA hB1 q1 q2 hq1 hs1 htag1 h hnew har hk2 he
  rw [HE.out] at HI
  go_enter Tryd.func32, Tryd.ntmps32
  go_upto_region 1 with (fail)
  rw [HW0.out]
  go_region_held3 (fun w' => w'.cell? ⟨p.sx, 1, none⟩ = some (.slice AT ts.length cT) ∧ w'.cell? ⟨w.heap.size, 0, none⟩ = some (.int .i64 t.fn)) (go_keep) (fail)
  go_wp2
  rw [HW1.out]
  clear c0 c1 c2 c3 y0 y1
  rw [HE.out]
  go_loopw [26] (fun i wr => ∃ (j : Nat) (tagr : Nat → Nat) (pr : BPl), j ≤ t.args.length ∧ i = .int .i64 (j : Int) ∧ Hid (AddI W1 wr e (.slice A t.args.length c) tag1 tagr p pr sy As n cs ts t j)) (fun i _ => t.args.length - (intOf i).toNat)
  case atStart => exact ⟨0, tag1, p, Nat.zero_le _, rfl, HI⟩
  case round =>
    obtain ⟨j, tagr, pr, hj, rfl, H⟩ := hrel
    by_cases hlt : j < t.args.length
    case pos =>
      obtain ⟨a, ha⟩ : ∃ a, t.args[j]? = some a := ⟨_, List.getElem?_eq_getElem hlt⟩
      obtain ⟨g, hA2, x0⟩ := HArg.out wr tagr pr H.out.g j a ha
      subst hA2
      have hai := idxT_at (HAR.out a (List.mem_of_getElem? ha))
      have hq := (List.getElem?_eq_some_iff.1 hai).1
      have hpe := H.out.g.E _ hq
      obtain ⟨d0, d1, d2, d3, d4, d5, _, _⟩ := cells_six (H.out.b.ent _ a hai)
      obtain ⟨e0, e1, e2, e3, e4, e5, e6, e7⟩ := cells_six H.out.en
      have hqe : pr.E (idxT ts a) ≠ e := fun e1 => by have h1 := H.out.te; have h2 := H.out.b.tE _ hq; rw [e1] at h2; omega
      unfold BPl.ptr at x0
      rw [← hpe] at x0
      obtain ⟨s, hs⟩ : ∃ s, sizes (t.args.take j) + 1 = s := ⟨_, rfl⟩
      obtain ⟨gg, hgg⟩ : ∃ gg, (decide (0 ≤ t.fn) && grL (t.args.take j)) = gg := ⟨_, rfl⟩
      have hs2 : sizes (t.args.take (j + 1)) + 1 = s + a.size := by rw [sizes_take ha]; omega
      have hg2 : (decide (0 ≤ t.fn) && grL (t.args.take (j + 1))) = (gg && grB a) := by rw [grL_take ha, ← hgg, Bool.and_assoc]
      have hsb : s + a.size ≤ 4398046511104 := by
        have h1 := sizes_le t.args (j + 1)
        have h2 : t.size = sizes t.args + 1 := by cases t; simp [Tm.size, Tm.args]
        omega
      have hwr : IntKind.i64.wrap ((s : Int) + (a.size : Int)) = ((s : Int) + (a.size : Int)) := by rw [IntKind.wrap_i64]; omega
      rw [hs] at e3
      rw [hgg] at e4
      have hU : ∀ X : World, KeepsC (· = e) wr X → X.heap[e]? = some (entC6 ts.length t.fn (.slice (some ⟨g, 0, none⟩) t.args.length c) (s + a.size) (gg && grB a) (.slice none 0 0)) →
          Calls Tryd.prog 55 #[.pointer (some ⟨pr.E (idxT ts a), 0, none⟩), .int .i64 (ts.length : Int)] X fun en w2 => en = .returned (.tuple #[]) ∧ ∃ tag2 p2, AddI W1 w2 e (.slice (some ⟨g, 0, none⟩) t.args.length c) tag1 tag2 p p2 sy As n cs ts t (j + 1) := fun X hk hX => by
        obtain ⟨hb, _⟩ := H.out.mid hk hX
        have hent := hb.ent _ a hai
        have hus := hb.us _ hq
        refine (bUse_any (n := (ts.length : Int)) hent hus ⟨by omega, by omega⟩ (by have := usJ_len ts (numsT ts (t.args.take j)) (idxT ts a); simp; omega) (fun e1 => ?_)).mono ?_
        · have h1 := hb.tU _ _ hq e1
          have h2 := hb.tE _ hq
          omega
        · rintro en w2 ⟨rfl, v', hu⟩
          exact ⟨rfl, H.out.next ha hai hk (by rw [hs2, hg2]; exact hX) hu⟩
      obtain ⟨q, hqq⟩ : ∃ q, pr.E (idxT ts a) = q := ⟨_, rfl⟩
      rw [hqq] at x0 d0 d1 d2 d3 d4 d5 hqe hU
      have hen := H.out.en
      rw [hs, hgg] at hen
      have HU := Lib.hid hU
      have HEN := Lib.hid hen
      have hlt2 : (j : Int) < (t.args.length : Int) := by omega
      clear ha hai hq hpe hs hgg hs2 hg2 hqq hU hen d0 d1 d2 d5 e1 e2 e5
      have hwr1 : IntKind.i64.wrap ((j : Int) + 1) = (j : Int) + 1 := by rw [IntKind.wrap_i64]; omega
      have h0 : wr.heap[e]? = _ := HEN.out
      unfold entC6 at h0
      have h1 := heap_setCell_same wr e 3 _ _ (.int .i64 ((s : Int) + (a.size : Int))) h0
      have h1q : (wr.setCell ⟨e, 3, none⟩ (.int .i64 ((s : Int) + (a.size : Int)))).drew.cell? ⟨q, 4, none⟩ = some (.bool (grB a)) := (World.cell?_of_block (heap_setCell_other wr ⟨e, 3, none⟩ q _ hqe)).trans d4
      have k1 : KeepsC (· = e) wr (wr.setCell ⟨e, 3, none⟩ (.int .i64 ((s : Int) + (a.size : Int)))).drew := ⟨rfl, rfl, rfl, by simp, fun g hg => heap_setCell_other wr ⟨e, 3, none⟩ g _ hg.2⟩
      change (wr.setCell ⟨e, 3, none⟩ (.int .i64 ((s : Int) + (a.size : Int)))).drew.heap[e]? = _ at h1
      obtain ⟨X1, hX1⟩ : ∃ X1, (wr.setCell ⟨e, 3, none⟩ (.int .i64 ((s : Int) + (a.size : Int)))).drew = X1 := ⟨_, rfl⟩
      rw [hX1] at h1 h1q k1
      have HX1 := Lib.hid hX1
      have H1 := Lib.hid h1
      have H1q := Lib.hid h1q
      clear h0 h1 hX1 h1q
      go_upto_region 5 with (fail)
      go_cut [] from 27 to 66 (fun wx => wx = X1)
      case first =>
        clear HU HEN HArg HArow HAR Hnew HI HG
        go_region_law (fail)
        all_goals (go_wp2_with fail; go_meet; exact HX1.out)
      case rest =>
        obtain ⟨wx, hwx⟩ : ∃ wx, wx = wc := ⟨_, rfl⟩
        rw [← hwx] at hcut ⊢
        clear hwx
        subst hcut
        obtain ⟨f0, f1, f2, f3, f4, f5, f6, f7⟩ := cells_six H1.out
        have f8 := H1q.out
        clear x0 e0 e3 e4 e6 e7 d3 d4 f1 f2 f3 f5 f6
        have hK : ∀ v, KeepsC (· = e) wr (wx.setCell ⟨e, 4, none⟩ v) := fun v => by
          have := k1
          exact ⟨this.os, this.tape, this.output, by have := k1.size; simpa using this, fun g hg => (heap_setCell_other _ ⟨e, 4, none⟩ g _ hg.2).trans (k1.block hg.1 hg.2)⟩
        have hX4 : ∀ b, (wx.setCell ⟨e, 4, none⟩ (.bool b)).heap[e]? = some (entC6 ts.length t.fn (.slice (some ⟨g, 0, none⟩) t.args.length c) (s + a.size) b (.slice none 0 0)) := fun b => by
          have h2 := heap_setCell_same _ e 4 _ _ (.bool b) H1.out
          unfold entC6
          simpa using h2
        rcases gg with _ | _
        · have HC := Lib.hid (HU.out (wx.setCell ⟨e, 4, none⟩ (.bool false)) (hK _) (hX4 _))
          clear hK hX4 HU
          go_wp2_with (first
            | (go_at_call 55; (with_reducible refine HC.out.mono ?_); go_must (rintro en w2 ⟨rfl, tag2, p2, HN⟩; have HN := Lib.hid HN))
            | fail)
          go_roundw
          case rel => exact ⟨j + 1, tag2, p2, by omega, by go_num, HN⟩
          case measure => simp [intOf]; omega
        · have HC := Lib.hid (HU.out (wx.setCell ⟨e, 4, none⟩ (.bool (grB a))) (hK _) (hX4 _))
          clear hK hX4 HU
          go_wp2_with (first
            | (go_at_call 55; (with_reducible refine HC.out.mono ?_); go_must (rintro en w2 ⟨rfl, tag2, p2, HN⟩; have HN := Lib.hid HN))
            | fail)
          go_roundw
          case rel => exact ⟨j + 1, tag2, p2, by omega, by go_num, HN⟩
          case measure => simp [intOf]; omega
    case neg =>
      obtain rfl : j = t.args.length := by omega
      obtain ⟨hus, hen⟩ := H.out.us HAR.out
      obtain ⟨hrA, htA, y0, y1, tK, hwl⟩ := HArow.out wr tagr pr H.out.g
      have hsx := H.out.g.sx
      have hst := H.out.b.st
      rw [hsx] at hst
      obtain ⟨AT2, cT2, hT2⟩ : ∃ A c, pr.T = .slice A ts.length c := by
        rcases H.out.b.row.2 with ⟨e, h0⟩ | ⟨g, cap, cur, e, _⟩
        · exact ⟨none, 0, by rw [e, h0]⟩
        · exact ⟨_, _, e⟩
      have hrow := H.out.b.row
      have hrl := row_lt hrow
      have htT := H.out.b.tT
      have hsxl := (Array.getElem?_eq_some_iff.1 hst).1
      have htS := H.out.b.tS
      rw [hsx] at htS
      have hnT : ∀ g, tagr g ≠ 3 → (Value.slice AT2 ts.length cT2).ownBlock ≠ some g := fun g h1 h2 => h1 (htT g (by rw [hT2]; exact h2))
      have hnk : w.heap.size ≠ p.sx := fun e1 => by rw [e1, htS] at tK; omega
      have hK5 : Hid (∀ (ob : Obj) (w5 : World), (wr.alloc ob).grownBy w5 (Value.slice AT2 ts.length cT2).ownBlock → w5.heap[p.sx]? = wr.heap[p.sx]? ∧ w5.heap[w.heap.size]? = wr.heap[w.heap.size]?) := Lib.hid fun ob w5 hg => ⟨(hg.block _ (by simp; omega) (fun h => hnT _ (by omega) h.symm)).trans (Below.heap_alloc wr ob _ hsxl), (hg.block _ (by simp; omega) (fun h => hnT _ (by omega) h.symm)).trans (Below.heap_alloc wr ob _ hwl)⟩
      rw [hT2] at hst hrow hrl
      have z1 : wr.cell? ⟨p.sx, 1, none⟩ = some (.slice AT2 ts.length cT2) := by simp [World.cell?, hst]
      have HROW := Lib.hid hrow
      have HST := Lib.hid hst
      have HT2 := Lib.hid hT2
      clear hrow hst htT hT2 hsx hnT htS tK hen hus hrA htA
      go_wp2_with (first
        | (at_builtin
           go_must (
           refine wpList_append_own_at _ rfl _ _ 70 rfl 0 80 i0 (.pointer none) 1 8 Tryd.underlying70 hi hz0 hz1 hz2 rfl (by decide) (.slice AT2 ts.length cT2) ts.length _ rfl (row_keep HROW.out fun g e => Below.heap_alloc wr _ g (hrl g e).2) ⟨wr.heap.size, 0, none⟩ 1 1 [.pointer (some ⟨e, 0, none⟩)] rfl rfl (cell_one_new _ _ _) (by simp [Value.oneCell']) (by unfold maxLen; omega) (by omega) (by simp) ?_
           intro v5 w5 hown5 hgr5 _ hat5
           obtain ⟨A5, c5x, rfl⟩ := row_slice hown5
           obtain ⟨b5, b6⟩ := hK5.out _ _ hgr5
           have Hown5 := Lib.hid hown5
           have Hgr5 := Lib.hid hgr5
           have Hat5 := Lib.hid hat5
           have f5 : w5.frozen? ⟨p.sx, 1, none⟩ = false := by simp [World.frozen?, b5, HST.out]
           have k5 : w5.cell? ⟨p.sx, 1, none⟩ = some (.slice AT2 ts.length cT2) := by simp [World.cell?, b5, HST.out]
           clear hown5 hgr5 hat5))
        | fail)
      have hmp := H.out.b.map.lt
      have hne : p.sx ≠ pr.mp := fun e1 => by have h1 := H.out.b.tM; have h2 := H.out.b.tS; rw [H.out.g.sx, e1] at h2; omega
      have hgT := Hgr5.out
      have hnT : (Value.slice AT2 ts.length cT2).ownBlock ≠ some pr.mp := fun e1 => by have h1 := H.out.b.tT _ (by rw [HT2.out]; exact e1); have h2 := H.out.b.tM; omega
      have hm5 : (w5.setCell ⟨p.sx, 1, none⟩ (.slice A5 (ts.length + 1) c5x)).drew.heap[pr.mp]? = wr.heap[pr.mp]? := (heap_setCell_other w5 ⟨p.sx, 1, none⟩ pr.mp _ (fun e1 => hne e1.symm)).trans ((hgT.block _ (by simp; omega) (fun h => hnT h.symm)).trans (Below.heap_alloc wr _ _ hmp))
      have hV : bankV pr ts (keyB ts t) = none := bankV_none H.out.b.ok (by omega) HAR.out Hnew.out
      have hkk : keyB ts t = (t.fn, k2) := Prod.ext rfl HK2.out
      rw [hkk] at hV
      have hk2s : k2.size ≤ 9223372036854775807 := by
        rw [← HK2.out]
        show (textB (numsT ts t.args)).toArray.size ≤ _
        rw [List.size_toArray, textB_len]
        simp [numsT]; omega
      obtain ⟨w7, hrun, hM7, hg7⟩ := (H.out.b.map.kept hm5).put (v := .pointer (some ⟨e, 0, none⟩)) (by omega) hf hk2s hV
      have hst5 := heap_setCell_same w5 p.sx 1 _ _ (.slice A5 (ts.length + 1) c5x) (b5.trans HST.out)
      have v2 : (w5.setCell ⟨p.sx, 1, none⟩ (.slice A5 (ts.length + 1) c5x)).drew.cell? ⟨p.sx, 2, none⟩ = some (.map (some pr.mp)) := by
        show (w5.setCell ⟨p.sx, 1, none⟩ (.slice A5 (ts.length + 1) c5x)).cell? ⟨p.sx, 2, none⟩ = _
        simp [World.cell?, hst5]
      have u0 : (w5.setCell ⟨p.sx, 1, none⟩ (.slice A5 (ts.length + 1) c5x)).drew.cell? ⟨w.heap.size, 0, none⟩ = some (.int .i64 t.fn) := (World.cell?_of_block ((heap_setCell_other w5 ⟨p.sx, 1, none⟩ _ _ hnk).trans b6)).trans y0
      have u1 : (w5.setCell ⟨p.sx, 1, none⟩ (.slice A5 (ts.length + 1) c5x)).drew.cell? ⟨w.heap.size, 1, none⟩ = some (.string k2) := (World.cell?_of_block ((heap_setCell_other w5 ⟨p.sx, 1, none⟩ _ _ hnk).trans b6)).trans y1
      obtain ⟨X5, hX5⟩ : ∃ X5, w5.setCell ⟨p.sx, 1, none⟩ (.slice A5 (ts.length + 1) c5x) = X5 := ⟨_, rfl⟩
      rw [hX5] at hrun hg7 v2 u0 u1 ⊢
      have h4 : Hid (Below w5.heap.size (w5.setCell ⟨p.sx, 1, none⟩ (.slice A5 (ts.length + 1) c5x)) X5.drew) := Lib.hid (by rw [← hX5]; exact ⟨rfl, rfl, rfl, Nat.le_refl _, fun _ _ => rfl⟩)
      have HM7 := Lib.hid hM7
      have HG7 := Lib.hid hg7
      have Hkk := Lib.hid hkk
      clear hX5 hM7 hg7 hm5 hst5 hV hkk hgT hnT hmp hne hnk y0 y1 z1 k5 f5 b5 b6
      have HFIN : Hid (AddPost w tag p sy As n cs ts t (.slice A t.args.length c) (.returned (.pointer (some ⟨e, 0, none⟩))) w7) := Lib.hid (by
        obtain ⟨hus, hen⟩ := H.out.us HAR.out
        obtain ⟨hrA, htA, _⟩ := HArow.out wr tagr pr H.out.g
        have hm := HM7.out
        rw [← Hkk.out] at hm
        have hgr := Hgr5.out
        have hat := Hat5.out
        rw [← HT2.out] at hgr hat
        have h4' := h4.out
        rw [← H.out.g.sx] at h4'
        obtain ⟨p', tag', hBW, hE', hGr⟩ := H.out.b.more HAR.out Hnew.out hf (bankV_none H.out.b.ok (by omega) HAR.out Hnew.out) hen H.out.te hrA htA hus Hown5.out hgr hat h4' hm HG7.out
        refine ⟨p', tag', ?_, hBW, HG.out.transX (H.out.g.transX hGr (Nat.le_refl _)) (Nat.le_refl _)⟩
        unfold BPl.ptr; rw [hE'])
      clear HM7 HG7 Hkk h4 Hown5 Hgr5 Hat5 HT2 HArow HAR H HArg HG HI
      go_region_law (fail)
      all_goals
        go_wp2
        go_ret
        exact HFIN.out
end
end Go.Proofs.YtmmiclpedehcpaaDoor
namespace Go.Proofs.YtmmiclpedehcpaaDoor
open Go Go.RowKit Go.Shelf Go.Maps
set_option maxRecDepth 100000
def tsV (m : Bool) (ts : List Tm) (t : Tm) : List Tm := if m then addT ts t else ts
def tsVL (m : Bool) (ts xs : List Tm) : List Tm := if m then addL ts xs else ts
def tsVA (m : Bool) (r : List Tm) (t : Tm) : List Tm := if m then ad1 r t else r
theorem tsV_node (m : Bool) (ts : List Tm) (t : Tm) : tsV m ts t = tsVA m (tsVL m ts t.args) t := by
  cases m
  · rfl
  · cases t; simp [tsV, tsVL, tsVA, addT, Tm.args]
theorem tsVL_nil (m : Bool) (ts : List Tm) : tsVL m ts [] = ts := by cases m <;> simp [tsVL, addL]
theorem tsVL_take {m : Bool} {ts xs : List Tm} {k : Nat} {x : Tm} (h : xs[k]? = some x) : tsVL m ts (xs.take (k + 1)) = tsV m (tsVL m ts (xs.take k)) x := by
  cases m
  · rfl
  · simp only [tsV, tsVL, if_true]; exact addL_take h ts
theorem tsV_pre (m : Bool) (ts : List Tm) (t : Tm) : ∃ us, tsV m ts t = ts ++ us ∧ us.length ≤ t.size := by
  cases m
  · exact ⟨[], by simp [tsV], by simp⟩
  · exact addT_pre t ts
theorem tsVL_pre (m : Bool) (ts xs : List Tm) : ∃ us, tsVL m ts xs = ts ++ us ∧ us.length ≤ sizes xs := by
  cases m
  · exact ⟨[], by simp [tsVL], by simp⟩
  · exact addL_pre xs ts
theorem tsVA_in {m : Bool} {r : List Tm} {t : Tm} (h : t ∈ r) : tsVA m r t = r := by
  cases m
  · rfl
  · simp only [tsVA, if_true]; unfold ad1; rw [if_pos (idxT_lt.2 h)]
theorem tsV_out {m : Bool} {ts : List Tm} {t : Tm} (h : ¬ t ∈ tsV m ts t) : m = false := by
  cases m
  · rfl
  · exact absurd (addT_mem t ts) h
def ansB (p : BPl) (ts : List Tm) (t : Tm) : Value := if idxT ts t < ts.length then p.ptr (idxT ts t) else .pointer none
theorem ansB_in {p : BPl} {ts : List Tm} {t : Tm} (h : t ∈ ts) : ansB p ts t = p.ptr (idxT ts t) := if_pos (idxT_lt.2 h)
theorem ansB_out {p : BPl} {ts : List Tm} {t : Tm} (h : ¬ t ∈ ts) : ansB p ts t = .pointer none := if_neg fun e => h (idxT_lt.1 e)
def AbsPost (m : Bool) (w : World) (tag : Nat → Nat) (p : BPl) (sy : List Sm) (As : Option Addr) (n cs : Nat) (ts : List Tm) (t : Tm) (V : Value) (e : Ending) (w' : World) : Prop :=
  ∃ p' tag', e = .returned (ansB p' (tsVA m ts t) t) ∧ BankW w' tag' p' sy As n cs (tsVA m ts t) ∧ GrewX w w' tag tag' p p' ts.length V
structure AbsC (m : Bool) (k : FuncId) (fs : Array Value) (sx : Nat) : Prop where
  ent : ∀ (args : Array Value) (w : World), (callFunc k args).run Tryd.prog w = .ok (.enter k args) w
  call : ∀ {w : World} {tag : Nat → Nat} {p : BPl} {sy : List Sm} {As : Option Addr} {n cs : Nat} {ts : List Tm} {t : Tm} {A : Option Addr} {c : Nat}, BankW w tag p sy As n cs ts → p.sx = sx → ts.length ≤ 2147483648 → t.size ≤ 4398046511104 → (∀ a ∈ t.args, a ∈ ts) → ¬ t ∈ ts → I64 t.fn →
    w.ownsRow 0 80 1 (.slice A t.args.length c) t.args.length (t.args.map fun a => p.ptr (idxT ts a)) → (∀ g, (Value.slice A t.args.length c).ownBlock = some g → tag g = 0) →
    Calls Tryd.prog k (fs ++ #[.agg #[.int .i64 t.fn, .string (keyB ts t).2], .slice A t.args.length c]) w (AbsPost m w tag p sy As n cs ts t (.slice A t.args.length c))
theorem absAdd (sx : Nat) : AbsC true 32 #[.pointer (some ⟨sx, 0, none⟩)] sx where
  ent := enters_of Tryd.func32 (by kernel_rfl) rfl
  call := fun {w tag p sy As n cs ts t A c} h hs hts hsz har hnew hf hA htA => by
    subst hs
    refine (bAdd_any h hts hsz har hnew hf hA htA).mono ?_
    rintro e w' ⟨p', tag', rfl, hB, hG⟩
    have e1 : tsVA true ts t = ts ++ [t] := by simp only [tsVA, if_true]; unfold ad1; rw [if_neg fun e => hnew (idxT_lt.1 e)]
    refine ⟨p', tag', ?_, by rw [e1]; exact hB, hG⟩
    rw [e1, ansB_in (by simp), idxT_new hnew]
theorem bLeave_any {w : World} (f : Int) (s : ByteArray) (V : Value) : Calls Tryd.prog 42 #[.agg #[.int .i64 f, .string s], V] w fun e w' => e = .returned (.pointer none) ∧ Below w.heap.size w w' := by
  have hB : Hid (Below w.heap.size w (w.alloc (.cells #[.int .i64 f, .string s] 103))) := Lib.hid ((Below.refl _ _).alloc (Nat.le_refl _) _)
  go_enter Tryd.func42, Tryd.ntmps42
  go_wp2
  go_ret
  exact ⟨rfl, hB.out⟩
theorem absLeave (sx : Nat) : AbsC false 42 #[] sx where
  ent := enters_of Tryd.func42 (by kernel_rfl) rfl
  call := fun {w tag p sy As n cs ts t A c} h hs hts hsz har hnew hf hA htA => by
    refine (bLeave_any t.fn (keyB ts t).2 (.slice A t.args.length c)).mono ?_
    rintro e w' ⟨rfl, hb⟩
    refine ⟨p, tag, ?_, h.on hb, ⟨KeepsC.of_below hb, fun _ _ _ => rfl, rfl, rfl, rfl, fun _ _ => rfl⟩⟩
    rw [ansB_out (show ¬ t ∈ tsVA false ts t from hnew)]
def VisB (m : Bool) (w : World) (tag : Nat → Nat) (p : BPl) (sy : List Sm) (As : Option Addr) (n cs : Nat) (ts : List Tm) (t : Tm) (e : Ending) (w' : World) : Prop :=
  ∃ p' tag', e = .returned (ansB p' (tsV m ts t) t) ∧ BankW w' tag' p' sy As n cs (tsV m ts t) ∧ Grew w w' tag tag' p p' ts.length
structure VisX (w : World) (tag : Nat → Nat) (k : FuncId) (fs : Array Value) (sx bv bs ba : Nat) : Prop where
  v : Boxed w bv 100 (.func (.func 53) #[] #[.pointer (some ⟨bv, 0, none⟩), .pointer (some ⟨bs, 0, none⟩), .pointer (some ⟨ba, 0, none⟩)])
  s : Boxed w bs 68 (.pointer (some ⟨sx, 0, none⟩))
  a : Boxed w ba 82 (.func (.func k) fs #[])
  tv : tag bv = 0
  tsx : tag bs = 0
  ta : tag ba = 0
theorem VisX.grew {w w' : World} {tag tag' : Nat → Nat} {k : FuncId} {fs : Array Value} {sx bv bs ba N : Nat} {p p' : BPl} (h : VisX w tag k fs sx bv bs ba) (hg : Grew w w' tag tag' p p' N) : VisX w' tag' k fs sx bv bs ba :=
  ⟨(hg.k.block h.v.lt fun e => e h.tv).trans h.v, (hg.k.block h.s.lt fun e => e h.tsx).trans h.s, (hg.k.block h.a.lt fun e => e h.ta).trans h.a, (hg.t _ h.v.lt).trans h.tv, (hg.t _ h.s.lt).trans h.tsx, (hg.t _ h.a.lt).trans h.ta⟩
def VisAt (m : Bool) (k : FuncId) (fs : Array Value) (sx bv bs ba : Nat) (t : Tm) : Prop :=
  ∀ (w : World) (tag : Nat → Nat) (p : BPl) (sy : List Sm) (As : Option Addr) (n cs : Nat) (ts : List Tm) (A : Option Addr) (c : Nat) (N : Nat → Prop), BankW w tag p sy As n cs ts → p.sx = sx → ts.length + t.size ≤ 2147483648 → t.size ≤ 1048576 → I64 t.fn → ArgsN w N A t.args → (∀ g, N g → g < w.heap.size ∧ tag g = 0) → VisX w tag k fs sx bv bs ba →
    Calls Tryd.prog 53 #[.agg #[.int .i64 t.fn, .slice A t.args.length c], .pointer (some ⟨bv, 0, none⟩), .pointer (some ⟨bs, 0, none⟩), .pointer (some ⟨ba, 0, none⟩)] w (VisB m w tag p sy As n cs ts t)
structure VisI (m : Bool) (w wr : World) (tag tagr : Nat → Nat) (p pr : BPl) (sy : List Sm) (As : Option Addr) (n cs : Nat) (ts : List Tm) (t : Tm) (j : Nat) (v : Value) : Prop where
  b : BankW wr tagr pr sy As n cs (tsVL m ts (t.args.take j))
  g : Grew w wr tag tagr p pr ts.length
  i : ∀ a ∈ t.args.take j, a ∈ tsVL m ts (t.args.take j)
  r : wr.ownsRow (w.heap.size + 1) 80 1 v j ((t.args.take j).map fun a => pr.ptr (idxT (tsVL m ts (t.args.take j)) a))
  z : ∀ g, v.ownBlock = some g → tagr g = 0
section
variable {m : Bool} {w wr w2 w5 : World} {tag tagr tag2 : Nat → Nat} {p pr p2 : BPl} {sy : List Sm} {As : Option Addr} {n cs : Nat} {ts : List Tm} {t a : Tm} {j : Nat} {v v5 : Value}
theorem bank_tag0 (h : BankW w tag p sy As n cs ts) (hs : w.heap.size ≤ w2.heap.size) (hk : ∀ g, g < w.heap.size → tag g ≠ 0 → w2.heap[g]? = w.heap[g]?) : BankW w2 tag p sy As n cs ts :=
  (h.toU.keep hs (fun g hg h1 _ => hk g hg h1) (fun _ _ => rfl) fun g hg => h.hi g (Nat.le_trans hs hg)).toW fun _ _ => rfl
theorem VisI.call (h : VisI m w wr tag tagr p pr sy As n cs ts t j v) (ha : t.args[j]? = some a) (hW : Below wr.heap.size wr w5) (hb : BankW w2 tag2 p2 sy As n cs (tsV m (tsVL m ts (t.args.take j)) a)) (hg : Grew w5 w2 tagr tag2 pr p2 (tsVL m ts (t.args.take j)).length) :
    BankW w2 tag2 p2 sy As n cs (tsVL m ts (t.args.take (j + 1))) ∧ Grew w w2 tag tag2 p p2 ts.length ∧ w2.ownsRow (w.heap.size + 1) 80 1 v j ((t.args.take j).map fun a => p2.ptr (idxT (tsVL m ts (t.args.take (j + 1))) a)) ∧ (∀ g, v.ownBlock = some g → tag2 g = 0) ∧ ∀ a ∈ t.args.take j, a ∈ tsVL m ts (t.args.take (j + 1)) := by
  rw [tsVL_take ha]
  obtain ⟨us, hus, _⟩ := tsV_pre m (tsVL m ts (t.args.take j)) a
  have hgr : Grew wr w2 tagr tag2 pr p2 (tsVL m ts (t.args.take j)).length := (Grew.below hW).trans hg (Nat.le_refl _)
  have hle : ts.length ≤ (tsVL m ts (t.args.take j)).length := by
    obtain ⟨vs, e, _⟩ := tsVL_pre m ts (t.args.take j)
    rw [e, List.length_append]; omega
  refine ⟨hb, h.g.trans hgr hle, ?_, fun g e => (hgr.t g (row_lt h.r g e).2).trans (h.z g e), fun x hx => by rw [hus]; exact List.mem_append_left _ (h.i x hx)⟩
  have e1 : ((t.args.take j).map fun a_1 => p2.ptr (idxT (tsV m (tsVL m ts (t.args.take j)) a) a_1)) = (t.args.take j).map fun a => pr.ptr (idxT (tsVL m ts (t.args.take j)) a) := List.map_congr_left fun x hx => by
    rw [hus, idxT_pre (h.i x hx)]
    unfold BPl.ptr
    rw [hgr.E _ (idxT_lt.2 (h.i x hx))]
  rw [e1]
  exact row_keep h.r fun g e => hgr.k.block (row_lt h.r g e).2 fun e2 => e2 (h.z g e)
theorem VisI.next {ob : Obj} (ha : t.args[j]? = some a) (hb : BankW w2 tag2 p2 sy As n cs (tsVL m ts (t.args.take (j + 1)))) (hg : Grew w w2 tag tag2 p p2 ts.length) (hz : ∀ g, v.ownBlock = some g → tag2 g = 0) (hi : ∀ a ∈ t.args.take j, a ∈ tsVL m ts (t.args.take (j + 1))) (hin : a ∈ tsVL m ts (t.args.take (j + 1)))
    (hvl : ∀ g, v.ownBlock = some g → w.heap.size ≤ g) (ho : w5.ownsRow (w.heap.size + 1) 80 1 v5 (j + 1) (((t.args.take j).map fun a => p2.ptr (idxT (tsVL m ts (t.args.take (j + 1))) a)) ++ [p2.ptr (idxT (tsVL m ts (t.args.take (j + 1))) a)])) (hgr : (w2.alloc ob).grownBy w5 v.ownBlock) (hat : v5.ownBlock = v.ownBlock ∨ v5.ownBlock = some (w2.alloc ob).heap.size) :
    VisI m w w5 tag tag2 p p2 sy As n cs ts t (j + 1) v5 := by
  have s5 : w2.heap.size + 1 ≤ w5.heap.size := by simpa using hgr.size
  have hk : ∀ g, g < w2.heap.size → v.ownBlock ≠ some g → w5.heap[g]? = w2.heap[g]? := fun g h1 h2 => (hgr.block g (by simp; omega) (fun e => h2 e.symm)).trans (Below.heap_alloc w2 ob g h1)
  refine ⟨bank_tag0 hb (by omega) fun g h1 h2 => hk g h1 fun e => h2 (hz g e), ?_, ?_, ?_, ?_⟩
  · refine ⟨⟨by rw [hgr.os]; exact hg.k.os, by rw [hgr.tape]; exact hg.k.tape, by rw [hgr.output]; exact hg.k.output, by have := hg.k.size; omega, fun g hgl => ?_⟩, hg.t, hg.bx, hg.sx, hg.mp, hg.E⟩
    rw [hk g (by have := hg.k.size; have := hgl.1; omega) fun e => by have := hvl g e; have := hgl.1; omega]
    exact hg.k.block hgl.1 hgl.2
  · rw [List.take_add_one, ha]
    intro x hx
    rcases List.mem_append.1 hx with hx | hx
    · have := hi x hx
      rwa [List.take_add_one, ha] at this
    · simp at hx; subst hx
      rwa [List.take_add_one, ha] at hin
  · have e1 : t.args.take (j + 1) = t.args.take j ++ [a] := by rw [List.take_add_one, ha]; rfl
    have e2 : ∀ F : Tm → Value, (t.args.take (j + 1)).map F = (t.args.take j).map F ++ [F a] := fun F => by rw [e1, List.map_append]; rfl
    rw [e2]; exact ho
  · intro g e
    rcases hat with h1 | h1
    · exact hz g (h1 ▸ e)
    · rw [h1] at e; injection e with e; simp at e
      exact hb.hi g (by omega)
end
end Go.Proofs.YtmmiclpedehcpaaDoor
