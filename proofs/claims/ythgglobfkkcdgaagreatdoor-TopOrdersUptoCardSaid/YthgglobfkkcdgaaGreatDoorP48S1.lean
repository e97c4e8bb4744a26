import Derived.Test.YthgglobfkkcdgaaGreatDoorProg
import Derived.WalkKit
import Derived.WalkSpells
import Derived.WalkLawsBesides
import Derived.Lib.Hide
import Derived.Below
import Derived.Laws.OwnMore
import Derived.Deep.AppendLies
import Derived.Deep.Draws
import Derived.Laws.StructEq
import Derived.BigQuiet
import Derived.Deep.QuietTactic
import Derived.RangeFuncNested
import Derived.RangeFuncBound
import Derived.RangeFuncCalls
import Derived.RangeFuncLeaves
import Derived.Maps.AppendAt
import Derived.OwnWalk
import Derived.Deep.RegionHeld3
import Derived.Shelf.Abstract
import Derived.Shelf.RegionOpen
import Derived.OwnWalkIn
import Derived.TacticsInMore
import Derived.LoopNIn
import Derived.LoopIn
import Derived.Deep.DeepCutAuto
namespace Go.Proofs.YthgglobfkkcdgaaGreatDoor
open Go.RowKit
theorem ret_int {k : IntKind} {a b : Int} (h : a = b) : Ending.returned (.int k a) = .returned (.int k b) := by rw [h]
theorem ret_bool {a b : Bool} (h : a = b) : Ending.returned (.bool a) = .returned (.bool b) := by rw [h]
theorem bl_drewN {B : Nat} {a w : World} (h : Below B a w) (n : Nat) : Below B a (w.drewN n) := ⟨h.os, h.tape, h.output, h.size, h.block⟩
theorem bl_step {w w1 w2 : World} (h : Below w.heap.size w w1) (h' : Below w1.heap.size w1 w2) : Below w.heap.size w w2 := h.trans (h'.mono h.size)
structure Sm where
  name : ByteArray
  arity : Int
  pred : Bool
  deriving DecidableEq
instance : Inhabited Sm := ⟨⟨ByteArray.empty, 0, false⟩⟩
def Sm.cells (x : Sm) : List Value := [.string x.name, .int .i64 x.arity, .bool x.pred]
structure Sm.Ok (x : Sm) : Prop where
  size : x.name.size ≤ maxLen
  lo : -9223372036854775808 ≤ x.arity
  hi : x.arity ≤ 9223372036854775807
theorem sm_ext {x y : Sm} (h : x.name = y.name ∧ x.arity = y.arity ∧ x.pred = y.pred) : x = y := by
  obtain ⟨a, b, c⟩ := x
  obtain ⟨a', b', c'⟩ := y
  obtain ⟨rfl, rfl, rfl⟩ := h
  rfl
theorem flat_get (l : List Sm) (i r : Nat) (hr : r < 3) : (l.flatMap Sm.cells)[i * 3 + r]? = (l[i]?).bind fun x => x.cells[r]? := by
  induction l generalizing i with
  | nil => simp
  | cons x l ih =>
    have hlen : x.cells.length = 3 := rfl
    rw [List.flatMap_cons]
    cases i with
    | zero => rw [List.getElem?_append_left (by omega)]; simp
    | succ i =>
      rw [List.getElem?_append_right (by omega), hlen, show (i + 1) * 3 + r - 3 = i * 3 + r from by omega, ih]
      simp
structure Syms (w : World) (B : Nat) (A : Option Addr) (n : Nat) (l : List Sm) : Prop where
  len : l.length = n
  ok : ∀ x ∈ l, x.Ok
  ad : 0 < n → ∃ b off, A = some ⟨b, off, none⟩ ∧ b < B ∧ ∀ i x, l[i]? = some x →
    w.cell? ⟨b, off + i * 3, none⟩ = some (.string x.name) ∧ w.cell? ⟨b, off + i * 3 + 1, none⟩ = some (.int .i64 x.arity) ∧ w.cell? ⟨b, off + i * 3 + 2, none⟩ = some (.bool x.pred)
section
variable {w w' : World} {B B' n : Nat} {A : Option Addr} {l : List Sm}
theorem Syms.keep (h : Syms w B A n l) (hk : ∀ p : Addr, p.block < B → w'.cell? p = w.cell? p) : Syms w' B A n l :=
  ⟨h.len, h.ok, fun hn => by
    obtain ⟨b, off, hA, hlt, hc⟩ := h.ad hn
    refine ⟨b, off, hA, hlt, fun i x hi => ?_⟩
    obtain ⟨h1, h2, h3⟩ := hc i x hi
    exact ⟨(hk ⟨b, _, none⟩ hlt).trans h1, (hk ⟨b, _, none⟩ hlt).trans h2, (hk ⟨b, _, none⟩ hlt).trans h3⟩⟩
theorem Syms.below (h : Syms w B A n l) (hb : Below B w w') : Syms w' B A n l := h.keep fun _ hp => hb.cell hp
theorem Syms.drewN (h : Syms w B A n l) (k : Nat) : Syms (w.drewN k) B A n l := h.keep fun _ _ => rfl
theorem Syms.more (h : Syms w B A n l) (hB : B ≤ B') : Syms w B' A n l :=
  ⟨h.len, h.ok, fun hn => by
    obtain ⟨b, off, hA, hlt, hc⟩ := h.ad hn
    exact ⟨b, off, hA, by omega, hc⟩⟩
theorem Syms.nil_ (w : World) (B : Nat) (A : Option Addr) : Syms w B A 0 [] := ⟨rfl, fun x hx => by simp at hx, fun h => absurd h (by omega)⟩
theorem Syms.on (h : Syms w w.heap.size A n l) (hb : Below w.heap.size w w') : Syms w' w'.heap.size A n l := (h.below hb).more hb.size
theorem Syms.of_flat (hl : l.length = n) (hok : ∀ x ∈ l, x.Ok) (h : 0 < n → ∃ b off, A = some ⟨b, off, none⟩ ∧ b < B ∧ ∀ j u, (l.flatMap Sm.cells)[j]? = some u → w.cell? ⟨b, off + j, none⟩ = some u) : Syms w B A n l :=
  ⟨hl, hok, fun hn => by
    obtain ⟨b, off, hA, hlt, hc⟩ := h hn
    refine ⟨b, off, hA, hlt, fun i x hx => ⟨?_, ?_, ?_⟩⟩
    · exact hc (i * 3) _ (by have := flat_get l i 0 (by omega); rw [Nat.add_zero] at this; rw [this, hx]; rfl)
    · exact (congrArg w.cell? (by simp)).trans (hc (i * 3 + 1) _ (by rw [flat_get _ _ _ (by omega), hx]; rfl))
    · exact (congrArg w.cell? (by simp)).trans (hc (i * 3 + 2) _ (by rw [flat_get _ _ _ (by omega), hx]; rfl))⟩
end
def smB (a : ByteArray) (b : Int) (c : Bool) (a' : ByteArray) (b' : Int) (c' : Bool) : Bool := decide ((⟨a, b, c⟩ : Sm) = ⟨a', b', c'⟩)
theorem smB_true {x y : Sm} (h : x = y) : smB x.name x.arity x.pred y.name y.arity y.pred = true := by subst h; simp [smB]
theorem smB_false {x y : Sm} (h : x ≠ y) : smB x.name x.arity x.pred y.name y.arity y.pred = false := by
  simp only [smB, decide_eq_false_iff_not]; exact h
theorem run_eql_sym (a a' : ByteArray) (b b' : Int) (c c' : Bool) (w : World) : Sem.run Tryz.prog (binOp .eql 67 (.agg #[.string a, .int .i64 b, .bool c]) (.agg #[.string a', .int .i64 b', .bool c'])) w =
    .ok (.bool (smB a b c a' b' c')) w := by
  have hS : Tryz.prog.underlying 67 = some (.struct (Tryz.prog.fieldsOf 67)) := by kernel_rfl
  have hp : Tryz.prog.stoodInHeld 67 = false := by kernel_rfl
  rw [run_eql_struct, show (10000 : Nat) = 9999 + 1 from rfl, run_equalIn_agg w 9999 67 _ _ hS hp]
  simp only [Program.fieldsOf, Tryz.underlying67]
  go_simp
  by_cases h1 : a = a'
  · by_cases h2 : b = b' <;> by_cases h3 : c = c' <;> simp [smB, h1, h2, h3]
  · have h1' : ¬ a.toList = a'.toList := fun e => h1 (by
      rw [ByteArray.toList_eq, ByteArray.toList_eq] at e
      exact ByteArray.ext (Array.toList_inj.1 e))
    simp [smB, h1, h1']
theorem run_neq_sym (a a' : ByteArray) (b b' : Int) (c c' : Bool) (w : World) : Sem.run Tryz.prog (binOp .neq 67 (.agg #[.string a, .int .i64 b, .bool c]) (.agg #[.string a', .int .i64 b', .bool c'])) w =
    .ok (.bool (!smB a b c a' b' c')) w := by
  have h := run_eql_sym a a' b b' c c' w
  simp only [binOp] at h ⊢
  rw [Sem.run_bind] at h ⊢
  revert h
  generalize Sem.run Tryz.prog (Op.equal 67 (.agg #[.string a, .int .i64 b, .bool c]) (.agg #[.string a', .int .i64 b', .bool c'])) w = r
  intro h
  cases r with
  | ok v w' =>
    simp only [Result.andThen_ok, Sem.run_pure] at h ⊢
    injection h with h1 h2
    injection h1 with h1
    rw [h1, h2]
  | halt x w' => simp [Result.andThen] at h
end Go.Proofs.YthgglobfkkcdgaaGreatDoor
namespace Go.Proofs.YthgglobfkkcdgaaGreatDoor
open Go Go.RowKit
variable {F : Fence} {n : Nat} {P : Program} {α : Type}
structure Keeps (S : Nat → Prop) (W W' : World) : Prop where
  os : W'.os = W.os
  tape : W'.tape = W.tape
  output : W'.output = W.output
  size : W.heap.size ≤ W'.heap.size
  block : ∀ g, S g → W'.heap[g]? = W.heap[g]?
theorem Keeps.refl (S : Nat → Prop) (W : World) : Keeps S W W := ⟨rfl, rfl, rfl, Nat.le_refl _, fun _ _ => rfl⟩
theorem Keeps.trans {S : Nat → Prop} {A B C : World} (h : Keeps S A B) (k : Keeps S B C) : Keeps S A C :=
  ⟨k.os.trans h.os, k.tape.trans h.tape, k.output.trans h.output, Nat.le_trans h.size k.size, fun g hg => (k.block g hg).trans (h.block g hg)⟩
theorem Keeps.mono {S T : Nat → Prop} {A B : World} (h : Keeps S A B) (hs : ∀ g, T g → S g) : Keeps T A B := ⟨h.os, h.tape, h.output, h.size, fun g hg => h.block g (hs g hg)⟩
theorem Keeps.below {S : Nat → Prop} {b : Nat} {A B : World} (h : Keeps S A B) (hs : ∀ g, g < b → S g) : Below b A B := ⟨h.os, h.tape, h.output, h.size, fun g hg => h.block g (hs g hg)⟩
theorem Keeps.of_below {b : Nat} {A B : World} (h : Below b A B) : Keeps (· < b) A B := ⟨h.os, h.tape, h.output, h.size, h.block⟩
theorem Keeps.of_grown {A B : World} {row : Option Nat} (h : A.grownBy B row) : Keeps (fun g => g < A.heap.size ∧ some g ≠ row) A B := ⟨h.os, h.tape, h.output, h.size, fun g hg => h.block g hg.1 hg.2⟩
theorem Keeps.put (W : World) (l : Nat) (o : Obj) : Keeps (· ≠ l) W (W.putObj l o) :=
  ⟨rfl, rfl, rfl, by simp, fun _ hk => World.putObj_heap_other (fun e => hk e)⟩
theorem Keeps.alloc (W : World) (o : Obj) : Keeps (· < W.heap.size) W (W.alloc o) := Keeps.of_below ((Below.refl _ _).alloc (Nat.le_refl _) _)
theorem Keeps.set (W : World) (p : Addr) (v : Value) : Keeps (· ≠ p.block) W (W.setCell p v) := ⟨rfl, rfl, rfl, by simp, fun g hg => Below.heap_setCell W p v g hg⟩
theorem Keeps.drewN (S : Nat → Prop) (W : World) (k : Nat) : Keeps S W (W.drewN k) := ⟨rfl, rfl, rfl, Nat.le_refl _, fun _ _ => rfl⟩
structure Stp (N : Nat → Prop) (C : World → Nat → Prop) (A B : World) : Prop where
  keeps : Keeps (fun g => N g ∨ (g < A.heap.size ∧ ¬ C A g)) A B
  grows : ∀ g, C B g → C A g ∨ A.heap.size ≤ g
theorem Stp.refl (N : Nat → Prop) (C : World → Nat → Prop) (A : World) : Stp N C A A := ⟨Keeps.refl _ _, fun _ h => .inl h⟩
theorem Stp.trans {N : Nat → Prop} {C : World → Nat → Prop} {A B D : World} (h : Stp N C A B) (k : Stp N C B D) : Stp N C A D := by
  refine ⟨h.keeps.trans (k.keeps.mono fun g hg => ?_), fun g hg => ?_⟩
  · rcases hg with hg | ⟨h1, h2⟩
    · exact .inl hg
    · exact .inr ⟨Nat.lt_of_lt_of_le h1 h.keeps.size, fun e => (h.grows g e).elim h2 (fun e => by omega)⟩
  · rcases k.grows g hg with h1 | h1
    · exact h.grows g h1
    · exact .inr (Nat.le_trans h.keeps.size h1)
def FrameC {β : Type} (C : World → Nat → Prop) (J : β → World → Prop) : Prop := ∀ s W W', J s W → Keeps (C W) W W' → J s W' ∧ ∀ g, C W' g → C W g
def BoundC {β : Type} (C : World → Nat → Prop) (J : β → World → Prop) : Prop := ∀ s W, J s W → ∀ g, C W g → g < W.heap.size
def SeqC (F : Fence) (n : Nat) (P : Program) (gf : Nat) (lb : Array Value) (encs : α → Array Value) (Fx : α → World → Prop) (N : Nat → Prop) (S Sp : List α → Prop) (w : World) : Prop :=
  ∀ (l : Nat) (C : World → Nat → Prop) (J Jx : List α → World → Prop) (W : World), Below w.heap.size w W → FrameC C J → BoundC C J →
    (∀ m pre x W1, J pre W1 → Sp (pre ++ [x]) → Fx x W1 → YieldAt F m P l (encs x) W1 fun e W' =>
      (e = .returned (.bool true) ∧ J (pre ++ [x]) W' ∧ Stp N C W1 W') ∨ (e = .returned (.bool false) ∧ Jx (pre ++ [x]) W')) →
    J [] W →
    CallsIn F n P gf (#[.func (.yield l) #[] #[]] ++ lb) W fun e W' => (∃ v, e = .returned v) ∧ ((∃ xs, S xs ∧ J xs W') ∨ (∃ pre, Sp pre ∧ Jx pre W'))
def bodyC (N : Nat → Prop) (C : World → Nat → Prop) (I : List α → World → Prop) (Ix : Code → List α → World → Prop) (xs : List α) (W : World) : Exit → Act → World → Prop
  | .normal, _, W' => I xs W' ∧ Stp N C W W'
  | .ret, _, W' => Ix .ret xs W' ∧ Stp N C W W'
  | .exit id, _, W' => Ix (.exit id) xs W' ∧ Stp N C W W'
  | .goto t, _, W' => Ix (.goto t) xs W' ∧ Stp N C W W'
  | .panic _, _, _ => False
  | .outgrown, _, _ => False
end Go.Proofs.YthgglobfkkcdgaaGreatDoor
namespace Go.Proofs.YthgglobfkkcdgaaGreatDoor
open Go.RowKit
inductive Tm where
  | node (f : Int) (xs : List Tm)
def Tm.fn : Tm → Int
  | .node f _ => f
def Tm.args : Tm → List Tm
  | .node _ xs => xs
theorem Tm.eta (t : Tm) : Tm.node t.fn t.args = t := by cases t; rfl
theorem Tm.ind {P : Tm → Prop} (h : ∀ f xs, (∀ t ∈ xs, P t) → P (.node f xs)) (t : Tm) : P t :=
  Tm.rec (motive_1 := P) (motive_2 := fun xs => ∀ t ∈ xs, P t) (fun f xs ih => h f xs ih) (by simp) (fun t ts h1 h2 => by simp only [List.mem_cons]; rintro u (rfl | hu); exact h1; exact h2 _ hu) t
mutual
def Tm.size : Tm → Nat
  | .node _ xs => sizes xs + 1
def sizes : List Tm → Nat
  | [] => 0
  | t :: ts => t.size + sizes ts
end
mutual
def Tm.depth : Tm → Nat
  | .node _ xs => depths xs + 1
def depths : List Tm → Nat
  | [] => 0
  | t :: ts => max t.depth (depths ts)
end
theorem size_mem {t : Tm} {xs : List Tm} (h : t ∈ xs) : t.size ≤ sizes xs := by
  induction xs with
  | nil => simp at h
  | cons a xs ih =>
    simp only [List.mem_cons] at h
    simp only [sizes]
    rcases h with rfl | h
    · omega
    · have := ih h; omega
theorem depth_mem {t : Tm} {xs : List Tm} (h : t ∈ xs) : t.depth ≤ depths xs := by
  induction xs with
  | nil => simp at h
  | cons a xs ih =>
    simp only [List.mem_cons] at h
    simp only [depths]
    rcases h with rfl | h
    · omega
    · have := ih h; omega
theorem size_pos (t : Tm) : 1 ≤ t.size := by cases t; simp only [Tm.size]; omega
theorem depth_pos (t : Tm) : 1 ≤ t.depth := by cases t; simp only [Tm.depth]; omega
theorem sizes_len (xs : List Tm) : xs.length ≤ sizes xs := by
  induction xs with
  | nil => simp [sizes]
  | cons a xs ih => have := size_pos a; simp only [List.length_cons, sizes]; omega
def headI (f g : Int) : Int := if f = g then 0 else if f < 0 ∧ g < 0 then (if g < f then -1 else 1) else if f < g then -1 else 1
def numI (a b : Int) : Int := if a < b then -1 else if b < a then 1 else 0
mutual
def cmpT : Tm → Tm → Int
  | .node f xs, u => if headI f u.fn ≠ 0 then headI f u.fn else if cmpL xs u.args ≠ 0 then cmpL xs u.args else numI xs.length u.args.length
def cmpL : List Tm → List Tm → Int
  | [], _ => 0
  | a :: xs, bs => match bs with
    | [] => 0
    | b :: bs => if cmpT a b ≠ 0 then cmpT a b else cmpL xs bs
end
theorem cmpT_eq (t u : Tm) : cmpT t u = if headI t.fn u.fn ≠ 0 then headI t.fn u.fn else if cmpL t.args u.args ≠ 0 then cmpL t.args u.args else numI t.args.length u.args.length := by
  cases t; simp only [cmpT, Tm.fn, Tm.args]; rfl
theorem cmpL_hit : ∀ {xs bs : List Tm} {k : Nat} {a b : Tm}, xs[k]? = some a → bs[k]? = some b → (∀ j x y, j < k → xs[j]? = some x → bs[j]? = some y → cmpT x y = 0) → cmpT a b ≠ 0 → cmpL xs bs = cmpT a b
  | [], _, _, _, _, h, _, _, _ => by simp at h
  | x :: xs, [], _, _, _, _, h, _, _ => by simp at h
  | x :: xs, y :: bs, 0, a, b, h1, h2, _, hne => by
    simp at h1 h2
    subst h1; subst h2
    simp only [cmpL, if_pos hne]
  | x :: xs, y :: bs, k + 1, a, b, h1, h2, h, hne => by
    have h0 := h 0 x y (by omega) rfl rfl
    simp only [cmpL, h0, ne_eq, not_true_eq_false, if_false]
    exact cmpL_hit (by simpa using h1) (by simpa using h2) (fun j x' y' hj hx hy => h (j + 1) x' y' (by omega) (by simpa using hx) (by simpa using hy)) hne
theorem cmpL_miss : ∀ {xs bs : List Tm}, (∀ (j : Nat) (x y : Tm), xs[j]? = some x → bs[j]? = some y → cmpT x y = 0) → cmpL xs bs = 0
  | [], _, _ => by simp only [cmpL]
  | x :: xs, [], _ => by simp only [cmpL]
  | x :: xs, y :: bs, h => by
    have h0 := h 0 x y rfl rfl
    simp only [cmpL, h0, ne_eq, not_true_eq_false, if_false]
    exact cmpL_miss fun j x' y' hx hy => h (j + 1) x' y' (by simpa using hx) (by simpa using hy)
def I64 (i : Int) : Prop := -9223372036854775808 ≤ i ∧ i ≤ 9223372036854775807
inductive Args (w : World) (B : Nat) : Option Addr → List Tm → Prop
  | nil (A : Option Addr) : Args w B A []
  | row (b off : Nat) (xs : List Tm) (A' : Nat → Option Addr) (c' : Nat → Nat) (hb : b < B) (hlen : xs.length ≤ 9223372036854775807) (hi : ∀ (i : Nat) (t : Tm), xs[i]? = some t → I64 t.fn)
      (h0 : ∀ (i : Nat) (t : Tm), xs[i]? = some t → w.cell? ⟨b, off + i * 2, none⟩ = some (.int .i64 t.fn))
      (h1 : ∀ (i : Nat) (t : Tm), xs[i]? = some t → w.cell? ⟨b, off + i * 2 + 1, none⟩ = some (.slice (A' i) t.args.length (c' i)))
      (hs : ∀ (i : Nat) (t : Tm), xs[i]? = some t → Args w B (A' i) t.args) : Args w B (some ⟨b, off, none⟩) xs
section
variable {w w' : World} {B B' : Nat} {A : Option Addr} {xs : List Tm}
theorem Args.keep (h : Args w B A xs) (hk : ∀ p : Addr, p.block < B → w'.cell? p = w.cell? p) : Args w' B A xs := by
  induction h with
  | nil A => exact .nil A
  | row b off xs A' c' hb hlen hi h0 h1 _ ih => exact .row b off xs A' c' hb hlen hi (fun i t e => (hk ⟨b, _, none⟩ hb).trans (h0 i t e)) (fun i t e => (hk ⟨b, _, none⟩ hb).trans (h1 i t e)) ih
theorem Args.blw (h : Args w B A xs) (hb : Below B w w') : Args w' B A xs := h.keep fun _ hp => hb.cell hp
theorem Args.more (h : Args w B A xs) (hB : B ≤ B') : Args w B' A xs := by
  induction h with
  | nil A => exact .nil A
  | row b off xs A' c' hb hlen hi h0 h1 _ ih => exact .row b off xs A' c' (by omega) hlen hi h0 h1 ih
theorem Args.on (h : Args w w.heap.size A xs) (hb : Below w.heap.size w w') : Args w' w'.heap.size A xs := (h.blw hb).more hb.size
theorem Args.drewN (h : Args w B A xs) (k : Nat) : Args (w.drewN k) B A xs := h.keep fun _ _ => rfl
theorem Args.len (h : Args w B A xs) : xs.length ≤ 9223372036854775807 := by
  cases h with
  | nil => simp
  | row => assumption
structure ArgAt (w : World) (B b off i : Nat) (t : Tm) (A' : Option Addr) (c' : Nat) : Prop where
  hb : b < B
  hi : I64 t.fn
  c0 : w.cell? ⟨b, off + i * 2, none⟩ = some (.int .i64 t.fn)
  c1 : w.cell? ⟨b, off + i * 2 + 1, none⟩ = some (.slice A' t.args.length c')
  sub : Args w B A' t.args
theorem Args.get (h : Args w B A xs) {i : Nat} {t : Tm} (hi : xs[i]? = some t) : ∃ b off A' c', A = some ⟨b, off, none⟩ ∧ ArgAt w B b off i t A' c' := by
  cases h with
  | nil => simp at hi
  | row b off _ A' c' hb hlen hi' h0 h1 hs => exact ⟨b, off, A' i, c' i, rfl, hb, hi' i t hi, h0 i t hi, h1 i t hi, hs i t hi⟩
end
end Go.Proofs.YthgglobfkkcdgaaGreatDoor
namespace Go.Proofs.YthgglobfkkcdgaaGreatDoor
open Go.RowKit
section
variable {w w' : World} {base B n : Nat} {v : Value} {l l' : List Sm} {A : Option Addr}
end
end Go.Proofs.YthgglobfkkcdgaaGreatDoor
namespace Go.Proofs.YthgglobfkkcdgaaGreatDoor
open Go.RowKit
def nameC (c : Int) : Bool := decide ((97 ≤ c ∧ c ≤ 122) ∨ (65 ≤ c ∧ c ≤ 90) ∨ (48 ≤ c ∧ c ≤ 57) ∨ c = 95)
theorem nameC_true {c : Int} (h : (97 ≤ c ∧ c ≤ 122) ∨ (65 ≤ c ∧ c ≤ 90) ∨ (48 ≤ c ∧ c ≤ 57) ∨ c = 95) : nameC c = true := by simpa [nameC] using h
theorem nameC_false {c : Int} (h : ¬ ((97 ≤ c ∧ c ≤ 122) ∨ (65 ≤ c ∧ c ≤ 90) ∨ (48 ≤ c ∧ c ≤ 57) ∨ c = 95)) : nameC c = false := by simpa [nameC] using h
set_option maxHeartbeats 400000 in
theorem nameByte_any (c : Int) (w : World) :
    Calls Tryz.prog 83 #[.int .u8 c] w fun e w' => e = .returned (.bool (nameC c)) ∧ w = w' := by
  go_enter Tryz.func83, Tryz.ntmps83
  go_wp2
  all_goals
    go_ret
    refine ⟨ret_bool ?_, rfl⟩
    rw [eq_comm, Bool.eq_iff_iff]
    simp only [nameC, decide_eq_true_eq, Bool.or_eq_true, beq_iff_eq]
    first | omega | (simp only [iff_true]; omega)
def nameAll (l : List UInt8) : Bool := l.all fun c => nameC c.toNat
theorem take_snoc (s : ByteArray) (k : Nat) (h : k < s.size) : s.data.toList.take (k + 1) = s.data.toList.take k ++ [s[k]] := by
  rw [List.take_succ_eq_append_getElem (by simpa using h)]; rfl
theorem nameAll_snoc (l : List UInt8) (c : UInt8) : nameAll (l ++ [c]) = (nameAll l && nameC c.toNat) := by simp [nameAll]
theorem nameAll_cut {l : List UInt8} {k : Nat} (h : nameAll (l.take k) = false) : nameAll l = false := by
  cases hl : nameAll l with
  | false => rfl
  | true =>
    unfold nameAll at hl h
    rw [List.all_eq_true] at hl
    rw [List.all_eq_false] at h
    obtain ⟨x, hx, hf⟩ := h
    exact absurd (hl x (List.mem_of_mem_take hx)) hf
set_option maxHeartbeats 400000 in
theorem all_any (s : ByteArray) (w : World) (hs : s.size ≤ maxLen) :
    Calls Tryz.prog 82 #[.string s, .func (.func 83) #[] #[]] w fun e w' => e = .returned (.bool (nameAll s.data.toList)) ∧ w = w' := by
  unfold maxLen at hs
  go_enter Tryz.func82, Tryz.ntmps82
  go_wp2
  go_loop [8] (fun i => ∃ k : Nat, k ≤ s.size ∧ i = .int .i64 k ∧ Hid (nameAll (s.data.toList.take k) = true)) (fun i => s.size - (intOf i).toNat)
  case atStart => exact ⟨0, Nat.zero_le _, rfl, by simp [Hid, nameAll]⟩
  case round =>
    obtain ⟨k, hk, rfl, HA⟩ := hrel
    by_cases hlt : k < s.size
    · have hts := take_snoc s k hlt
      have hsn := nameAll_snoc (s.data.toList.take k) s[k]
      rw [← hts, HA.out, Bool.true_and] at hsn
      have HS := Lib.hid hsn
      clear hsn hts
      cases hc : nameC (s[k].toNat : Int) with
      | true =>
        go_wp2_with (first | (go_at_call 83; refine (nameByte_any _ _).mono ?_; rintro e w' ⟨rfl, rfl⟩) | fail)
        go_round
        case rel => exact ⟨k + 1, by omega, by go_num, by rw [Hid, HS.out]; exact hc⟩
        case measure => simp [intOf]; omega
      | false =>
        go_wp2_with (first | (go_at_call 83; refine (nameByte_any _ _).mono ?_; rintro e w' ⟨rfl, rfl⟩) | fail)
        go_ret
        exact ⟨ret_bool (nameAll_cut (HS.out.trans hc)).symm, rfl⟩
    · have : k = s.size := by omega
      subst this
      go_wp2
      go_ret
      exact ⟨ret_bool (by have := HA.out; rw [List.take_of_length_le (by simp)] at this; exact this.symm), rfl⟩
end Go.Proofs.YthgglobfkkcdgaaGreatDoor
namespace Go.Proofs.YthgglobfkkcdgaaGreatDoor
open Go.RowKit
def namedB (s : ByteArray) : Bool := decide (1 ≤ s.size) && decide (s.size ≤ 40) && nameAll s.data.toList
def oneI (name : ByteArray) (arity : Int) : Int := if namedB name = false then 111 else if arity < 0 ∨ 6 < arity then 112 else 0
set_option maxHeartbeats 400000 in
theorem fits_any (s : ByteArray) (a : Int) (w : World) (hs : s.size ≤ maxLen) :
    Calls Tryz.prog 47 #[.string s, .int .i64 a] w fun e w' => e = .returned (.int .i64 (oneI s a)) ∧ w = w' := by
  by_cases h0 : s.size = 0
  · have hf := Lib.hid (show oneI s a = 111 by simp [oneI, namedB, h0])
    have h0' : (((s.size : Nat) : Int) == 0) = true := by simp [h0]
    clear h0
    go_enter Tryz.func47, Tryz.ntmps47
    go_wp2_with fail
    go_ret
    exact ⟨ret_int hf.out.symm, rfl⟩
  · have h0' : (((s.size : Nat) : Int) == 0) = false := by simpa using h0
    by_cases h1 : 40 < s.size
    · have hf := Lib.hid (show oneI s a = 111 by simp [oneI, namedB, Nat.not_le.2 h1])
      clear h0
      go_enter Tryz.func47, Tryz.ntmps47
      go_wp2_with fail
      go_ret
      exact ⟨ret_int hf.out.symm, rfl⟩
    · cases h2 : nameAll s.data.toList with
      | false =>
        have hf := Lib.hid (show oneI s a = 111 by simp [oneI, namedB, h2])
        clear h0
        go_enter Tryz.func47, Tryz.ntmps47
        go_wp2_with (first | (go_at_call 82; refine (all_any _ _ hs).mono ?_; rintro e w' ⟨rfl, rfl⟩) | fail)
        go_ret
        exact ⟨ret_int hf.out.symm, rfl⟩
      | true =>
        have hf := Lib.hid (show oneI s a = if a < 0 ∨ 6 < a then 112 else 0 by
          have e : namedB s = true := by simp [namedB, h2]; omega
          simp [oneI, e])
        clear h0
        go_enter Tryz.func47, Tryz.ntmps47
        go_wp2_with (first | (go_at_call 82; refine (all_any _ _ hs).mono ?_; rintro e w' ⟨rfl, rfl⟩) | fail)
        all_goals
          go_ret
          refine ⟨ret_int ?_, rfl⟩
          rw [hf.out]
          first | rw [if_pos (by omega)] | rw [if_neg (by omega)]
set_option maxHeartbeats 1000000 in
theorem Named_any (s : ByteArray) (w : World) (hs : s.size ≤ maxLen) :
    Calls Tryz.prog 100 #[.string s] w fun e w' => e = .returned (.bool (namedB s)) ∧ w = w' := by
  unfold maxLen at hs
  by_cases h0 : s.size < 1
  · have hf := Lib.hid (show namedB s = false by simp [namedB]; omega)
    go_enter Tryz.func100, Tryz.ntmps100
    go_wp2_with fail
    go_ret
    exact ⟨ret_bool hf.out.symm, rfl⟩
  · by_cases h1 : 40 < s.size
    · have hf := Lib.hid (show namedB s = false by simp [namedB]; omega)
      go_enter Tryz.func100, Tryz.ntmps100
      go_wp2_with fail
      go_ret
      exact ⟨ret_bool hf.out.symm, rfl⟩
    · have hf := Lib.hid (show namedB s = nameAll s.data.toList by
        have e1 : 1 ≤ s.size := by omega
        have e2 : s.size ≤ 40 := by omega
        simp [namedB, e1, e2])
      go_enter Tryz.func100, Tryz.ntmps100
      go_wp2_with fail
      go_loop [3] (fun i => ∃ k : Nat, k ≤ s.size ∧ i = .int .i64 k ∧ Hid (nameAll (s.data.toList.take k) = true)) (fun i => s.size - (intOf i).toNat)
      case atStart => exact ⟨0, Nat.zero_le _, rfl, by simp [Hid, nameAll]⟩
      case round =>
        obtain ⟨k, hk, rfl, HA⟩ := hrel
        by_cases hlt : k < s.size
        · have hts := take_snoc s k hlt
          have hsn := nameAll_snoc (s.data.toList.take k) s[k]
          rw [← hts, HA.out, Bool.true_and] at hsn
          have HS := Lib.hid hsn
          clear hsn hts
          have hc : (s[k].toNat : Int) < 48 ∨ (48 ≤ (s[k].toNat : Int) ∧ (s[k].toNat : Int) ≤ 57) ∨ (58 ≤ (s[k].toNat : Int) ∧ (s[k].toNat : Int) ≤ 64) ∨ (65 ≤ (s[k].toNat : Int) ∧ (s[k].toNat : Int) ≤ 90) ∨
              (91 ≤ (s[k].toNat : Int) ∧ (s[k].toNat : Int) ≤ 94) ∨ (95 ≤ (s[k].toNat : Int) ∧ (s[k].toNat : Int) ≤ 95) ∨ (96 ≤ (s[k].toNat : Int) ∧ (s[k].toNat : Int) ≤ 96) ∨ (97 ≤ (s[k].toNat : Int) ∧ (s[k].toNat : Int) ≤ 122) ∨ 123 ≤ (s[k].toNat : Int) := by omega
          rcases hc with hc | ⟨hc, hc'⟩ | ⟨hc, hc'⟩ | ⟨hc, hc'⟩ | ⟨hc, hc'⟩ | ⟨hc, hc'⟩ | ⟨hc, hc'⟩ | ⟨hc, hc'⟩ | hc
          all_goals
            first | have hn : Hid (nameAll (s.data.toList.take (k + 1)) = true) := HS.out.trans (nameC_true (by omega)) | have hn : Hid (nameAll (s.data.toList.take (k + 1)) = false) := HS.out.trans (nameC_false (by omega))
            clear HS
            first | have e57 : decide ((s[k].toNat : Int) ≤ 57) = true := decide_eq_true (by omega) | have e57 : decide ((s[k].toNat : Int) ≤ 57) = false := decide_eq_false (by omega)
            first | have e90 : decide ((s[k].toNat : Int) ≤ 90) = true := decide_eq_true (by clear e57; omega) | have e90 : decide ((s[k].toNat : Int) ≤ 90) = false := decide_eq_false (by clear e57; omega)
            first | have e122 : decide ((s[k].toNat : Int) ≤ 122) = true := decide_eq_true (by clear e57 e90; omega) | have e122 : decide ((s[k].toNat : Int) ≤ 122) = false := decide_eq_false (by clear e57 e90; omega)
            first | have e95 : ((s[k].toNat : Int) == 95) = true := beq_iff_eq.2 (by clear e57 e90 e122; omega) | have e95 : ((s[k].toNat : Int) == 95) = false := beq_eq_false_iff_ne.2 (by clear e57 e90 e122; omega)
            go_wp2
            first
            | (go_round
               case rel => exact ⟨k + 1, by omega, by go_num, hn⟩
               case measure => simp [intOf]; omega)
            | (go_ret
               exact ⟨ret_bool (hf.out.trans (nameAll_cut hn.out)).symm, rfl⟩)
        · have : k = s.size := by omega
          subst this
          go_wp2
          go_ret
          exact ⟨ret_bool (by have := HA.out; rw [List.take_of_length_le (by simp)] at this; exact (hf.out.trans this).symm), rfl⟩
end Go.Proofs.YthgglobfkkcdgaaGreatDoor
namespace Go.Proofs.YthgglobfkkcdgaaGreatDoor
open Go.RowKit
set_option maxHeartbeats 400000 in
theorem One_any (x : Sm) (w : World) (hx : x.Ok) :
    Calls Tryz.prog 68 #[.agg #[.string x.name, .int .i64 x.arity, .bool x.pred]] w fun e w' => e = .returned (.int .i64 (oneI x.name x.arity)) ∧ Below w.heap.size w w' := by
  have hs := hx.size
  have hlo := hx.lo
  have hhi := hx.hi
  cases h2 : namedB x.name with
  | false =>
    have hf := Lib.hid (show oneI x.name x.arity = 111 by simp [oneI, h2])
    go_enter Tryz.func68, Tryz.ntmps68
    go_wp2_with (first | (go_at_call 100; refine (Named_any _ _ hs).mono ?_; rintro e w' ⟨rfl, rfl⟩) | fail)
    go_ret
    exact ⟨ret_int hf.out.symm, (Below.refl _ _).alloc (Nat.le_refl _) _⟩
  | true =>
    have hf := Lib.hid (show oneI x.name x.arity = if x.arity < 0 ∨ 6 < x.arity then 112 else 0 by simp [oneI, h2])
    go_enter Tryz.func68, Tryz.ntmps68
    go_wp2_with (first | (go_at_call 100; refine (Named_any _ _ hs).mono ?_; rintro e w' ⟨rfl, rfl⟩) | fail)
    all_goals
      go_ret
      refine ⟨ret_int ?_, (Below.refl _ _).alloc (Nat.le_refl _) _⟩
      rw [hf.out]
      first | rw [if_pos (by omega)] | rw [if_neg (by omega)]
def truthS : ByteArray := ⟨#[36, 116, 114, 117, 101]⟩
def truthSm : Sm := ⟨truthS, 0, true⟩
set_option maxHeartbeats 400000 in
theorem Truth_any (w : World) :
    Calls Tryz.prog 67 #[] w fun e w' => e = .returned (.agg #[.string truthSm.name, .int .i64 truthSm.arity, .bool truthSm.pred]) ∧ Below w.heap.size w w' := by
  go_enter Tryz.func67, Tryz.ntmps67
  go_wp2
  refine bodyPost_ret (v := .agg #[.string truthSm.name, .int .i64 truthSm.arity, .bool truthSm.pred]) (by simp [results, Tryz.results67, go_sem, truthSm, truthS]) rfl ⟨rfl, ?_⟩
  repeat first | exact Below.refl _ _ | refine bl_drewN ?_ _ | refine Below.alloc ?_ (by simp) _ | refine Below.setCell ?_ (by simp) _
def atI (l : List Sm) (x : Sm) : Int := match l.findIdx? (· == x) with | some i => i | none => -1
theorem atI_hit (l : List Sm) (x : Sm) (k : Nat) (hx : l[k]? = some x) (h : ∀ j, j < k → l[j]? ≠ some x) : atI l x = k := by
  have : l.findIdx? (· == x) = some k := by
    rw [List.findIdx?_eq_some_iff_getElem]
    obtain ⟨hk, hx⟩ := List.getElem?_eq_some_iff.1 hx
    refine ⟨hk, by simp [hx], fun j hj => ?_⟩
    have := h j hj
    rw [List.getElem?_eq_getElem (by omega)] at this
    simpa using this
  simp [atI, this]
theorem atI_miss (l : List Sm) (x : Sm) (h : ∀ j, j < l.length → l[j]? ≠ some x) : atI l x = -1 := by
  have : l.findIdx? (· == x) = none := by
    rw [List.findIdx?_eq_none_iff]
    intro y hy
    obtain ⟨j, hj, rfl⟩ := List.getElem_of_mem hy
    have := h j hj
    rw [List.getElem?_eq_getElem hj] at this
    simpa using this
  simp [atI, this]
theorem not_before {l : List Sm} {x y : Sm} {k : Nat} (h : ∀ j, j < k → l[j]? ≠ some x) (hy : l[k]? = some y) (hx : y ≠ x) : ∀ j, j < k + 1 → l[j]? ≠ some x := by
  intro j hlt
  by_cases e : j = k
  · subst e; rw [hy]; intro h; injection h with h; exact hx h
  · exact h j (by omega)
set_option maxHeartbeats 400000 in
theorem At_any (A : Option Addr) (n c B : Nat) (l : List Sm) (x : Sm) (w : World) (h : Syms w B A n l) (hB : B ≤ w.heap.size) (hn : n ≤ 9223372036854775807) :
    Calls Tryz.prog 69 #[.slice A n c, .agg #[.string x.name, .int .i64 x.arity, .bool x.pred]] w fun e w' => e = .returned (.int .i64 (atI l x)) ∧ Below w.heap.size w w' := by
  have heq := run_eql_sym
  go_enter Tryz.func69, Tryz.ntmps69
  go_wp2
  obtain ⟨W, hW⟩ : ∃ W, w.alloc (.cells #[.string x.name, .int .i64 x.arity, .bool x.pred] 67) = W := ⟨_, rfl⟩
  have hWB : Below w.heap.size w W := by rw [← hW]; exact (Below.refl _ _).alloc (Nat.le_refl _) _
  have x1 : W.cell? ⟨w.heap.size, 0, none⟩ = some (.string x.name) := by rw [← hW]; clear hW; go_simp
  have x2 : W.cell? ⟨w.heap.size, 1, none⟩ = some (.int .i64 x.arity) := by rw [← hW]; clear hW; go_simp
  have x3 : W.cell? ⟨w.heap.size, 2, none⟩ = some (.bool x.pred) := by rw [← hW]; clear hW; go_simp
  rw [hW]
  have h' := h.below (hWB.mono hB)
  clear hW
  go_loopw [5] (fun i wr => ∃ k q : Nat, k ≤ n ∧ i = .int .i64 k ∧ wr = W.drewN q ∧ Hid (∀ j, j < k → l[j]? ≠ some x)) (fun i _ => n - (intOf i).toNat)
  case atStart => exact ⟨0, 0, Nat.zero_le _, rfl, rfl, fun j h0 => absurd h0 (Nat.not_lt_zero _)⟩
  case round =>
    obtain ⟨k, q, hk, rfl, rfl, HA⟩ := hrel
    by_cases hlt : k < n
    · obtain ⟨b, off, rfl, hb, hc⟩ := h'.ad (by omega)
      have hkl : k < l.length := by rw [h'.len]; exact hlt
      obtain ⟨y, hy⟩ : ∃ y, l[k]? = some y := ⟨_, List.getElem?_eq_getElem hkl⟩
      obtain ⟨c1, c2, c3⟩ := hc k y hy
      have Hy := Lib.hid hy
      clear hy hc h h'
      by_cases hyx : y = x
      · have hs := smB_true hyx
        have Hyx := Lib.hid hyx
        clear hyx
        go_wp2
        go_quiet (fail)
        go_wp2
        go_ret
        exact ⟨ret_int (atI_hit l x k (by rw [Hy.out, Hyx.out]) HA.out).symm, bl_drewN (bl_drewN hWB _) _⟩
      · have hs := smB_false hyx
        go_wp2
        go_quiet (fail)
        go_wp2
        go_roundw
        case rel => exact ⟨k + 1, q + nq, by omega, by go_num, rfl, not_before HA.out Hy.out hyx⟩
        case measure => simp [intOf]; omega
    · have : k = n := by omega
      subst this
      go_wp2
      go_ret
      exact ⟨ret_int (atI_miss l x (fun j hj => HA.out j (by rw [← h.len]; exact hj))).symm, bl_drewN hWB _⟩
end Go.Proofs.YthgglobfkkcdgaaGreatDoor
namespace Go.Proofs.YthgglobfkkcdgaaGreatDoor
open Go.RowKit
theorem cell_on {B : Nat} {W w1 : World} (hb : Below B W w1) {b o : Nat} {v : Value} (hlt : b < B) (h : W.cell? ⟨b, o, none⟩ = some v) : w1.cell? ⟨b, o, none⟩ = some v := (hb.cell (p := ⟨b, o, none⟩) hlt).trans h
theorem frozen_on {B : Nat} {W w1 : World} (hb : Below B W w1) {b o : Nat} {x : Bool} (hlt : b < B) (h : W.frozen? ⟨b, o, none⟩ = x) : w1.frozen? ⟨b, o, none⟩ = x := (hb.frozen (p := ⟨b, o, none⟩) hlt).trans h
end Go.Proofs.YthgglobfkkcdgaaGreatDoor
namespace Go.Proofs.YthgglobfkkcdgaaGreatDoor
open Go.RowKit
set_option maxRecDepth 100000
theorem info_term : (Tryz.prog.info? 32).map (fun i => (i.zero, i.size, i.bytes)) = some (some (.agg #[.int .i64 0, .slice none 0 0]), 2, 32) := by kernel_rfl
inductive OwnT (w : World) : Nat → Nat → Option Addr → List Tm → Prop
  | nil (lo hi : Nat) (A : Option Addr) : OwnT w lo hi A []
  | row (lo hi b cap : Nat) (xs : List Tm) (vs : List Value) (A' : Nat → Option Addr) (c' m : Nat → Nat) (hlo : lo ≤ b) (hpos : 0 < xs.length) (hlen : xs.length ≤ 9223372036854775807) (hrow : w.ownsRow b 32 2 (.slice (some ⟨b, 0, none⟩) xs.length cap) xs.length vs)
      (hm0 : b + 1 ≤ m 0) (hmn : m xs.length ≤ hi) (hm : ∀ i : Nat, i < xs.length → m i ≤ m (i + 1)) (hi64 : ∀ (i : Nat) (t : Tm), xs[i]? = some t → I64 t.fn)
      (h0 : ∀ (i : Nat) (t : Tm), xs[i]? = some t → vs[i * 2]? = some (.int .i64 t.fn))
      (h1 : ∀ (i : Nat) (t : Tm), xs[i]? = some t → vs[i * 2 + 1]? = some (.slice (A' i) t.args.length (c' i)))
      (hs : ∀ (i : Nat) (t : Tm), xs[i]? = some t → OwnT w (m i) (m (i + 1)) (A' i) t.args) : OwnT w lo hi (some ⟨b, 0, none⟩) xs
theorem mono_to {m : Nat → Nat} {n : Nat} (h : ∀ i : Nat, i < n → m i ≤ m (i + 1)) : ∀ {i j : Nat}, i ≤ j → j ≤ n → m i ≤ m j := by
  intro i j hij hj
  induction j with
  | zero => obtain rfl : i = 0 := by omega
            exact Nat.le_refl _
  | succ j ih =>
    by_cases e : i = j + 1
    · subst e; exact Nat.le_refl _
    · exact Nat.le_trans (ih (by omega) (by omega)) (h j (by omega))
theorem ownsRow_keep {w w' : World} {base e size n : Nat} {v : Value} {xs : List Value} {g : Nat} (h : w.ownsRow base e size v n xs) (hv : ∀ g', v.ownBlock = some g' → g' = g) (hk : w'.heap[g]? = w.heap[g]?) : w'.ownsRow base e size v n xs := by
  refine ⟨h.1, ?_⟩
  rcases h.2 with h0 | ⟨g', cap, cur, rfl, hbase, hg, hrest⟩
  · exact .inl h0
  · obtain rfl := hv g' rfl
    exact .inr ⟨g', cap, cur, rfl, hbase, hk.trans hg, hrest⟩
section
variable {w w' : World} {lo hi lo' hi' : Nat} {A : Option Addr} {xs : List Tm}
theorem OwnT.keep (h : OwnT w lo hi A xs) : (∀ g, lo ≤ g → g < hi → w'.heap[g]? = w.heap[g]?) → OwnT w' lo hi A xs := by
  induction h with
  | nil lo hi A => intro _; exact .nil lo hi A
  | row lo hi b cap xs vs A' c' m hlo hpos hlen hrow hm0 hmn hm hi64 h0 h1 _ ih =>
    intro hk
    have hbm : b < hi := by have := mono_to hm (Nat.zero_le xs.length) (Nat.le_refl _); omega
    refine .row lo hi b cap xs vs A' c' m hlo hpos hlen (ownsRow_keep hrow (fun g' e => by simp [Value.ownBlock] at e; exact e.symm) (hk b hlo hbm)) hm0 hmn hm hi64 h0 h1 fun i t hit => ih i t hit fun g h2 h3 => hk g ?_ ?_
    · have hil := (List.getElem?_eq_some_iff.1 hit).1
      have := mono_to hm (Nat.zero_le i) (by omega)
      omega
    · have hil := (List.getElem?_eq_some_iff.1 hit).1
      have := mono_to hm (show i + 1 ≤ xs.length by omega) (Nat.le_refl _)
      omega
theorem OwnT.on (h : OwnT w lo hi A xs) (hb : Below w.heap.size w w') (hh : hi ≤ w.heap.size) : OwnT w' lo hi A xs := h.keep fun g _ hg => hb.block g (by omega)
theorem OwnT.wide (h : OwnT w lo hi A xs) (h1 : lo' ≤ lo) (h2 : hi ≤ hi') : OwnT w lo' hi' A xs := by
  cases h with
  | nil => exact .nil lo' hi' A
  | row _ _ b cap _ vs A' c' m hlo hpos hlen hrow hm0 hmn hm hi64 a0 a1 hs => exact .row lo' hi' b cap xs vs A' c' m (by omega) hpos hlen hrow hm0 (by omega) hm hi64 a0 a1 hs
theorem OwnT.args {B : Nat} (h : OwnT w lo hi A xs) : hi ≤ B → Args w B A xs := by
  induction h with
  | nil lo hi A => intro _; exact .nil A
  | row lo hi b cap xs vs A' c' m hlo hpos hlen hrow hm0 hmn hm hi64 h0 h1 _ ih =>
    intro hB
    have hbm : b < hi := by have := mono_to hm (Nat.zero_le xs.length) (Nat.le_refl _); omega
    have hvs : vs.length = xs.length * 2 := hrow.1
    refine .row b 0 xs A' c' (by omega) hlen hi64 (fun i t e => ?_) (fun i t e => ?_) fun i t hit => ih i t hit ?_
    · have hil := (List.getElem?_eq_some_iff.1 e).1
      rw [Nat.zero_add, hrow.cellAt (i * 2) (by omega)]
      exact h0 i t e
    · have hil := (List.getElem?_eq_some_iff.1 e).1
      rw [Nat.zero_add, hrow.cellAt (i * 2 + 1) (by omega)]
      exact h1 i t e
    · have hil := (List.getElem?_eq_some_iff.1 hit).1
      have := mono_to hm (show i + 1 ≤ xs.length by omega) (Nat.le_refl _)
      omega
end
structure RowK (w : World) (b cap : Nat) (xs : List Tm) (k : Nat) (vs : List Value) (A' : Nat → Option Addr) (c' m : Nat → Nat) : Prop where
  row : w.ownsRow b 32 2 (.slice (some ⟨b, 0, none⟩) xs.length cap) xs.length vs
  m0 : b + 1 ≤ m 0
  mke : m k ≤ w.heap.size
  mono : ∀ i : Nat, i < k → m i ≤ m (i + 1)
  i64 : ∀ (i : Nat) (t : Tm), i < k → xs[i]? = some t → I64 t.fn
  v0 : ∀ (i : Nat) (t : Tm), i < k → xs[i]? = some t → vs[i * 2]? = some (.int .i64 t.fn)
  v1 : ∀ (i : Nat) (t : Tm), i < k → xs[i]? = some t → vs[i * 2 + 1]? = some (.slice (A' i) t.args.length (c' i))
  sub : ∀ (i : Nat) (t : Tm), i < k → xs[i]? = some t → OwnT w (m i) (m (i + 1)) (A' i) t.args
section
variable {w w' : World} {lo hi : Nat} {xs : List Tm} {b cap k : Nat} {vs : List Value} {A' : Nat → Option Addr} {c' m : Nat → Nat}
theorem RowK.whole (h : RowK w b cap xs xs.length vs A' c' m) (hpos : 0 < xs.length) (hlen : xs.length ≤ 9223372036854775807) (hlo : lo ≤ b) (hhi : w.heap.size ≤ hi) : OwnT w lo hi (some ⟨b, 0, none⟩) xs :=
  have hlt : ∀ {i : Nat} {t : Tm}, xs[i]? = some t → i < xs.length := fun e => (List.getElem?_eq_some_iff.1 e).1
  .row lo hi b cap xs vs A' c' m hlo hpos hlen h.row h.m0 (Nat.le_trans h.mke hhi) h.mono (fun i t e => h.i64 i t (hlt e) e) (fun i t e => h.v0 i t (hlt e) e) (fun i t e => h.v1 i t (hlt e) e) fun i t e => h.sub i t (hlt e) e
theorem RowK.on (h : RowK w b cap xs k vs A' c' m) (hbs : b < w.heap.size) (hb : Below w.heap.size w w') : RowK w' b cap xs k vs A' c' m :=
  ⟨ownsRow_keep h.row (fun g' e => by simp [Value.ownBlock] at e; exact e.symm) (hb.block b hbs), h.m0, Nat.le_trans h.mke hb.size, h.mono, h.i64, h.v0, h.v1, fun i t hik e => (h.sub i t hik e).on hb (Nat.le_trans (mono_to h.mono (show i + 1 ≤ k by omega) (Nat.le_refl _)) h.mke)⟩
theorem RowK.step (h : RowK w b cap xs k vs A' c' m) {t : Tm} {A1 : Option Addr} {c1 lo1 : Nat} (hk : xs[k]? = some t) (hi : I64 t.fn) (hs : OwnT w lo1 w.heap.size A1 t.args) (hlo : m k ≤ lo1) :
    ∃ vs' A'' c'' m', RowK ((w.setCell ⟨b, k * 2, none⟩ (.int .i64 t.fn)).setCell ⟨b, k * 2 + 1, none⟩ (.slice A1 t.args.length c1)) b cap xs (k + 1) vs' A'' c'' m' := by
  have hkl := (List.getElem?_eq_some_iff.1 hk).1
  have hvs : vs.length = xs.length * 2 := h.row.1
  have h1 := (h.row.stored (k * 2) (.int .i64 t.fn)).1
  have h2 := (h1.stored (k * 2 + 1) (.slice A1 t.args.length c1)).1
  have hother : ∀ g, b + 1 ≤ g → ((w.setCell ⟨b, k * 2, none⟩ (.int .i64 t.fn)).setCell ⟨b, k * 2 + 1, none⟩ (.slice A1 t.args.length c1)).heap[g]? = w.heap[g]? := fun g hg =>
    (heap_setCell_other _ _ _ _ (show g ≠ b by omega)).trans (heap_setCell_other _ _ _ _ (show g ≠ b by omega))
  have hm0 : ∀ i, i ≤ k → b + 1 ≤ m i := fun i hi => Nat.le_trans h.m0 (mono_to h.mono (Nat.zero_le i) hi)
  refine ⟨_, fun i => if i = k then A1 else A' i, fun i => if i = k then c1 else c' i, fun i => if i = k + 1 then w.heap.size else m i, h2, ?_, ?_, ?_, ?_, ?_, ?_, ?_⟩
  · simp only [if_neg (show ¬ (0 = k + 1) by omega)]; exact h.m0
  · simp
  · intro i hik
    by_cases e : i = k
    · subst e
      simp only [if_neg (show ¬ (i = i + 1) by omega), if_true]
      exact h.mke
    · simp only [if_neg (show ¬ (i = k + 1) by omega), if_neg (show ¬ (i + 1 = k + 1) by omega)]
      exact h.mono i (by omega)
  · intro i u hik e
    by_cases e1 : i = k
    · subst e1; rw [hk] at e; cases e; exact hi
    · exact h.i64 i u (by omega) e
  · intro i u hik e
    by_cases e1 : i = k
    · subst e1; rw [hk] at e; cases e
      rw [List.getElem?_set_ne (by omega), List.getElem?_set_self (by omega)]
    · rw [List.getElem?_set_ne (by omega), List.getElem?_set_ne (by omega)]
      exact h.v0 i u (by omega) e
  · intro i u hik e
    by_cases e1 : i = k
    · subst e1; rw [hk] at e; cases e
      simp only [if_true]
      rw [List.getElem?_set_self (by simp; omega)]
    · simp only [if_neg e1]
      rw [List.getElem?_set_ne (by omega), List.getElem?_set_ne (by omega)]
      exact h.v1 i u (by omega) e
  · intro i u hik e
    by_cases e1 : i = k
    · subst e1; rw [hk] at e; cases e
      simp only [if_true, if_neg (show ¬ (i = i + 1) by omega)]
      exact (hs.wide hlo (Nat.le_refl _)).keep fun g h3 _ => hother g (Nat.le_trans (hm0 i (Nat.le_refl _)) h3)
    · simp only [if_neg e1, if_neg (show ¬ (i = k + 1) by omega), if_neg (show ¬ (i + 1 = k + 1) by omega)]
      exact (h.sub i u (by omega) e).keep fun g h3 _ => hother g (Nat.le_trans (hm0 i (by omega)) h3)
end
end Go.Proofs.YthgglobfkkcdgaaGreatDoor
namespace Go.Proofs.YthgglobfkkcdgaaGreatDoor
open Go.RowKit
set_option maxRecDepth 100000
def ClonePost (t : Tm) (w : World) (e : Ending) (w' : World) : Prop := ∃ A' c', e = .returned (.agg #[.int .i64 t.fn, .slice A' t.args.length c']) ∧ OwnT w' w.heap.size w'.heap.size A' t.args ∧ Below w.heap.size w w'
def CloneAt (t : Tm) : Prop := t.size ≤ 4398046511104 → ∀ (A : Option Addr) (c : Nat) (w : World), I64 t.fn → Args w w.heap.size A t.args → Calls Tryz.prog 51 #[.agg #[.int .i64 t.fn, .slice A t.args.length c]] w (ClonePost t w)
theorem heap3 (w : World) (o1 o2 o3 : Obj) : (((w.alloc o1).alloc o2).alloc o3).heap[w.heap.size]? = some o1 ∧ (((w.alloc o1).alloc o2).alloc o3).heap[w.heap.size + 1]? = some o2 ∧ (((w.alloc o1).alloc o2).alloc o3).heap[w.heap.size + 1 + 1]? = some o3 := by
  have e1 : (w.alloc o1).heap.size = w.heap.size + 1 := by simp
  have e2 : ((w.alloc o1).alloc o2).heap.size = w.heap.size + 1 + 1 := by simp
  refine ⟨?_, ?_, ?_⟩
  · rw [Below.heap_alloc _ _ _ (by omega), Below.heap_alloc _ _ _ (by omega)]
    exact heap_alloc_new w o1
  · rw [Below.heap_alloc _ _ _ (by omega), ← e1]
    exact heap_alloc_new _ o2
  · rw [← e2]
    exact heap_alloc_new _ o3
theorem cell_set2 {W : World} {b b' o o1 o2 : Nat} {u v x : Value} (h : W.cell? ⟨b, o, none⟩ = some x) (hb : b ≠ b') : ((W.setCell ⟨b', o1, none⟩ u).setCell ⟨b', o2, none⟩ v).cell? ⟨b, o, none⟩ = some x := by
  have e : ((W.setCell ⟨b', o1, none⟩ u).setCell ⟨b', o2, none⟩ v).heap[b]? = W.heap[b]? := (heap_setCell_other _ _ _ _ hb).trans (heap_setCell_other _ _ _ _ hb)
  rw [← h]
  simp only [World.cell?, e]
theorem cells_two {W : World} {b : Nat} {x y : Value} {t : TypeId} (h : W.heap[b]? = some (.cells #[x, y] t)) : W.cell? ⟨b, 0, none⟩ = some x ∧ W.cell? ⟨b, 1, none⟩ = some y ∧ W.frozen? ⟨b, 0, none⟩ = false ∧ W.frozen? ⟨b, 1, none⟩ = false := by
  refine ⟨?_, ?_, ?_, ?_⟩ <;> simp [World.cell?, World.frozen?, h]
set_option maxHeartbeats 2000000 in
theorem clone_any (t : Tm) : CloneAt t := by
  refine Tm.ind (P := CloneAt) (fun f xs ih => ?_) t
  intro hsz A c w hf hA
  simp only [Tm.fn, Tm.args] at hf hA ⊢
  have hlen : xs.length ≤ 4398046511104 := by have := sizes_len xs; simp only [Tm.size] at hsz; omega
  obtain ⟨i0, hi, hz0, hz1, hz2⟩ := info_parts info_term
  rcases Nat.eq_zero_or_pos xs.length with h0 | h0
  · obtain rfl : xs = [] := List.eq_nil_of_length_eq_zero h0
    clear h0
    simp only [List.length_nil] at *
    go_enter Tryz.func51, Tryz.ntmps51
    go_wp2
    go_loopw [21] (fun i wr => i = .int .i64 0 ∧ wr = (((w.alloc (.cells #[.int .i64 f, .slice A 0 c] 32)).alloc (.cells #[.int .i64 0, .slice none 0 0] 32)).alloc (.cells #[.int .i64 f, .slice none 0 0] 32))) (fun i _ => 0)
    case atStart => exact ⟨rfl, rfl⟩
    case round =>
      obtain ⟨rfl, rfl⟩ := hrel
      go_wp2
      refine bodyPost_ret (v := .agg #[.int .i64 f, .slice none 0 0]) (by simp [results, Tryz.results51, go_sem]) rfl ⟨none, 0, rfl, .nil _ _ _, ?_⟩
      exact (((Below.refl _ _).alloc (Nat.le_refl _) _).alloc (by simp) _).alloc (by simp; omega) _
  · have hpos : ((xs.length : Int) > 0) := by omega
    go_enter Tryz.func51, Tryz.ntmps51
    go_wp2_with (first
      | (at_make; go_loud (skip)
         refine wpList_make_full _ rfl _ _ 30 rfl (w.heap.size + 1 + 1 + 1) 32 i0 (.agg #[.int .i64 0, .slice none 0 0]) 2 Tryz.underlying30 hi hz0 hz1 .i64 .i64 _ _ xs.length rfl rfl rfl rfl (by rw [hz2]; omega) (by unfold maxLen; omega) (by simp) ?_
         intro w1 hown hgrow
         have hB1 := (Below.refl (((w.alloc (.cells #[.int .i64 f, .slice A xs.length c] 32)).alloc (.cells #[.int .i64 0, .slice none 0 0] 32)).alloc (.cells #[.int .i64 f, .slice none 0 0] 32)).heap.size _).grown hgrow (Nat.le_refl _) (fun k e => by cases e)
         have hs0 : (((w.alloc (.cells #[.int .i64 f, .slice A xs.length c] 32)).alloc (.cells #[.int .i64 0, .slice none 0 0] 32)).alloc (.cells #[.int .i64 f, .slice none 0 0] 32)).heap.size = w.heap.size + 1 + 1 + 1 := by simp
         rw [hs0] at hown hB1
         have q0 : w1.heap[w.heap.size]? = some (.cells #[.int .i64 f, .slice A xs.length c] 32) := (hB1.block _ (by omega)).trans (heap3 _ _ _ _).1
         have q1 : w1.heap[w.heap.size + 1]? = some (.cells #[.int .i64 0, .slice none 0 0] 32) := (hB1.block _ (by omega)).trans (heap3 _ _ _ _).2.1
         have q2 : w1.heap[w.heap.size + 1 + 1]? = some (.cells #[.int .i64 f, .slice none 0 0] 32) := (hB1.block _ (by omega)).trans (heap3 _ _ _ _).2.2
         obtain ⟨a0, a1, _, _⟩ := cells_two q0
         obtain ⟨b0, b1, g0, g1⟩ := cells_two q1
         obtain ⟨c0, c1, k0, k1⟩ := cells_two q2
         clear hgrow hs0)
      | fail)
    have hbs1 : w.heap.size + 1 + 1 + 1 < w1.heap.size := by
      rcases hown.2 with ⟨h, _⟩ | ⟨g, cap, cur, h, _, hg, _⟩
      · cases h
      · injection h with h _ _; injection h with h; injection h with h _ _; subst h
        exact (Array.getElem?_eq_some_iff.1 hg).1
    obtain ⟨W2, hW2⟩ : ∃ W2, w1.setCell ⟨w.heap.size + 1 + 1, 1, none⟩ (.slice (some ⟨w.heap.size + 1 + 1 + 1, 0, none⟩) xs.length xs.length) = W2 := ⟨_, rfl⟩
    have y1 : W2.heap[w.heap.size + 1]? = some (.cells #[.int .i64 0, .slice none 0 0] 32) := by rw [← hW2]; exact (heap_setCell_other _ _ _ _ (by show w.heap.size + 1 ≠ w.heap.size + 1 + 1; omega)).trans q1
    have y2 : W2.heap[w.heap.size + 1 + 1]? = some (.cells #[.int .i64 f, .slice (some ⟨w.heap.size + 1 + 1 + 1, 0, none⟩) xs.length xs.length] 32) := by rw [← hW2]; exact heap_setCell_same w1 _ 1 _ _ _ q2
    have HB2 : Below w.heap.size w W2 := by
      rw [← hW2]
      exact (((((Below.refl w.heap.size w).alloc (Nat.le_refl _) _).alloc (by simp) _).alloc (by simp; omega) _).trans (hB1.mono (by omega))).setCell (by show _ ≤ w.heap.size + 1 + 1; omega) _
    have HR : ∃ vs A' c' m, RowK W2 (w.heap.size + 1 + 1 + 1) xs.length xs 0 vs A' c' m := by
      refine ⟨_, fun _ => none, fun _ => 0, fun _ => w.heap.size + 1 + 1 + 1 + 1, ownsRow_keep hown (fun g' e => by simp [Value.ownBlock] at e; exact e.symm) (g := w.heap.size + 1 + 1 + 1) ?_, Nat.le_refl _, ?_, fun i h => by omega, fun i t h => by omega, fun i t h => by omega, fun i t h => by omega, fun i t h => by omega⟩
      · rw [← hW2]; exact heap_setCell_other _ _ _ _ (by show w.heap.size + 1 + 1 + 1 ≠ w.heap.size + 1 + 1; omega)
      · rw [← hW2]; simp; omega
    have hbs2 : w.heap.size + 1 + 1 + 1 < W2.heap.size := by rw [← hW2]; simpa using hbs1
    rw [hW2]
    clear hW2 hown hB1 q0 q1 q2 a0 a1 b0 b1 g0 g1 c0 c1 k0 k1 hbs1
    go_loopw [21] (fun i wr => ∃ k : Nat, k ≤ xs.length ∧ i = .int .i64 (k : Int) ∧ Below (w.heap.size + 1 + 1 + 1) W2 wr ∧ w.heap.size + 1 + 1 + 1 < wr.heap.size ∧ Hid (∃ vs A' c' m, RowK wr (w.heap.size + 1 + 1 + 1) xs.length xs k vs A' c' m)) (fun i _ => xs.length - (intOf i).toNat)
    case atStart => exact ⟨0, Nat.zero_le _, rfl, Below.refl _ _, hbs2, HR⟩
    case round =>
      obtain ⟨k, hk, rfl, hBr, hbs, H⟩ := hrel
      obtain ⟨b0, b1, g0, g1⟩ := cells_two ((hBr.block _ (by omega)).trans y1)
      obtain ⟨c0, c1, _, _⟩ := cells_two ((hBr.block _ (by omega)).trans y2)
      have hBw : Below w.heap.size w wr := HB2.trans (hBr.mono (by omega))
      by_cases hlt : k < xs.length
      · obtain ⟨t, ht⟩ : ∃ t, xs[k]? = some t := ⟨_, List.getElem?_eq_getElem hlt⟩
        obtain ⟨bb, off, A1, c1', rfl, ha⟩ := (hA.on hBw).get ht
        have e0 := ha.c0
        have e1 := ha.c1
        have hsub := Lib.hid (ha.sub)
        have hi64 := ha.hi
        have hmem := List.mem_of_getElem? ht
        have hszt : t.size ≤ 4398046511104 := by have := size_mem hmem; simp only [Tm.size] at hsz; omega
        have Ht := Lib.hid ht
        obtain ⟨vs, A', c', m, hR⟩ := H.out
        have hvl : vs.length = xs.length * 2 := hR.row.1
        have hR := Lib.hid hR
        clear ht ha H
        go_wp2
        obtain ⟨W3, hW3⟩ : ∃ W3, wr.alloc (.cells #[.int .i64 t.fn, .slice A1 t.args.length c1'] 32) = W3 := ⟨_, rfl⟩
        have hB3 : Below wr.heap.size wr W3 := by rw [← hW3]; exact (Below.refl _ _).alloc (Nat.le_refl _) _
        obtain ⟨f0, f1, _, _⟩ := cells_two (W := W3) (b := wr.heap.size) (x := .int .i64 t.fn) (y := .slice A1 t.args.length c1') (t := 32) (by rw [← hW3]; exact heap_alloc_new wr _)
        have hz3 : wr.heap.size < W3.heap.size := by rw [← hW3]; simp
        have d1 := cell_on hB3 (by omega) c1
        have hs3 := Lib.hid (hsub.out.on hB3)
        rw [hW3]
        clear hW3
        go_region_held3 (fun w' => w'.cell? ⟨w.heap.size + 1 + 1, 1, none⟩ = some (.slice (some ⟨w.heap.size + 1 + 1 + 1, 0, none⟩) xs.length xs.length) ∧ w'.cell? ⟨wr.heap.size, 0, none⟩ = some (.int .i64 t.fn) ∧ w'.cell? ⟨wr.heap.size, 1, none⟩ = some (.slice A1 t.args.length c1'))
          (first | exact ⟨d1, f0, f1⟩ | exact ⟨cell_on hB4 (by omega) d1, cell_on hB4 hz3 f0, cell_on hB4 hz3 f1⟩ | exact ⟨cell_set2 (cell_on hB4 (by omega) d1) (by omega), cell_set2 (cell_on hB4 hz3 f0) (by omega), cell_set2 (cell_on hB4 hz3 f1) (by omega)⟩)
          (first
            | (go_at_call 51
               refine (ih t hmem hszt A1 c1' W3.drew hi64 (hs3.out.drewN 1)).mono ?_
               rintro e w4 ⟨A4, c4, rfl, hO4, hb4⟩
               have hB4 : Below W3.heap.size W3 w4 := ⟨hb4.os, hb4.tape, hb4.output, hb4.size, hb4.block⟩
               have hR4 := (hR.out.on hbs hB3).on (by omega) hB4
               have r0 := (hR4.row.cellAt (k * 2) (by omega)).trans (List.getElem?_eq_getElem (by omega))
               have r1 := (hR4.row.cellAt (k * 2 + 1) (by omega)).trans (List.getElem?_eq_getElem (by omega))
               have s0 := hR4.row.frozenAt (k * 2)
               have s1 := hR4.row.frozenAt (k * 2 + 1)
               have hR4 := Lib.hid hR4))
        have hlo := Nat.le_trans hR.out.mke hB3.size
        have hst := hR4.out.step (c1 := c4) Ht.out hi64 hO4 hlo
        have hlt4 : w.heap.size + 1 + 1 + 1 < w4.heap.size := by have := hB4.size; omega
        go_wp2
        go_roundw
        case rel => exact ⟨k + 1, by omega, by go_num, ((hBr.trans (hB3.mono (by omega))).trans (hB4.mono (by omega))).setCell (Nat.le_refl _) _ |>.setCell (Nat.le_refl _) _, by simpa using hlt4, hst⟩
        case measure => simp [intOf]; omega
      · obtain rfl : k = xs.length := by omega
        obtain ⟨vs, A', c', m, hR⟩ := H.out
        go_wp2
        have z1 : (wr.setCell ⟨w.heap.size + 1, 0, none⟩ (.int .i64 f)).heap[w.heap.size + 1]? = some (.cells #[.int .i64 f, .slice none 0 0] 32) := heap_setCell_same wr _ 0 _ _ _ ((hBr.block _ (by omega)).trans y1)
        have z2 : ((wr.setCell ⟨w.heap.size + 1, 0, none⟩ (.int .i64 f)).setCell ⟨w.heap.size + 1, 1, none⟩ (.slice (some ⟨w.heap.size + 1 + 1 + 1, 0, none⟩) xs.length xs.length)).heap[w.heap.size + 1]? = some (.cells #[.int .i64 f, .slice (some ⟨w.heap.size + 1 + 1 + 1, 0, none⟩) xs.length xs.length] 32) := heap_setCell_same _ _ 1 _ _ _ z1
        have p0 := (cells_two z1).1
        have p1 := (cells_two z2).2.1
        refine bodyPost_ret (v := .agg #[.int .i64 f, .slice (some ⟨w.heap.size + 1 + 1 + 1, 0, none⟩) xs.length xs.length]) (by simp [results, Tryz.results51, go_sem, p0, p1]) rfl ⟨some ⟨w.heap.size + 1 + 1 + 1, 0, none⟩, xs.length, rfl, ?_, ?_⟩
        · refine OwnT.wide (lo := w.heap.size + 1 + 1 + 1) (hi := wr.heap.size) ((hR.whole h0 (by omega) (Nat.le_refl _) (Nat.le_refl _)).keep fun g h1 _ => ?_) (by omega) (by simp)
          exact (heap_setCell_other _ _ _ _ (by show g ≠ w.heap.size + 1; omega)).trans (heap_setCell_other _ _ _ _ (by show g ≠ w.heap.size + 1; omega))
        · exact (hBw.setCell (by show _ ≤ w.heap.size + 1; omega) _).setCell (by show _ ≤ w.heap.size + 1; omega) _
end Go.Proofs.YthgglobfkkcdgaaGreatDoor
namespace Go.Proofs.YthgglobfkkcdgaaGreatDoor
open Go.RowKit
set_option maxRecDepth 100000
def subT : Tm → List Int → Option Tm
  | t, [] => some t
  | t, i :: p => if 0 ≤ i ∧ i < t.args.length then (t.args[i.toNat]?).bind (subT · p) else none
structure Ints (w : World) (B : Nat) (A : Option Addr) (l : List Int) : Prop where
  len : l.length ≤ 9223372036854775807
  i64 : ∀ x ∈ l, I64 x
  ad : 0 < l.length → ∃ b off, A = some ⟨b, off, none⟩ ∧ b < B ∧ ∀ (i : Nat) (x : Int), l[i]? = some x → w.cell? ⟨b, off + i, none⟩ = some (.int .i64 x)
section
variable {w w' : World} {B B' : Nat} {A : Option Addr} {l : List Int}
theorem Ints.keep (h : Ints w B A l) (hk : ∀ p : Addr, p.block < B → w'.cell? p = w.cell? p) : Ints w' B A l :=
  ⟨h.len, h.i64, fun hn => by
    obtain ⟨b, off, hA, hlt, hc⟩ := h.ad hn
    exact ⟨b, off, hA, hlt, fun i x hi => (hk ⟨b, _, none⟩ hlt).trans (hc i x hi)⟩⟩
theorem Ints.blw (h : Ints w B A l) (hb : Below B w w') : Ints w' B A l := h.keep fun _ hp => hb.cell hp
theorem Ints.more (h : Ints w B A l) (hB : B ≤ B') : Ints w B' A l :=
  ⟨h.len, h.i64, fun hn => by
    obtain ⟨b, off, hA, hlt, hc⟩ := h.ad hn
    exact ⟨b, off, hA, by omega, hc⟩⟩
theorem Ints.on (h : Ints w w.heap.size A l) (hb : Below w.heap.size w w') : Ints w' w'.heap.size A l := (h.blw hb).more hb.size
end
theorem sub_step {t u : Tm} {i : Int} {p : List Int} (h0 : 0 ≤ i) (h1 : i < t.args.length) (hu : t.args[i.toNat]? = some u) : subT t (i :: p) = subT u p := by
  simp only [subT, if_pos (And.intro h0 h1), hu, Option.bind_some]
theorem sub_none {t : Tm} {i : Int} {p : List Int} (h : i < 0 ∨ ↑t.args.length ≤ i) : subT t (i :: p) = none := by
  simp only [subT]
  rw [if_neg (by omega)]
theorem sub_size : ∀ {t s : Tm} {p : List Int}, subT t p = some s → s.size ≤ t.size
  | t, s, [], h => by simp only [subT] at h; cases h; exact Nat.le_refl _
  | t, s, i :: p, h => by
    simp only [subT] at h
    split at h
    · cases hu : t.args[i.toNat]? with
      | none => rw [hu] at h; cases h
      | some u =>
        rw [hu] at h
        have h1 := sub_size (p := p) h
        have h2 := size_mem (List.mem_of_getElem? hu)
        cases t with
        | node f xs => simp only [Tm.size, Tm.args] at h2 ⊢; omega
    · cases h
theorem set2_two {W : World} {b : Nat} {x y u v : Value} {t : TypeId} (h : W.heap[b]? = some (.cells #[x, y] t)) : (W.setCell ⟨b, 0, none⟩ u).heap[b]? = some (.cells #[u, y] t) ∧ ((W.setCell ⟨b, 0, none⟩ u).setCell ⟨b, 1, none⟩ v).heap[b]? = some (.cells #[u, v] t) :=
  have h1 : (W.setCell ⟨b, 0, none⟩ u).heap[b]? = some (.cells #[u, y] t) := heap_setCell_same W _ 0 _ _ _ h
  ⟨h1, heap_setCell_same _ _ 1 _ _ _ h1⟩
end Go.Proofs.YthgglobfkkcdgaaGreatDoor
namespace Go.Proofs.YthgglobfkkcdgaaGreatDoor
open Go.RowKit
set_option maxRecDepth 100000
mutual
def vis : List Int → Tm → List (List Int × Tm)
  | p, .node f xs => (p, .node f xs) :: visL p 0 xs
def visL : List Int → Nat → List Tm → List (List Int × Tm)
  | _, _, [] => []
  | p, i, t :: ts => vis (p ++ [(i : Int)]) t ++ visL p (i + 1) ts
end
theorem vis_eq (p : List Int) (t : Tm) : vis p t = (p, t) :: visL p 0 t.args := by cases t; simp only [vis, Tm.args]
theorem visL_snoc : ∀ (p : List Int) (i : Nat) (xs : List Tm) (t : Tm), visL p i (xs ++ [t]) = visL p i xs ++ vis (p ++ [((i + xs.length : Nat) : Int)]) t
  | p, i, [], t => by simp [visL]
  | p, i, x :: xs, t => by
    simp only [List.cons_append, visL, List.append_assoc, List.length_cons]
    rw [visL_snoc p (i + 1) xs t, show i + 1 + xs.length = i + (xs.length + 1) by omega]
theorem visL_take {p : List Int} {xs : List Tm} {k : Nat} {t : Tm} (h : xs[k]? = some t) : visL p 0 (xs.take (k + 1)) = visL p 0 (xs.take k) ++ vis (p ++ [(k : Int)]) t := by
  have hlt := (List.getElem?_eq_some_iff.1 h).1
  rw [List.take_add_one, h]
  simp only [Option.toList]
  rw [visL_snoc]
  simp [Nat.min_eq_left (Nat.le_of_lt hlt)]
theorem visL_pre (p : List Int) (xs : List Tm) (k : Nat) : visL p 0 (xs.take k) <+: visL p 0 xs := by
  have key : ∀ (ys : List Tm) (i : Nat) (zs : List Tm), visL p i zs <+: visL p i (zs ++ ys) := by
    intro ys i zs
    induction zs generalizing i with
    | nil => simp [visL]
    | cons z zs ih => simp only [List.cons_append, visL]; exact List.prefix_append_right_inj _ |>.2 (ih (i + 1))
  have := key (xs.drop k) 0 (xs.take k)
  rwa [List.take_append_drop] at this
inductive ArgsN (w : World) (N : Nat → Prop) : Option Addr → List Tm → Prop
  | nil (A : Option Addr) : ArgsN w N A []
  | row (b off : Nat) (xs : List Tm) (A' : Nat → Option Addr) (c' : Nat → Nat) (hb : N b) (hlen : xs.length ≤ 9223372036854775807) (hi : ∀ (i : Nat) (t : Tm), xs[i]? = some t → I64 t.fn)
      (h0 : ∀ (i : Nat) (t : Tm), xs[i]? = some t → w.cell? ⟨b, off + i * 2, none⟩ = some (.int .i64 t.fn))
      (h1 : ∀ (i : Nat) (t : Tm), xs[i]? = some t → w.cell? ⟨b, off + i * 2 + 1, none⟩ = some (.slice (A' i) t.args.length (c' i)))
      (hs : ∀ (i : Nat) (t : Tm), xs[i]? = some t → ArgsN w N (A' i) t.args) : ArgsN w N (some ⟨b, off, none⟩) xs
theorem cell_of_heap {w w' : World} {b o : Nat} (h : w'.heap[b]? = w.heap[b]?) : w'.cell? ⟨b, o, none⟩ = w.cell? ⟨b, o, none⟩ := World.cell?_of_block h
section
variable {w w' : World} {N : Nat → Prop} {B : Nat} {A : Option Addr} {xs : List Tm}
theorem Args.toN (h : Args w B A xs) : ArgsN w (· < B) A xs := by
  induction h with
  | nil A => exact .nil A
  | row b off xs A' c' hb hlen hi h0 h1 _ ih => exact .row b off xs A' c' hb hlen hi h0 h1 ih
theorem ArgsN.args (h : ArgsN w N A xs) (hN : ∀ g, N g → g < B) : Args w B A xs := by
  induction h with
  | nil A => exact .nil A
  | row b off xs A' c' hb hlen hi h0 h1 _ ih => exact .row b off xs A' c' (hN b hb) hlen hi h0 h1 ih
theorem ArgsN.keep (h : ArgsN w N A xs) (hk : ∀ g, N g → w'.heap[g]? = w.heap[g]?) : ArgsN w' N A xs := by
  induction h with
  | nil A => exact .nil A
  | row b off xs A' c' hb hlen hi h0 h1 _ ih => exact .row b off xs A' c' hb hlen hi (fun i t e => (cell_of_heap (hk b hb)).trans (h0 i t e)) (fun i t e => (cell_of_heap (hk b hb)).trans (h1 i t e)) ih
theorem ArgsN.wide {M : Nat → Prop} (h : ArgsN w N A xs) (hk : ∀ g, N g → M g) : ArgsN w M A xs := by
  induction h with
  | nil A => exact .nil A
  | row b off xs A' c' hb hlen hi h0 h1 _ ih => exact .row b off xs A' c' (hk b hb) hlen hi h0 h1 ih
theorem ArgsN.len (h : ArgsN w N A xs) : xs.length ≤ 9223372036854775807 := by
  cases h with
  | nil => simp
  | row => assumption
structure ArgAtN (w : World) (N : Nat → Prop) (b off i : Nat) (t : Tm) (A' : Option Addr) (c' : Nat) : Prop where
  hb : N b
  hi : I64 t.fn
  c0 : w.cell? ⟨b, off + i * 2, none⟩ = some (.int .i64 t.fn)
  c1 : w.cell? ⟨b, off + i * 2 + 1, none⟩ = some (.slice A' t.args.length c')
  sub : ArgsN w N A' t.args
theorem ArgsN.get (h : ArgsN w N A xs) {i : Nat} {t : Tm} (hi : xs[i]? = some t) : ∃ b off A' c', A = some ⟨b, off, none⟩ ∧ ArgAtN w N b off i t A' c' := by
  cases h with
  | nil => simp at hi
  | row b off _ A' c' hb hlen hi' h0 h1 hs => exact ⟨b, off, A' i, c' i, rfl, hb, hi' i t hi, h0 i t hi, h1 i t hi, hs i t hi⟩
theorem OwnT.argsN {lo hi : Nat} (h : OwnT w lo hi A xs) : ArgsN w (fun g => lo ≤ g ∧ g < hi) A xs := by
  induction h with
  | nil lo hi A => exact .nil A
  | row lo hi b cap xs vs A' c' m hlo hpos hlen hrow hm0 hmn hm hi64 h0 h1 _ ih =>
    have hbm : b < hi := by have := mono_to hm (Nat.zero_le xs.length) (Nat.le_refl _); omega
    have hvs : vs.length = xs.length * 2 := hrow.1
    refine .row b 0 xs A' c' ⟨hlo, hbm⟩ hlen hi64 (fun i t e => ?_) (fun i t e => ?_) fun i t hit => (ih i t hit).wide fun g hg => ?_
    · have hil := (List.getElem?_eq_some_iff.1 e).1
      rw [Nat.zero_add, hrow.cellAt (i * 2) (by omega)]
      exact h0 i t e
    · have hil := (List.getElem?_eq_some_iff.1 e).1
      rw [Nat.zero_add, hrow.cellAt (i * 2 + 1) (by omega)]
      exact h1 i t e
    · have hil := (List.getElem?_eq_some_iff.1 hit).1
      have e1 := mono_to hm (show i + 1 ≤ xs.length by omega) (Nat.le_refl _)
      have e2 := mono_to hm (Nat.zero_le i) (by omega)
      omega
end
structure Vis where
  pos : List Int
  t : Tm
  A : Option Addr
  c : Nat
  A' : Option Addr
  c' : Nat
def Vis.key (x : Vis) : List Int × Tm := (x.pos, x.t)
def visEnc (x : Vis) : Array Value := #[.slice x.A x.pos.length x.c, .agg #[.int .i64 x.t.fn, .slice x.A' x.t.args.length x.c']]
structure VisFx (x : Vis) (W : World) : Prop where
  pos : Ints W W.heap.size x.A x.pos
  i64 : I64 x.t.fn
  args : Args W W.heap.size x.A' x.t.args
structure ItSt (W : World) (C : World → Nat → Prop) (l b : Nat) (pos : List Int) : Prop where
  cy : W.heap[b]? = some (.cells #[.func (.yield l) #[] #[]] 113)
  cp : ∃ A c, W.heap[b + 1]? = some (.cells #[.slice A pos.length c] 54) ∧ W.ownsRow (b + 3) 3 1 (.slice A pos.length c) pos.length (pos.map (Value.int .i64)) ∧ ∀ g, (Value.slice A pos.length c).ownBlock = some g → ¬ C W g
  cv : W.heap[b + 2]? = some (.cells #[.func (.func 86) #[] #[.pointer (some ⟨b, 0, none⟩), .pointer (some ⟨b + 1, 0, none⟩), .pointer (some ⟨b + 2, 0, none⟩)]] 106)
  nc : ¬ C W b ∧ ¬ C W (b + 1) ∧ ¬ C W (b + 2)
theorem row_lt {W : World} {base n : Nat} {e : TypeId} {size : Nat} {v : Value} {vs : List Value} (h : W.ownsRow base e size v n vs) : ∀ g, v.ownBlock = some g → base ≤ g ∧ g < W.heap.size := by
  intro g hg
  rcases h.2 with ⟨rfl, _⟩ | ⟨g', cap, cur, rfl, hb, hgc, _⟩
  · cases hg
  · simp [Value.ownBlock] at hg
    subst hg
    exact ⟨hb, (Array.getElem?_eq_some_iff.1 hgc).1⟩
theorem row_keep {W W' : World} {base n : Nat} {e : TypeId} {size : Nat} {v : Value} {vs : List Value} (h : W.ownsRow base e size v n vs) (hk : ∀ g, v.ownBlock = some g → W'.heap[g]? = W.heap[g]?) : W'.ownsRow base e size v n vs := by
  refine ⟨h.1, ?_⟩
  rcases h.2 with h0 | ⟨g', cap, cur, rfl, hb, hgc, hrest⟩
  · exact .inl h0
  · exact .inr ⟨g', cap, cur, rfl, hb, (hk g' rfl).trans hgc, hrest⟩
section
variable {W W' : World} {C : World → Nat → Prop} {N : Nat → Prop} {l b : Nat} {pos : List Int}
theorem ItSt.keep (h : ItSt W C l b pos) (hk : ∀ g, g < W.heap.size → ¬ C W g → W'.heap[g]? = W.heap[g]? ∧ ¬ C W' g) : ItSt W' C l b pos := by
  obtain ⟨A, c, h1, h2, h3⟩ := h.cp
  have lt : ∀ {g : Nat} {o : Obj}, W.heap[g]? = some o → g < W.heap.size := fun e => (Array.getElem?_eq_some_iff.1 e).1
  refine ⟨(hk b (lt h.cy) h.nc.1).1.trans h.cy, ⟨A, c, (hk _ (lt h1) h.nc.2.1).1.trans h1, row_keep h2 fun g e => (hk g (row_lt h2 g e).2 (h3 g e)).1, fun g e => (hk g (row_lt h2 g e).2 (h3 g e)).2⟩, (hk _ (lt h.cv) h.nc.2.2).1.trans h.cv, (hk b (lt h.cy) h.nc.1).2, (hk _ (lt h1) h.nc.2.1).2, (hk _ (lt h.cv) h.nc.2.2).2⟩
theorem ItSt.stp (h : ItSt W C l b pos) (hs : Stp N C W W') : ItSt W' C l b pos :=
  h.keep fun g h1 h2 => ⟨hs.keeps.block g (.inr ⟨h1, h2⟩), fun e => (hs.grows g e).elim h2 (fun e => by omega)⟩
theorem ItSt.ints (h : ItSt W C l b pos) (hi : ∀ x ∈ pos, I64 x) (hl : pos.length ≤ 9223372036854775807) : ∃ A c, W.heap[b + 1]? = some (.cells #[.slice A pos.length c] 54) ∧ Ints W W.heap.size A pos := by
  obtain ⟨A, c, h1, h2, h3⟩ := h.cp
  refine ⟨A, c, h1, hl, hi, fun hpos => ?_⟩
  rcases h2.2 with ⟨_, h0⟩ | ⟨g, cap, cur, hv, hb, hg, _⟩
  · omega
  · injection hv with hA hn hc
    subst hA
    refine ⟨g, 0, rfl, (Array.getElem?_eq_some_iff.1 hg).1, fun i x hx => ?_⟩
    have hlt := (List.getElem?_eq_some_iff.1 hx).1
    rw [Nat.zero_add, h2.cellAt i (by simpa using hlt)]
    simp [hx]
end
end Go.Proofs.YthgglobfkkcdgaaGreatDoor
namespace Go.Proofs.YthgglobfkkcdgaaGreatDoor
open Go.RowKit
set_option maxRecDepth 100000
section
variable {σ : Type} (nx : σ → Int → σ × Int)
end
def KeepsC (C : Nat → Prop) (w w' : World) : Prop := Keeps (fun g => g < w.heap.size ∧ ¬ C g) w w'
section
variable {C : Nat → Prop} {a b c : World}
theorem KeepsC.k (h : KeepsC C a b) : Keeps (fun g => g < a.heap.size ∧ ¬ C g) a b := h
theorem KeepsC.refl (C : Nat → Prop) (a : World) : KeepsC C a a := Keeps.refl _ _
theorem KeepsC.size (h : KeepsC C a b) : a.heap.size ≤ b.heap.size := Keeps.size h
theorem KeepsC.trans (h : KeepsC C a b) (k : KeepsC C b c) : KeepsC C a c := Keeps.trans h (Keeps.mono k fun _ e => ⟨Nat.lt_of_lt_of_le e.1 h.size, e.2⟩)
theorem KeepsC.of_below (h : Below a.heap.size a b) : KeepsC C a b := (Keeps.of_below h).mono fun _ e => e.1
theorem KeepsC.set (h : KeepsC C a b) {p : Addr} (hp : a.heap.size ≤ p.block) (v : Value) : KeepsC C a (b.setCell p v) :=
  Keeps.trans h ((Keeps.set b p v).mono fun g e => by show g ≠ p.block; have := e.1; omega)
theorem KeepsC.block (h : KeepsC C a b) {g : Nat} (hg : g < a.heap.size) (hc : ¬ C g) : b.heap[g]? = a.heap[g]? := Keeps.block h g ⟨hg, hc⟩
theorem KeepsC.below (h : KeepsC C a b) {n : Nat} (hn : n ≤ a.heap.size) (hc : ∀ g, g < n → ¬ C g) : Below n a b := Keeps.below h fun g e => ⟨by omega, hc g e⟩
theorem KeepsC.none (h : KeepsC (fun _ => False) a b) : Below a.heap.size a b := h.below (Nat.le_refl _) fun _ _ e => e
theorem KeepsC.mono {D : Nat → Prop} (h : KeepsC C a b) (hd : ∀ g, C g → D g) : KeepsC D a b := Keeps.mono h fun _ e => ⟨e.1, fun k => e.2 (hd _ k)⟩
end
end Go.Proofs.YthgglobfkkcdgaaGreatDoor
namespace Go.Proofs.YthgglobfkkcdgaaGreatDoor
open Go.RowKit
set_option maxRecDepth 100000
end Go.Proofs.YthgglobfkkcdgaaGreatDoor
namespace Go.Proofs.YthgglobfkkcdgaaGreatDoor
open Go.RowKit Go.Shelf
attribute [local go_sem] Oper.semAt_some
set_option maxRecDepth 100000
theorem infoInt : (Tryz.prog.info? 3).map (fun i => (i.zero, i.size, i.bytes)) = some (some (.int .i64 0), 1, 8) := by kernel_rfl
theorem wpListIn_append_at {F : Fence} {n : Nat} {P : Program} (w : World) {ops : Array Oper} {rest : List Oper} {o : Oper} {a : Act} {Q : Exit → Act → World → Prop}
    (hg : o.guard = none) (s x : Operand) (t : TypeId) (hop : o.op = Op.call { callee := Callee.builtin Builtin.append, args := #[s, x], argTypes := #[t, t] })
    (base : Nat) (e : TypeId) (i : TypeInfo) (z : Value) (size bytes : Nat) (h1 : P.underlying t = some (.slice e)) (h2 : P.info? e = some i) (h3 : i.zero = some z) (h4 : i.size = size) (h5 : i.bytes = bytes) (h6 : z.cells.size = size) (h7 : 0 < size)
    (v : Value) (k : Nat) (xs : List Value) (hs : a.eval s = v) (hown : w.ownsRow base e size v k xs) (ad : Addr) (m c : Nat) (news : List Value) (hx : a.eval x = .slice (some ad) m c) (hn : news.length = m * size)
    (hc : ∀ j u, news[j]? = some u → w.cell? (ad.add j) = some u) (h1c : ∀ u ∈ news, u.oneCell' = true) (b1 : k + m ≤ maxLen) (b2 : (k + m) * bytes ≤ 140737488355328) (b3 : base ≤ w.heap.size)
    (hK : ∀ v' w', w'.ownsRow base e size v' (k + m) (xs ++ news) → w.grownBy w' v.ownBlock → (v'.ownBlock = v.ownBlock ∨ v'.ownBlock = some w.heap.size) → wpListIn F n P ops Q rest (a.put o.dst v') w') :
    wpListIn F n P ops Q (o :: rest) a w := by
  obtain ⟨v', w', hrun, r1, r2, _, r4⟩ := run_append_own_at (P := P) w base t o.type e i z size bytes h1 h2 h3 h4 h5 h6 h7 v k xs hown ad m c news hn hc h1c b1 b2 b3
  refine wpListIn_plain hg fun K hK' => ⟨?_, ?_⟩
  · simp [Oper.about, hop, resolve, Target.leads, Sem.run_pure]
  · rw [Oper.semAt_plain F _ _ (by rw [hop]; intro c hc'; cases hc')]
    simp [execOp, hop, resolve, invoke, builtin, hs, hx, hrun, Result.andThen]
    exact hK' _ _ (hK v' w' r1 r2 r4)
theorem row_pop {W : World} {base n g cap : Nat} {e : TypeId} {vs : List Value} {x : Value} (h : W.ownsRow base e 1 (.slice (some ⟨g, 0, none⟩) (n + 1) cap) (n + 1) (vs ++ [x])) : W.ownsRow base e 1 (.slice (some ⟨g, 0, none⟩) n cap) n vs := by
  have hl : vs.length = n := by have := h.1; simp at this; omega
  refine ⟨by simpa using hl, .inr ?_⟩
  rcases h.2 with ⟨h0, _⟩ | ⟨g', cap', cur, hv, hb, hg, h1, h2, h3, h4⟩
  · cases h0
  · injection hv with e1 e2 e3
    injection e1 with e1
    injection e1 with e1 _ _
    subst e1; subst e3
    refine ⟨g, cap, cur, rfl, hb, hg, by omega, h2, h3, ?_⟩
    have h5 := congrArg (List.take n) h4
    rw [List.take_take, Nat.min_eq_left (by omega)] at h5
    rw [Nat.mul_one, h5]
    exact List.take_left' hl
theorem ItSt.pushed {wr w1 : World} {C : World → Nat → Prop} {l b c k : Nat} {pos : List Int} {A : Option Addr} {v1 : Value} (h : ItSt wr C l b pos) (hrow : w1.ownsRow (b + 3) 3 1 v1 (pos.length + 1) (pos.map (Value.int .i64) ++ [.int .i64 (k : Int)]))
    (hK : Keeps (fun g => g < wr.heap.size ∧ some g ≠ (Value.slice A pos.length c).ownBlock) wr w1) (hro : ∀ g, (Value.slice A pos.length c).ownBlock = some g → b + 3 ≤ g) (hC : ∀ g, C (w1.setCell ⟨b + 1, 0, none⟩ v1) g → C wr g) (hbd : ∀ g, C wr g → g < wr.heap.size)
    (hp : w1.heap[b + 1]? = wr.heap[b + 1]?) (hv1 : ∀ g, v1.ownBlock = some g → some g = (Value.slice A pos.length c).ownBlock ∨ wr.heap.size ≤ g) (hnr : ∀ g, (Value.slice A pos.length c).ownBlock = some g → ¬ C wr g) :
    ItSt (w1.setCell ⟨b + 1, 0, none⟩ v1) C l b (pos ++ [(k : Int)]) := by
  have lt : ∀ {g : Nat} {o : Obj}, wr.heap[g]? = some o → g < wr.heap.size := fun e => (Array.getElem?_eq_some_iff.1 e).1
  obtain ⟨g, cap, rfl⟩ := ownsRow_succ hrow
  obtain ⟨A0, c0, q1, q2, q3⟩ := h.cp
  have hg := (row_lt hrow g rfl).1
  refine ⟨?_, ⟨some ⟨g, 0, none⟩, cap, ?_, ?_, ?_⟩, ?_, fun e => h.nc.1 (hC _ e), fun e => h.nc.2.1 (hC _ e), fun e => h.nc.2.2 (hC _ e)⟩
  · rw [heap_setCell_other _ _ _ _ (by show b ≠ b + 1; omega)]
    exact (hK.block b ⟨lt h.cy, fun e => by have := hro b e.symm; omega⟩).trans h.cy
  · have := heap_setCell_same w1 (b + 1) 0 _ _ (.slice (some ⟨g, 0, none⟩) (pos.length + 1) cap) (hp.trans q1)
    simpa using this
  · have := ownsRow_keep (w' := w1.setCell ⟨b + 1, 0, none⟩ (.slice (some ⟨g, 0, none⟩) (pos.length + 1) cap)) (g := g) hrow (fun g' e => by simp [Value.ownBlock] at e; exact e.symm) (heap_setCell_other _ _ _ _ (by show g ≠ b + 1; omega))
    simpa using this
  · intro g' e hc
    simp [Value.ownBlock] at e
    subst e
    have hc' := hC _ hc
    rcases hv1 g rfl with e | e
    · exact hnr g e.symm hc'
    · have := hbd _ hc'; omega
  · rw [heap_setCell_other _ _ _ _ (by show b + 2 ≠ b + 1; omega)]
    exact (hK.block (b + 2) ⟨lt h.cv, fun e => by have := hro _ e.symm; omega⟩).trans h.cv
theorem ItSt.popped {wr : World} {C : World → Nat → Prop} {l b : Nat} {pos : List Int} {x : Int} (h : ItSt wr C l b (pos ++ [x])) : ∃ g cap, wr.heap[b + 1]? = some (.cells #[.slice (some ⟨g, 0, none⟩) (pos.length + 1) cap] 54) ∧ pos.length + 1 ≤ cap ∧
    ((∀ e, C (wr.setCell ⟨b + 1, 0, none⟩ (.slice (some ⟨g, 0, none⟩) pos.length cap)) e → C wr e) → ItSt (wr.setCell ⟨b + 1, 0, none⟩ (.slice (some ⟨g, 0, none⟩) pos.length cap)) C l b pos) := by
  obtain ⟨A, c, q1, q2, q3⟩ := h.cp
  simp only [List.length_append, List.length_cons, List.length_nil, Nat.zero_add, List.map_append, List.map_cons, List.map_nil] at q1 q2 q3
  obtain ⟨g, cap, hv⟩ := ownsRow_succ q2
  injection hv with e1 _ e3
  subst e1; subst e3
  have hg := (row_lt q2 g rfl).1
  have hcap : pos.length + 1 ≤ c := by
    rcases q2.2 with ⟨h0, _⟩ | ⟨g', cap', cur, hv, _, _, h1, _⟩
    · cases h0
    · injection hv with e1 e2 e3; subst e3; exact h1
  refine ⟨g, c, q1, hcap, fun hC => ⟨?_, ⟨some ⟨g, 0, none⟩, c, ?_, ?_, ?_⟩, ?_, fun e => h.nc.1 (hC _ e), fun e => h.nc.2.1 (hC _ e), fun e => h.nc.2.2 (hC _ e)⟩⟩
  · rw [heap_setCell_other _ _ _ _ (by show b ≠ b + 1; omega)]; exact h.cy
  · exact heap_setCell_same wr (b + 1) 0 _ _ _ q1
  · exact ownsRow_keep (g := g) (row_pop q2) (fun g' e => by simp [Value.ownBlock] at e; exact e.symm) (heap_setCell_other _ _ _ _ (by show g ≠ b + 1; omega))
  · intro g' e hc
    simp [Value.ownBlock] at e
    subst e
    exact q3 g rfl (hC _ hc)
  · rw [heap_setCell_other _ _ _ _ (by show b + 2 ≠ b + 1; omega)]; exact h.cv
def VisitAt (F : Fence) (l b D : Nat) (N : Nat → Prop) (C : World → Nat → Prop) (J Jx : List Vis → World → Prop) (V : List (List Int × Tm)) (t : Tm) : Prop :=
  ∀ (n : Nat) (pos : List Int) (pre : List Vis) (A : Option Addr) (c : Nat) (W : World), I64 t.fn → ArgsN W N A t.args → J pre W → ItSt W C l b pos → (∀ x ∈ pos, I64 x) → pos.length + t.depth ≤ D → (pre.map Vis.key ++ vis pos t <+: V) →
    CallsIn F n Tryz.prog 86 #[.agg #[.int .i64 t.fn, .slice A t.args.length c], .pointer (some ⟨b, 0, none⟩), .pointer (some ⟨b + 1, 0, none⟩), .pointer (some ⟨b + 2, 0, none⟩)] W fun e W' =>
      (e = .returned (.bool true) ∧ ∃ q : List Vis, q.map Vis.key = vis pos t ∧ J (pre ++ q) W' ∧ ItSt W' C l b pos ∧ Keeps N W W') ∨
      (e = .returned (.bool false) ∧ ∃ q : List Vis, (pre ++ q).map Vis.key <+: V ∧ Jx (pre ++ q) W')
theorem visit_in (F : Fence) (hd : F.depth = none) (h65 : F.fn 86) (hro : F.round = none) (l b D : Nat) (hD : D ≤ 1099511627776) (N : Nat → Prop) (C : World → Nat → Prop) (J Jx : List Vis → World → Prop) (V : List (List Int × Tm))
    (hJ : FrameC C J) (hB : BoundC C J) (hNb : ∀ g, N g → g < b)
    (hY : ∀ m pre x W1, J pre W1 → (pre ++ [x]).map Vis.key <+: V → VisFx x W1 → YieldAt F m Tryz.prog l (visEnc x) W1 fun e W' =>
      (e = .returned (.bool true) ∧ J (pre ++ [x]) W' ∧ Stp N C W1 W') ∨ (e = .returned (.bool false) ∧ Jx (pre ++ [x]) W')) (t : Tm) :
    VisitAt F l b D N C J Jx V t := by
  refine Tm.ind (P := VisitAt F l b D N C J Jx V) (fun f xs ih => ?_) t
  intro n pos pre A c W hf hA hJ0 hI hpi hdp hV
  have hdd : ∀ k : Nat, (F.depth.isSome = true → 1 ≤ k) := fun k h => by rw [hd] at h; cases h
  simp only [Tm.fn, Tm.args] at hf hA ⊢
  have hl64 := hA.len
  have hpl : pos.length ≤ 9223372036854775807 := by omega
  obtain ⟨i0, hi, hz0, hz1, hz2⟩ := info_parts infoInt
  obtain ⟨W1, hW1⟩ : ∃ W1, W.alloc (.cells #[.int .i64 f, .slice A xs.length c] 32) = W1 := ⟨_, rfl⟩
  have hK1 : Keeps (· < W.heap.size) W W1 := by rw [← hW1]; exact Keeps.alloc _ _
  have hbox : W1.heap[W.heap.size]? = some (.cells #[.int .i64 f, .slice A xs.length c] 32) := by rw [← hW1]; exact heap_alloc_new _ _
  obtain ⟨hJ1, hC1⟩ := hJ pre W W1 hJ0 (hK1.mono fun g e => hB pre W hJ0 g e)
  have hI1 : ItSt W1 C l b pos := hI.keep fun g h1 h2 => ⟨hK1.block g h1, fun e => h2 (hC1 g e)⟩
  have hbl : b + 2 < W.heap.size := (Array.getElem?_eq_some_iff.1 hI.cv).1
  have hA1 : ArgsN W1 N A xs := hA.keep fun g e => hK1.block g (by have := hNb g e; show g < W.heap.size; omega)
  obtain ⟨Ap, cp, hp1, hints⟩ := hI1.ints hpi hpl
  have hfx : VisFx ⟨pos, .node f xs, Ap, cp, A, c⟩ W1 := ⟨hints, hf, hA1.args fun g e => by have := hNb g e; have := hK1.size; omega⟩
  have hV1 : (pre ++ [(⟨pos, .node f xs, Ap, cp, A, c⟩ : Vis)]).map Vis.key <+: V := by
    refine List.IsPrefix.trans ?_ hV
    rw [List.map_append, vis_eq]
    exact (List.prefix_append_right_inj _).2 (by simp [Vis.key])
  obtain ⟨fn, tmps, assign, body, hy, hR⟩ := hY (n - 1) pre _ W1 hJ1 hV1 hfx
  simp only [visEnc, Tm.fn, Tm.args] at hy
  have hcy := Boxed.cell (show Boxed W1 b _ _ from hI1.cy)
  have hcp := Boxed.cell (show Boxed W1 (b + 1) _ _ from hp1)
  have Hy := Lib.hid hI1
  have HJ1 := Lib.hid hJ1
  have Hpv := Lib.hid hV1
  have hBW := hB pre W hJ0
  have Hvis := Lib.hid (vis_eq pos (.node f xs))
  clear hI hJ0 hints hfx hV1 hp1 hI1 hJ1
  subst hW1
  refine callsIn_of_wp Tryz.func86 rfl h65 ?_ hro
  simp only [Tryz.ntmps86, List.size_toArray, List.length_cons, List.length_nil, Nat.reduceAdd, Nat.reduceSub, Array.replicate_succ, Array.replicate_zero, List.push_toArray, List.append_toArray, List.nil_append, List.cons_append]
  gi_wp2
  refine hR.mono ?_
  rintro e W2 (⟨rfl, hJ2, hst2⟩ | ⟨rfl, hJx2⟩)
  · have hb2 : ¬ C (W.alloc (.cells #[.int .i64 f, .slice A xs.length c] 32)) W.heap.size := fun e => by have := hBW _ (hC1 _ e); omega
    have hx2 : W2.heap[W.heap.size]? = some (.cells #[.int .i64 f, .slice A xs.length c] 32) := (hst2.keeps.block _ (.inr ⟨by simp, hb2⟩)).trans hbox
    obtain ⟨_, x1, _, _⟩ := cells_two hx2
    have hI2 := Hy.out.stp hst2
    have hA2 : ArgsN W2 N A xs := hA1.keep fun g e => hst2.keeps.block g (.inl e)
    have hK2 : Keeps N W W2 := (hK1.mono fun g e => by have := hNb g e; show g < W.heap.size; omega).trans (hst2.keeps.mono fun g e => .inl e)
    obtain ⟨q0, hq0⟩ : ∃ q0 : Vis, q0 = ⟨pos, .node f xs, Ap, cp, A, c⟩ := ⟨_, rfl⟩
    rw [← hq0] at hJ2
    have hq0k : q0.key = (pos, .node f xs) := by rw [hq0]; rfl
    clear hR hy hst2 hq0
    gi_wp2
    gi_loopw [16] (fun i wr => ∃ (k : Nat) (q : List Vis), k ≤ xs.length ∧ i = .int .i64 (k : Int) ∧ q.map Vis.key = (pos, .node f xs) :: visL pos 0 (xs.take k) ∧ J (pre ++ q) wr ∧ ItSt wr C l b pos ∧ Keeps N W wr) (fun i _ => xs.length - (intOf i).toNat)
    case atStart => exact ⟨0, [q0], Nat.zero_le _, rfl, by simp [hq0k, visL], hJ2, hI2, hK2⟩
    case round =>
      obtain ⟨k, q, hk, rfl, hq, hJr, hIr, hKr⟩ := hrel
      by_cases hlt : k < xs.length
      · obtain ⟨u, hu⟩ : ∃ u, xs[k]? = some u := ⟨_, List.getElem?_eq_getElem hlt⟩
        have hAr : ArgsN wr N A xs := hA.keep fun g e => hKr.block g e
        obtain ⟨bb, off, A1, c1, rfl, ha⟩ := hAr.get hu
        have e0 := ha.c0
        have e1 := ha.c1
        have hbr : b + 2 < wr.heap.size := (Array.getElem?_eq_some_iff.1 hIr.cv).1
        obtain ⟨Ar, cr, hpr, hrow, hnr⟩ := hIr.cp
        have hBr := hB _ _ hJr
        have hKa : Keeps (· < wr.heap.size) wr (wr.alloc (.cells #[.int .i64 u.fn, .slice A1 u.args.length c1] 32)) := Keeps.alloc _ _
        have hKb : Keeps (· < wr.heap.size) wr ((wr.alloc (.cells #[.int .i64 u.fn, .slice A1 u.args.length c1] 32)).alloc (.cells #[.int .i64 (k : Int)] 3)) := hKa.trans ((Keeps.alloc _ _).mono fun g e => by show g < _; simp; have : g < wr.heap.size := e; omega)
        have hbx0 : ((wr.alloc (.cells #[.int .i64 u.fn, .slice A1 u.args.length c1] 32)).alloc (.cells #[.int .i64 (k : Int)] 3)).heap[wr.heap.size]? = some (.cells #[.int .i64 u.fn, .slice A1 u.args.length c1] 32) := (Below.heap_alloc _ _ _ (by simp)).trans (heap_alloc_new _ _)
        have hone := cell_one_new (wr.alloc (.cells #[.int .i64 u.fn, .slice A1 u.args.length c1] 32)) (.int .i64 (k : Int)) 3
        rw [World.size_alloc] at hone
        have hpD : pos.length + 1 ≤ 1099511627776 := by have := depth_pos u; have := depth_mem (List.mem_of_getElem? hu); simp only [Tm.depth] at hdp; omega
        have Hu := Lib.hid hu
        have Ha := Lib.hid ha
        have HI := Lib.hid hIr
        have HJ := Lib.hid hJr
        have hcpr := Boxed.cell (show Boxed (wr.alloc (.cells #[.int .i64 u.fn, .slice A1 u.args.length c1] 32)) (b + 1) _ _ from (hKa.block _ (by show b + 1 < wr.heap.size; omega)).trans hpr)
        have hcvr := Boxed.cell (show Boxed wr (b + 2) _ _ from hIr.cv)
        have hfp := Boxed.frozen (show Boxed wr (b + 1) _ _ from hpr)
        clear hu ha hIr hJr hAr
        gi_wp2_with (first
          | (gi_at_builtin
             go_must (
             refine wpListIn_append_at _ rfl _ _ 54 rfl (b + 3) 3 i0 (.int .i64 0) 1 8 Tryz.underlying54 hi hz0 hz1 hz2 rfl (by decide) _ _ _ rfl ((hrow.alloc _).alloc _) ⟨wr.heap.size + 1, 0, none⟩ 1 1 [.int .i64 (k : Int)] rfl rfl hone (by simp [Value.oneCell']) (by unfold maxLen; omega) (by omega) (by simp; omega) ?_
             intro v1 w1 hown1 hgr1 hat1
             obtain ⟨g1, cap1, rfl⟩ := ownsRow_succ hown1
             have hK1' : Keeps (fun g => g < wr.heap.size ∧ some g ≠ (Value.slice Ar pos.length cr).ownBlock) wr w1 := (hKb.mono fun g e => e.1).trans ((Keeps.of_grown hgr1).mono fun g e => ⟨by have h7 := e.1; simp; omega, e.2⟩)
             have hbx1 : w1.heap[wr.heap.size]? = some (.cells #[.int .i64 u.fn, .slice A1 u.args.length c1] 32) := (hgr1.block _ (by simp; omega) (fun e => by have := (row_lt hrow _ e.symm).2; omega)).trans hbx0
             have hpb1 : w1.heap[b + 1]? = wr.heap[b + 1]? := hK1'.block _ ⟨by omega, fun e => by have := (row_lt hrow _ e.symm).1; omega⟩
             have hpv1 : w1.heap[b + 2]? = wr.heap[b + 2]? := hK1'.block _ ⟨by omega, fun e => by have := (row_lt hrow _ e.symm).1; omega⟩
             have hd1 := hJ _ wr (w1.setCell ⟨b + 1, 0, none⟩ (.slice (some ⟨g1, 0, none⟩) (pos.length + 1) cap1)) HJ.out ⟨hK1'.os, hK1'.tape, hK1'.output, by simpa using hK1'.size, fun g e => (heap_setCell_other _ _ _ _ (fun e' => HI.out.nc.2.1 (by have e'' : g = b + 1 := e'; rw [← e'']; exact e))).trans (hK1'.block g ⟨hBr g e, fun e' => hnr g e'.symm e⟩)⟩
             have hI5 := HI.out.pushed hown1 hK1' (fun g e => (row_lt hrow g e).1) hd1.2 hBr hpb1 (fun g e => hat1.elim (fun h9 => .inl (e.symm.trans h9)) (fun h9 => .inr (by rw [e] at h9; injection h9 with h9; rw [h9]; simp; omega))) hnr
             have hcv5 := Boxed.cell (show Boxed w1 (b + 2) _ _ from hpv1.trans HI.out.cv)
             obtain ⟨hb50, hb51, _, _⟩ := cells_two hbx1
             have hfr5 := Boxed.frozen (show Boxed w1 (b + 1) _ _ from hpb1.trans hpr)
             have hcc5 := Boxed.cell (show Boxed w1 (b + 1) _ _ from hpb1.trans hpr)
             have hI5 := Lib.hid hI5
             have hd1 := Lib.hid hd1
             clear hgr1 hbx1))
          | fail)
        have hKN : Keeps N wr (w1.setCell ⟨b + 1, 0, none⟩ (.slice (some ⟨g1, 0, none⟩) (pos.length + 1) cap1)) := (hK1'.mono fun g e => ⟨by have := hNb g e; omega, fun e' => by have := hNb g e; have := (row_lt hrow _ e'.symm).1; omega⟩).trans ((Keeps.set _ _ _).mono fun g e => by have := hNb g e; show g ≠ b + 1; omega)
        have hmem := List.mem_of_getElem? Hu.out
        have hk64 : I64 (k : Int) := ⟨by omega, by omega⟩
        have hVk := visL_take (p := pos) Hu.out
        have hdu := depth_mem hmem
        refine (ih u hmem (n - 1) (pos ++ [(k : Int)]) (pre ++ q) A1 c1 _ Ha.out.hi (Ha.out.sub.keep fun g e => hKN.block g e) hd1.out.1 hI5.out ?_ ?_ ?_).mono ?_
        · intro x hx
          rcases List.mem_append.1 hx with hx | hx
          · exact hpi x hx
          · simp only [List.mem_cons, List.not_mem_nil, or_false] at hx
            subst hx; exact hk64
        · simp only [Tm.depth] at hdp
          simp only [List.length_append, List.length_cons, List.length_nil]
          omega
        · refine List.IsPrefix.trans ?_ hV
          rw [List.map_append, hq, List.append_assoc, List.cons_append, ← hVk, Hvis.out]
          exact (List.prefix_append_right_inj _).2 ((List.prefix_cons_inj _).2 (visL_pre pos xs (k + 1)))
        · rintro e w6 (⟨rfl, q', hq', hJ6, hI6, hK6⟩ | ⟨rfl, q', hq', hJx6⟩)
          · obtain ⟨g6, c6, p6, hcap6, hpop⟩ := hI6.popped
            have hcap6' : ((pos.length : Nat) : Int) ≤ (c6 : Int) := by omega
            have hcp6 := Boxed.cell (show Boxed w6 (b + 1) _ _ from p6)
            have hfr6 := Boxed.frozen (show Boxed w6 (b + 1) _ _ from p6)
            have hd6 := hJ _ w6 (w6.setCell ⟨b + 1, 0, none⟩ (.slice (some ⟨g6, 0, none⟩) pos.length c6)) hJ6 ((Keeps.set _ _ _).mono fun g e e' => hI6.nc.2.1 (by have e'' : g = b + 1 := e'; rw [← e'']; exact e))
            have hI7 := Lib.hid (hpop hd6.2)
            have hJ7 := Lib.hid hd6.1
            have hK7 := Lib.hid (((hKr.trans hKN).trans hK6).trans ((Keeps.set w6 ⟨b + 1, 0, none⟩ (.slice (some ⟨g6, 0, none⟩) pos.length c6)).mono (T := N) fun g e => by have := hNb g e; show g ≠ b + 1; omega))
            have hqq := Lib.hid (show (q ++ q').map Vis.key = (pos, .node f xs) :: visL pos 0 (xs.take (k + 1)) by rw [List.map_append, hq, hq', hVk]; rfl)
            clear hK1' hKN hd6 hI6 hJ6 hK6 hpop hKr hq hq' hVk hdu
            gi_wp2
            go_roundw
            case rel => exact ⟨k + 1, q ++ q', by omega, by go_num, hqq.out, by rw [← List.append_assoc]; exact hJ7.out, hI7.out, hK7.out⟩
            case measure => simp [intOf]; omega
          · gi_wp2
            go_ret
            exact .inr ⟨rfl, q ++ q', by rw [← List.append_assoc]; exact hq', by rw [← List.append_assoc]; exact hJx6⟩
      · obtain rfl : k = xs.length := by omega
        gi_wp2
        go_ret
        exact .inl ⟨rfl, q, by rw [hq, Hvis.out, List.take_length]; rfl, hJr, hIr, hKr⟩
  · gi_wp2
    go_ret
    exact .inr ⟨rfl, _, Hpv.out, hJx2⟩
end Go.Proofs.YthgglobfkkcdgaaGreatDoor
namespace Go.Proofs.YthgglobfkkcdgaaGreatDoor
open Go.RowKit
set_option maxRecDepth 100000
theorem variable_any (f : Int) (v : Value) (w : World) (hf : I64 f) (hlt : f < 0) :
    Calls Tryz.prog 84 #[.agg #[.int .i64 f, v]] w fun e w' => e = .returned (.int .i64 (-1 - f)) ∧ Below w.heap.size w w' := by
  have h1 := hf.1
  have h2 := hf.2
  go_enter Tryz.func84, Tryz.ntmps84
  go_wp2
  go_ret
  exact ⟨rfl, (Below.refl _ _).alloc (Nat.le_refl _) _⟩
theorem numI_lt {a b : Int} (h : a < b) : numI a b = -1 := by simp [numI, h]
theorem numI_gt {a b : Int} (h : b < a) : numI a b = 1 := by simp [numI, h]; omega
theorem numI_eq {a b : Int} (h1 : b ≤ a) (h2 : a ≤ b) : numI a b = 0 := by
  have : a = b := by omega
  subst this
  simp [numI]
end Go.Proofs.YthgglobfkkcdgaaGreatDoor
namespace Go.Proofs.YthgglobfkkcdgaaGreatDoor
open Go.RowKit
set_option maxRecDepth 100000
mutual
def fitT (l : List Sm) : Tm → Int → Int → Bool × Int
  | .node f xs, d, r =>
    if r - 1 < 0 ∨ 30 < d then (false, r - 1)
    else if f < 0 then (decide (-1 - f < 48 ∧ xs.length = 0), r - 1)
    else match l[f.toNat]? with
      | none => (false, r - 1)
      | some s => if s.arity ≠ xs.length ∨ (s.pred = true ∧ 1 < d) then (false, r - 1) else fitL l xs (d + 1) (r - 1)
def fitL (l : List Sm) : List Tm → Int → Int → Bool × Int
  | [], _, r => (true, r)
  | t :: ts, d, r => if (fitT l t d r).1 = true then fitL l ts d (fitT l t d r).2 else (false, (fitT l t d r).2)
end
section
variable {l : List Sm} {f d r : Int} {xs : List Tm} {s : Sm} {t : Tm}
theorem fit_room (h : r - 1 < 0 ∨ 30 < d) : fitT l (.node f xs) d r = (false, r - 1) := by simp only [fitT, if_pos h]
theorem fit_var (h : ¬ (r - 1 < 0 ∨ 30 < d)) (hf : f < 0) : fitT l (.node f xs) d r = (decide (-1 - f < 48 ∧ xs.length = 0), r - 1) := by simp only [fitT, if_neg h, if_pos hf]
theorem fit_out (h : ¬ (r - 1 < 0 ∨ 30 < d)) (hf : ¬ f < 0) (ho : (l.length : Int) ≤ f) : fitT l (.node f xs) d r = (false, r - 1) := by
  simp only [fitT, if_neg h, if_neg hf, List.getElem?_eq_none (show l.length ≤ f.toNat by omega)]
theorem fit_bad (h : ¬ (r - 1 < 0 ∨ 30 < d)) (hf : ¬ f < 0) (hs : l[f.toNat]? = some s) (hb : s.arity ≠ xs.length ∨ (s.pred = true ∧ 1 < d)) : fitT l (.node f xs) d r = (false, r - 1) := by
  simp only [fitT, if_neg h, if_neg hf, hs, if_pos hb]
theorem fit_in (h : ¬ (r - 1 < 0 ∨ 30 < d)) (hf : ¬ f < 0) (hs : l[f.toNat]? = some s) (hb : ¬ (s.arity ≠ xs.length ∨ (s.pred = true ∧ 1 < d))) : fitT l (.node f xs) d r = fitL l xs (d + 1) (r - 1) := by
  simp only [fitT, if_neg h, if_neg hf, hs, if_neg hb]
theorem fitL_yes (h : (fitT l t d r).1 = true) : fitL l (t :: xs) d r = fitL l xs d (fitT l t d r).2 := by simp only [fitL, if_pos h]
theorem fitL_no (h : (fitT l t d r).1 = false) : fitL l (t :: xs) d r = (false, (fitT l t d r).2) := by simp [fitL, h]
end
theorem fit_le (l : List Sm) (t : Tm) : ∀ d r, 0 ≤ r → (fitT l t d r).2 ≤ r - 1 ∧ -1 ≤ (fitT l t d r).2 ∧ ((fitT l t d r).1 = true → 0 ≤ (fitT l t d r).2) := by
  refine Tm.ind (P := fun t => ∀ d r, 0 ≤ r → (fitT l t d r).2 ≤ r - 1 ∧ -1 ≤ (fitT l t d r).2 ∧ ((fitT l t d r).1 = true → 0 ≤ (fitT l t d r).2)) (fun f xs ih d r hr => ?_) t
  have key : ∀ ys : List Tm, (∀ t ∈ ys, ∀ d r, 0 ≤ r → (fitT l t d r).2 ≤ r - 1 ∧ -1 ≤ (fitT l t d r).2 ∧ ((fitT l t d r).1 = true → 0 ≤ (fitT l t d r).2)) → ∀ d r, 0 ≤ r → (fitL l ys d r).2 ≤ r ∧ -1 ≤ (fitL l ys d r).2 ∧ ((fitL l ys d r).1 = true → 0 ≤ (fitL l ys d r).2) := by
    intro ys
    induction ys with
    | nil => intro _ d r hr; simp only [fitL]; exact ⟨Int.le_refl _, by omega, fun _ => hr⟩
    | cons y ys ihy =>
      intro h d r hr
      have h1 := h y (by simp) d r hr
      cases hb : (fitT l y d r).1 with
      | true =>
        rw [fitL_yes hb]
        have h2 := ihy (fun t ht => h t (by simp [ht])) d _ (h1.2.2 hb)
        exact ⟨by omega, h2.2.1, h2.2.2⟩
      | false => rw [fitL_no hb]; exact ⟨by show _ ≤ r; omega, h1.2.1, fun h => by cases h⟩
  by_cases h1 : r - 1 < 0 ∨ 30 < d
  · rw [fit_room h1]; exact ⟨Int.le_refl _, by show -1 ≤ r - 1; omega, fun h => by cases h⟩
  · by_cases hf : f < 0
    · rw [fit_var h1 hf]; exact ⟨Int.le_refl _, by show -1 ≤ r - 1; omega, fun _ => by show 0 ≤ r - 1; omega⟩
    · cases hs : l[f.toNat]? with
      | none => rw [fit_out h1 hf (by have := List.getElem?_eq_none_iff.1 hs; omega)]; exact ⟨Int.le_refl _, by show -1 ≤ r - 1; omega, fun h => by cases h⟩
      | some s =>
        by_cases hb : s.arity ≠ xs.length ∨ (s.pred = true ∧ 1 < d)
        · rw [fit_bad h1 hf hs hb]; exact ⟨Int.le_refl _, by show -1 ≤ r - 1; omega, fun h => by cases h⟩
        · rw [fit_in h1 hf hs hb]; exact key xs ih (d + 1) (r - 1) (by omega)
def FitPost (l : List Sm) (t : Tm) (d r : Int) (rb : Nat) (w : World) (e : Ending) (w' : World) : Prop :=
  e = .returned (.bool (fitT l t d r).1) ∧ Keeps (fun g => g < w.heap.size ∧ g ≠ rb) w w' ∧ w'.heap[rb]? = some (.cells #[.int .i64 (fitT l t d r).2] 3)
def FitAt (l : List Sm) (t : Tm) : Prop := ∀ (As A : Option Addr) (cs c : Nat) (d r : Int) (rb : Nat) (w : World), I64 t.fn → Syms w rb As l.length l → l.length ≤ 9223372036854775807 → Args w rb A t.args → w.heap[rb]? = some (.cells #[.int .i64 r] 3) → 0 ≤ r → r ≤ 300 → 1 ≤ d → d ≤ 31 →
  Calls Tryz.prog 50 #[.agg #[.slice As l.length cs], .agg #[.int .i64 t.fn, .slice A t.args.length c], .int .i64 d, .pointer (some ⟨rb, 0, none⟩)] w (FitPost l t d r rb w)
theorem heap2 (w : World) (o1 o2 : Obj) : ((w.alloc o1).alloc o2).heap[w.heap.size]? = some o1 ∧ ((w.alloc o1).alloc o2).heap[w.heap.size + 1]? = some o2 := by
  have e1 : (w.alloc o1).heap.size = w.heap.size + 1 := by simp
  refine ⟨?_, ?_⟩
  · rw [Below.heap_alloc _ _ _ (by omega)]
    exact heap_alloc_new w o1
  · rw [← e1]
    exact heap_alloc_new _ o2
theorem cells_one {W : World} {b : Nat} {x : Value} {t : TypeId} (h : W.heap[b]? = some (.cells #[x] t)) : W.cell? ⟨b, 0, none⟩ = some x ∧ W.frozen? ⟨b, 0, none⟩ = false := by
  refine ⟨?_, ?_⟩ <;> simp [World.cell?, World.frozen?, h]
set_option maxHeartbeats 2000000 in
theorem termFits_any (l : List Sm) (t : Tm) : FitAt l t := by
  refine Tm.ind (P := FitAt l) (fun f xs ih => ?_) t
  intro As A cs c d r rb w hf hS hl hA hr hr0 hr3 hd1 hd3
  simp only [Tm.fn, Tm.args] at hf hA ⊢
  have hrb : rb < w.heap.size := (Array.getElem?_eq_some_iff.1 hr).1
  obtain ⟨p0, p1⟩ := heap2 w (.cells #[.slice As l.length cs] 24) (.cells #[.int .i64 f, .slice A xs.length c] 32)
  obtain ⟨W, hW⟩ : ∃ W, ((w.alloc (.cells #[.slice As l.length cs] 24)).alloc (.cells #[.int .i64 f, .slice A xs.length c] 32)) = W := ⟨_, rfl⟩
  have hB : Below w.heap.size w W := by rw [← hW]; exact ((Below.refl _ _).alloc (Nat.le_refl _) _).alloc (by simp) _
  rw [hW] at p0 p1
  have hrW : W.heap[rb]? = some (.cells #[.int .i64 r] 3) := (hB.block rb hrb).trans hr
  obtain ⟨V, hV⟩ : ∃ V, W.setCell ⟨rb, 0, none⟩ (.int .i64 (r - 1)) = V := ⟨_, rfl⟩
  have hKV : Keeps (· ≠ rb) W V := by rw [← hV]; exact (Keeps.set W ⟨rb, 0, none⟩ _).mono fun g e => e
  have q0 := (hKV.block _ (show w.heap.size ≠ rb by omega)).trans p0
  have q1 := (hKV.block _ (show w.heap.size + 1 ≠ rb by omega)).trans p1
  have qr : V.heap[rb]? = some (.cells #[.int .i64 (r - 1)] 3) := by rw [← hV]; exact heap_setCell_same W rb 0 _ _ _ hrW
  obtain ⟨a0, _⟩ := cells_one q0
  obtain ⟨b0, b1, _, _⟩ := cells_two q1
  obtain ⟨r0, r1⟩ := cells_one qr
  obtain ⟨s0, s1⟩ := cells_one hrW
  have hKw : Keeps (fun g => g < w.heap.size ∧ g ≠ rb) w V := ((Keeps.of_below hB).mono fun g e => e.1).trans (hKV.mono fun g e => e.2)
  have hSV := hS.keep (w' := V) fun p hp => World.cell?_of_block (hKw.block _ ⟨by omega, by omega⟩)
  have HW := Lib.hid hW
  have HV := Lib.hid hV
  clear hW hV
  go_enter Tryz.func50, Tryz.ntmps50
  go_upto_region 1 with fail
  rw [HW.out]
  go_upto_region 2 with fail
  rw [HV.out]
  have fin : ∀ {v : Bool} {x : Int} {w' : World}, Hid (fitT l (.node f xs) d r = (v, x)) → Keeps (fun g => g < w.heap.size ∧ g ≠ rb) w w' → w'.heap[rb]? = some (.cells #[.int .i64 x] 3) → FitPost l (.node f xs) d r rb w (.returned (.bool v)) w' := fun h hk hc => ⟨by rw [h.out], hk, by rw [h.out]; exact hc⟩
  have hwV : w.heap.size + 1 < V.heap.size := (Array.getElem?_eq_some_iff.1 q1).1
  have keep2 : ∀ {w2 : World}, Below V.heap.size V w2 → Keeps (fun g => g < w.heap.size ∧ g ≠ rb) w w2 ∧ w2.heap[rb]? = some (.cells #[.int .i64 (r - 1)] 3) := fun h => ⟨hKw.trans ((Keeps.of_below h).mono fun g e => by have := e.1; show g < V.heap.size; omega), (h.block rb (by omega)).trans qr⟩
  by_cases h1 : r - 1 < 0 ∨ 30 < d
  · have hf := Lib.hid (fit_room (l := l) (f := f) (xs := xs) h1)
    by_cases h2 : r - 1 < 0
    · go_wp2
      go_ret
      exact fin hf hKw qr
    · have h3 : 30 < d := by omega
      go_wp2
      go_ret
      exact fin hf hKw qr
  · obtain ⟨h2, h3⟩ := not_or.1 h1
    by_cases hf0 : f < 0
    · have hfv := fit_var (l := l) (xs := xs) h1 hf0
      by_cases hv1 : -1 - f < 48
      · have hfv' := Lib.hid hfv
        go_wp2_with (first
          | (go_at_call 84
             refine (variable_any f _ V hf hf0).mono ?_
             rintro e w2 ⟨rfl, hb2⟩
             have hx2 := cell_on hb2 (b := w.heap.size + 1) (o := 1) (by have := (Array.getElem?_eq_some_iff.1 q1).1; omega) b1)
          | fail)
        go_ret
        have k2 := keep2 hb2
        exact ⟨ret_bool (by rw [hfv'.out]; simp only [hv1, true_and]; cases xs <;> simp; omega), k2.1, by rw [hfv'.out]; exact k2.2⟩
      · have hfv' := Lib.hid hfv
        go_wp2_with (first
          | (go_at_call 84
             refine (variable_any f _ V hf hf0).mono ?_
             rintro e w2 ⟨rfl, hb2⟩)
          | fail)
        go_ret
        have k2 := keep2 hb2
        exact ⟨ret_bool (by rw [hfv'.out]; exact (decide_eq_false fun h => by have := h.1; omega).symm), k2.1, by rw [hfv'.out]; exact k2.2⟩
    · by_cases ho : (l.length : Int) ≤ f
      · have hfo := Lib.hid (fit_out (l := l) (xs := xs) h1 hf0 ho)
        go_wp2
        go_ret
        exact fin hfo hKw qr
      · obtain ⟨k0, rfl⟩ : ∃ k0 : Nat, f = (k0 : Int) := ⟨f.toNat, by omega⟩
        obtain ⟨s, hs⟩ : ∃ s, l[k0]? = some s := ⟨_, List.getElem?_eq_getElem (by omega)⟩
        obtain ⟨sb, so, rfl, hsb, hsc⟩ := hSV.ad (by omega)
        obtain ⟨y0, y1, y2⟩ := hsc _ _ hs
        have hs' : l[((k0 : Int)).toNat]? = some s := by simpa using hs
        have hlt' : (k0 : Int) < l.length := by omega
        have hge' : (k0 : Int) ≥ 0 := by omega
        by_cases hb : s.arity ≠ xs.length ∨ (s.pred = true ∧ 1 < d)
        · have hfb := Lib.hid (fit_bad (xs := xs) h1 hf0 hs' hb)
          by_cases hb1 : s.arity = xs.length
          · have hb2 : s.pred = true ∧ 1 < d := hb.resolve_left (fun h => h hb1)
            obtain ⟨hb3, hb4⟩ := hb2
            clear hs hs' hsc
            go_wp2
            go_ret
            exact fin hfb (keep2 ((Below.refl _ _).alloc (Nat.le_refl _) _)).1 (keep2 ((Below.refl _ _).alloc (Nat.le_refl _) _)).2
          · clear hs hs' hsc
            go_wp2
            go_ret
            exact fin hfb (keep2 ((Below.refl _ _).alloc (Nat.le_refl _) _)).1 (keep2 ((Below.refl _ _).alloc (Nat.le_refl _) _)).2
        · have hfi := Lib.hid (fit_in (xs := xs) h1 hf0 hs' hb)
          have hb1 : s.arity = xs.length := Classical.not_not.1 (fun h => hb (.inl h))
          have hb2 : s.pred = true → ¬ 1 < d := fun h h' => hb (.inr ⟨h, h'⟩)
          have hB5 : Below V.heap.size V (V.alloc (.cells #[.string s.name, .int .i64 s.arity, .bool s.pred] 67)) := (Below.refl _ _).alloc (Nat.le_refl _) _
          clear hs hs' hsc hb
          go_upto_region 9 with fail
          go_cut [62] (fun s62 wx => s62 = .bool false ∧ wx = V.alloc (.cells #[.string s.name, .int .i64 s.arity, .bool s.pred] 67))
          case first =>
            by_cases hp : s.pred = true
            · have hd := hb2 hp
              go_wp2
              go_meet
              case rel => exact ⟨rfl, by rw [hb1, hp]⟩
            · have hp' : s.pred = false := by simpa using hp
              go_wp2
              go_meet
              case rel => exact ⟨rfl, by rw [hb1, hp']⟩
          case rest =>
            obtain ⟨rfl, rfl⟩ := hcut
            obtain ⟨V5, hV5⟩ : ∃ V5, V.alloc (.cells #[.string s.name, .int .i64 s.arity, .bool s.pred] 67) = V5 := ⟨_, rfl⟩
            rw [hV5] at hB5 ⊢
            have k5 := keep2 hB5
            have x0 := (hB5.block _ (by omega)).trans q0
            have x1 := (hB5.block _ hwV).trans q1
            have hV5s : w.heap.size + 1 < V5.heap.size := (Array.getElem?_eq_some_iff.1 x1).1
            obtain ⟨z0, _⟩ := cells_one x0
            obtain ⟨_, z1, _, _⟩ := cells_two x1
            clear hV5 q0 q1 qr a0 b0 b1 r0 r1 s0 s1 y0 y1 y2 hB5 hB hrW p0 p1 HW HV
            go_wp2
            go_loopw [66] (fun i wr => ∃ (k : Nat) (r' : Int), k ≤ xs.length ∧ i = .int .i64 (k : Int) ∧ Keeps (fun g => g < V5.heap.size ∧ g ≠ rb) V5 wr ∧ wr.heap[rb]? = some (.cells #[.int .i64 r'] 3) ∧ 0 ≤ r' ∧ r' ≤ 300 ∧ Hid (fitL l xs (d + 1) (r - 1) = fitL l (xs.drop k) (d + 1) r')) (fun i _ => xs.length - (intOf i).toNat)
            case atStart => exact ⟨0, r - 1, Nat.zero_le _, rfl, Keeps.refl _ _, k5.2, by omega, by omega, rfl⟩
            case round =>
              obtain ⟨k, r', hk, rfl, hKr, hcr, hr0', hr3', H⟩ := hrel
              have hKwr : Keeps (fun g => g < w.heap.size ∧ g ≠ rb) w wr := k5.1.trans (hKr.mono fun g e => ⟨by have := e.1; omega, e.2⟩)
              by_cases hlt : k < xs.length
              · obtain ⟨u, hu⟩ : ∃ u, xs[k]? = some u := ⟨_, List.getElem?_eq_getElem hlt⟩
                obtain ⟨bb, off, A1, c1, rfl, ha⟩ := (hA.keep (w' := wr) fun p hp => World.cell?_of_block (hKwr.block _ ⟨by omega, by omega⟩)).get hu
                have e0 := ha.c0
                have e1 := ha.c1
                have hl2 := hA.len
                have hwr : rb < wr.heap.size := (Array.getElem?_eq_some_iff.1 hcr).1
                have hdrop : xs.drop k = u :: xs.drop (k + 1) := by
                  rw [List.drop_eq_getElem_cons hlt]
                  rw [List.getElem?_eq_getElem hlt] at hu
                  injection hu with hu
                  rw [hu]
                have hBa : Below wr.heap.size wr (wr.alloc (.cells #[.int .i64 u.fn, .slice A1 u.args.length c1] 32)) := (Below.refl _ _).alloc (Nat.le_refl _) _
                have g0 := cell_on hBa (b := w.heap.size) (o := 0) (by have := hKr.size; omega) ((World.cell?_of_block (a := ⟨w.heap.size, 0, none⟩) (hKr.block w.heap.size ⟨by omega, by omega⟩)).trans z0)
                have hsy := Lib.hid ((hS.keep (w' := wr) fun p hp => World.cell?_of_block (hKwr.block _ ⟨by omega, by omega⟩)).below (hBa.mono (show rb ≤ wr.heap.size by omega)))
                have hsu := Lib.hid (ha.sub.blw (hBa.mono (show rb ≤ wr.heap.size by omega)))
                have hcr' := Lib.hid ((hBa.block rb hwr).trans hcr)
                have hfle := fit_le l u (d + 1) r' hr0'
                have hu64 := ha.hi
                have hmem := List.mem_of_getElem? hu
                clear hu ha
                cases hb : (fitT l u (d + 1) r').1 with
                | true =>
                  have hfy := fitL_yes (xs := xs.drop (k + 1)) hb
                  have H2 : Hid (fitL l xs (d + 1) (r - 1) = fitL l (xs.drop (k + 1)) (d + 1) (fitT l u (d + 1) r').2) := by
                    rw [show fitL l xs (d + 1) (r - 1) = _ from H.out, hdrop, hfy]; rfl
                  have hb' := Lib.hid hb
                  clear hb hfy H hdrop
                  go_wp2_with (first
                    | (go_at_call 50
                       refine (ih u hmem (some ⟨sb, so, none⟩) A1 cs c1 (d + 1) r' rb _ hu64 hsy.out hl hsu.out hcr'.out hr0' hr3' (by omega) (by omega)).mono ?_
                       rintro e w8 ⟨rfl, hK8, hc8⟩
                       rw [hb'.out])
                    | fail)
                  exact ⟨⟨k + 1, _, by omega, by go_num, (hKr.trans ((Keeps.of_below hBa).mono fun g e => by have := e.1; have := hKr.size; show g < wr.heap.size; omega)).trans (hK8.mono fun g e => ⟨by have := e.1; have := hKr.size; simp; omega, e.2⟩), hc8, hfle.2.2 hb'.out, by omega, H2.out⟩, by simp [intOf]; omega⟩
                | false =>
                  have hfn := fitL_no (xs := xs.drop (k + 1)) hb
                  have H2 : Hid (fitT l (.node (k0 : Int) xs) d r = (false, (fitT l u (d + 1) r').2)) := by
                    rw [hfi.out, show fitL l xs (d + 1) (r - 1) = _ from H.out, hdrop, hfn]; rfl
                  have hb' := Lib.hid hb
                  clear hb hfn H hdrop
                  go_wp2_with (first
                    | (go_at_call 50
                       refine (ih u hmem (some ⟨sb, so, none⟩) A1 cs c1 (d + 1) r' rb _ hu64 hsy.out hl hsu.out hcr'.out hr0' hr3' (by omega) (by omega)).mono ?_
                       rintro e w8 ⟨rfl, hK8, hc8⟩
                       rw [hb'.out])
                    | fail)
                  go_ret
                  exact fin H2 (hKwr.trans (((Keeps.of_below hBa).mono (T := fun g => g < w.heap.size ∧ g ≠ rb) fun g e => by have := e.1; have := hKr.size; show g < wr.heap.size; omega).trans (hK8.mono fun g e => ⟨by have := e.1; have := hKr.size; simp; omega, e.2⟩))) hc8
              · obtain rfl : k = xs.length := by omega
                have H2 : fitT l (.node (k0 : Int) xs) d r = (true, r') := by
                  rw [hfi.out, show fitL l xs (d + 1) (r - 1) = _ from H.out]; simp [fitL]
                have H2 := Lib.hid H2
                go_wp2
                go_ret
                exact fin H2 hKwr hcr
end Go.Proofs.YthgglobfkkcdgaaGreatDoor
namespace Go.Proofs.YthgglobfkkcdgaaGreatDoor
open Go.RowKit Go.Shelf
set_option maxRecDepth 100000
section
variable {σ : Type} {nx : σ → Int → σ × Int} {kn : FuncId} {nc : Array Value} {C D N : Nat → Prop} {I : σ → World → Prop} {B0 : Nat}
end
end Go.Proofs.YthgglobfkkcdgaaGreatDoor
namespace Go.Proofs.YthgglobfkkcdgaaGreatDoor
open Go.RowKit Go.Shelf
set_option maxRecDepth 100000
end Go.Proofs.YthgglobfkkcdgaaGreatDoor
namespace Go.Proofs.YthgglobfkkcdgaaGreatDoor
open Go.RowKit Go.Shelf
set_option maxRecDepth 100000
def IntsV (w : World) (v : Value) (l : List Int) : Prop := ∃ A c, v = .slice A l.length c ∧ Ints w w.heap.size A l
theorem row_ints {w : World} {base : Nat} {v : Value} {l : List Int} (h : w.ownsRow base 3 1 v l.length (l.map (Value.int .i64))) (hl : l.length ≤ 9223372036854775807) (hi : ∀ x ∈ l, I64 x) : IntsV w v l := by
  rcases h.2 with ⟨rfl, h0⟩ | ⟨g, cap, cur, rfl, hb, hg, _⟩
  · exact ⟨none, 0, by rw [h0], hl, hi, fun hn => by omega⟩
  · refine ⟨_, _, rfl, hl, hi, fun hn => ⟨g, 0, rfl, (Array.getElem?_eq_some_iff.1 hg).1, fun i x hx => ?_⟩⟩
    have hlt := (List.getElem?_eq_some_iff.1 hx).1
    rw [Nat.zero_add, h.cellAt i (by simpa using hlt)]
    simp [hx]
theorem calls_round {P : Program} {f : FuncId} {args : Array Value} {w : World} {R : Ending → World → Prop} (l m : Nat) (h : Calls P f args w R) : CallsIn (Fence.wide.inRound l) m P f args w R := (callsIn_wide (n := m)).2 h
end Go.Proofs.YthgglobfkkcdgaaGreatDoor
namespace Go.Proofs.YthgglobfkkcdgaaGreatDoor
open Go.RowKit Go.Shelf
set_option maxRecDepth 100000
structure Ti where
  t : Tm
  A : Option Addr
  c : Nat
def Ti.cells (x : Ti) : List Value := [.int .i64 x.t.fn, .slice x.A x.t.args.length x.c]
theorem ti_get (l : List Ti) (i r : Nat) (hr : r < 2) : (l.flatMap Ti.cells)[i * 2 + r]? = (l[i]?).bind fun x => x.cells[r]? := by
  induction l generalizing i with
  | nil => simp
  | cons x l ih =>
    have hlen : x.cells.length = 2 := rfl
    rw [List.flatMap_cons]
    cases i with
    | zero => rw [List.getElem?_append_left (by omega)]; simp
    | succ i =>
      rw [List.getElem?_append_right (by omega), hlen, show (i + 1) * 2 + r - 2 = i * 2 + r from by omega, ih]
      simp
theorem ti_len (l : List Ti) : (l.flatMap Ti.cells).length = l.length * 2 := by
  induction l with
  | nil => rfl
  | cons x l ih =>
    have hlen : x.cells.length = 2 := rfl
    rw [List.flatMap_cons, List.length_append, ih, hlen, List.length_cons]
    omega
section
variable {w w' : World} {base base' : Nat} {v : Value} {l : List Ti} {N M : Nat → Prop}
end
theorem step_append_at {P : Program} {w : World} {ops : Array Oper} {o : Oper} {a : Act} {K : Act → World → Prop} {Q : Exit → Act → World → Prop} {E : Prop}
    (hg : o.guard = none) (s x : Operand) (t : TypeId) (hop : o.op = Op.call { callee := Callee.builtin Builtin.append, args := #[s, x], argTypes := #[t, t] })
    (base : Nat) (e : TypeId) (i : TypeInfo) (z : Value) (size bytes : Nat) (h1 : P.underlying t = some (.slice e)) (h2 : P.info? e = some i) (h3 : i.zero = some z) (h4 : i.size = size) (h5 : i.bytes = bytes) (h6 : z.cells.size = size) (h7 : 0 < size)
    (v : Value) (k : Nat) (xs : List Value) (hs : a.eval s = v) (hown : w.ownsRow base e size v k xs) (ad : Addr) (m c : Nat) (news : List Value) (hx : a.eval x = .slice (some ad) m c) (hn : news.length = m * size)
    (hc : ∀ j u, news[j]? = some u → w.cell? (ad.add j) = some u) (h1c : ∀ u ∈ news, u.oneCell' = true) (b1 : k + m ≤ maxLen) (b2 : (k + m) * bytes ≤ 140737488355328) (b3 : base ≤ w.heap.size)
    (hK : ∀ v' w', w'.ownsRow base e size v' (k + m) (xs ++ news) → w.grownBy w' v.ownBlock → (v'.ownBlock = v.ownBlock ∨ v'.ownBlock = some w.heap.size) → K (a.put o.dst v') w') :
    if Region.wanted o (yielded ops a.tmps) = true then Oper.wp P o a w K Q else E := by
  obtain ⟨v', w', hrun, r1, r2, _, r4⟩ := run_append_own_at (P := P) w base t o.type e i z size bytes h1 h2 h3 h4 h5 h6 h7 v k xs hown ad m c news hn hc h1c b1 b2 b3
  rw [if_pos (by simp [Region.wanted, hg])]
  unfold Oper.wp
  simp [execOp, hop, resolve, invoke, builtin, hs, hx, hrun, Result.andThen]
  exact hK _ _ r1 r2 r4
theorem cells_new_two (w : World) (x y : Value) (t : TypeId) : ∀ j u, [x, y][j]? = some u → (w.alloc (.cells #[x, y] t)).cell? ((⟨w.heap.size, 0, none⟩ : Addr).add j) = some u := by
  intro j u hj
  match j, hj with
  | 0, hj => simp at hj; subst hj; simp [Addr.add]
  | 1, hj => simp at hj; subst hj; simp [Addr.add]
  | j + 2, hj => simp at hj
end Go.Proofs.YthgglobfkkcdgaaGreatDoor
namespace Go.Proofs.YthgglobfkkcdgaaGreatDoor
open Go.RowKit Go.Shelf
set_option maxRecDepth 100000
structure Bd where
  v : Int
  t : Tm
structure Binds (w : World) (N : Nat → Prop) (A : Option Addr) (l : List Bd) : Prop where
  len : l.length ≤ 9223372036854775807
  ad : 0 < l.length → ∃ b off, A = some ⟨b, off, none⟩ ∧ N b ∧ ∀ (i : Nat) (x : Bd), l[i]? = some x → ∃ A' c', w.cell? ⟨b, off + i * 3, none⟩ = some (.int .i64 x.v) ∧ w.cell? ⟨b, off + i * 3 + 1, none⟩ = some (.int .i64 x.t.fn) ∧ w.cell? ⟨b, off + i * 3 + 2, none⟩ = some (.slice A' x.t.args.length c') ∧ I64 x.v ∧ I64 x.t.fn ∧ ArgsN w N A' x.t.args
section
variable {w w' : World} {N M : Nat → Prop} {A : Option Addr} {l : List Bd}
theorem Binds.keep (h : Binds w N A l) (hk : ∀ g, N g → w'.heap[g]? = w.heap[g]?) : Binds w' N A l :=
  ⟨h.len, fun hn => by
    obtain ⟨b, off, hA, hb, hc⟩ := h.ad hn
    refine ⟨b, off, hA, hb, fun i x hx => ?_⟩
    obtain ⟨A', c', h0, h1, h2, h3, h4, h5⟩ := hc i x hx
    exact ⟨A', c', (cell_of_heap (hk b hb)).trans h0, (cell_of_heap (hk b hb)).trans h1, (cell_of_heap (hk b hb)).trans h2, h3, h4, h5.keep hk⟩⟩
theorem Binds.wide (h : Binds w N A l) (hk : ∀ g, N g → M g) : Binds w M A l :=
  ⟨h.len, fun hn => by
    obtain ⟨b, off, hA, hb, hc⟩ := h.ad hn
    refine ⟨b, off, hA, hk b hb, fun i x hx => ?_⟩
    obtain ⟨A', c', h0, h1, h2, h3, h4, h5⟩ := hc i x hx
    exact ⟨A', c', h0, h1, h2, h3, h4, h5.wide hk⟩⟩
theorem Binds.nil_ (w : World) (N : Nat → Prop) (A : Option Addr) : Binds w N A [] := ⟨by simp, fun h => by simp at h⟩
structure BdAt (w : World) (N : Nat → Prop) (b off i : Nat) (x : Bd) (A' : Option Addr) (c' : Nat) : Prop where
  hb : N b
  c0 : w.cell? ⟨b, off + i * 3, none⟩ = some (.int .i64 x.v)
  c1 : w.cell? ⟨b, off + i * 3 + 1, none⟩ = some (.int .i64 x.t.fn)
  c2 : w.cell? ⟨b, off + i * 3 + 2, none⟩ = some (.slice A' x.t.args.length c')
  iv : I64 x.v
  it : I64 x.t.fn
  sub : ArgsN w N A' x.t.args
theorem Binds.get (h : Binds w N A l) {i : Nat} {x : Bd} (hx : l[i]? = some x) : ∃ b off A' c', A = some ⟨b, off, none⟩ ∧ BdAt w N b off i x A' c' := by
  have hlt := (List.getElem?_eq_some_iff.1 hx).1
  obtain ⟨b, off, hA, hb, hc⟩ := h.ad (by omega)
  obtain ⟨A', c', h0, h1, h2, h3, h4, h5⟩ := hc i x hx
  exact ⟨b, off, A', c', hA, hb, h0, h1, h2, h3, h4, h5⟩
end
def selfB (x : Bd) : Prop := x.t.fn = -1 - x.v ∧ x.t.args.length = 0
instance (x : Bd) : Decidable (selfB x) := inferInstanceAs (Decidable (_ ∧ _))
end Go.Proofs.YthgglobfkkcdgaaGreatDoor
namespace Go.Proofs.YthgglobfkkcdgaaGreatDoor
open Go.RowKit Go.Shelf
set_option maxRecDepth 100000
end Go.Proofs.YthgglobfkkcdgaaGreatDoor
namespace Go.Proofs.YthgglobfkkcdgaaGreatDoor
open Go.RowKit Go.Shelf
set_option maxRecDepth 100000
def findB (l : List Bd) (v : Int) : Option Bd := l.find? fun x => decide (x.v = v)
theorem findB_none {l : List Bd} {v : Int} (h : ∀ (i : Nat) (y : Bd), l[i]? = some y → y.v ≠ v) : findB l v = none := by
  unfold findB
  rw [List.find?_eq_none]
  intro x hx
  obtain ⟨i, hi⟩ := List.mem_iff_getElem?.1 hx
  simpa using h i x hi
end Go.Proofs.YthgglobfkkcdgaaGreatDoor
namespace Go.Proofs.YthgglobfkkcdgaaGreatDoor
open Go.RowKit Go.Shelf
set_option maxRecDepth 100000
theorem alloc_old {W : World} {b : Nat} {x o : Obj} (h : W.heap[b]? = some x) : (W.alloc o).heap[b]? = some x :=
  (((Below.refl W.heap.size W).alloc (Nat.le_refl _) o).block _ (Array.getElem?_eq_some_iff.1 h).1).trans h
end Go.Proofs.YthgglobfkkcdgaaGreatDoor
namespace Go.Proofs.YthgglobfkkcdgaaGreatDoor
open Go.RowKit Go.Shelf
set_option maxRecDepth 100000
mutual
def appT (g : Int → Option Tm) : Tm → Tm
  | .node f xs => (if f < 0 then g (-1 - f) else none).getD (.node f (appL g xs))
def appL (g : Int → Option Tm) : List Tm → List Tm
  | [] => []
  | t :: ts => appT g t :: appL g ts
end
theorem appL_eq (g : Int → Option Tm) : ∀ xs : List Tm, appL g xs = xs.map (appT g)
  | [] => by simp only [appL, List.map_nil]
  | t :: ts => by simp only [appL, appL_eq g ts, List.map_cons]
def bdT (l : List Bd) (v : Int) : Option Tm := (findB l v).map Bd.t
end Go.Proofs.YthgglobfkkcdgaaGreatDoor
namespace Go.Proofs.YthgglobfkkcdgaaGreatDoor
open Go.RowKit Go.Shelf
set_option maxRecDepth 100000
end Go.Proofs.YthgglobfkkcdgaaGreatDoor
namespace Go.Proofs.YthgglobfkkcdgaaGreatDoor
open Go.RowKit Go.Shelf
set_option maxRecDepth 100000
end Go.Proofs.YthgglobfkkcdgaaGreatDoor
namespace Go.Proofs.YthgglobfkkcdgaaGreatDoor
open Go Go.RowKit
structure Later (n : Nat) (W : World) where
  w : World
  h : Below n W w
instance (n : Nat) (W : World) : Nonempty (Later n W) := ⟨⟨W, Below.refl _ _⟩⟩
def Later.step {n : Nat} {W : World} (x : Later n W) {w' : World} (h : Below x.w.heap.size x.w w') (hn : n ≤ W.heap.size) : Later n W := ⟨w', x.h.trans (h.mono (Nat.le_trans hn x.h.size))⟩
theorem wp_region_later {P : Program} {id : Nat} {Q : Exit → Act → World → Prop} {a : Act} {w : World} {l : List Oper} (n : Nat) (W : World) (hm : P.follows .mixedOrders = true) (hB : Region.lexB .any l.toArray = true) (h0 : Below n W w.drew)
    (h : wpQuiet P l.toArray (fun w' => ∃ x : Later n W, w' = x.w) (fun a' => ∀ w', (∃ x : Later n W, w' = x.w) → Q .normal a' w') l a) : (Code.region id l.toArray true).wp P Q a w :=
  wp_region_quiet (C := fun w' => ∃ x : Later n W, w' = x.w) hm hB ⟨⟨_, h0⟩, rfl⟩ (by simpa using h)
theorem calls_later {P : Program} {f : FuncId} {args : Array Value} {n : Nat} {W : World} {v : Value} (x : Later n W) (hn : n ≤ W.heap.size) (h : Calls P f args x.w fun e w' => e = .returned v ∧ Below x.w.heap.size x.w w') :
    Calls P f args x.w fun e w' => e = .returned v ∧ ∃ y : Later n W, w' = y.w :=
  h.mono fun _ _ ⟨he, hb⟩ => ⟨he, x.step hb hn, rfl⟩
end Go.Proofs.YthgglobfkkcdgaaGreatDoor
namespace Go.Proofs.YthgglobfkkcdgaaGreatDoor
open Go.RowKit Go.Shelf
set_option maxRecDepth 100000
def chkFrom (lo : Int) : List Bd → Bool
  | [] => true
  | x :: xs => decide (lo < x.v) && (!decide (selfB x) && chkFrom x.v xs)
def chkB (l : List Bd) : Bool := chkFrom (-1) l
def chkN (l : List Bd) : Int := if chkB l = true then 0 else 2
theorem chkN_yes {l : List Bd} (h : chkB l = true) : chkN l = 0 := by unfold chkN; rw [if_pos h]
theorem chkN_no {l : List Bd} (h : chkB l = false) : chkN l = 2 := by unfold chkN; rw [h]; rfl
structure ChkI (l : List Bd) (k : Nat) (lo : Int) : Prop where
  ge : -1 ≤ lo
  first : k = 0 → lo = -1
  last : ∀ (m : Nat) (y : Bd), k = m + 1 → l[m]? = some y → y.v = lo
  rest : chkFrom lo (l.drop k) = chkB l
theorem ChkI.start (l : List Bd) : ChkI l 0 (-1) := ⟨Int.le_refl _, fun _ => rfl, fun m y h => by omega, rfl⟩
section
variable {l : List Bd} {k : Nat} {lo : Int} {x : Bd}
theorem ChkI.cons (h : ChkI l k lo) (hx : l[k]? = some x) : chkB l = (decide (lo < x.v) && (!decide (selfB x) && chkFrom x.v (l.drop (k + 1)))) := by
  obtain ⟨hlt, hx'⟩ := List.getElem?_eq_some_iff.1 hx
  rw [← h.rest, List.drop_eq_getElem_cons hlt, hx']
  rfl
theorem ChkI.low (h : ChkI l k lo) (hx : l[k]? = some x) (hn : ¬ lo < x.v) : chkB l = false := by
  rw [h.cons hx, decide_eq_false hn]
  rfl
theorem ChkI.self (h : ChkI l k lo) (hx : l[k]? = some x) (hn : selfB x) : chkB l = false := by
  rw [h.cons hx, decide_eq_true hn]
  simp
theorem ChkI.next (h : ChkI l k lo) (hx : l[k]? = some x) (h1 : lo < x.v) (hn : ¬ selfB x) : ChkI l (k + 1) x.v :=
  ⟨by have := h.ge; omega, fun e => by omega, fun m y e hy => by obtain rfl : m = k := by omega
                                                                 rw [hx] at hy; injection hy with hy; rw [hy], by rw [h.cons hx, decide_eq_true h1, decide_eq_false hn]; rfl⟩
theorem ChkI.done (h : ChkI l k lo) (hk : l.length ≤ k) : chkB l = true := by
  rw [← h.rest, List.drop_eq_nil_of_le hk]
  rfl
end
end Go.Proofs.YthgglobfkkcdgaaGreatDoor
