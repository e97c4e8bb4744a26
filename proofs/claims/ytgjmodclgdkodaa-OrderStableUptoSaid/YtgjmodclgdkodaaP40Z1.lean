import Derived.Test.YtgjmodclgdkodaaProg
import Derived.WalkKit
import Derived.WalkSpells
import Derived.WalkLawsBesides
import Derived.Lib.Hide
import Derived.Below
import Derived.Laws.OwnMore
import Derived.Deep.AppendLies
import Derived.Deep.Draws
import Derived.Laws.StructEq
import Derived.BigQuiet
import Derived.Deep.QuietTactic
import Derived.RangeFuncNested
import Derived.RangeFuncBound
import Derived.RangeFuncCalls
import Derived.RangeFuncLeaves
import Derived.Maps.AppendAt
import Derived.OwnWalk
import Derived.Deep.RegionHeld3
import Derived.Shelf.Abstract
import Derived.Shelf.RegionOpen
import Derived.OwnWalkIn
import Derived.TacticsInMore
import Derived.LoopNIn
import Derived.LoopIn
import Derived.Deep.DeepCutAuto
/- Plain words on memory, symbols and signatures; '==' of two symbols. -/

namespace Go.Proofs.Ytgjmodclgdkodaa

open Go.RowKit

theorem ret_int {k : IntKind} {a b : Int} (h : a = b) : Ending.returned (.int k a) = .returned (.int k b) := by rw [h]

theorem ret_bool {a b : Bool} (h : a = b) : Ending.returned (.bool a) = .returned (.bool b) := by rw [h]

theorem bl_drewN {B : Nat} {a w : World} (h : Below B a w) (n : Nat) : Below B a (w.drewN n) := ⟨h.os, h.tape, h.output, h.size, h.block⟩

theorem bl_drewN' {B : Nat} {a w : World} {n : Nat} (h : Below B a (w.drewN n)) : Below B a w := ⟨h.os, h.tape, h.output, h.size, h.block⟩

/-- A call's new memory lies above what the caller keeps. -/
theorem bl_step {w w1 w2 : World} (h : Below w.heap.size w w1) (h' : Below w1.heap.size w1 w2) : Below w.heap.size w w2 := h.trans (h'.mono h.size)

/-- A symbol. -/
structure Sm where
  name : ByteArray
  arity : Int
  pred : Bool
  deriving DecidableEq

instance : Inhabited Sm := ⟨⟨ByteArray.empty, 0, false⟩⟩

def Sm.cells (x : Sm) : List Value := [.string x.name, .int .i64 x.arity, .bool x.pred]

structure Sm.Ok (x : Sm) : Prop where
  size : x.name.size ≤ maxLen
  lo : -9223372036854775808 ≤ x.arity
  hi : x.arity ≤ 9223372036854775807

theorem sm_ext {x y : Sm} (h : x.name = y.name ∧ x.arity = y.arity ∧ x.pred = y.pred) : x = y := by
  obtain ⟨a, b, c⟩ := x
  obtain ⟨a', b', c'⟩ := y
  obtain ⟨rfl, rfl, rfl⟩ := h
  rfl

theorem sm_ne {x y : Sm} (h : ¬x.name = y.name ∨ ¬x.arity = y.arity ∨ ¬x.pred = y.pred) : x ≠ y := by
  rintro rfl
  rcases h with h | h | h <;> exact h rfl

theorem flat_get (l : List Sm) (i r : Nat) (hr : r < 3) : (l.flatMap Sm.cells)[i * 3 + r]? = (l[i]?).bind fun x => x.cells[r]? := by
  induction l generalizing i with
  | nil => simp
  | cons x l ih =>
    have hlen : x.cells.length = 3 := rfl
    rw [List.flatMap_cons]
    cases i with
    | zero => rw [List.getElem?_append_left (by omega)]; simp
    | succ i =>
      rw [List.getElem?_append_right (by omega), hlen, show (i + 1) * 3 + r - 3 = i * 3 + r from by omega, ih]
      simp

theorem flat_len (l : List Sm) : (l.flatMap Sm.cells).length = l.length * 3 := by
  induction l with
  | nil => rfl
  | cons x l ih =>
    have hlen : x.cells.length = 3 := rfl
    rw [List.flatMap_cons, List.length_append, ih, hlen, List.length_cons]
    omega

theorem flat_one (l : List Sm) : ∀ u ∈ l.flatMap Sm.cells, u.oneCell' = true := by
  intro u hu
  obtain ⟨x, _, hx⟩ := List.mem_flatMap.1 hu
  simp only [Sm.cells, List.mem_cons, List.not_mem_nil, or_false] at hx
  rcases hx with rfl | rfl | rfl <;> rfl

/-- The slice value (A, n) holds the symbols l; its cells lie below block B. -/
structure Syms (w : World) (B : Nat) (A : Option Addr) (n : Nat) (l : List Sm) : Prop where
  len : l.length = n
  ok : ∀ x ∈ l, x.Ok
  ad : 0 < n → ∃ b off, A = some ⟨b, off, none⟩ ∧ b < B ∧ ∀ i x, l[i]? = some x →
    w.cell? ⟨b, off + i * 3, none⟩ = some (.string x.name) ∧ w.cell? ⟨b, off + i * 3 + 1, none⟩ = some (.int .i64 x.arity) ∧ w.cell? ⟨b, off + i * 3 + 2, none⟩ = some (.bool x.pred)

section

variable {w w' : World} {B B' n : Nat} {A : Option Addr} {l : List Sm}

theorem Syms.keep (h : Syms w B A n l) (hk : ∀ p : Addr, p.block < B → w'.cell? p = w.cell? p) : Syms w' B A n l :=
  ⟨h.len, h.ok, fun hn => by
    obtain ⟨b, off, hA, hlt, hc⟩ := h.ad hn
    refine ⟨b, off, hA, hlt, fun i x hi => ?_⟩
    obtain ⟨h1, h2, h3⟩ := hc i x hi
    exact ⟨(hk ⟨b, _, none⟩ hlt).trans h1, (hk ⟨b, _, none⟩ hlt).trans h2, (hk ⟨b, _, none⟩ hlt).trans h3⟩⟩

theorem Syms.below (h : Syms w B A n l) (hb : Below B w w') : Syms w' B A n l := h.keep fun _ hp => hb.cell hp

theorem Syms.drewN (h : Syms w B A n l) (k : Nat) : Syms (w.drewN k) B A n l := h.keep fun _ _ => rfl

theorem Syms.more (h : Syms w B A n l) (hB : B ≤ B') : Syms w B' A n l :=
  ⟨h.len, h.ok, fun hn => by
    obtain ⟨b, off, hA, hlt, hc⟩ := h.ad hn
    exact ⟨b, off, hA, by omega, hc⟩⟩

theorem Syms.nil_ (w : World) (B : Nat) (A : Option Addr) : Syms w B A 0 [] := ⟨rfl, fun x hx => by simp at hx, fun h => absurd h (by omega)⟩

/-- A later world of a call: its memory is kept, and reaches further. -/
theorem Syms.on (h : Syms w w.heap.size A n l) (hb : Below w.heap.size w w') : Syms w' w'.heap.size A n l := (h.below hb).more hb.size

theorem Syms.flat (h : Syms w B A n l) (hn : 0 < n) : ∃ b off, A = some ⟨b, off, none⟩ ∧ b < B ∧ ∀ j u, (l.flatMap Sm.cells)[j]? = some u → w.cell? ⟨b, off + j, none⟩ = some u := by
  obtain ⟨b, off, hA, hlt, hc⟩ := h.ad hn
  refine ⟨b, off, hA, hlt, fun j u hu => ?_⟩
  have hj : j = j / 3 * 3 + j % 3 := by omega
  have hr : j % 3 < 3 := Nat.mod_lt _ (by omega)
  generalize j / 3 = i at hj
  generalize j % 3 = r at hj hr
  subst hj
  rw [flat_get _ _ _ hr] at hu
  cases hx : l[i]? with
  | none => rw [hx] at hu; simp at hu
  | some x =>
    rw [hx] at hu
    obtain ⟨h1, h2, h3⟩ := hc i x hx
    match r, hr with
    | 0, _ => simp [Sm.cells] at hu; rw [← hu]; exact h1
    | 1, _ => simp [Sm.cells] at hu; rw [← hu]; exact h2
    | 2, _ => simp [Sm.cells] at hu; rw [← hu]; exact h3

theorem Syms.of_flat (hl : l.length = n) (hok : ∀ x ∈ l, x.Ok) (h : 0 < n → ∃ b off, A = some ⟨b, off, none⟩ ∧ b < B ∧ ∀ j u, (l.flatMap Sm.cells)[j]? = some u → w.cell? ⟨b, off + j, none⟩ = some u) : Syms w B A n l :=
  ⟨hl, hok, fun hn => by
    obtain ⟨b, off, hA, hlt, hc⟩ := h hn
    refine ⟨b, off, hA, hlt, fun i x hx => ⟨?_, ?_, ?_⟩⟩
    · exact hc (i * 3) _ (by have := flat_get l i 0 (by omega); rw [Nat.add_zero] at this; rw [this, hx]; rfl)
    · exact (congrArg w.cell? (by simp)).trans (hc (i * 3 + 1) _ (by rw [flat_get _ _ _ (by omega), hx]; rfl))
    · exact (congrArg w.cell? (by simp)).trans (hc (i * 3 + 2) _ (by rw [flat_get _ _ _ (by omega), hx]; rfl))⟩

end

/-- Are two symbols the same? (A plain definition: the walk does not open it.) -/
def smB (a : ByteArray) (b : Int) (c : Bool) (a' : ByteArray) (b' : Int) (c' : Bool) : Bool := decide ((⟨a, b, c⟩ : Sm) = ⟨a', b', c'⟩)

theorem smB_true {x y : Sm} (h : x = y) : smB x.name x.arity x.pred y.name y.arity y.pred = true := by subst h; simp [smB]

theorem smB_false {x y : Sm} (h : x ≠ y) : smB x.name x.arity x.pred y.name y.arity y.pred = false := by
  simp only [smB, decide_eq_false_iff_not]; exact h

theorem run_eql_sym (a a' : ByteArray) (b b' : Int) (c c' : Bool) (w : World) : Sem.run Try.prog (binOp .eql 51 (.agg #[.string a, .int .i64 b, .bool c]) (.agg #[.string a', .int .i64 b', .bool c'])) w =
    .ok (.bool (smB a b c a' b' c')) w := by
  have hS : Try.prog.underlying 51 = some (.struct (Try.prog.fieldsOf 51)) := by kernel_rfl
  have hp : Try.prog.stoodInHeld 51 = false := by kernel_rfl
  rw [run_eql_struct, show (10000 : Nat) = 9999 + 1 from rfl, run_equalIn_agg w 9999 51 _ _ hS hp]
  simp only [Program.fieldsOf, Try.underlying51]
  go_simp
  by_cases h1 : a = a'
  · by_cases h2 : b = b' <;> by_cases h3 : c = c' <;> simp [smB, h1, h2, h3]
  · have h1' : ¬ a.toList = a'.toList := fun e => h1 (by
      rw [ByteArray.toList_eq, ByteArray.toList_eq] at e
      exact ByteArray.ext (Array.toList_inj.1 e))
    simp [smB, h1, h1']

theorem run_neq_sym (a a' : ByteArray) (b b' : Int) (c c' : Bool) (w : World) : Sem.run Try.prog (binOp .neq 51 (.agg #[.string a, .int .i64 b, .bool c]) (.agg #[.string a', .int .i64 b', .bool c'])) w =
    .ok (.bool (!smB a b c a' b' c')) w := by
  have h := run_eql_sym a a' b b' c c' w
  simp only [binOp] at h ⊢
  rw [Sem.run_bind] at h ⊢
  revert h
  generalize Sem.run Try.prog (Op.equal 51 (.agg #[.string a, .int .i64 b, .bool c]) (.agg #[.string a', .int .i64 b', .bool c'])) w = r
  intro h
  cases r with
  | ok v w' =>
    simp only [Result.andThen_ok, Sem.run_pure] at h ⊢
    injection h with h1 h2
    injection h1 with h1
    rw [h1, h2]
  | halt x w' => simp [Result.andThen] at h

end Go.Proofs.Ytgjmodclgdkodaa

/- A range over a function whose iterator keeps cells of its own: what the body speaks of (C) and what the iterator owns lie apart. -/

namespace Go.Proofs.Ytgjmodclgdkodaa

open Go Go.RowKit

variable {F : Fence} {n : Nat} {P : Program} {α : Type}

/-- The blocks of S lie as they lay. -/
structure Keeps (S : Nat → Prop) (W W' : World) : Prop where
  os : W'.os = W.os
  tape : W'.tape = W.tape
  output : W'.output = W.output
  size : W.heap.size ≤ W'.heap.size
  block : ∀ g, S g → W'.heap[g]? = W.heap[g]?

theorem Keeps.refl (S : Nat → Prop) (W : World) : Keeps S W W := ⟨rfl, rfl, rfl, Nat.le_refl _, fun _ _ => rfl⟩

theorem Keeps.trans {S : Nat → Prop} {A B C : World} (h : Keeps S A B) (k : Keeps S B C) : Keeps S A C :=
  ⟨k.os.trans h.os, k.tape.trans h.tape, k.output.trans h.output, Nat.le_trans h.size k.size, fun g hg => (k.block g hg).trans (h.block g hg)⟩

theorem Keeps.mono {S T : Nat → Prop} {A B : World} (h : Keeps S A B) (hs : ∀ g, T g → S g) : Keeps T A B := ⟨h.os, h.tape, h.output, h.size, fun g hg => h.block g (hs g hg)⟩

theorem Keeps.below {S : Nat → Prop} {b : Nat} {A B : World} (h : Keeps S A B) (hs : ∀ g, g < b → S g) : Below b A B := ⟨h.os, h.tape, h.output, h.size, fun g hg => h.block g (hs g hg)⟩

theorem Keeps.of_below {b : Nat} {A B : World} (h : Below b A B) : Keeps (· < b) A B := ⟨h.os, h.tape, h.output, h.size, h.block⟩

theorem Keeps.of_grown {A B : World} {row : Option Nat} (h : A.grownBy B row) : Keeps (fun g => g < A.heap.size ∧ some g ≠ row) A B := ⟨h.os, h.tape, h.output, h.size, fun g hg => h.block g hg.1 hg.2⟩

theorem Keeps.put (W : World) (l : Nat) (o : Obj) : Keeps (· ≠ l) W (W.putObj l o) :=
  ⟨rfl, rfl, rfl, by simp, fun _ hk => World.putObj_heap_other (fun e => hk e)⟩

theorem Keeps.alloc (W : World) (o : Obj) : Keeps (· < W.heap.size) W (W.alloc o) := Keeps.of_below ((Below.refl _ _).alloc (Nat.le_refl _) _)

theorem Keeps.set (W : World) (p : Addr) (v : Value) : Keeps (· ≠ p.block) W (W.setCell p v) := ⟨rfl, rfl, rfl, by simp, fun g hg => Below.heap_setCell W p v g hg⟩

theorem Keeps.drewN (S : Nat → Prop) (W : World) (k : Nat) : Keeps S W (W.drewN k) := ⟨rfl, rfl, rfl, Nat.le_refl _, fun _ _ => rfl⟩

/-- A step of the body's side: N's blocks, and the old ones that it does not speak of, lie as they lay; it speaks of no old ones more. -/
structure Stp (N : Nat → Prop) (C : World → Nat → Prop) (A B : World) : Prop where
  keeps : Keeps (fun g => N g ∨ (g < A.heap.size ∧ ¬ C A g)) A B
  grows : ∀ g, C B g → C A g ∨ A.heap.size ≤ g

theorem Stp.refl (N : Nat → Prop) (C : World → Nat → Prop) (A : World) : Stp N C A A := ⟨Keeps.refl _ _, fun _ h => .inl h⟩

theorem Stp.trans {N : Nat → Prop} {C : World → Nat → Prop} {A B D : World} (h : Stp N C A B) (k : Stp N C B D) : Stp N C A D := by
  refine ⟨h.keeps.trans (k.keeps.mono fun g hg => ?_), fun g hg => ?_⟩
  · rcases hg with hg | ⟨h1, h2⟩
    · exact .inl hg
    · exact .inr ⟨Nat.lt_of_lt_of_le h1 h.keeps.size, fun e => (h.grows g e).elim h2 (fun e => by omega)⟩
  · rcases k.grows g hg with h1 | h1
    · exact h.grows g h1
    · exact .inr (Nat.le_trans h.keeps.size h1)

/-- What is said of a state abides whatever turns none of C's blocks; and C gains nothing by that. -/
def FrameC {β : Type} (C : World → Nat → Prop) (J : β → World → Prop) : Prop := ∀ s W W', J s W → Keeps (C W) W W' → J s W' ∧ ∀ g, C W' g → C W g

def BoundC {β : Type} (C : World → Nat → Prop) (J : β → World → Prop) : Prop := ∀ s W, J s W → ∀ g, C W g → g < W.heap.size

/-- An iterator's contract: whatever the rounds speak of, as long as they keep to it. -/
def SeqC (F : Fence) (n : Nat) (P : Program) (gf : Nat) (lb : Array Value) (encs : α → Array Value) (Fx : α → World → Prop) (N : Nat → Prop) (S Sp : List α → Prop) (w : World) : Prop :=
  ∀ (l : Nat) (C : World → Nat → Prop) (J Jx : List α → World → Prop) (W : World), Below w.heap.size w W → FrameC C J → BoundC C J →
    (∀ m pre x W1, J pre W1 → Sp (pre ++ [x]) → Fx x W1 → YieldAt F m P l (encs x) W1 fun e W' =>
      (e = .returned (.bool true) ∧ J (pre ++ [x]) W' ∧ Stp N C W1 W') ∨ (e = .returned (.bool false) ∧ Jx (pre ++ [x]) W')) →
    J [] W →
    CallsIn F n P gf (#[.func (.yield l) #[] #[]] ++ lb) W fun e W' => (∃ v, e = .returned v) ∧ ((∃ xs, S xs ∧ J xs W') ∨ (∃ pre, Sp pre ∧ Jx pre W'))

/-- How a round's body may be left. -/
def bodyC (N : Nat → Prop) (C : World → Nat → Prop) (I : List α → World → Prop) (Ix : Code → List α → World → Prop) (xs : List α) (W : World) : Exit → Act → World → Prop
  | .normal, _, W' => I xs W' ∧ Stp N C W W'
  | .ret, _, W' => Ix .ret xs W' ∧ Stp N C W W'
  | .exit id, _, W' => Ix (.exit id) xs W' ∧ Stp N C W W'
  | .goto t, _, W' => Ix (.goto t) xs W' ∧ Stp N C W W'
  | .panic _, _, _ => False
  | .outgrown, _, _ => False

theorem range_law {g : Operand} {ps : Array Tmp} {assign body : Code} {Q : Exit → Act → World → Prop} {a : Act} {w : World}
    (hro : F.round = none) (hd : F.depth = none) {gf : Nat} {lb : Array Value} (hg : a.eval g = .func (.func gf) #[] lb) (hFg : F.fn gf) (eg : ∀ args w, (callFunc gf args).run P w = .ok (.enter gf args) w)
    {encs : α → Array Value} {Fx : α → World → Prop} {N : Nat → Prop} {S Sp : List α → Prop} {w0 : World} (hseq : ∀ m, SeqC F m P gf lb encs Fx N S Sp w0) (hb0 : Below w0.heap.size w0 w) (hps : ∀ x, (encs x).size = ps.size) (hN : ∀ g, N g → g < w.heap.size)
    (C : World → Nat → Prop) (I : List α → World → Prop) (Ix : Code → List α → World → Prop) (hI : FrameC C I) (hbd : BoundC C I) (hIx : ∀ c, FrameC C (Ix c))
    (h0 : I [] w) (Ax : List α → α → Act → World → Prop)
    (hAx : ∀ pre x a' W l r o, Ax pre x a' W → w.heap.size ≤ l → W.heap[l]? = some (.loop r) → ¬ C W l → (∀ g, C (W.putObj l o) g → C W g) ∧ Ax pre x a' (W.putObj l o))
    (hassign : ∀ (l m : Nat) (pre : List α) (x : α) (W : World) (K : Act → World → Prop), I pre W → Sp (pre ++ [x]) → Fx x W → (∀ a' W', Stp N C W W' → Ax pre x a' W' → K a' W') →
      assign.wpIn (F.inRound l) m P (Exit.then K (fun _ _ _ => False)) { tmps := (ps.zip (encs x)).foldl (fun t (p, v) => t.setIfInBounds p v) a.tmps, defers := [] } W)
    (hbody : ∀ (l m : Nat) (pre : List α) (x : α) (a' : Act) (W : World), Sp (pre ++ [x]) → Ax pre x a' W → body.wpIn (F.inRound l) m P (bodyC N C I Ix (pre ++ [x]) W) a' W)
    (hdone : ∀ (D : Nat) (xs : List α) (W : World), w.heap.size ≤ D → S xs → I xs W → W.heap[D]? = some (.deferred (some [])) → Q .normal { a with defers := { target := .collected D, args := #[] } :: a.defers } W)
    (hstop : ∀ (D : Nat) (c : Code) (pre : List α) (W : World), w.heap.size ≤ D → Sp pre → Ix c pre W → W.heap[D]? = some (.deferred (some [])) → c.wpIn F n P Q { a with defers := { target := .collected D, args := #[] } :: a.defers } W) :
    (Code.rangeFunc g ps assign body).wpIn F n P Q a w := by
  refine wpIn_rangeFunc fun fn hfn => ?_
  rw [hro]
  have hdd : ∀ k : Nat, F.depth.isSome = true → 1 ≤ k := fun k h => by rw [hd] at h; cases h
  -- the two blocks that the statement lays: for the rounds' deferred calls (d); the loop's record (l)
  obtain ⟨d, hd0⟩ : ∃ d, d = w.heap.size := ⟨_, rfl⟩
  obtain ⟨rec, hrec⟩ : ∃ rec : LoopState → Option Code → Loop, rec = fun st pe => { state := st, pending := pe, fn, tmps := a.tmps, params := ps, assign, body, defers := w.heap.size } := ⟨_, rfl⟩
  obtain ⟨W1, hW1⟩ : ∃ W1, (w.alloc (.deferred (some []))).alloc (.loop (rec .ready none)) = W1 := ⟨_, rfl⟩
  have hl1 : W1.heap[d + 1]? = some (.loop (rec .ready none)) := by
    rw [← hW1, hd0, show w.heap.size + 1 = (w.alloc (.deferred (some []))).heap.size by simp]; exact World.alloc_heap_new _ _
  have hk1 : W1.heap[d]? = some (.deferred (some [])) := by rw [← hW1, hd0]; exact (Below.heap_alloc _ _ _ (by simp)).trans (World.alloc_heap_new w _)
  have hBw : Below w.heap.size w W1 := by rw [← hW1]; exact ((Below.refl _ w).alloc (Nat.le_refl _) _).alloc (by simp) _
  have hIw := hI [] w W1 h0 ((Keeps.of_below hBw).mono fun g e => hbd [] w h0 g e)
  have hbw : ∀ g, C W1 g → g < w.heap.size := fun g e => hbd [] w h0 g (hIw.2 g e)
  have hNd : ∀ g, N g → g < d := fun g e => by rw [hd0]; exact hN g e
  -- what the rounds speak of, with the two blocks
  let CJ : World → Nat → Prop := fun W g => C W g ∨ g = d + 1 ∨ g = d
  let J : List α → World → Prop := fun pre W => I pre W ∧ (W.heap[d + 1]? = some (.loop (rec .ready none)) ∧ W.heap[d]? = some (.deferred (some []))) ∧ ¬ C W (d + 1) ∧ ¬ C W d
  let Jx : List α → World → Prop := fun pre W => ∃ c, Ix c pre W ∧ (W.heap[d + 1]? = some (.loop (rec .done (some c))) ∧ W.heap[d]? = some (.deferred (some []))) ∧ ¬ C W (d + 1)
  have hJF : FrameC CJ J := by
    rintro s A B ⟨h1, ⟨h2, h3⟩, h4, h5⟩ hk
    have hi := hI s A B h1 (hk.mono fun g e => .inl e)
    exact ⟨⟨hi.1, ⟨(hk.block _ (.inr (.inl rfl))).trans h2, (hk.block _ (.inr (.inr rfl))).trans h3⟩, fun e => h4 (hi.2 _ e), fun e => h5 (hi.2 _ e)⟩, fun g e => e.elim (fun e => .inl (hi.2 g e)) .inr⟩
  have hJB : BoundC CJ J := by
    rintro s A ⟨h1, ⟨h2, h3⟩, _, _⟩ g (e | rfl | rfl)
    · exact hbd s A h1 g e
    · exact (Array.getElem?_eq_some_iff.1 h2).1
    · exact (Array.getElem?_eq_some_iff.1 h3).1
  refine ⟨d + 1, [{ target := .collected d, args := #[] }], W1, { target := .fn (.func gf) lb, args := #[.func (.yield (d + 1)) #[] #[]] }, W1, gf, #[.func (.yield (d + 1)) #[] #[]] ++ lb, W1, ?_, ?_, ?_, ?_, fun h => hdd _ h, ?_⟩
  · rw [← hW1, hrec, hd0]; exact run_enterLoop_outer _ _ _ _ _
  · simp only [resolve, hg]
    simp [go_sem]
  · intro f' hf'; simp [Target.leads] at hf'; subst hf'; exact hFg
  · simp [invoke, go_sem, eg]
  · refine (hseq _ (d + 1) CJ J Jx W1 (hb0.trans (hBw.mono hb0.size)) hJF hJB ?_ ⟨hIw.1, ⟨hl1, hk1⟩, fun e => ?_, fun e => ?_⟩).mono ?_
    · -- one round
      rintro m pre x W ⟨hi, ⟨hl, hk⟩, hnl, hnd⟩ hsp hfx
      have hy := run_yield (P := P) (args := encs x) hl (by rw [hrec]; exact hps x)
      rw [hrec] at hy
      refine ⟨fn, _, assign, body, hy, roundIn_of_wpIn hfn (hassign _ m pre x W _ hi hsp hfx ?_)⟩
      clear hy
      intro a' Wa hst hax
      have hlW : d + 1 < W.heap.size := (Array.getElem?_eq_some_iff.1 hl).1
      have hla : Wa.heap[d + 1]? = some (.loop (rec .ready none)) := (hst.keeps.block _ (.inr ⟨hlW, hnl⟩)).trans hl
      have hka : Wa.heap[d]? = some (.deferred (some [])) := (hst.keeps.block _ (.inr ⟨by omega, hnd⟩)).trans hk
      have hnla : ¬ C Wa (d + 1) := fun e => (hst.grows _ e).elim hnl (fun e => by omega)
      have hnda : ¬ C Wa d := fun e => (hst.grows _ e).elim hnd (fun e => by omega)
      have hla1 : d + 1 < Wa.heap.size := (Array.getElem?_eq_some_iff.1 hla).1
      refine ⟨_, run_beginRound hla (by rw [hrec]), ?_⟩
      obtain ⟨hgr, hax2⟩ := hAx pre x a' Wa (d + 1) _ (.loop { rec .ready none with state := .busy }) hax (by omega) hla hnla
      obtain ⟨Wb, hWb⟩ : ∃ Wb, Wa.putObj (d + 1) (.loop { rec .ready none with state := .busy }) = Wb := ⟨_, rfl⟩
      have hlb : Wb.heap[d + 1]? = some (.loop { rec .ready none with state := .busy }) := by rw [← hWb]; exact World.putObj_heap_same hla1
      have hkb : Wb.heap[d]? = some (.deferred (some [])) := by rw [← hWb]; exact (World.putObj_heap_other (by omega)).trans hka
      have hKab : Keeps (· ≠ d + 1) Wa Wb := by rw [← hWb]; exact Keeps.put _ _ _
      rw [hWb] at hgr hax2 ⊢
      have hnlb : ¬ C Wb (d + 1) := fun e => hnla (hgr _ e)
      have hndb : ¬ C Wb d := fun e => hnda (hgr _ e)
      refine wpIn_mono (hbody _ m pre x a' Wb hsp hax2) ?_
      have hszb : Wa.heap.size ≤ Wb.heap.size := hKab.size
      have fin : ∀ (jump : Option Code) (W3 : World), Stp N C Wb W3 →
          (Instr.endRound (d + 1) jump).run P W3 = .ok (.bool jump.isNone) (W3.putObj (d + 1) (.loop (rec (if jump.isNone then .ready else .done) jump))) ∧
          (W3.putObj (d + 1) (.loop (rec (if jump.isNone then .ready else .done) jump))).heap[d + 1]? = some (.loop (rec (if jump.isNone then .ready else .done) jump)) ∧
          (W3.putObj (d + 1) (.loop (rec (if jump.isNone then .ready else .done) jump))).heap[d]? = some (.deferred (some [])) ∧ ¬ C W3 (d + 1) ∧ ¬ C W3 d := fun jump W3 h3 => by
        have hl3 : W3.heap[d + 1]? = some (.loop { rec .ready none with state := .busy }) := (h3.keeps.block _ (.inr ⟨by omega, hnlb⟩)).trans hlb
        have hk3 : W3.heap[d]? = some (.deferred (some [])) := (h3.keeps.block _ (.inr ⟨by omega, hndb⟩)).trans hkb
        have := run_endRound (P := P) jump hl3
        rw [hrec] at this ⊢
        exact ⟨this, World.putObj_heap_same (Array.getElem?_eq_some_iff.1 hl3).1, (World.putObj_heap_other (by omega)).trans hk3, fun e => (h3.grows _ e).elim hnlb (fun e => by omega), fun e => (h3.grows _ e).elim hndb (fun e => by omega)⟩
      rintro e a3 W3 hp
      cases e with
      | normal =>
        obtain ⟨hi3, h3⟩ := hp
        obtain ⟨hr, hl4, hk4, hn4, hm4⟩ := fin none W3 h3
        obtain ⟨hi4, hg4⟩ := hI _ W3 _ hi3 ((Keeps.put W3 (d + 1) (.loop (rec (if (none : Option Code).isNone then .ready else .done) none))).mono fun g e he => hn4 (he ▸ e))
        refine ⟨_, _, hr, .inl ⟨rfl, ⟨hi4, ⟨hl4, hk4⟩, fun e => hn4 (hg4 _ e), fun e => hm4 (hg4 _ e)⟩, ⟨?_, ?_⟩⟩⟩
        · refine (hst.keeps.mono fun g hg => ?_).trans ((hKab.mono fun g hg => ?_).trans ((h3.keeps.mono fun g hg => ?_).trans ((Keeps.put W3 (d + 1) _).mono fun g hg => ?_)))
          · exact hg.elim .inl fun hg => .inr ⟨hg.1, fun e => hg.2 (.inl e)⟩
          · exact hg.elim (fun e => by have := hNd _ e; omega) fun hg e => hg.2 (.inr (.inl e))
          · exact hg.elim .inl fun hg => .inr ⟨by have := hst.keeps.size; omega, fun e => (hst.grows g (hgr g e)).elim (fun e => hg.2 (.inl e)) (fun e => by omega)⟩
          · exact hg.elim (fun e => by have := hNd _ e; omega) fun hg e => hg.2 (.inr (.inl e))
        · rintro g (e | e)
          · rcases h3.grows g (hg4 g e) with e | e
            · rcases hst.grows g (hgr g e) with e | e
              · exact .inl (.inl e)
              · exact .inr e
            · exact .inr (Nat.le_trans hst.keeps.size (Nat.le_trans hszb e))
          · exact .inl (.inr e)
      | ret =>
        obtain ⟨hi3, h3⟩ := hp
        obtain ⟨hr, hl4, hk4, hn4, hm4⟩ := fin (some .ret) W3 h3
        have hK4 := (Keeps.put W3 (d + 1) (.loop (rec (if (some Code.ret).isNone then .ready else .done) (some .ret)))).mono (T := C W3) fun g e he => hn4 (he ▸ e)
        exact ⟨_, _, hr, .inr ⟨rfl, .ret, (hIx _ _ W3 _ hi3 hK4).1, ⟨hl4, hk4⟩, fun e => hn4 ((hIx _ _ W3 _ hi3 hK4).2 _ e)⟩⟩
      | exit id =>
        obtain ⟨hi3, h3⟩ := hp
        obtain ⟨hr, hl4, hk4, hn4, hm4⟩ := fin (some (.exit id)) W3 h3
        have hK4 := (Keeps.put W3 (d + 1) (.loop (rec (if (some (Code.exit id)).isNone then .ready else .done) (some (.exit id))))).mono (T := C W3) fun g e he => hn4 (he ▸ e)
        exact ⟨_, _, hr, .inr ⟨rfl, .exit id, (hIx _ _ W3 _ hi3 hK4).1, ⟨hl4, hk4⟩, fun e => hn4 ((hIx _ _ W3 _ hi3 hK4).2 _ e)⟩⟩
      | goto t =>
        obtain ⟨hi3, h3⟩ := hp
        obtain ⟨hr, hl4, hk4, hn4, hm4⟩ := fin (some (.goto t)) W3 h3
        have hK4 := (Keeps.put W3 (d + 1) (.loop (rec (if (some (Code.goto t)).isNone then .ready else .done) (some (.goto t))))).mono (T := C W3) fun g e he => hn4 (he ▸ e)
        exact ⟨_, _, hr, .inr ⟨rfl, .goto t, (hIx _ _ W3 _ hi3 hK4).1, ⟨hl4, hk4⟩, fun e => hn4 ((hIx _ _ W3 _ hi3 hK4).2 _ e)⟩⟩
      | panic ch => exact hp.elim
      | outgrown => exact hp.elim
    · have := hbw _ e; omega
    · have := hbw _ e; omega
    · -- behind the iterator
      rintro e W2 ⟨⟨v, rfl⟩, (⟨xs, hS, hi, ⟨hl, hk⟩, hnl, _⟩ | ⟨pre, hSp, c, hi, ⟨hl, hk⟩, hnl⟩)⟩
      · refine ⟨none, _, by have := run_endLoop (P := P) hl (by rw [hrec]; simp); rw [hrec] at this; exact this, hdone d xs _ (by omega) hS ?_ ((World.putObj_heap_other (by omega)).trans hk)⟩
        exact (hI xs W2 _ hi ((Keeps.put W2 (d + 1) _).mono fun g e he => hnl (he ▸ e))).1
      · refine ⟨some c, _, by have := run_endLoop (P := P) hl (by rw [hrec]; simp); rw [hrec] at this; exact this, hstop d c pre _ (by omega) hSp ?_ ((World.putObj_heap_other (by omega)).trans hk)⟩
        exact (hIx c pre W2 _ hi ((Keeps.put W2 (d + 1) _).mono fun g e he => hnl (he ▸ e))).1

end Go.Proofs.Ytgjmodclgdkodaa

/- Plain words on terms: trees, their sizes, their order; how they lie in memory. -/

namespace Go.Proofs.Ytgjmodclgdkodaa

open Go.RowKit

/-- A term, in plain words. -/
inductive Tm where
  | node (f : Int) (xs : List Tm)

def Tm.fn : Tm → Int
  | .node f _ => f

def Tm.args : Tm → List Tm
  | .node _ xs => xs

theorem Tm.eta (t : Tm) : Tm.node t.fn t.args = t := by cases t; rfl

theorem Tm.ind {P : Tm → Prop} (h : ∀ f xs, (∀ t ∈ xs, P t) → P (.node f xs)) (t : Tm) : P t :=
  Tm.rec (motive_1 := P) (motive_2 := fun xs => ∀ t ∈ xs, P t) (fun f xs ih => h f xs ih) (by simp) (fun t ts h1 h2 => by simp only [List.mem_cons]; rintro u (rfl | hu); exact h1; exact h2 _ hu) t

mutual
def Tm.size : Tm → Nat
  | .node _ xs => sizes xs + 1
def sizes : List Tm → Nat
  | [] => 0
  | t :: ts => t.size + sizes ts
end

mutual
def Tm.depth : Tm → Nat
  | .node _ xs => depths xs + 1
def depths : List Tm → Nat
  | [] => 0
  | t :: ts => max t.depth (depths ts)
end

theorem size_mem {t : Tm} {xs : List Tm} (h : t ∈ xs) : t.size ≤ sizes xs := by
  induction xs with
  | nil => simp at h
  | cons a xs ih =>
    simp only [List.mem_cons] at h
    simp only [sizes]
    rcases h with rfl | h
    · omega
    · have := ih h; omega

theorem depth_mem {t : Tm} {xs : List Tm} (h : t ∈ xs) : t.depth ≤ depths xs := by
  induction xs with
  | nil => simp at h
  | cons a xs ih =>
    simp only [List.mem_cons] at h
    simp only [depths]
    rcases h with rfl | h
    · omega
    · have := ih h; omega

theorem size_pos (t : Tm) : 1 ≤ t.size := by cases t; simp only [Tm.size]; omega

theorem depth_pos (t : Tm) : 1 ≤ t.depth := by cases t; simp only [Tm.depth]; omega

theorem sizes_len (xs : List Tm) : xs.length ≤ sizes xs := by
  induction xs with
  | nil => simp [sizes]
  | cons a xs ih => have := size_pos a; simp only [List.length_cons, sizes]; omega

/-- Which of two numbers of symbols or variables is ahead. -/
def headI (f g : Int) : Int := if f = g then 0 else if f < 0 ∧ g < 0 then (if g < f then -1 else 1) else if f < g then -1 else 1

def numI (a b : Int) : Int := if a < b then -1 else if b < a then 1 else 0

mutual
def cmpT : Tm → Tm → Int
  | .node f xs, u => if headI f u.fn ≠ 0 then headI f u.fn else if cmpL xs u.args ≠ 0 then cmpL xs u.args else numI xs.length u.args.length
def cmpL : List Tm → List Tm → Int
  | [], _ => 0
  | a :: xs, bs => match bs with
    | [] => 0
    | b :: bs => if cmpT a b ≠ 0 then cmpT a b else cmpL xs bs
end

theorem cmpT_eq (t u : Tm) : cmpT t u = if headI t.fn u.fn ≠ 0 then headI t.fn u.fn else if cmpL t.args u.args ≠ 0 then cmpL t.args u.args else numI t.args.length u.args.length := by
  cases t; simp only [cmpT, Tm.fn, Tm.args]; rfl

/-- The first place k whose answer is not 0 decides. -/
theorem cmpL_hit : ∀ {xs bs : List Tm} {k : Nat} {a b : Tm}, xs[k]? = some a → bs[k]? = some b → (∀ j x y, j < k → xs[j]? = some x → bs[j]? = some y → cmpT x y = 0) → cmpT a b ≠ 0 → cmpL xs bs = cmpT a b
  | [], _, _, _, _, h, _, _, _ => by simp at h
  | x :: xs, [], _, _, _, _, h, _, _ => by simp at h
  | x :: xs, y :: bs, 0, a, b, h1, h2, _, hne => by
    simp at h1 h2
    subst h1; subst h2
    simp only [cmpL, if_pos hne]
  | x :: xs, y :: bs, k + 1, a, b, h1, h2, h, hne => by
    have h0 := h 0 x y (by omega) rfl rfl
    simp only [cmpL, h0, ne_eq, not_true_eq_false, if_false]
    exact cmpL_hit (by simpa using h1) (by simpa using h2) (fun j x' y' hj hx hy => h (j + 1) x' y' (by omega) (by simpa using hx) (by simpa using hy)) hne

theorem cmpL_miss : ∀ {xs bs : List Tm}, (∀ (j : Nat) (x y : Tm), xs[j]? = some x → bs[j]? = some y → cmpT x y = 0) → cmpL xs bs = 0
  | [], _, _ => by simp only [cmpL]
  | x :: xs, [], _ => by simp only [cmpL]
  | x :: xs, y :: bs, h => by
    have h0 := h 0 x y rfl rfl
    simp only [cmpL, h0, ne_eq, not_true_eq_false, if_false]
    exact cmpL_miss fun j x' y' hx hy => h (j + 1) x' y' (by simpa using hx) (by simpa using hy)

def I64 (i : Int) : Prop := -9223372036854775808 ≤ i ∧ i ≤ 9223372036854775807

theorem I64.lo {i : Int} (h : I64 i) : -9223372036854775808 ≤ i := h.1

theorem I64.hi {i : Int} (h : I64 i) : i ≤ 9223372036854775807 := h.2

/-- The slice at A holds the terms; their cells lie below block B. -/
inductive Args (w : World) (B : Nat) : Option Addr → List Tm → Prop
  | nil (A : Option Addr) : Args w B A []
  | row (b off : Nat) (xs : List Tm) (A' : Nat → Option Addr) (c' : Nat → Nat) (hb : b < B) (hlen : xs.length ≤ 9223372036854775807) (hi : ∀ (i : Nat) (t : Tm), xs[i]? = some t → I64 t.fn)
      (h0 : ∀ (i : Nat) (t : Tm), xs[i]? = some t → w.cell? ⟨b, off + i * 2, none⟩ = some (.int .i64 t.fn))
      (h1 : ∀ (i : Nat) (t : Tm), xs[i]? = some t → w.cell? ⟨b, off + i * 2 + 1, none⟩ = some (.slice (A' i) t.args.length (c' i)))
      (hs : ∀ (i : Nat) (t : Tm), xs[i]? = some t → Args w B (A' i) t.args) : Args w B (some ⟨b, off, none⟩) xs

section

variable {w w' : World} {B B' : Nat} {A : Option Addr} {xs : List Tm}

theorem Args.keep (h : Args w B A xs) (hk : ∀ p : Addr, p.block < B → w'.cell? p = w.cell? p) : Args w' B A xs := by
  induction h with
  | nil A => exact .nil A
  | row b off xs A' c' hb hlen hi h0 h1 _ ih => exact .row b off xs A' c' hb hlen hi (fun i t e => (hk ⟨b, _, none⟩ hb).trans (h0 i t e)) (fun i t e => (hk ⟨b, _, none⟩ hb).trans (h1 i t e)) ih

theorem Args.blw (h : Args w B A xs) (hb : Below B w w') : Args w' B A xs := h.keep fun _ hp => hb.cell hp

theorem Args.more (h : Args w B A xs) (hB : B ≤ B') : Args w B' A xs := by
  induction h with
  | nil A => exact .nil A
  | row b off xs A' c' hb hlen hi h0 h1 _ ih => exact .row b off xs A' c' (by omega) hlen hi h0 h1 ih

theorem Args.on (h : Args w w.heap.size A xs) (hb : Below w.heap.size w w') : Args w' w'.heap.size A xs := (h.blw hb).more hb.size

theorem Args.drewN (h : Args w B A xs) (k : Nat) : Args (w.drewN k) B A xs := h.keep fun _ _ => rfl

theorem Args.len (h : Args w B A xs) : xs.length ≤ 9223372036854775807 := by
  cases h with
  | nil => simp
  | row => assumption

/-- One of the terms. -/
structure ArgAt (w : World) (B b off i : Nat) (t : Tm) (A' : Option Addr) (c' : Nat) : Prop where
  hb : b < B
  hi : I64 t.fn
  c0 : w.cell? ⟨b, off + i * 2, none⟩ = some (.int .i64 t.fn)
  c1 : w.cell? ⟨b, off + i * 2 + 1, none⟩ = some (.slice A' t.args.length c')
  sub : Args w B A' t.args

theorem Args.get (h : Args w B A xs) {i : Nat} {t : Tm} (hi : xs[i]? = some t) : ∃ b off A' c', A = some ⟨b, off, none⟩ ∧ ArgAt w B b off i t A' c' := by
  cases h with
  | nil => simp at hi
  | row b off _ A' c' hb hlen hi' h0 h1 hs => exact ⟨b, off, A' i, c' i, rfl, hb, hi' i t hi, h0 i t hi, h1 i t hi, hs i t hi⟩

end

end Go.Proofs.Ytgjmodclgdkodaa

/- Appending symbols to a row of the call's own. -/

namespace Go.Proofs.Ytgjmodclgdkodaa

open Go.RowKit

theorem info_sym : (Try.prog.info? 51).map (fun i => (i.zero, i.size, i.bytes)) = some (some (.agg #[.string ByteArray.empty, .int .i64 0, .bool false]), 3, 32) := by kernel_rfl

/-- The slice v is the call's own (its row lies from block base on), and holds the symbols l. -/
structure Own (w : World) (base : Nat) (v : Value) (l : List Sm) : Prop where
  row : w.ownsRow base 51 3 v l.length (l.flatMap Sm.cells)
  ok : ∀ x ∈ l, x.Ok

section

variable {w w' : World} {base B n : Nat} {v : Value} {l l' : List Sm} {A : Option Addr}

theorem Own.nil_ (w : World) (base : Nat) : Own w base (.slice none 0 0) [] := ⟨⟨rfl, .inl ⟨rfl, rfl⟩⟩, fun x hx => by simp at hx⟩

theorem Own.shape (h : Own w base v l) : ∃ A c, v = .slice A l.length c := by
  rcases h.row.2 with ⟨hv, h0⟩ | ⟨g, cap, cur, hv, _⟩
  · exact ⟨none, 0, by rw [hv, h0]⟩
  · exact ⟨_, cap, hv⟩

theorem Own.syms {c : Nat} (h : Own w base (.slice A n c) l) : Syms w w.heap.size A n l := by
  have hn : n = l.length := by
    obtain ⟨A', c', e⟩ := h.shape
    injection e
  subst hn
  refine Syms.of_flat rfl h.ok fun hpos => ?_
  rcases h.row.2 with ⟨_, h0⟩ | ⟨g, cap, cur, hv, _, hg, _, _, _, htake⟩
  · omega
  · injection hv with hA
    refine ⟨g, 0, hA, (Array.getElem?_eq_some_iff.1 hg).1, fun j u hu => ?_⟩
    rw [← htake, List.getElem?_take] at hu
    simp only [World.cell?, hg, Nat.zero_add]
    split at hu
    · simpa using hu
    · cases hu

theorem Own.below (h : Own w base v l) (hb : Below w.heap.size w w') : Own w' base v l := by
  refine ⟨⟨h.row.1, ?_⟩, h.ok⟩
  rcases h.row.2 with h0 | ⟨g, cap, cur, hv, hbase, hg, hrest⟩
  · exact .inl h0
  · exact .inr ⟨g, cap, cur, hv, hbase, (hb.block g (Array.getElem?_eq_some_iff.1 hg).1).trans hg, hrest⟩

theorem Own.keep (h : Own w base v l) (hk : ∀ g, base ≤ g → g < w.heap.size → w'.heap[g]? = w.heap[g]?) : Own w' base v l := by
  refine ⟨⟨h.row.1, ?_⟩, h.ok⟩
  rcases h.row.2 with h0 | ⟨g, cap, cur, hv, hbase, hg, hrest⟩
  · exact .inl h0
  · exact .inr ⟨g, cap, cur, hv, hbase, (hk g hbase (Array.getElem?_eq_some_iff.1 hg).1).trans hg, hrest⟩

theorem Own.setCell (h : Own w base v l) {p : Addr} (hp : p.block < base) (u : Value) : Own (w.setCell p u) base v l :=
  h.keep fun g hg _ => Below.heap_setCell w p u g (by omega)

theorem Own.drewN (h : Own w base v l) (k : Nat) : Own (w.drewN k) base v l := h.keep fun _ _ _ => rfl

theorem Own.alloc (h : Own w base v l) (o : Obj) : Own (w.alloc o) base v l := h.keep fun g _ hg => Below.heap_alloc w o g hg

theorem run_append_none (ty c : Nat) (h : Own w base v l) : (Builtin.append_ #[22, 22] ty #[v, .slice none 0 c]).run Try.prog w = .ok v w := by
  obtain ⟨i, hi, _⟩ := info_parts info_sym
  rcases h.row.2 with ⟨rfl, _⟩ | ⟨g, cap, cur, rfl, _, _, hnc, _⟩
  · simp [Builtin.append_, run_underlying Try.underlying22, sizeOf, typeInfo, hi, Builtin.lenOf, Builtin.firstCells]
  · simp [Builtin.append_, run_underlying Try.underlying22, sizeOf, typeInfo, hi, Builtin.lenOf, Builtin.firstCells, hnc, storeCells]

theorem run_append_syms (ty c m : Nat) (h : Own w base v l) (hs : Syms w B A m l') (hm : (l.length + m) * 32 ≤ 140737488355328) (hbase : base ≤ w.heap.size) :
    ∃ A' c' w', (Builtin.append_ #[22, 22] ty #[v, .slice A m c]).run Try.prog w = .ok (.slice A' (l.length + m) c') w' ∧ Own w' base (.slice A' (l.length + m) c') (l ++ l') ∧ w.grownBy w' v.ownBlock := by
  have hm' : l'.length = m := hs.len
  have key : ∃ v' w', (Builtin.append_ #[22, 22] ty #[v, .slice A m c]).run Try.prog w = .ok v' w' ∧ Own w' base v' (l ++ l') ∧ w.grownBy w' v.ownBlock := by
    rcases A with _ | ad
    · have h0 : m = 0 := by
        rcases Nat.eq_zero_or_pos m with h0 | h0
        · exact h0
        · obtain ⟨_, _, e, _⟩ := hs.ad h0
          cases e
      subst h0
      have : l' = [] := List.eq_nil_of_length_eq_zero hm'
      subst this
      exact ⟨v, w, run_append_none ty c h, by rw [List.append_nil]; exact h, World.grownBy.refl w _⟩
    · have hcells : ∀ j u, (l'.flatMap Sm.cells)[j]? = some u → w.cell? (ad.add j) = some u := by
        intro j u hu
        rcases Nat.eq_zero_or_pos m with h0 | h0
        · have : l' = [] := List.eq_nil_of_length_eq_zero (hm'.trans h0)
          subst this
          simp at hu
        · obtain ⟨b, off, e, _, hc⟩ := hs.flat h0
          injection e with e
          subst e
          have := hc j u hu
          unfold Addr.add
          split
          · rename_i hj; subst hj; simpa using this
          · exact this
      obtain ⟨i0, hi0, hz0, hz1, hz2⟩ := info_parts info_sym
      obtain ⟨v', w', hrun, hrow, hg, _⟩ := run_append_own (P := Try.prog) w base 22 ty 51 i0 _ 3 32 Try.underlying22 hi0 hz0 hz1 hz2 rfl (by omega) v l.length _ h.row ad m c (l'.flatMap Sm.cells)
        (by rw [flat_len, hm']) hcells (flat_one l') (by simp only [maxLen]; omega) hm hbase
      refine ⟨v', w', hrun, ⟨?_, fun x hx => ?_⟩, hg⟩
      · rw [List.flatMap_append, List.length_append, hm']; exact hrow
      · rcases List.mem_append.1 hx with hx | hx
        · exact h.ok x hx
        · exact hs.ok x hx
  obtain ⟨v', w', hrun, hown, hg⟩ := key
  obtain ⟨A', c', e⟩ := hown.shape
  rw [List.length_append, hm'] at e
  subst e
  exact ⟨A', c', w', hrun, hown, hg⟩

theorem wp_append_syms {o : Oper} {a : Act} {K : Act → World → Prop} {Q : Exit → Act → World → Prop} (s x : Operand)
    (ho : o.op = .call { callee := .builtin .append, args := #[s, x], argTypes := #[22, 22] }) (v : Value) (l : List Sm) (hs : a.eval s = v) (base : Nat) (hown : Own w base v l)
    (A : Option Addr) (m c B : Nat) (l' : List Sm) (hx : a.eval x = .slice A m c) (hr : Syms w B A m l') (hm : (l.length + m) * 32 ≤ 140737488355328) (hbase : base ≤ w.heap.size)
    (h : ∀ A' c' w', Own w' base (.slice A' (l.length + m) c') (l ++ l') → w.grownBy w' v.ownBlock → K (a.put o.dst (.slice A' (l.length + m) c')) w') : o.wp Try.prog a w K Q := by
  obtain ⟨A', c', w', hrun, h2, h3⟩ := run_append_syms o.type c m hown hr hm hbase
  unfold Oper.wp
  simp [execOp, ho, resolve, invoke, builtin, hs, hx, hrun, Result.andThen]
  exact h A' c' w' h2 h3

theorem wpList_append_syms {ops : Array Oper} {rest : List Oper} {o : Oper} {a : Act} {Q : Exit → Act → World → Prop} (hgd : o.guard = none) (s x : Operand)
    (ho : o.op = .call { callee := .builtin .append, args := #[s, x], argTypes := #[22, 22] }) (v : Value) (l : List Sm) (hs : a.eval s = v) (base : Nat) (hown : Own w base v l)
    (A : Option Addr) (m c B : Nat) (l' : List Sm) (hx : a.eval x = .slice A m c) (hr : Syms w B A m l') (hm : (l.length + m) * 32 ≤ 140737488355328) (hbase : base ≤ w.heap.size)
    (h : ∀ A' c' w', Own w' base (.slice A' (l.length + m) c') (l ++ l') → w.grownBy w' v.ownBlock → wpList Try.prog ops Q rest (a.put o.dst (.slice A' (l.length + m) c')) w') : wpList Try.prog ops Q (o :: rest) a w :=
  wpList_plain hgd fun _ hK => wp_append_syms s x ho v l hs base hown A m c B l' hx hr hm hbase fun A' c' w' h2 h3 => hK _ _ (h A' c' w' h2 h3)

theorem step_append_syms {ops : Array Oper} {o : Oper} {a : Act} {K : Act → World → Prop} {Q : Exit → Act → World → Prop} {E : Prop} (hgd : o.guard = none) (s x : Operand)
    (ho : o.op = .call { callee := .builtin .append, args := #[s, x], argTypes := #[22, 22] }) (v : Value) (l : List Sm) (hs : a.eval s = v) (base : Nat) (hown : Own w base v l)
    (A : Option Addr) (m c B : Nat) (l' : List Sm) (hx : a.eval x = .slice A m c) (hr : Syms w B A m l') (hm : (l.length + m) * 32 ≤ 140737488355328) (hbase : base ≤ w.heap.size)
    (h : ∀ A' c' w', Own w' base (.slice A' (l.length + m) c') (l ++ l') → w.grownBy w' v.ownBlock → K (a.put o.dst (.slice A' (l.length + m) c')) w') : if Region.wanted o (yielded ops a.tmps) = true then Oper.wp Try.prog o a w K Q else E := by
  rw [if_pos (by simp [Region.wanted, hgd])]
  exact wp_append_syms s x ho v l hs base hown A m c B l' hx hr hm hbase h

end

end Go.Proofs.Ytgjmodclgdkodaa

/- The functions on names and on one symbol, and a symbol's place: what each call answers. One symbol: is its name one, may it be; $true. One symbol by the plain answer; $true; a symbol's place; two signatures. Copies; the plain check of a signature. -/

namespace Go.Proofs.Ytgjmodclgdkodaa

open Go.RowKit

def nameC (c : Int) : Bool := decide ((97 ≤ c ∧ c ≤ 122) ∨ (65 ≤ c ∧ c ≤ 90) ∨ (48 ≤ c ∧ c ≤ 57) ∨ c = 95)

theorem nameC_true {c : Int} (h : (97 ≤ c ∧ c ≤ 122) ∨ (65 ≤ c ∧ c ≤ 90) ∨ (48 ≤ c ∧ c ≤ 57) ∨ c = 95) : nameC c = true := by simpa [nameC] using h

theorem nameC_false {c : Int} (h : ¬ ((97 ≤ c ∧ c ≤ 122) ∨ (65 ≤ c ∧ c ≤ 90) ∨ (48 ≤ c ∧ c ≤ 57) ∨ c = 95)) : nameC c = false := by simpa [nameC] using h

/-- Are all bytes of a text a name's? -/
def nameAll (l : List UInt8) : Bool := l.all fun c => nameC c.toNat

theorem take_snoc (s : ByteArray) (k : Nat) (h : k < s.size) : s.data.toList.take (k + 1) = s.data.toList.take k ++ [s[k]] := by
  rw [List.take_succ_eq_append_getElem (by simpa using h)]; rfl

theorem nameAll_snoc (l : List UInt8) (c : UInt8) : nameAll (l ++ [c]) = (nameAll l && nameC c.toNat) := by simp [nameAll]

theorem nameAll_cut {l : List UInt8} {k : Nat} (h : nameAll (l.take k) = false) : nameAll l = false := by
  cases hl : nameAll l with
  | false => rfl
  | true =>
    unfold nameAll at hl h
    rw [List.all_eq_true] at hl
    rw [List.all_eq_false] at h
    obtain ⟨x, hx, hf⟩ := h
    exact absurd (hl x (List.mem_of_mem_take hx)) hf

end Go.Proofs.Ytgjmodclgdkodaa

namespace Go.Proofs.Ytgjmodclgdkodaa

open Go.RowKit

/-- Is a text a name? -/
def namedB (s : ByteArray) : Bool := decide (1 ≤ s.size) && decide (s.size ≤ 40) && nameAll s.data.toList

/-- What may be wrong with a symbol that is not $true: 0, 111 or 112. -/
def oneI (name : ByteArray) (arity : Int) : Int := if namedB name = false then 111 else if arity < 0 ∨ 6 < arity then 112 else 0

set_option maxHeartbeats 1000000 in
theorem Named_any (s : ByteArray) (w : World) (hs : s.size ≤ maxLen) :
    Calls Try.prog 62 #[.string s] w fun e w' => e = .returned (.bool (namedB s)) ∧ w = w' := by
  unfold maxLen at hs
  by_cases h0 : s.size < 1
  · have hf := Lib.hid (show namedB s = false by simp [namedB]; omega)
    go_enter Try.func62, Try.ntmps62
    go_wp2_with fail
    go_ret
    exact ⟨ret_bool hf.out.symm, rfl⟩
  · by_cases h1 : 40 < s.size
    · have hf := Lib.hid (show namedB s = false by simp [namedB]; omega)
      go_enter Try.func62, Try.ntmps62
      go_wp2_with fail
      go_ret
      exact ⟨ret_bool hf.out.symm, rfl⟩
    · have hf := Lib.hid (show namedB s = nameAll s.data.toList by
        have e1 : 1 ≤ s.size := by omega
        have e2 : s.size ≤ 40 := by omega
        simp [namedB, e1, e2])
      go_enter Try.func62, Try.ntmps62
      go_wp2_with fail
      go_loop [3] (fun i => ∃ k : Nat, k ≤ s.size ∧ i = .int .i64 k ∧ Hid (nameAll (s.data.toList.take k) = true)) (fun i => s.size - (intOf i).toNat)
      case atStart => exact ⟨0, Nat.zero_le _, rfl, by simp [Hid, nameAll]⟩
      case round =>
        obtain ⟨k, hk, rfl, HA⟩ := hrel
        by_cases hlt : k < s.size
        · have hts := take_snoc s k hlt
          have hsn := nameAll_snoc (s.data.toList.take k) s[k]
          rw [← hts, HA.out, Bool.true_and] at hsn
          have HS := Lib.hid hsn
          clear hsn hts
          have hc : (s[k].toNat : Int) < 48 ∨ (48 ≤ (s[k].toNat : Int) ∧ (s[k].toNat : Int) ≤ 57) ∨ (58 ≤ (s[k].toNat : Int) ∧ (s[k].toNat : Int) ≤ 64) ∨ (65 ≤ (s[k].toNat : Int) ∧ (s[k].toNat : Int) ≤ 90) ∨
              (91 ≤ (s[k].toNat : Int) ∧ (s[k].toNat : Int) ≤ 94) ∨ (95 ≤ (s[k].toNat : Int) ∧ (s[k].toNat : Int) ≤ 95) ∨ (96 ≤ (s[k].toNat : Int) ∧ (s[k].toNat : Int) ≤ 96) ∨ (97 ≤ (s[k].toNat : Int) ∧ (s[k].toNat : Int) ≤ 122) ∨ 123 ≤ (s[k].toNat : Int) := by omega
          rcases hc with hc | ⟨hc, hc'⟩ | ⟨hc, hc'⟩ | ⟨hc, hc'⟩ | ⟨hc, hc'⟩ | ⟨hc, hc'⟩ | ⟨hc, hc'⟩ | ⟨hc, hc'⟩ | hc
          all_goals
            first | have hn : Hid (nameAll (s.data.toList.take (k + 1)) = true) := HS.out.trans (nameC_true (by omega)) | have hn : Hid (nameAll (s.data.toList.take (k + 1)) = false) := HS.out.trans (nameC_false (by omega))
            clear HS
            first | have e57 : decide ((s[k].toNat : Int) ≤ 57) = true := decide_eq_true (by omega) | have e57 : decide ((s[k].toNat : Int) ≤ 57) = false := decide_eq_false (by omega)
            first | have e90 : decide ((s[k].toNat : Int) ≤ 90) = true := decide_eq_true (by clear e57; omega) | have e90 : decide ((s[k].toNat : Int) ≤ 90) = false := decide_eq_false (by clear e57; omega)
            first | have e122 : decide ((s[k].toNat : Int) ≤ 122) = true := decide_eq_true (by clear e57 e90; omega) | have e122 : decide ((s[k].toNat : Int) ≤ 122) = false := decide_eq_false (by clear e57 e90; omega)
            first | have e95 : ((s[k].toNat : Int) == 95) = true := beq_iff_eq.2 (by clear e57 e90 e122; omega) | have e95 : ((s[k].toNat : Int) == 95) = false := beq_eq_false_iff_ne.2 (by clear e57 e90 e122; omega)
            go_wp2
            first
            | (go_round
               case rel => exact ⟨k + 1, by omega, by go_num, hn⟩
               case measure => simp [intOf]; omega)
            | (go_ret
               exact ⟨ret_bool (hf.out.trans (nameAll_cut hn.out)).symm, rfl⟩)
        · have : k = s.size := by omega
          subst this
          go_wp2
          go_ret
          exact ⟨ret_bool (by have := HA.out; rw [List.take_of_length_le (by simp)] at this; exact (hf.out.trans this).symm), rfl⟩

end Go.Proofs.Ytgjmodclgdkodaa

namespace Go.Proofs.Ytgjmodclgdkodaa

open Go.RowKit

set_option maxHeartbeats 400000 in
theorem One_any (x : Sm) (w : World) (hx : x.Ok) :
    Calls Try.prog 42 #[.agg #[.string x.name, .int .i64 x.arity, .bool x.pred]] w fun e w' => e = .returned (.int .i64 (oneI x.name x.arity)) ∧ Below w.heap.size w w' := by
  have hs := hx.size
  have hlo := hx.lo
  have hhi := hx.hi
  cases h2 : namedB x.name with
  | false =>
    have hf := Lib.hid (show oneI x.name x.arity = 111 by simp [oneI, h2])
    go_enter Try.func42, Try.ntmps42
    go_wp2_with (first | (go_at_call 62; refine (Named_any _ _ hs).mono ?_; rintro e w' ⟨rfl, rfl⟩) | fail)
    go_ret
    exact ⟨ret_int hf.out.symm, (Below.refl _ _).alloc (Nat.le_refl _) _⟩
  | true =>
    have hf := Lib.hid (show oneI x.name x.arity = if x.arity < 0 ∨ 6 < x.arity then 112 else 0 by simp [oneI, h2])
    go_enter Try.func42, Try.ntmps42
    go_wp2_with (first | (go_at_call 62; refine (Named_any _ _ hs).mono ?_; rintro e w' ⟨rfl, rfl⟩) | fail)
    all_goals
      go_ret
      refine ⟨ret_int ?_, (Below.refl _ _).alloc (Nat.le_refl _) _⟩
      rw [hf.out]
      first | rw [if_pos (by omega)] | rw [if_neg (by omega)]

def truthS : ByteArray := ⟨#[36, 116, 114, 117, 101]⟩

def truthSm : Sm := ⟨truthS, 0, true⟩

theorem truth_ok : truthSm.Ok := ⟨by decide, by decide, by decide⟩

set_option maxHeartbeats 400000 in
theorem Truth_any (w : World) :
    Calls Try.prog 41 #[] w fun e w' => e = .returned (.agg #[.string truthSm.name, .int .i64 truthSm.arity, .bool truthSm.pred]) ∧ Below w.heap.size w w' := by
  go_enter Try.func41, Try.ntmps41
  go_wp2
  refine bodyPost_ret (v := .agg #[.string truthSm.name, .int .i64 truthSm.arity, .bool truthSm.pred]) (by simp [results, Try.results41, go_sem, truthSm, truthS]) rfl ⟨rfl, ?_⟩
  repeat first | exact Below.refl _ _ | refine bl_drewN ?_ _ | refine Below.alloc ?_ (by simp) _ | refine Below.setCell ?_ (by simp) _

def atI (l : List Sm) (x : Sm) : Int := match l.findIdx? (· == x) with | some i => i | none => -1

theorem atI_hit (l : List Sm) (x : Sm) (k : Nat) (hx : l[k]? = some x) (h : ∀ j, j < k → l[j]? ≠ some x) : atI l x = k := by
  have : l.findIdx? (· == x) = some k := by
    rw [List.findIdx?_eq_some_iff_getElem]
    obtain ⟨hk, hx⟩ := List.getElem?_eq_some_iff.1 hx
    refine ⟨hk, by simp [hx], fun j hj => ?_⟩
    have := h j hj
    rw [List.getElem?_eq_getElem (by omega)] at this
    simpa using this
  simp [atI, this]

theorem atI_miss (l : List Sm) (x : Sm) (h : ∀ j, j < l.length → l[j]? ≠ some x) : atI l x = -1 := by
  have : l.findIdx? (· == x) = none := by
    rw [List.findIdx?_eq_none_iff]
    intro y hy
    obtain ⟨j, hj, rfl⟩ := List.getElem_of_mem hy
    have := h j hj
    rw [List.getElem?_eq_getElem hj] at this
    simpa using this
  simp [atI, this]

theorem not_before {l : List Sm} {x y : Sm} {k : Nat} (h : ∀ j, j < k → l[j]? ≠ some x) (hy : l[k]? = some y) (hx : y ≠ x) : ∀ j, j < k + 1 → l[j]? ≠ some x := by
  intro j hlt
  by_cases e : j = k
  · subst e; rw [hy]; intro h; injection h with h; exact hx h
  · exact h j (by omega)

set_option maxHeartbeats 400000 in
theorem At_any (A : Option Addr) (n c B : Nat) (l : List Sm) (x : Sm) (w : World) (h : Syms w B A n l) (hB : B ≤ w.heap.size) (hn : n ≤ 9223372036854775807) :
    Calls Try.prog 43 #[.slice A n c, .agg #[.string x.name, .int .i64 x.arity, .bool x.pred]] w fun e w' => e = .returned (.int .i64 (atI l x)) ∧ Below w.heap.size w w' := by
  have heq := run_eql_sym
  go_enter Try.func43, Try.ntmps43
  go_wp2
  obtain ⟨W, hW⟩ : ∃ W, w.alloc (.cells #[.string x.name, .int .i64 x.arity, .bool x.pred] 51) = W := ⟨_, rfl⟩
  have hWB : Below w.heap.size w W := by rw [← hW]; exact (Below.refl _ _).alloc (Nat.le_refl _) _
  have x1 : W.cell? ⟨w.heap.size, 0, none⟩ = some (.string x.name) := by rw [← hW]; clear hW; go_simp
  have x2 : W.cell? ⟨w.heap.size, 1, none⟩ = some (.int .i64 x.arity) := by rw [← hW]; clear hW; go_simp
  have x3 : W.cell? ⟨w.heap.size, 2, none⟩ = some (.bool x.pred) := by rw [← hW]; clear hW; go_simp
  rw [hW]
  have h' := h.below (hWB.mono hB)
  clear hW
  go_loopw [5] (fun i wr => ∃ k q : Nat, k ≤ n ∧ i = .int .i64 k ∧ wr = W.drewN q ∧ Hid (∀ j, j < k → l[j]? ≠ some x)) (fun i _ => n - (intOf i).toNat)
  case atStart => exact ⟨0, 0, Nat.zero_le _, rfl, rfl, fun j h0 => absurd h0 (Nat.not_lt_zero _)⟩
  case round =>
    obtain ⟨k, q, hk, rfl, rfl, HA⟩ := hrel
    by_cases hlt : k < n
    · obtain ⟨b, off, rfl, hb, hc⟩ := h'.ad (by omega)
      have hkl : k < l.length := by rw [h'.len]; exact hlt
      obtain ⟨y, hy⟩ : ∃ y, l[k]? = some y := ⟨_, List.getElem?_eq_getElem hkl⟩
      obtain ⟨c1, c2, c3⟩ := hc k y hy
      have Hy := Lib.hid hy
      clear hy hc h h'
      by_cases hyx : y = x
      · have hs := smB_true hyx
        have Hyx := Lib.hid hyx
        clear hyx
        go_wp2
        go_quiet (fail)
        go_wp2
        go_ret
        exact ⟨ret_int (atI_hit l x k (by rw [Hy.out, Hyx.out]) HA.out).symm, bl_drewN (bl_drewN hWB _) _⟩
      · have hs := smB_false hyx
        go_wp2
        go_quiet (fail)
        go_wp2
        go_roundw
        case rel => exact ⟨k + 1, q + nq, by omega, by go_num, rfl, not_before HA.out Hy.out hyx⟩
        case measure => simp [intOf]; omega
    · have : k = n := by omega
      subst this
      go_wp2
      go_ret
      exact ⟨ret_int (atI_miss l x (fun j hj => HA.out j (by rw [← h.len]; exact hj))).symm, bl_drewN hWB _⟩

theorem alike_before {l l' : List Sm} {k : Nat} (h : ∀ j, j < k → l[j]? = l'[j]?) (hk : l[k]? = l'[k]?) : ∀ j, j < k + 1 → l[j]? = l'[j]? := by
  intro j hlt
  by_cases e : j = k
  · subst e; exact hk
  · exact h j (by omega)

theorem alike_not {l l' : List Sm} {k : Nat} {x y : Sm} (hx : l[k]? = some x) (hy : l'[k]? = some y) (h : x ≠ y) : decide (l = l') = false := by
  rw [decide_eq_false_iff_not]
  rintro rfl
  rw [hx] at hy
  injection hy with hy
  exact h hy

theorem alike_all {l l' : List Sm} {n : Nat} (hl : l.length = n) (hl' : l'.length = n) (h : ∀ j, j < n → l[j]? = l'[j]?) : decide (l = l') = true := by
  rw [decide_eq_true_eq]
  refine List.ext_getElem? fun j => ?_
  by_cases hj : j < n
  · exact h j hj
  · rw [List.getElem?_eq_none (by omega), List.getElem?_eq_none (by omega)]

end Go.Proofs.Ytgjmodclgdkodaa

namespace Go.Proofs.Ytgjmodclgdkodaa

open Go.RowKit

/-- The value v is the signature l. -/
def IsSig (w : World) (l : List Sm) (v : Value) : Prop := ∃ A c, v = .agg #[.slice A l.length c] ∧ Syms w w.heap.size A l.length l

def SigPost (l : List Sm) (w : World) (e : Ending) (w' : World) : Prop := ∃ v, e = .returned v ∧ IsSig w' l v ∧ Below w.heap.size w w'

/-- What a cell beneath the first B blocks holds behind more of them. -/
theorem cell_on {B : Nat} {W w1 : World} (hb : Below B W w1) {b o : Nat} {v : Value} (hlt : b < B) (h : W.cell? ⟨b, o, none⟩ = some v) : w1.cell? ⟨b, o, none⟩ = some v := (hb.cell (p := ⟨b, o, none⟩) hlt).trans h

theorem frozen_on {B : Nat} {W w1 : World} (hb : Below B W w1) {b o : Nat} {x : Bool} (hlt : b < B) (h : W.frozen? ⟨b, o, none⟩ = x) : w1.frozen? ⟨b, o, none⟩ = x := (hb.frozen (p := ⟨b, o, none⟩) hlt).trans h

end Go.Proofs.Ytgjmodclgdkodaa

/- Terms in memory of a call's own: rows that lie apart. -/

namespace Go.Proofs.Ytgjmodclgdkodaa

open Go.RowKit
set_option maxRecDepth 100000

theorem info_term : (Try.prog.info? 39).map (fun i => (i.zero, i.size, i.bytes)) = some (some (.agg #[.int .i64 0, .slice none 0 0]), 2, 32) := by kernel_rfl

/-- The slice at A holds the terms; all its rows lie in blocks lo .. hi - 1, each in a block of its own. -/
inductive OwnT (w : World) : Nat → Nat → Option Addr → List Tm → Prop
  | nil (lo hi : Nat) (A : Option Addr) : OwnT w lo hi A []
  | row (lo hi b cap : Nat) (xs : List Tm) (vs : List Value) (A' : Nat → Option Addr) (c' m : Nat → Nat) (hlo : lo ≤ b) (hpos : 0 < xs.length) (hlen : xs.length ≤ 9223372036854775807) (hrow : w.ownsRow b 39 2 (.slice (some ⟨b, 0, none⟩) xs.length cap) xs.length vs)
      (hm0 : b + 1 ≤ m 0) (hmn : m xs.length ≤ hi) (hm : ∀ i : Nat, i < xs.length → m i ≤ m (i + 1)) (hi64 : ∀ (i : Nat) (t : Tm), xs[i]? = some t → I64 t.fn)
      (h0 : ∀ (i : Nat) (t : Tm), xs[i]? = some t → vs[i * 2]? = some (.int .i64 t.fn))
      (h1 : ∀ (i : Nat) (t : Tm), xs[i]? = some t → vs[i * 2 + 1]? = some (.slice (A' i) t.args.length (c' i)))
      (hs : ∀ (i : Nat) (t : Tm), xs[i]? = some t → OwnT w (m i) (m (i + 1)) (A' i) t.args) : OwnT w lo hi (some ⟨b, 0, none⟩) xs

theorem mono_to {m : Nat → Nat} {n : Nat} (h : ∀ i : Nat, i < n → m i ≤ m (i + 1)) : ∀ {i j : Nat}, i ≤ j → j ≤ n → m i ≤ m j := by
  intro i j hij hj
  induction j with
  | zero => obtain rfl : i = 0 := by omega
            exact Nat.le_refl _
  | succ j ih =>
    by_cases e : i = j + 1
    · subst e; exact Nat.le_refl _
    · exact Nat.le_trans (ih (by omega) (by omega)) (h j (by omega))

theorem ownsRow_keep {w w' : World} {base e size n : Nat} {v : Value} {xs : List Value} {g : Nat} (h : w.ownsRow base e size v n xs) (hv : ∀ g', v.ownBlock = some g' → g' = g) (hk : w'.heap[g]? = w.heap[g]?) : w'.ownsRow base e size v n xs := by
  refine ⟨h.1, ?_⟩
  rcases h.2 with h0 | ⟨g', cap, cur, rfl, hbase, hg, hrest⟩
  · exact .inl h0
  · obtain rfl := hv g' rfl
    exact .inr ⟨g', cap, cur, rfl, hbase, hk.trans hg, hrest⟩

section

variable {w w' : World} {lo hi lo' hi' : Nat} {A : Option Addr} {xs : List Tm}

theorem OwnT.keep (h : OwnT w lo hi A xs) : (∀ g, lo ≤ g → g < hi → w'.heap[g]? = w.heap[g]?) → OwnT w' lo hi A xs := by
  induction h with
  | nil lo hi A => intro _; exact .nil lo hi A
  | row lo hi b cap xs vs A' c' m hlo hpos hlen hrow hm0 hmn hm hi64 h0 h1 _ ih =>
    intro hk
    have hbm : b < hi := by have := mono_to hm (Nat.zero_le xs.length) (Nat.le_refl _); omega
    refine .row lo hi b cap xs vs A' c' m hlo hpos hlen (ownsRow_keep hrow (fun g' e => by simp [Value.ownBlock] at e; exact e.symm) (hk b hlo hbm)) hm0 hmn hm hi64 h0 h1 fun i t hit => ih i t hit fun g h2 h3 => hk g ?_ ?_
    · have hil := (List.getElem?_eq_some_iff.1 hit).1
      have := mono_to hm (Nat.zero_le i) (by omega)
      omega
    · have hil := (List.getElem?_eq_some_iff.1 hit).1
      have := mono_to hm (show i + 1 ≤ xs.length by omega) (Nat.le_refl _)
      omega

theorem OwnT.on (h : OwnT w lo hi A xs) (hb : Below w.heap.size w w') (hh : hi ≤ w.heap.size) : OwnT w' lo hi A xs := h.keep fun g _ hg => hb.block g (by omega)

theorem OwnT.wide (h : OwnT w lo hi A xs) (h1 : lo' ≤ lo) (h2 : hi ≤ hi') : OwnT w lo' hi' A xs := by
  cases h with
  | nil => exact .nil lo' hi' A
  | row _ _ b cap _ vs A' c' m hlo hpos hlen hrow hm0 hmn hm hi64 a0 a1 hs => exact .row lo' hi' b cap xs vs A' c' m (by omega) hpos hlen hrow hm0 (by omega) hm hi64 a0 a1 hs

theorem OwnT.args {B : Nat} (h : OwnT w lo hi A xs) : hi ≤ B → Args w B A xs := by
  induction h with
  | nil lo hi A => intro _; exact .nil A
  | row lo hi b cap xs vs A' c' m hlo hpos hlen hrow hm0 hmn hm hi64 h0 h1 _ ih =>
    intro hB
    have hbm : b < hi := by have := mono_to hm (Nat.zero_le xs.length) (Nat.le_refl _); omega
    have hvs : vs.length = xs.length * 2 := hrow.1
    refine .row b 0 xs A' c' (by omega) hlen hi64 (fun i t e => ?_) (fun i t e => ?_) fun i t hit => ih i t hit ?_
    · have hil := (List.getElem?_eq_some_iff.1 e).1
      rw [Nat.zero_add, hrow.cellAt (i * 2) (by omega)]
      exact h0 i t e
    · have hil := (List.getElem?_eq_some_iff.1 e).1
      rw [Nat.zero_add, hrow.cellAt (i * 2 + 1) (by omega)]
      exact h1 i t e
    · have hil := (List.getElem?_eq_some_iff.1 hit).1
      have := mono_to hm (show i + 1 ≤ xs.length by omega) (Nat.le_refl _)
      omega

end

/-- The first k terms of a row of xs.length elements are laid. -/
structure RowK (w : World) (b cap : Nat) (xs : List Tm) (k : Nat) (vs : List Value) (A' : Nat → Option Addr) (c' m : Nat → Nat) : Prop where
  row : w.ownsRow b 39 2 (.slice (some ⟨b, 0, none⟩) xs.length cap) xs.length vs
  m0 : b + 1 ≤ m 0
  mke : m k ≤ w.heap.size
  mono : ∀ i : Nat, i < k → m i ≤ m (i + 1)
  i64 : ∀ (i : Nat) (t : Tm), i < k → xs[i]? = some t → I64 t.fn
  v0 : ∀ (i : Nat) (t : Tm), i < k → xs[i]? = some t → vs[i * 2]? = some (.int .i64 t.fn)
  v1 : ∀ (i : Nat) (t : Tm), i < k → xs[i]? = some t → vs[i * 2 + 1]? = some (.slice (A' i) t.args.length (c' i))
  sub : ∀ (i : Nat) (t : Tm), i < k → xs[i]? = some t → OwnT w (m i) (m (i + 1)) (A' i) t.args

section

variable {w w' : World} {lo hi : Nat} {xs : List Tm} {b cap k : Nat} {vs : List Value} {A' : Nat → Option Addr} {c' m : Nat → Nat}

theorem RowK.whole (h : RowK w b cap xs xs.length vs A' c' m) (hpos : 0 < xs.length) (hlen : xs.length ≤ 9223372036854775807) (hlo : lo ≤ b) (hhi : w.heap.size ≤ hi) : OwnT w lo hi (some ⟨b, 0, none⟩) xs :=
  have hlt : ∀ {i : Nat} {t : Tm}, xs[i]? = some t → i < xs.length := fun e => (List.getElem?_eq_some_iff.1 e).1
  .row lo hi b cap xs vs A' c' m hlo hpos hlen h.row h.m0 (Nat.le_trans h.mke hhi) h.mono (fun i t e => h.i64 i t (hlt e) e) (fun i t e => h.v0 i t (hlt e) e) (fun i t e => h.v1 i t (hlt e) e) fun i t e => h.sub i t (hlt e) e

theorem RowK.on (h : RowK w b cap xs k vs A' c' m) (hbs : b < w.heap.size) (hb : Below w.heap.size w w') : RowK w' b cap xs k vs A' c' m :=
  ⟨ownsRow_keep h.row (fun g' e => by simp [Value.ownBlock] at e; exact e.symm) (hb.block b hbs), h.m0, Nat.le_trans h.mke hb.size, h.mono, h.i64, h.v0, h.v1, fun i t hik e => (h.sub i t hik e).on hb (Nat.le_trans (mono_to h.mono (show i + 1 ≤ k by omega) (Nat.le_refl _)) h.mke)⟩

/-- One more. -/
theorem RowK.step (h : RowK w b cap xs k vs A' c' m) {t : Tm} {A1 : Option Addr} {c1 lo1 : Nat} (hk : xs[k]? = some t) (hi : I64 t.fn) (hs : OwnT w lo1 w.heap.size A1 t.args) (hlo : m k ≤ lo1) :
    ∃ vs' A'' c'' m', RowK ((w.setCell ⟨b, k * 2, none⟩ (.int .i64 t.fn)).setCell ⟨b, k * 2 + 1, none⟩ (.slice A1 t.args.length c1)) b cap xs (k + 1) vs' A'' c'' m' := by
  have hkl := (List.getElem?_eq_some_iff.1 hk).1
  have hvs : vs.length = xs.length * 2 := h.row.1
  have h1 := (h.row.stored (k * 2) (.int .i64 t.fn)).1
  have h2 := (h1.stored (k * 2 + 1) (.slice A1 t.args.length c1)).1
  have hother : ∀ g, b + 1 ≤ g → ((w.setCell ⟨b, k * 2, none⟩ (.int .i64 t.fn)).setCell ⟨b, k * 2 + 1, none⟩ (.slice A1 t.args.length c1)).heap[g]? = w.heap[g]? := fun g hg =>
    (heap_setCell_other _ _ _ _ (show g ≠ b by omega)).trans (heap_setCell_other _ _ _ _ (show g ≠ b by omega))
  have hm0 : ∀ i, i ≤ k → b + 1 ≤ m i := fun i hi => Nat.le_trans h.m0 (mono_to h.mono (Nat.zero_le i) hi)
  refine ⟨_, fun i => if i = k then A1 else A' i, fun i => if i = k then c1 else c' i, fun i => if i = k + 1 then w.heap.size else m i, h2, ?_, ?_, ?_, ?_, ?_, ?_, ?_⟩
  · simp only [if_neg (show ¬ (0 = k + 1) by omega)]; exact h.m0
  · simp
  · intro i hik
    by_cases e : i = k
    · subst e
      simp only [if_neg (show ¬ (i = i + 1) by omega), if_true]
      exact h.mke
    · simp only [if_neg (show ¬ (i = k + 1) by omega), if_neg (show ¬ (i + 1 = k + 1) by omega)]
      exact h.mono i (by omega)
  · intro i u hik e
    by_cases e1 : i = k
    · subst e1; rw [hk] at e; cases e; exact hi
    · exact h.i64 i u (by omega) e
  · intro i u hik e
    by_cases e1 : i = k
    · subst e1; rw [hk] at e; cases e
      rw [List.getElem?_set_ne (by omega), List.getElem?_set_self (by omega)]
    · rw [List.getElem?_set_ne (by omega), List.getElem?_set_ne (by omega)]
      exact h.v0 i u (by omega) e
  · intro i u hik e
    by_cases e1 : i = k
    · subst e1; rw [hk] at e; cases e
      simp only [if_true]
      rw [List.getElem?_set_self (by simp; omega)]
    · simp only [if_neg e1]
      rw [List.getElem?_set_ne (by omega), List.getElem?_set_ne (by omega)]
      exact h.v1 i u (by omega) e
  · intro i u hik e
    by_cases e1 : i = k
    · subst e1; rw [hk] at e; cases e
      simp only [if_true, if_neg (show ¬ (i = i + 1) by omega)]
      exact (hs.wide hlo (Nat.le_refl _)).keep fun g h3 _ => hother g (Nat.le_trans (hm0 i (Nat.le_refl _)) h3)
    · simp only [if_neg e1, if_neg (show ¬ (i = k + 1) by omega), if_neg (show ¬ (i + 1 = k + 1) by omega)]
      exact (h.sub i u (by omega) e).keep fun g h3 _ => hother g (Nat.le_trans (hm0 i (by omega)) h3)

end

end Go.Proofs.Ytgjmodclgdkodaa

/- clone. -/

namespace Go.Proofs.Ytgjmodclgdkodaa

open Go.RowKit
set_option maxRecDepth 100000

/-- A copy of t, in new memory. -/
def ClonePost (t : Tm) (w : World) (e : Ending) (w' : World) : Prop := ∃ A' c', e = .returned (.agg #[.int .i64 t.fn, .slice A' t.args.length c']) ∧ OwnT w' w.heap.size w'.heap.size A' t.args ∧ Below w.heap.size w w'

theorem heap3 (w : World) (o1 o2 o3 : Obj) : (((w.alloc o1).alloc o2).alloc o3).heap[w.heap.size]? = some o1 ∧ (((w.alloc o1).alloc o2).alloc o3).heap[w.heap.size + 1]? = some o2 ∧ (((w.alloc o1).alloc o2).alloc o3).heap[w.heap.size + 1 + 1]? = some o3 := by
  have e1 : (w.alloc o1).heap.size = w.heap.size + 1 := by simp
  have e2 : ((w.alloc o1).alloc o2).heap.size = w.heap.size + 1 + 1 := by simp
  refine ⟨?_, ?_, ?_⟩
  · rw [Below.heap_alloc _ _ _ (by omega), Below.heap_alloc _ _ _ (by omega)]
    exact heap_alloc_new w o1
  · rw [Below.heap_alloc _ _ _ (by omega), ← e1]
    exact heap_alloc_new _ o2
  · rw [← e2]
    exact heap_alloc_new _ o3

theorem cell_set2 {W : World} {b b' o o1 o2 : Nat} {u v x : Value} (h : W.cell? ⟨b, o, none⟩ = some x) (hb : b ≠ b') : ((W.setCell ⟨b', o1, none⟩ u).setCell ⟨b', o2, none⟩ v).cell? ⟨b, o, none⟩ = some x := by
  have e : ((W.setCell ⟨b', o1, none⟩ u).setCell ⟨b', o2, none⟩ v).heap[b]? = W.heap[b]? := (heap_setCell_other _ _ _ _ hb).trans (heap_setCell_other _ _ _ _ hb)
  rw [← h]
  simp only [World.cell?, e]

theorem cells_two {W : World} {b : Nat} {x y : Value} {t : TypeId} (h : W.heap[b]? = some (.cells #[x, y] t)) : W.cell? ⟨b, 0, none⟩ = some x ∧ W.cell? ⟨b, 1, none⟩ = some y ∧ W.frozen? ⟨b, 0, none⟩ = false ∧ W.frozen? ⟨b, 1, none⟩ = false := by
  refine ⟨?_, ?_, ?_, ?_⟩ <;> simp [World.cell?, World.frozen?, h]

end Go.Proofs.Ytgjmodclgdkodaa

/- find, At. -/

namespace Go.Proofs.Ytgjmodclgdkodaa

open Go.RowKit
set_option maxRecDepth 100000

/-- What stands at a place. -/
def subT : Tm → List Int → Option Tm
  | t, [] => some t
  | t, i :: p => if 0 ≤ i ∧ i < t.args.length then (t.args[i.toNat]?).bind (subT · p) else none

/-- The slice at A holds the numbers. -/
structure Ints (w : World) (B : Nat) (A : Option Addr) (l : List Int) : Prop where
  len : l.length ≤ 9223372036854775807
  i64 : ∀ x ∈ l, I64 x
  ad : 0 < l.length → ∃ b off, A = some ⟨b, off, none⟩ ∧ b < B ∧ ∀ (i : Nat) (x : Int), l[i]? = some x → w.cell? ⟨b, off + i, none⟩ = some (.int .i64 x)

section

variable {w w' : World} {B B' : Nat} {A : Option Addr} {l : List Int}

theorem Ints.keep (h : Ints w B A l) (hk : ∀ p : Addr, p.block < B → w'.cell? p = w.cell? p) : Ints w' B A l :=
  ⟨h.len, h.i64, fun hn => by
    obtain ⟨b, off, hA, hlt, hc⟩ := h.ad hn
    exact ⟨b, off, hA, hlt, fun i x hi => (hk ⟨b, _, none⟩ hlt).trans (hc i x hi)⟩⟩

theorem Ints.blw (h : Ints w B A l) (hb : Below B w w') : Ints w' B A l := h.keep fun _ hp => hb.cell hp

theorem Ints.more (h : Ints w B A l) (hB : B ≤ B') : Ints w B' A l :=
  ⟨h.len, h.i64, fun hn => by
    obtain ⟨b, off, hA, hlt, hc⟩ := h.ad hn
    exact ⟨b, off, hA, by omega, hc⟩⟩

theorem Ints.on (h : Ints w w.heap.size A l) (hb : Below w.heap.size w w') : Ints w' w'.heap.size A l := (h.blw hb).more hb.size

end

/-- The two cells from off on in block b are the term's. -/
structure PtrT (w : World) (B b off : Nat) (t : Tm) : Prop where
  hb : b < B
  i64 : I64 t.fn
  c0 : w.cell? ⟨b, off, none⟩ = some (.int .i64 t.fn)
  rest : ∃ A c, w.cell? ⟨b, off + 1, none⟩ = some (.slice A t.args.length c) ∧ Args w B A t.args

/-- The place of what is found, if it is there. -/
def FindPost (t : Tm) (p : List Int) (w : World) (B : Nat) (e : Ending) (w' : World) : Prop := w' = w ∧
  match subT t p with
  | none => e = .returned (.pointer none)
  | some s => ∃ b off, e = .returned (.pointer (some ⟨b, off, none⟩)) ∧ PtrT w B b off s

theorem sub_step {t u : Tm} {i : Int} {p : List Int} (h0 : 0 ≤ i) (h1 : i < t.args.length) (hu : t.args[i.toNat]? = some u) : subT t (i :: p) = subT u p := by
  simp only [subT, if_pos (And.intro h0 h1), hu, Option.bind_some]

theorem sub_none {t : Tm} {i : Int} {p : List Int} (h : i < 0 ∨ ↑t.args.length ≤ i) : subT t (i :: p) = none := by
  simp only [subT]
  rw [if_neg (by omega)]

def atT (t : Tm) (p : List Int) : Tm := (subT t p).getD (.node 0 [])

/-- What stands at the place, in new memory; the zero term, if there is none. -/
def AtPost (t : Tm) (p : List Int) (w : World) (e : Ending) (w' : World) : Prop := ∃ A' c', e = .returned (.tuple #[.agg #[.int .i64 (atT t p).fn, .slice A' (atT t p).args.length c'], .bool (subT t p).isSome]) ∧ I64 (atT t p).fn ∧ OwnT w' w.heap.size w'.heap.size A' (atT t p).args ∧ Below w.heap.size w w'

theorem sub_size : ∀ {t s : Tm} {p : List Int}, subT t p = some s → s.size ≤ t.size
  | t, s, [], h => by simp only [subT] at h; cases h; exact Nat.le_refl _
  | t, s, i :: p, h => by
    simp only [subT] at h
    split at h
    · cases hu : t.args[i.toNat]? with
      | none => rw [hu] at h; cases h
      | some u =>
        rw [hu] at h
        have h1 := sub_size (p := p) h
        have h2 := size_mem (List.mem_of_getElem? hu)
        cases t with
        | node f xs => simp only [Tm.size, Tm.args] at h2 ⊢; omega
    · cases h

theorem set2_two {W : World} {b : Nat} {x y u v : Value} {t : TypeId} (h : W.heap[b]? = some (.cells #[x, y] t)) : (W.setCell ⟨b, 0, none⟩ u).heap[b]? = some (.cells #[u, y] t) ∧ ((W.setCell ⟨b, 0, none⟩ u).setCell ⟨b, 1, none⟩ v).heap[b]? = some (.cells #[u, v] t) :=
  have h1 : (W.setCell ⟨b, 0, none⟩ u).heap[b]? = some (.cells #[u, y] t) := heap_setCell_same W _ 0 _ _ _ h
  ⟨h1, heap_setCell_same _ _ 1 _ _ _ h1⟩

end Go.Proofs.Ytgjmodclgdkodaa

/- walk: what it goes over, in plain words; its memory. -/

namespace Go.Proofs.Ytgjmodclgdkodaa

open Go.RowKit
set_option maxRecDepth 100000

mutual
/-- The places of a term from place p on, and what stands there, in order. -/
def vis : List Int → Tm → List (List Int × Tm)
  | p, .node f xs => (p, .node f xs) :: visL p 0 xs
def visL : List Int → Nat → List Tm → List (List Int × Tm)
  | _, _, [] => []
  | p, i, t :: ts => vis (p ++ [(i : Int)]) t ++ visL p (i + 1) ts
end

theorem vis_eq (p : List Int) (t : Tm) : vis p t = (p, t) :: visL p 0 t.args := by cases t; simp only [vis, Tm.args]

theorem visL_snoc : ∀ (p : List Int) (i : Nat) (xs : List Tm) (t : Tm), visL p i (xs ++ [t]) = visL p i xs ++ vis (p ++ [((i + xs.length : Nat) : Int)]) t
  | p, i, [], t => by simp [visL]
  | p, i, x :: xs, t => by
    simp only [List.cons_append, visL, List.append_assoc, List.length_cons]
    rw [visL_snoc p (i + 1) xs t, show i + 1 + xs.length = i + (xs.length + 1) by omega]

theorem visL_take {p : List Int} {xs : List Tm} {k : Nat} {t : Tm} (h : xs[k]? = some t) : visL p 0 (xs.take (k + 1)) = visL p 0 (xs.take k) ++ vis (p ++ [(k : Int)]) t := by
  have hlt := (List.getElem?_eq_some_iff.1 h).1
  rw [List.take_add_one, h]
  simp only [Option.toList]
  rw [visL_snoc]
  simp [Nat.min_eq_left (Nat.le_of_lt hlt)]

theorem visL_pre (p : List Int) (xs : List Tm) (k : Nat) : visL p 0 (xs.take k) <+: visL p 0 xs := by
  have key : ∀ (ys : List Tm) (i : Nat) (zs : List Tm), visL p i zs <+: visL p i (zs ++ ys) := by
    intro ys i zs
    induction zs generalizing i with
    | nil => simp [visL]
    | cons z zs ih => simp only [List.cons_append, visL]; exact List.prefix_append_right_inj _ |>.2 (ih (i + 1))
  have := key (xs.drop k) 0 (xs.take k)
  rwa [List.take_append_drop] at this

/-- The slice at A holds the terms; their cells lie in N's blocks. -/
inductive ArgsN (w : World) (N : Nat → Prop) : Option Addr → List Tm → Prop
  | nil (A : Option Addr) : ArgsN w N A []
  | row (b off : Nat) (xs : List Tm) (A' : Nat → Option Addr) (c' : Nat → Nat) (hb : N b) (hlen : xs.length ≤ 9223372036854775807) (hi : ∀ (i : Nat) (t : Tm), xs[i]? = some t → I64 t.fn)
      (h0 : ∀ (i : Nat) (t : Tm), xs[i]? = some t → w.cell? ⟨b, off + i * 2, none⟩ = some (.int .i64 t.fn))
      (h1 : ∀ (i : Nat) (t : Tm), xs[i]? = some t → w.cell? ⟨b, off + i * 2 + 1, none⟩ = some (.slice (A' i) t.args.length (c' i)))
      (hs : ∀ (i : Nat) (t : Tm), xs[i]? = some t → ArgsN w N (A' i) t.args) : ArgsN w N (some ⟨b, off, none⟩) xs

theorem cell_of_heap {w w' : World} {b o : Nat} (h : w'.heap[b]? = w.heap[b]?) : w'.cell? ⟨b, o, none⟩ = w.cell? ⟨b, o, none⟩ := World.cell?_of_block h

section

variable {w w' : World} {N : Nat → Prop} {B : Nat} {A : Option Addr} {xs : List Tm}

theorem Args.toN (h : Args w B A xs) : ArgsN w (· < B) A xs := by
  induction h with
  | nil A => exact .nil A
  | row b off xs A' c' hb hlen hi h0 h1 _ ih => exact .row b off xs A' c' hb hlen hi h0 h1 ih

theorem ArgsN.args (h : ArgsN w N A xs) (hN : ∀ g, N g → g < B) : Args w B A xs := by
  induction h with
  | nil A => exact .nil A
  | row b off xs A' c' hb hlen hi h0 h1 _ ih => exact .row b off xs A' c' (hN b hb) hlen hi h0 h1 ih

theorem ArgsN.keep (h : ArgsN w N A xs) (hk : ∀ g, N g → w'.heap[g]? = w.heap[g]?) : ArgsN w' N A xs := by
  induction h with
  | nil A => exact .nil A
  | row b off xs A' c' hb hlen hi h0 h1 _ ih => exact .row b off xs A' c' hb hlen hi (fun i t e => (cell_of_heap (hk b hb)).trans (h0 i t e)) (fun i t e => (cell_of_heap (hk b hb)).trans (h1 i t e)) ih

theorem ArgsN.wide {M : Nat → Prop} (h : ArgsN w N A xs) (hk : ∀ g, N g → M g) : ArgsN w M A xs := by
  induction h with
  | nil A => exact .nil A
  | row b off xs A' c' hb hlen hi h0 h1 _ ih => exact .row b off xs A' c' (hk b hb) hlen hi h0 h1 ih

theorem ArgsN.len (h : ArgsN w N A xs) : xs.length ≤ 9223372036854775807 := by
  cases h with
  | nil => simp
  | row => assumption

structure ArgAtN (w : World) (N : Nat → Prop) (b off i : Nat) (t : Tm) (A' : Option Addr) (c' : Nat) : Prop where
  hb : N b
  hi : I64 t.fn
  c0 : w.cell? ⟨b, off + i * 2, none⟩ = some (.int .i64 t.fn)
  c1 : w.cell? ⟨b, off + i * 2 + 1, none⟩ = some (.slice A' t.args.length c')
  sub : ArgsN w N A' t.args

theorem ArgsN.get (h : ArgsN w N A xs) {i : Nat} {t : Tm} (hi : xs[i]? = some t) : ∃ b off A' c', A = some ⟨b, off, none⟩ ∧ ArgAtN w N b off i t A' c' := by
  cases h with
  | nil => simp at hi
  | row b off _ A' c' hb hlen hi' h0 h1 hs => exact ⟨b, off, A' i, c' i, rfl, hb, hi' i t hi, h0 i t hi, h1 i t hi, hs i t hi⟩

theorem OwnT.argsN {lo hi : Nat} (h : OwnT w lo hi A xs) : ArgsN w (fun g => lo ≤ g ∧ g < hi) A xs := by
  induction h with
  | nil lo hi A => exact .nil A
  | row lo hi b cap xs vs A' c' m hlo hpos hlen hrow hm0 hmn hm hi64 h0 h1 _ ih =>
    have hbm : b < hi := by have := mono_to hm (Nat.zero_le xs.length) (Nat.le_refl _); omega
    have hvs : vs.length = xs.length * 2 := hrow.1
    refine .row b 0 xs A' c' ⟨hlo, hbm⟩ hlen hi64 (fun i t e => ?_) (fun i t e => ?_) fun i t hit => (ih i t hit).wide fun g hg => ?_
    · have hil := (List.getElem?_eq_some_iff.1 e).1
      rw [Nat.zero_add, hrow.cellAt (i * 2) (by omega)]
      exact h0 i t e
    · have hil := (List.getElem?_eq_some_iff.1 e).1
      rw [Nat.zero_add, hrow.cellAt (i * 2 + 1) (by omega)]
      exact h1 i t e
    · have hil := (List.getElem?_eq_some_iff.1 hit).1
      have e1 := mono_to hm (show i + 1 ≤ xs.length by omega) (Nat.le_refl _)
      have e2 := mono_to hm (Nat.zero_le i) (by omega)
      omega

end

/-- What is handed to a round: a place and what stands there, where they lie. -/
structure Vis where
  pos : List Int
  t : Tm
  A : Option Addr
  c : Nat
  A' : Option Addr
  c' : Nat

def Vis.key (x : Vis) : List Int × Tm := (x.pos, x.t)

def visEnc (x : Vis) : Array Value := #[.slice x.A x.pos.length x.c, .agg #[.int .i64 x.t.fn, .slice x.A' x.t.args.length x.c']]

structure VisFx (x : Vis) (W : World) : Prop where
  pos : Ints W W.heap.size x.A x.pos
  i64 : I64 x.t.fn
  args : Args W W.heap.size x.A' x.t.args

theorem row_lt {W : World} {base n : Nat} {e : TypeId} {size : Nat} {v : Value} {vs : List Value} (h : W.ownsRow base e size v n vs) : ∀ g, v.ownBlock = some g → base ≤ g ∧ g < W.heap.size := by
  intro g hg
  rcases h.2 with ⟨rfl, _⟩ | ⟨g', cap, cur, rfl, hb, hgc, _⟩
  · cases hg
  · simp [Value.ownBlock] at hg
    subst hg
    exact ⟨hb, (Array.getElem?_eq_some_iff.1 hgc).1⟩

theorem row_keep {W W' : World} {base n : Nat} {e : TypeId} {size : Nat} {v : Value} {vs : List Value} (h : W.ownsRow base e size v n vs) (hk : ∀ g, v.ownBlock = some g → W'.heap[g]? = W.heap[g]?) : W'.ownsRow base e size v n vs := by
  refine ⟨h.1, ?_⟩
  rcases h.2 with h0 | ⟨g', cap, cur, rfl, hb, hgc, hrest⟩
  · exact .inl h0
  · exact .inr ⟨g', cap, cur, rfl, hb, (hk g' rfl).trans hgc, hrest⟩

section

variable {W W' : World} {C : World → Nat → Prop} {N : Nat → Prop} {l b : Nat} {pos : List Int}

end

end Go.Proofs.Ytgjmodclgdkodaa

/- Terms with their variables renamed, in plain words; a row of terms that is made member by member. each, at terms: a row of its own of what becomes of the members. -/

namespace Go.Proofs.Ytgjmodclgdkodaa

open Go.RowKit
set_option maxRecDepth 100000

section

variable {σ : Type} (nx : σ → Int → σ × Int)

/-- A symbol's number, or a variable's renamed: what is asked in turn keeps a state. -/
def renF (s : σ) (f : Int) : σ × Int := if f < 0 then ((nx s (-1 - f)).1, -1 - (nx s (-1 - f)).2) else (s, f)

mutual
def renT : σ → Tm → σ × Tm
  | s, .node f xs => ((renL (renF nx s f).1 xs).1, .node (renF nx s f).2 (renL (renF nx s f).1 xs).2)
def renL : σ → List Tm → σ × List Tm
  | s, [] => (s, [])
  | s, t :: ts => ((renL (renT s t).1 ts).1, (renT s t).2 :: (renL (renT s t).1 ts).2)
end

theorem renL_len : ∀ (s : σ) (xs : List Tm), (renL nx s xs).2.length = xs.length
  | _, [] => by simp [renL]
  | s, t :: ts => by simp [renL, renL_len]

theorem renL_get : ∀ (s : σ) (xs : List Tm) (i : Nat) (t : Tm), xs[i]? = some t → (renL nx s xs).2[i]? = some (renT nx (renL nx s (xs.take i)).1 t).2 ∧ (renL nx s (xs.take (i + 1))).1 = (renT nx (renL nx s (xs.take i)).1 t).1
  | _, [], i, t, h => by simp at h
  | s, x :: xs, 0, t, h => by
    simp at h
    subst h
    simp [renL]
  | s, x :: xs, i + 1, t, h => by
    have ih := renL_get (renT nx s x).1 xs i t (by simpa using h)
    simp only [List.take_succ_cons, renL, List.getElem?_cons_succ]
    exact ih

end

/-- All blocks that were there lie as they lay, but for C's. -/
def KeepsC (C : Nat → Prop) (w w' : World) : Prop := Keeps (fun g => g < w.heap.size ∧ ¬ C g) w w'

section

variable {C : Nat → Prop} {a b c : World}

theorem KeepsC.k (h : KeepsC C a b) : Keeps (fun g => g < a.heap.size ∧ ¬ C g) a b := h

theorem KeepsC.refl (C : Nat → Prop) (a : World) : KeepsC C a a := Keeps.refl _ _

theorem KeepsC.size (h : KeepsC C a b) : a.heap.size ≤ b.heap.size := Keeps.size h

theorem KeepsC.trans (h : KeepsC C a b) (k : KeepsC C b c) : KeepsC C a c := Keeps.trans h (Keeps.mono k fun _ e => ⟨Nat.lt_of_lt_of_le e.1 h.size, e.2⟩)

theorem KeepsC.of_below (h : Below a.heap.size a b) : KeepsC C a b := (Keeps.of_below h).mono fun _ e => e.1

theorem KeepsC.alloc (h : KeepsC C a b) (o : Obj) : KeepsC C a (b.alloc o) := h.trans (Keeps.alloc b o |>.mono fun _ e => e.1)

theorem KeepsC.set (h : KeepsC C a b) {p : Addr} (hp : a.heap.size ≤ p.block) (v : Value) : KeepsC C a (b.setCell p v) :=
  Keeps.trans h ((Keeps.set b p v).mono fun g e => by show g ≠ p.block; have := e.1; omega)

theorem KeepsC.block (h : KeepsC C a b) {g : Nat} (hg : g < a.heap.size) (hc : ¬ C g) : b.heap[g]? = a.heap[g]? := Keeps.block h g ⟨hg, hc⟩

theorem KeepsC.below (h : KeepsC C a b) {n : Nat} (hn : n ≤ a.heap.size) (hc : ∀ g, g < n → ¬ C g) : Below n a b := Keeps.below h fun g e => ⟨by omega, hc g e⟩

theorem KeepsC.none (h : KeepsC (fun _ => False) a b) : Below a.heap.size a b := h.below (Nat.le_refl _) fun _ _ e => e

theorem KeepsC.mono {D : Nat → Prop} (h : KeepsC C a b) (hd : ∀ g, C g → D g) : KeepsC D a b := Keeps.mono h fun _ e => ⟨e.1, fun k => e.2 (hd _ k)⟩

end

theorem RowK.onK {w w' : World} {xs : List Tm} {b cap k : Nat} {vs : List Value} {A' : Nat → Option Addr} {c' m : Nat → Nat} (h : RowK w b cap xs k vs A' c' m) (hbs : b < w.heap.size) (hs : w.heap.size ≤ w'.heap.size) (hk : ∀ g, b ≤ g → g < w.heap.size → w'.heap[g]? = w.heap[g]?) : RowK w' b cap xs k vs A' c' m :=
  ⟨ownsRow_keep h.row (fun g' e => by simp [Value.ownBlock] at e; exact e.symm) (hk b (Nat.le_refl _) hbs), h.m0, Nat.le_trans h.mke hs, h.mono, h.i64, h.v0, h.v1, fun i t hik e => (h.sub i t hik e).keep fun g h1 h2 => hk g (by have := mono_to h.mono (Nat.zero_le i) (by omega); have := h.m0; omega) (by have := mono_to h.mono (show i + 1 ≤ k by omega) (Nat.le_refl _); have := h.mke; omega)⟩

end Go.Proofs.Ytgjmodclgdkodaa

namespace Go.Proofs.Ytgjmodclgdkodaa

open Go.RowKit
set_option maxRecDepth 100000

theorem argsN_upK {w w' : World} {C N : Nat → Prop} {A : Option Addr} {xs : List Tm} (h : ArgsN w N A xs) (hk : KeepsC C w w') (hb : ∀ g, N g → g < w.heap.size) (hc : ∀ g, N g → ¬ C g) : ArgsN w' N A xs :=
  h.keep fun g e => hk.block (hb g e) (hc g e)

end Go.Proofs.Ytgjmodclgdkodaa

/- walk's closure that calls itself. -/

namespace Go.Proofs.Ytgjmodclgdkodaa

open Go.RowKit Go.Shelf
attribute [local go_sem] Oper.semAt_some
set_option maxRecDepth 100000

theorem infoInt : (Try.prog.info? 3).map (fun i => (i.zero, i.size, i.bytes)) = some (some (.int .i64 0), 1, 8) := by kernel_rfl

/-- 'append' in a fence; and the row lies where it lay, or in a new block. -/
theorem wpListIn_append_at {F : Fence} {n : Nat} {P : Program} (w : World) {ops : Array Oper} {rest : List Oper} {o : Oper} {a : Act} {Q : Exit → Act → World → Prop}
    (hg : o.guard = none) (s x : Operand) (t : TypeId) (hop : o.op = Op.call { callee := Callee.builtin Builtin.append, args := #[s, x], argTypes := #[t, t] })
    (base : Nat) (e : TypeId) (i : TypeInfo) (z : Value) (size bytes : Nat) (h1 : P.underlying t = some (.slice e)) (h2 : P.info? e = some i) (h3 : i.zero = some z) (h4 : i.size = size) (h5 : i.bytes = bytes) (h6 : z.cells.size = size) (h7 : 0 < size)
    (v : Value) (k : Nat) (xs : List Value) (hs : a.eval s = v) (hown : w.ownsRow base e size v k xs) (ad : Addr) (m c : Nat) (news : List Value) (hx : a.eval x = .slice (some ad) m c) (hn : news.length = m * size)
    (hc : ∀ j u, news[j]? = some u → w.cell? (ad.add j) = some u) (h1c : ∀ u ∈ news, u.oneCell' = true) (b1 : k + m ≤ maxLen) (b2 : (k + m) * bytes ≤ 140737488355328) (b3 : base ≤ w.heap.size)
    (hK : ∀ v' w', w'.ownsRow base e size v' (k + m) (xs ++ news) → w.grownBy w' v.ownBlock → (v'.ownBlock = v.ownBlock ∨ v'.ownBlock = some w.heap.size) → wpListIn F n P ops Q rest (a.put o.dst v') w') :
    wpListIn F n P ops Q (o :: rest) a w := by
  obtain ⟨v', w', hrun, r1, r2, _, r4⟩ := run_append_own_at (P := P) w base t o.type e i z size bytes h1 h2 h3 h4 h5 h6 h7 v k xs hown ad m c news hn hc h1c b1 b2 b3
  refine wpListIn_plain hg fun K hK' => ⟨?_, ?_⟩
  · simp [Oper.about, hop, resolve, Target.leads, Sem.run_pure]
  · rw [Oper.semAt_plain F _ _ (by rw [hop]; intro c hc'; cases hc')]
    simp [execOp, hop, resolve, invoke, builtin, hs, hx, hrun, Result.andThen]
    exact hK' _ _ (hK v' w' r1 r2 r4)

theorem room_of_none {F : Fence} (hd : F.depth = none) (k : Nat) : F.room k := fun d h => by rw [hd] at h; cases h

theorem row_pop {W : World} {base n g cap : Nat} {e : TypeId} {vs : List Value} {x : Value} (h : W.ownsRow base e 1 (.slice (some ⟨g, 0, none⟩) (n + 1) cap) (n + 1) (vs ++ [x])) : W.ownsRow base e 1 (.slice (some ⟨g, 0, none⟩) n cap) n vs := by
  have hl : vs.length = n := by have := h.1; simp at this; omega
  refine ⟨by simpa using hl, .inr ?_⟩
  rcases h.2 with ⟨h0, _⟩ | ⟨g', cap', cur, hv, hb, hg, h1, h2, h3, h4⟩
  · cases h0
  · injection hv with e1 e2 e3
    injection e1 with e1
    injection e1 with e1 _ _
    subst e1; subst e3
    refine ⟨g, cap, cur, rfl, hb, hg, by omega, h2, h3, ?_⟩
    have h5 := congrArg (List.take n) h4
    rw [List.take_take, Nat.min_eq_left (by omega)] at h5
    rw [Nat.mul_one, h5]
    exact List.take_left' hl

end Go.Proofs.Ytgjmodclgdkodaa

/- Compare, Same: the order of terms as such. -/

namespace Go.Proofs.Ytgjmodclgdkodaa

open Go.RowKit
set_option maxRecDepth 100000

abbrev tmV (t : Tm) (A : Option Addr) (c : Nat) : Value := .agg #[.int .i64 t.fn, .slice A t.args.length c]

theorem numI_lt {a b : Int} (h : a < b) : numI a b = -1 := by simp [numI, h]

theorem numI_gt {a b : Int} (h : b < a) : numI a b = 1 := by simp [numI, h]; omega

theorem numI_eq {a b : Int} (h1 : b ≤ a) (h2 : a ≤ b) : numI a b = 0 := by
  have : a = b := by omega
  subst this
  simp [numI]

theorem cmpNum_any (a b : Int) (w : World) :
    Calls Try.prog 104 #[.int .i64 a, .int .i64 b] w fun e w' => e = .returned (.int .i64 (numI a b)) ∧ Below w.heap.size w w' := by
  go_enter Try.func104, Try.ntmps104
  go_wp2
  all_goals
    go_ret
    first
      | exact ⟨ret_int (numI_lt (by omega)).symm, Below.refl _ _⟩
      | exact ⟨ret_int (numI_gt (by omega)).symm, Below.refl _ _⟩
      | exact ⟨ret_int (numI_eq (by omega) (by omega)).symm, Below.refl _ _⟩

theorem headI_vv {f g : Int} (hf : f < 0) (hg : g < 0) : headI f g = numI (-1 - f) (-1 - g) := by
  unfold headI numI
  by_cases h : f = g
  · subst h; simp
  · rw [if_neg h, if_pos ⟨hf, hg⟩]
    by_cases h1 : g < f
    · rw [if_pos h1, if_pos (by omega)]
    · rw [if_neg h1, if_neg (by omega), if_pos (by omega)]

theorem headI_ss {f g : Int} (h : ¬ (f < 0 ∧ g < 0)) : headI f g = numI f g := by
  unfold headI numI
  by_cases e : f = g
  · subst e; simp
  · rw [if_neg e, if_neg h]
    by_cases h1 : f < g
    · rw [if_pos h1, if_pos h1]
    · rw [if_neg h1, if_neg h1, if_pos (by omega)]

end Go.Proofs.Ytgjmodclgdkodaa

/- fits: which terms may be over a signature. -/

namespace Go.Proofs.Ytgjmodclgdkodaa

open Go.RowKit
set_option maxRecDepth 100000

mutual
/-- May the term be, and how much room is left? -/
def fitT (l : List Sm) : Tm → Int → Int → Bool × Int
  | .node f xs, d, r =>
    if r - 1 < 0 ∨ 30 < d then (false, r - 1)
    else if f < 0 then (decide (-1 - f < 48 ∧ xs.length = 0), r - 1)
    else match l[f.toNat]? with
      | none => (false, r - 1)
      | some s => if s.arity ≠ xs.length ∨ (s.pred = true ∧ 1 < d) then (false, r - 1) else fitL l xs (d + 1) (r - 1)
def fitL (l : List Sm) : List Tm → Int → Int → Bool × Int
  | [], _, r => (true, r)
  | t :: ts, d, r => if (fitT l t d r).1 = true then fitL l ts d (fitT l t d r).2 else (false, (fitT l t d r).2)
end

section

variable {l : List Sm} {f d r : Int} {xs : List Tm} {s : Sm} {t : Tm}

theorem fit_room (h : r - 1 < 0 ∨ 30 < d) : fitT l (.node f xs) d r = (false, r - 1) := by simp only [fitT, if_pos h]

theorem fit_var (h : ¬ (r - 1 < 0 ∨ 30 < d)) (hf : f < 0) : fitT l (.node f xs) d r = (decide (-1 - f < 48 ∧ xs.length = 0), r - 1) := by simp only [fitT, if_neg h, if_pos hf]

theorem fit_out (h : ¬ (r - 1 < 0 ∨ 30 < d)) (hf : ¬ f < 0) (ho : (l.length : Int) ≤ f) : fitT l (.node f xs) d r = (false, r - 1) := by
  simp only [fitT, if_neg h, if_neg hf, List.getElem?_eq_none (show l.length ≤ f.toNat by omega)]

theorem fit_bad (h : ¬ (r - 1 < 0 ∨ 30 < d)) (hf : ¬ f < 0) (hs : l[f.toNat]? = some s) (hb : s.arity ≠ xs.length ∨ (s.pred = true ∧ 1 < d)) : fitT l (.node f xs) d r = (false, r - 1) := by
  simp only [fitT, if_neg h, if_neg hf, hs, if_pos hb]

theorem fit_in (h : ¬ (r - 1 < 0 ∨ 30 < d)) (hf : ¬ f < 0) (hs : l[f.toNat]? = some s) (hb : ¬ (s.arity ≠ xs.length ∨ (s.pred = true ∧ 1 < d))) : fitT l (.node f xs) d r = fitL l xs (d + 1) (r - 1) := by
  simp only [fitT, if_neg h, if_neg hf, hs, if_neg hb]

theorem fitL_yes (h : (fitT l t d r).1 = true) : fitL l (t :: xs) d r = fitL l xs d (fitT l t d r).2 := by simp only [fitL, if_pos h]

theorem fitL_no (h : (fitT l t d r).1 = false) : fitL l (t :: xs) d r = (false, (fitT l t d r).2) := by simp [fitL, h]

end

/-- The room shrinks, and not below -1 where it was 0 at least. -/
theorem fit_le (l : List Sm) (t : Tm) : ∀ d r, 0 ≤ r → (fitT l t d r).2 ≤ r - 1 ∧ -1 ≤ (fitT l t d r).2 ∧ ((fitT l t d r).1 = true → 0 ≤ (fitT l t d r).2) := by
  refine Tm.ind (P := fun t => ∀ d r, 0 ≤ r → (fitT l t d r).2 ≤ r - 1 ∧ -1 ≤ (fitT l t d r).2 ∧ ((fitT l t d r).1 = true → 0 ≤ (fitT l t d r).2)) (fun f xs ih d r hr => ?_) t
  have key : ∀ ys : List Tm, (∀ t ∈ ys, ∀ d r, 0 ≤ r → (fitT l t d r).2 ≤ r - 1 ∧ -1 ≤ (fitT l t d r).2 ∧ ((fitT l t d r).1 = true → 0 ≤ (fitT l t d r).2)) → ∀ d r, 0 ≤ r → (fitL l ys d r).2 ≤ r ∧ -1 ≤ (fitL l ys d r).2 ∧ ((fitL l ys d r).1 = true → 0 ≤ (fitL l ys d r).2) := by
    intro ys
    induction ys with
    | nil => intro _ d r hr; simp only [fitL]; exact ⟨Int.le_refl _, by omega, fun _ => hr⟩
    | cons y ys ihy =>
      intro h d r hr
      have h1 := h y (by simp) d r hr
      cases hb : (fitT l y d r).1 with
      | true =>
        rw [fitL_yes hb]
        have h2 := ihy (fun t ht => h t (by simp [ht])) d _ (h1.2.2 hb)
        exact ⟨by omega, h2.2.1, h2.2.2⟩
      | false => rw [fitL_no hb]; exact ⟨by show _ ≤ r; omega, h1.2.1, fun h => by cases h⟩
  by_cases h1 : r - 1 < 0 ∨ 30 < d
  · rw [fit_room h1]; exact ⟨Int.le_refl _, by show -1 ≤ r - 1; omega, fun h => by cases h⟩
  · by_cases hf : f < 0
    · rw [fit_var h1 hf]; exact ⟨Int.le_refl _, by show -1 ≤ r - 1; omega, fun _ => by show 0 ≤ r - 1; omega⟩
    · cases hs : l[f.toNat]? with
      | none => rw [fit_out h1 hf (by have := List.getElem?_eq_none_iff.1 hs; omega)]; exact ⟨Int.le_refl _, by show -1 ≤ r - 1; omega, fun h => by cases h⟩
      | some s =>
        by_cases hb : s.arity ≠ xs.length ∨ (s.pred = true ∧ 1 < d)
        · rw [fit_bad h1 hf hs hb]; exact ⟨Int.le_refl _, by show -1 ≤ r - 1; omega, fun h => by cases h⟩
        · rw [fit_in h1 hf hs hb]; exact key xs ih (d + 1) (r - 1) (by omega)

def FitPost (l : List Sm) (t : Tm) (d r : Int) (rb : Nat) (w : World) (e : Ending) (w' : World) : Prop :=
  e = .returned (.bool (fitT l t d r).1) ∧ Keeps (fun g => g < w.heap.size ∧ g ≠ rb) w w' ∧ w'.heap[rb]? = some (.cells #[.int .i64 (fitT l t d r).2] 3)

theorem heap2 (w : World) (o1 o2 : Obj) : ((w.alloc o1).alloc o2).heap[w.heap.size]? = some o1 ∧ ((w.alloc o1).alloc o2).heap[w.heap.size + 1]? = some o2 := by
  have e1 : (w.alloc o1).heap.size = w.heap.size + 1 := by simp
  refine ⟨?_, ?_⟩
  · rw [Below.heap_alloc _ _ _ (by omega)]
    exact heap_alloc_new w o1
  · rw [← e1]
    exact heap_alloc_new _ o2

theorem cells_one {W : World} {b : Nat} {x : Value} {t : TypeId} (h : W.heap[b]? = some (.cells #[x] t)) : W.cell? ⟨b, 0, none⟩ = some x ∧ W.frozen? ⟨b, 0, none⟩ = false := by
  refine ⟨?_, ?_⟩ <;> simp [World.cell?, World.frozen?, h]

end Go.Proofs.Ytgjmodclgdkodaa

/- rename: whatever function tells the numbers, and whatever state it keeps. -/

namespace Go.Proofs.Ytgjmodclgdkodaa

open Go.RowKit Go.Shelf
set_option maxRecDepth 100000

/-- What is asked of the function that tells the numbers. -/
structure NumC {σ : Type} (nx : σ → Int → σ × Int) (kn : FuncId) (nc : Array Value) (C D N : Nat → Prop) (I : σ → World → Prop) (B0 : Nat) : Prop where
  ent : ∀ (args : Array Value) (w : World), (callFunc kn args).run Try.prog w = .ok (.enter kn args) w
  call : ∀ (s : σ) (v : Int) (W : World), B0 ≤ W.heap.size → I s W → 0 ≤ v → v ≤ 9223372036854775807 → Calls Try.prog kn (#[.int .i64 v] ++ nc) W fun e W' => e = .returned (.int .i64 (nx s v).2) ∧ I64 (nx s v).2 ∧ I (nx s v).1 W' ∧ KeepsC C W W'
  stay : ∀ s W W', I s W → Keeps D W W' → I s W'
  cb : ∀ g, C g → g < B0
  db : ∀ g, D g → g < B0
  nb : ∀ g, N g → g < B0
  nc : ∀ g, N g → ¬ C g

/-- The term renamed, in new memory. -/
def RenPost {σ : Type} (C : Nat → Prop) (I : σ → World → Prop) (r : σ × Tm) (w : World) (e : Ending) (w' : World) : Prop :=
  ∃ A' c', e = .returned (.agg #[.int .i64 r.2.fn, .slice A' r.2.args.length c']) ∧ I64 r.2.fn ∧ OwnT w' w.heap.size w'.heap.size A' r.2.args ∧ I r.1 w' ∧ KeepsC C w w'

section

variable {σ : Type} {nx : σ → Int → σ × Int} {kn : FuncId} {nc : Array Value} {C D N : Nat → Prop} {I : σ → World → Prop} {B0 : Nat}

theorem ren_fin (hN : NumC nx kn nc C D N I B0) {s s1 : σ} {f f' : Int} {xs : List Tm} {A3 : Option Addr} {c3 : Nat} {w W w1 w3 : World} (hB0 : B0 ≤ w.heap.size) (hB : Below w.heap.size w W) (hk1 : KeepsC C W w1) (hk3 : KeepsC C w1 w3)
    (hO3 : OwnT w3 w1.heap.size w3.heap.size A3 (renL nx s1 xs).2) (hI3 : I (renL nx s1 xs).1 w3) (hF : renF nx s f = (s1, f')) (h64 : I64 f') (hW : w.heap.size + 2 < W.heap.size) :
    RenPost C I (renT nx s (.node f xs)) w (.returned (.agg #[.int .i64 f', .slice A3 (renL nx s1 xs).2.length c3])) ((w3.setCell ⟨w.heap.size + 1 + 1, 0, none⟩ (.int .i64 f')).setCell ⟨w.heap.size + 1 + 1, 1, none⟩ (.slice A3 (renL nx s1 xs).2.length c3)) := by
  have hr : renT nx s (.node f xs) = ((renL nx s1 xs).1, .node f' (renL nx s1 xs).2) := by simp only [renT, hF]
  have hz1 := hk1.size
  have hoth : ∀ g, g ≠ w.heap.size + 1 + 1 → ((w3.setCell ⟨w.heap.size + 1 + 1, 0, none⟩ (.int .i64 f')).setCell ⟨w.heap.size + 1 + 1, 1, none⟩ (.slice A3 (renL nx s1 xs).2.length c3)).heap[g]? = w3.heap[g]? := fun g e => (heap_setCell_other _ _ _ _ e).trans (heap_setCell_other _ _ _ _ e)
  rw [hr]
  refine ⟨A3, c3, rfl, h64, ?_, ?_, ?_⟩
  · exact OwnT.wide (lo := w1.heap.size) (hi := w3.heap.size) (hO3.keep fun g h1 _ => hoth g (by omega)) (by omega) (by simp)
  · exact hN.stay _ _ _ hI3 ⟨rfl, rfl, rfl, by simp, fun g e => hoth g (by have := hN.db g e; omega)⟩
  · exact ((((KeepsC.of_below hB).trans hk1).trans hk3).set (by show _ ≤ w.heap.size + 1 + 1; omega) _).set (by show _ ≤ w.heap.size + 1 + 1; omega) _

end

end Go.Proofs.Ytgjmodclgdkodaa

/- clone, Move. -/

namespace Go.Proofs.Ytgjmodclgdkodaa

open Go.RowKit Go.Shelf
set_option maxRecDepth 100000

mutual
theorem renT_id {σ : Type} (s : σ) : ∀ t : Tm, renT (fun (s : σ) v => (s, v)) s t = (s, t)
  | .node f xs => by
    have hF : renF (fun (s : σ) v => (s, v)) s f = (s, f) := by
      unfold renF
      split
      · simp only; rw [show -1 - (-1 - f) = f by omega]
      · rfl
    simp only [renT, hF, renL_id s xs]
theorem renL_id {σ : Type} (s : σ) : ∀ xs : List Tm, renL (fun (s : σ) v => (s, v)) s xs = (s, xs)
  | [] => by simp only [renL]
  | t :: ts => by simp only [renL, renT_id s t, renL_id s ts]
end

/-- A copy of t, in new memory. -/
def CopyPost (t : Tm) (w : World) (e : Ending) (w' : World) : Prop := ∃ A' c', e = .returned (.agg #[.int .i64 t.fn, .slice A' t.args.length c']) ∧ OwnT w' w.heap.size w'.heap.size A' t.args ∧ Below w.heap.size w w'

/-- A variable's number moved, where it may be. -/
def movI (b v : Int) : Int := if (0 < b ∧ v ≤ 2147483647 - b) ∨ (b ≤ 0 ∧ 0 ≤ v + b ∧ v + b ≤ 2147483647) then v + b else v

theorem movI_i64 {b v : Int} (hb : I64 b) (h0 : 0 ≤ v) (h1 : v ≤ 9223372036854775807) : I64 (movI b v) := by
  have hlo := hb.1
  have hhi := hb.2
  unfold movI
  split
  · exact ⟨by omega, by omega⟩
  · exact ⟨by omega, h1⟩

/-- The term with its variables moved. -/
def movT (b : Int) (t : Tm) : Tm := (renT (fun (s : Unit) v => (s, movI b v)) () t).2

def TermPost (t : Tm) (w : World) (e : Ending) (w' : World) : Prop := ∃ A' c', e = .returned (.agg #[.int .i64 t.fn, .slice A' t.args.length c']) ∧ I64 t.fn ∧ OwnT w' w.heap.size w'.heap.size A' t.args ∧ Below w.heap.size w w'

end Go.Proofs.Ytgjmodclgdkodaa

/- A row of numbers, read; a call's contract in a round of a range. -/

namespace Go.Proofs.Ytgjmodclgdkodaa

open Go.RowKit Go.Shelf
set_option maxRecDepth 100000

/-- A slice that holds the numbers. -/
def IntsV (w : World) (v : Value) (l : List Int) : Prop := ∃ A c, v = .slice A l.length c ∧ Ints w w.heap.size A l

/-- A row of the call's own, read. -/
theorem row_ints {w : World} {base : Nat} {v : Value} {l : List Int} (h : w.ownsRow base 3 1 v l.length (l.map (Value.int .i64))) (hl : l.length ≤ 9223372036854775807) (hi : ∀ x ∈ l, I64 x) : IntsV w v l := by
  rcases h.2 with ⟨rfl, h0⟩ | ⟨g, cap, cur, rfl, hb, hg, _⟩
  · exact ⟨none, 0, by rw [h0], hl, hi, fun hn => by omega⟩
  · refine ⟨_, _, rfl, hl, hi, fun hn => ⟨g, 0, rfl, (Array.getElem?_eq_some_iff.1 hg).1, fun i x hx => ?_⟩⟩
    have hlt := (List.getElem?_eq_some_iff.1 hx).1
    rw [Nat.zero_add, h.cellAt i (by simpa using hlt)]
    simp [hx]

/-- A call's contract, in a round of a range. -/
theorem calls_round {P : Program} {f : FuncId} {args : Array Value} {w : World} {R : Ending → World → Prop} (l m : Nat) (h : Calls P f args w R) : CallsIn (Fence.wide.inRound l) m P f args w R := (callsIn_wide (n := m)).2 h

end Go.Proofs.Ytgjmodclgdkodaa

/- Rows of terms that grow, in plain words. -/

namespace Go.Proofs.Ytgjmodclgdkodaa

open Go.RowKit Go.Shelf
set_option maxRecDepth 100000

/-- A term as a member of a row: where its own arguments lie. -/
structure Ti where
  t : Tm
  A : Option Addr
  c : Nat

def Ti.cells (x : Ti) : List Value := [.int .i64 x.t.fn, .slice x.A x.t.args.length x.c]

theorem ti_get (l : List Ti) (i r : Nat) (hr : r < 2) : (l.flatMap Ti.cells)[i * 2 + r]? = (l[i]?).bind fun x => x.cells[r]? := by
  induction l generalizing i with
  | nil => simp
  | cons x l ih =>
    have hlen : x.cells.length = 2 := rfl
    rw [List.flatMap_cons]
    cases i with
    | zero => rw [List.getElem?_append_left (by omega)]; simp
    | succ i =>
      rw [List.getElem?_append_right (by omega), hlen, show (i + 1) * 2 + r - 2 = i * 2 + r from by omega, ih]
      simp

theorem ti_len (l : List Ti) : (l.flatMap Ti.cells).length = l.length * 2 := by
  induction l with
  | nil => rfl
  | cons x l ih =>
    have hlen : x.cells.length = 2 := rfl
    rw [List.flatMap_cons, List.length_append, ih, hlen, List.length_cons]
    omega

theorem ti_one (l : List Ti) : ∀ u ∈ l.flatMap Ti.cells, u.oneCell' = true := by
  intro u hu
  obtain ⟨x, _, hx⟩ := List.mem_flatMap.1 hu
  simp only [Ti.cells, List.mem_cons, List.not_mem_nil, or_false] at hx
  rcases hx with rfl | rfl <;> rfl

/-- The slice v is the call's own; it holds the terms l, whose arguments lie in N's blocks. -/
structure RowT (w : World) (base : Nat) (v : Value) (l : List Ti) (N : Nat → Prop) : Prop where
  row : w.ownsRow base 39 2 v l.length (l.flatMap Ti.cells)
  i64 : ∀ x ∈ l, I64 x.t.fn
  sub : ∀ x ∈ l, ArgsN w N x.A x.t.args

section

variable {w w' : World} {base base' : Nat} {v : Value} {l : List Ti} {N M : Nat → Prop}

theorem RowT.nil_ (w : World) (base : Nat) (N : Nat → Prop) : RowT w base (.slice none 0 0) [] N :=
  ⟨World.ownsRow_nil w _ _ _, fun x hx => by simp at hx, fun x hx => by simp at hx⟩

theorem RowT.keep (h : RowT w base v l N) (hv : ∀ g, v.ownBlock = some g → w'.heap[g]? = w.heap[g]?) (hN : ∀ g, N g → w'.heap[g]? = w.heap[g]?) : RowT w' base v l N :=
  ⟨row_keep h.row hv, h.i64, fun x hx => (h.sub x hx).keep hN⟩

theorem RowT.wide (h : RowT w base v l N) (hk : ∀ g, N g → M g) : RowT w base v l M := ⟨h.row, h.i64, fun x hx => (h.sub x hx).wide hk⟩

theorem RowT.shape (h : RowT w base v l N) : ∃ A c, v = .slice A l.length c := by
  rcases h.row.2 with ⟨hv, h0⟩ | ⟨g, cap, cur, hv, _⟩
  · exact ⟨none, 0, by rw [hv, h0]⟩
  · exact ⟨_, cap, hv⟩

/-- The row, read. -/
theorem RowT.argsN (h : RowT w base v l N) (hl : l.length ≤ 9223372036854775807) (hv : ∀ g, v.ownBlock = some g → M g) (hN : ∀ g, N g → M g) : ∃ A c, v = .slice A l.length c ∧ ArgsN w M A (l.map Ti.t) := by
  rcases h.row.2 with ⟨rfl, h0⟩ | ⟨g, cap, cur, rfl, hb, hg, _⟩
  · obtain rfl : l = [] := List.eq_nil_of_length_eq_zero h0
    exact ⟨none, 0, rfl, .nil _⟩
  · refine ⟨_, _, rfl, .row g 0 _ (fun i => ((l[i]?).map Ti.A).getD none) (fun i => ((l[i]?).map Ti.c).getD 0) (hv g rfl) (by simpa using hl) (fun i t e => ?_) (fun i t e => ?_) (fun i t e => ?_) fun i t e => ?_⟩
    all_goals
      rw [List.getElem?_map] at e
      cases hx : l[i]? with
      | none => rw [hx] at e; cases e
      | some x =>
        rw [hx] at e
        injection e with e
        subst e
        have hlt := (List.getElem?_eq_some_iff.1 hx).1
        have hm := List.mem_of_getElem? hx
        have q0 := ti_get l i 0 (by omega)
        have q1 := ti_get l i 1 (by omega)
        have c0 := h.row.cellAt (i * 2) (by omega)
        have c1 := h.row.cellAt (i * 2 + 1) (by omega)
        rw [Nat.add_zero, hx] at q0
        rw [hx] at q1
        rw [q0] at c0
        rw [q1] at c1
        try simp only [Option.map_some, Option.getD_some]
        try rw [Nat.zero_add]
        first | exact h.i64 x hm | exact c0 | exact c1 | exact (h.sub x hm).wide hN

/-- One more. -/
theorem RowT.push {x : Ti} {v' : Value} (h : RowT w base v l N) (hrow : w'.ownsRow base 39 2 v' (l.length + 1) (l.flatMap Ti.cells ++ x.cells)) (hi : I64 x.t.fn) (hx : ArgsN w' M x.A x.t.args) (hk : ∀ g, N g → w'.heap[g]? = w.heap[g]?) (hNM : ∀ g, N g → M g) : RowT w' base v' (l ++ [x]) M := by
  refine ⟨?_, ?_, ?_⟩
  · rw [List.length_append, List.flatMap_append]
    simpa using hrow
  · intro y hy
    rcases List.mem_append.1 hy with hy | hy
    · exact h.i64 y hy
    · simp only [List.mem_cons, List.not_mem_nil, or_false] at hy
      subst hy; exact hi
  · intro y hy
    rcases List.mem_append.1 hy with hy | hy
    · exact ((h.sub y hy).keep hk).wide hNM
    · simp only [List.mem_cons, List.not_mem_nil, or_false] at hy
      subst hy; exact hx

end

/-- 'append' as one step of a region that draws its order; and the row lies where it lay, or in a new block. -/
theorem step_append_at {P : Program} {w : World} {ops : Array Oper} {o : Oper} {a : Act} {K : Act → World → Prop} {Q : Exit → Act → World → Prop} {E : Prop}
    (hg : o.guard = none) (s x : Operand) (t : TypeId) (hop : o.op = Op.call { callee := Callee.builtin Builtin.append, args := #[s, x], argTypes := #[t, t] })
    (base : Nat) (e : TypeId) (i : TypeInfo) (z : Value) (size bytes : Nat) (h1 : P.underlying t = some (.slice e)) (h2 : P.info? e = some i) (h3 : i.zero = some z) (h4 : i.size = size) (h5 : i.bytes = bytes) (h6 : z.cells.size = size) (h7 : 0 < size)
    (v : Value) (k : Nat) (xs : List Value) (hs : a.eval s = v) (hown : w.ownsRow base e size v k xs) (ad : Addr) (m c : Nat) (news : List Value) (hx : a.eval x = .slice (some ad) m c) (hn : news.length = m * size)
    (hc : ∀ j u, news[j]? = some u → w.cell? (ad.add j) = some u) (h1c : ∀ u ∈ news, u.oneCell' = true) (b1 : k + m ≤ maxLen) (b2 : (k + m) * bytes ≤ 140737488355328) (b3 : base ≤ w.heap.size)
    (hK : ∀ v' w', w'.ownsRow base e size v' (k + m) (xs ++ news) → w.grownBy w' v.ownBlock → (v'.ownBlock = v.ownBlock ∨ v'.ownBlock = some w.heap.size) → K (a.put o.dst v') w') :
    if Region.wanted o (yielded ops a.tmps) = true then Oper.wp P o a w K Q else E := by
  obtain ⟨v', w', hrun, r1, r2, _, r4⟩ := run_append_own_at (P := P) w base t o.type e i z size bytes h1 h2 h3 h4 h5 h6 h7 v k xs hown ad m c news hn hc h1c b1 b2 b3
  rw [if_pos (by simp [Region.wanted, hg])]
  unfold Oper.wp
  simp [execOp, hop, resolve, invoke, builtin, hs, hx, hrun, Result.andThen]
  exact hK _ _ r1 r2 r4

/-- The two cells of a block that was laid for one term. -/
theorem cells_new_two (w : World) (x y : Value) (t : TypeId) : ∀ j u, [x, y][j]? = some u → (w.alloc (.cells #[x, y] t)).cell? ((⟨w.heap.size, 0, none⟩ : Addr).add j) = some u := by
  intro j u hj
  match j, hj with
  | 0, hj => simp at hj; subst hj; simp [Addr.add]
  | 1, hj => simp at hj; subst hj; simp [Addr.add]
  | j + 2, hj => simp at hj

end Go.Proofs.Ytgjmodclgdkodaa

/- Binds in memory; how two stand; which is itself. finder, at rows that rise; halve. halve: the first bind of a variable. finder$1: what a variable is bound to. put: what stands for the variables is put in, anew each time. put, at binds that rise. putter and Apply. -/

namespace Go.Proofs.Ytgjmodclgdkodaa

open Go.RowKit Go.Shelf
set_option maxRecDepth 100000

/-- What stands for a variable, in plain words. -/
structure Bd where
  v : Int
  t : Tm

/-- The slice at A holds the binds; they, and their terms, lie in N's blocks. -/
structure Binds (w : World) (N : Nat → Prop) (A : Option Addr) (l : List Bd) : Prop where
  len : l.length ≤ 9223372036854775807
  ad : 0 < l.length → ∃ b off, A = some ⟨b, off, none⟩ ∧ N b ∧ ∀ (i : Nat) (x : Bd), l[i]? = some x → ∃ A' c', w.cell? ⟨b, off + i * 3, none⟩ = some (.int .i64 x.v) ∧ w.cell? ⟨b, off + i * 3 + 1, none⟩ = some (.int .i64 x.t.fn) ∧ w.cell? ⟨b, off + i * 3 + 2, none⟩ = some (.slice A' x.t.args.length c') ∧ I64 x.v ∧ I64 x.t.fn ∧ ArgsN w N A' x.t.args

section

variable {w w' : World} {N M : Nat → Prop} {A : Option Addr} {l : List Bd}

theorem Binds.keep (h : Binds w N A l) (hk : ∀ g, N g → w'.heap[g]? = w.heap[g]?) : Binds w' N A l :=
  ⟨h.len, fun hn => by
    obtain ⟨b, off, hA, hb, hc⟩ := h.ad hn
    refine ⟨b, off, hA, hb, fun i x hx => ?_⟩
    obtain ⟨A', c', h0, h1, h2, h3, h4, h5⟩ := hc i x hx
    exact ⟨A', c', (cell_of_heap (hk b hb)).trans h0, (cell_of_heap (hk b hb)).trans h1, (cell_of_heap (hk b hb)).trans h2, h3, h4, h5.keep hk⟩⟩

theorem Binds.wide (h : Binds w N A l) (hk : ∀ g, N g → M g) : Binds w M A l :=
  ⟨h.len, fun hn => by
    obtain ⟨b, off, hA, hb, hc⟩ := h.ad hn
    refine ⟨b, off, hA, hk b hb, fun i x hx => ?_⟩
    obtain ⟨A', c', h0, h1, h2, h3, h4, h5⟩ := hc i x hx
    exact ⟨A', c', h0, h1, h2, h3, h4, h5.wide hk⟩⟩

theorem Binds.nil_ (w : World) (N : Nat → Prop) (A : Option Addr) : Binds w N A [] := ⟨by simp, fun h => by simp at h⟩

/-- One of them. -/
structure BdAt (w : World) (N : Nat → Prop) (b off i : Nat) (x : Bd) (A' : Option Addr) (c' : Nat) : Prop where
  hb : N b
  c0 : w.cell? ⟨b, off + i * 3, none⟩ = some (.int .i64 x.v)
  c1 : w.cell? ⟨b, off + i * 3 + 1, none⟩ = some (.int .i64 x.t.fn)
  c2 : w.cell? ⟨b, off + i * 3 + 2, none⟩ = some (.slice A' x.t.args.length c')
  iv : I64 x.v
  it : I64 x.t.fn
  sub : ArgsN w N A' x.t.args

theorem Binds.get (h : Binds w N A l) {i : Nat} {x : Bd} (hx : l[i]? = some x) : ∃ b off A' c', A = some ⟨b, off, none⟩ ∧ BdAt w N b off i x A' c' := by
  have hlt := (List.getElem?_eq_some_iff.1 hx).1
  obtain ⟨b, off, hA, hb, hc⟩ := h.ad (by omega)
  obtain ⟨A', c', h0, h1, h2, h3, h4, h5⟩ := hc i x hx
  exact ⟨b, off, A', c', hA, hb, h0, h1, h2, h3, h4, h5⟩

end

theorem cells_three {W : World} {b : Nat} {x y z : Value} {t : TypeId} (h : W.heap[b]? = some (.cells #[x, y, z] t)) : W.cell? ⟨b, 0, none⟩ = some x ∧ W.cell? ⟨b, 1, none⟩ = some y ∧ W.cell? ⟨b, 2, none⟩ = some z ∧ W.frozen? ⟨b, 0, none⟩ = false ∧ W.frozen? ⟨b, 1, none⟩ = false ∧ W.frozen? ⟨b, 2, none⟩ = false := by
  refine ⟨?_, ?_, ?_, ?_, ?_, ?_⟩ <;> simp [World.cell?, World.frozen?, h]

/-- Does a bind bind a variable to itself? -/
def selfB (x : Bd) : Prop := x.t.fn = -1 - x.v ∧ x.t.args.length = 0

instance (x : Bd) : Decidable (selfB x) := inferInstanceAs (Decidable (_ ∧ _))

end Go.Proofs.Ytgjmodclgdkodaa

namespace Go.Proofs.Ytgjmodclgdkodaa

open Go.RowKit Go.Shelf
set_option maxRecDepth 100000

/-- Variables do not fall. -/
def Rise (l : List Bd) : Prop := ∀ (i j : Nat) (x y : Bd), i ≤ j → l[i]? = some x → l[j]? = some y → x.v ≤ y.v

end Go.Proofs.Ytgjmodclgdkodaa

namespace Go.Proofs.Ytgjmodclgdkodaa

open Go.RowKit Go.Shelf
set_option maxRecDepth 100000

theorem info_bind : (Try.prog.info? 48).map (fun i => (i.zero, i.size, i.bytes)) = some (some (.agg #[.int .i64 0, .int .i64 0, .slice none 0 0]), 3, 40) := by kernel_rfl

/-- What a variable is bound to, by the first bind of it. -/
def findB (l : List Bd) (v : Int) : Option Bd := l.find? fun x => decide (x.v = v)

theorem findB_at {l : List Bd} {v : Int} {k : Nat} {x : Bd} (hx : l[k]? = some x) (hv : x.v = v) (hlow : ∀ (i : Nat) (y : Bd), i < k → l[i]? = some y → y.v < v) : findB l v = some x := by
  unfold findB
  rw [List.find?_eq_some_iff_getElem]
  obtain ⟨hlt, he⟩ := List.getElem?_eq_some_iff.1 hx
  refine ⟨by simpa using hv, k, hlt, he, fun j hj => ?_⟩
  have := hlow j _ hj (List.getElem?_eq_getElem (by omega))
  simp
  omega

theorem findB_none {l : List Bd} {v : Int} (h : ∀ (i : Nat) (y : Bd), l[i]? = some y → y.v ≠ v) : findB l v = none := by
  unfold findB
  rw [List.find?_eq_none]
  intro x hx
  obtain ⟨i, hi⟩ := List.mem_iff_getElem?.1 hx
  simpa using h i x hi

def HalvePost (l : List Bd) (v : Int) (N : Nat → Prop) (w : World) (e : Ending) (w' : World) : Prop := Below w.heap.size w w' ∧
  match findB l v with
  | none => e = .returned (.tuple #[.agg #[.int .i64 0, .int .i64 0, .slice none 0 0], .bool false])
  | some x => ∃ A' c', e = .returned (.tuple #[.agg #[.int .i64 x.v, .int .i64 x.t.fn, .slice A' x.t.args.length c'], .bool true]) ∧ I64 x.v ∧ I64 x.t.fn ∧ ArgsN w N A' x.t.args

structure HvI (l : List Bd) (v : Int) (lo hi : Nat) : Prop where
  le : lo ≤ hi
  len : hi ≤ l.length
  low : ∀ (i : Nat) (y : Bd), i < lo → l[i]? = some y → y.v < v
  high : ∀ (i : Nat) (y : Bd), hi ≤ i → l[i]? = some y → v ≤ y.v

theorem set3_three {W : World} {b : Nat} {x y z u v t : Value} {ty : TypeId} (h : W.heap[b]? = some (.cells #[x, y, z] ty)) : (((W.setCell ⟨b, 0, none⟩ u).setCell ⟨b, 1, none⟩ v).setCell ⟨b, 2, none⟩ t).heap[b]? = some (.cells #[u, v, t] ty) :=
  have h1 : (W.setCell ⟨b, 0, none⟩ u).heap[b]? = some (.cells #[u, y, z] ty) := heap_setCell_same W _ 0 _ _ _ h
  have h2 : ((W.setCell ⟨b, 0, none⟩ u).setCell ⟨b, 1, none⟩ v).heap[b]? = some (.cells #[u, v, z] ty) := heap_setCell_same _ _ 1 _ _ _ h1
  heap_setCell_same _ _ 2 _ _ _ h2

end Go.Proofs.Ytgjmodclgdkodaa

namespace Go.Proofs.Ytgjmodclgdkodaa

open Go.RowKit Go.Shelf
set_option maxRecDepth 100000

def FinderPost (l : List Bd) (v : Int) (w : World) (e : Ending) (w' : World) : Prop := Below w.heap.size w w' ∧
  match findB l v with
  | none => e = .returned (.tuple #[.agg #[.int .i64 0, .slice none 0 0], .bool false])
  | some x => ∃ A' c', e = .returned (.tuple #[.agg #[.int .i64 x.t.fn, .slice A' x.t.args.length c'], .bool true]) ∧ I64 x.t.fn ∧ Args w w.heap.size A' x.t.args

theorem alloc_old {W : World} {b : Nat} {x o : Obj} (h : W.heap[b]? = some x) : (W.alloc o).heap[b]? = some x :=
  (((Below.refl W.heap.size W).alloc (Nat.le_refl _) o).block _ (Array.getElem?_eq_some_iff.1 h).1).trans h

end Go.Proofs.Ytgjmodclgdkodaa

namespace Go.Proofs.Ytgjmodclgdkodaa

open Go.RowKit Go.Shelf
set_option maxRecDepth 100000

mutual
def appT (g : Int → Option Tm) : Tm → Tm
  | .node f xs => (if f < 0 then g (-1 - f) else none).getD (.node f (appL g xs))
def appL (g : Int → Option Tm) : List Tm → List Tm
  | [] => []
  | t :: ts => appT g t :: appL g ts
end

theorem appL_eq (g : Int → Option Tm) : ∀ xs : List Tm, appL g xs = xs.map (appT g)
  | [] => by simp only [appL, List.map_nil]
  | t :: ts => by simp only [appL, appL_eq g ts, List.map_cons]

/-- What is put in for a variable. -/
def bdT (l : List Bd) (v : Int) : Option Tm := (findB l v).map Bd.t

/-- The binds, in blocks under B0, and the box that holds them. -/
structure PutC (l : List Bd) (A : Option Addr) (c bs B0 : Nat) (w : World) : Prop where
  len : l.length ≤ 4611686018427387904
  binds : Binds w (· < B0) A l
  rise : Rise l
  small : ∀ x ∈ l, x.t.size ≤ 4398046511104
  lt : bs < B0
  box : Boxed w bs 43 (.slice A l.length c)

theorem PutC.keep {l : List Bd} {A : Option Addr} {c bs B0 : Nat} {w w' : World} (h : PutC l A c bs B0 w) (hk : Keeps (· < B0) w w') : PutC l A c bs B0 w' :=
  ⟨h.len, h.binds.keep fun g e => hk.block g e, h.rise, h.small, h.lt, (hk.block _ h.lt).trans h.box⟩

/-- A term of memory of its own. -/
def NewPost (t : Tm) (w : World) (e : Ending) (w' : World) : Prop :=
  ∃ A' c', e = .returned (.agg #[.int .i64 t.fn, .slice A' t.args.length c']) ∧ I64 t.fn ∧ OwnT w' w.heap.size w'.heap.size A' t.args ∧ Below w.heap.size w w'

end Go.Proofs.Ytgjmodclgdkodaa

namespace Go.Proofs.Ytgjmodclgdkodaa

open Go.RowKit Go.Shelf
set_option maxRecDepth 100000

theorem put_fin {y : Tm} {A3 : Option Addr} {c3 n : Nat} {w w1 w3 : World} (hb : Below w.heap.size w w1) (hk : Below w1.heap.size w1 w3) (hO : OwnT w3 w1.heap.size w3.heap.size A3 y.args) (hi : I64 y.fn) (hn1 : w.heap.size ≤ n) (hn2 : n < w1.heap.size) :
    NewPost y w (.returned (.agg #[.int .i64 y.fn, .slice A3 y.args.length c3])) ((w3.setCell ⟨n, 0, none⟩ (.int .i64 y.fn)).setCell ⟨n, 1, none⟩ (.slice A3 y.args.length c3)) := by
  have hoth : ∀ g, g ≠ n → ((w3.setCell ⟨n, 0, none⟩ (.int .i64 y.fn)).setCell ⟨n, 1, none⟩ (.slice A3 y.args.length c3)).heap[g]? = w3.heap[g]? := fun g e => (heap_setCell_other _ _ _ _ e).trans (heap_setCell_other _ _ _ _ e)
  have hs := hb.size
  exact ⟨A3, c3, rfl, hi, OwnT.wide (lo := w1.heap.size) (hi := w3.heap.size) (hO.keep fun g h1 _ => hoth g (by omega)) (by omega) (by simp), ((hb.trans (hk.mono hs)).setCell (by show _ ≤ n; omega) _).setCell (by show _ ≤ n; omega) _⟩

end Go.Proofs.Ytgjmodclgdkodaa

namespace Go.Proofs.Ytgjmodclgdkodaa

open Go.RowKit Go.Shelf
set_option maxRecDepth 100000

@[local go_sem] theorem run_store_func {P : Program} {w : World} {a : Addr} {m : Mode} (f : Fn) (ts cs : Array Value) : (store a (.func f ts cs) m).run P w = stored P w a (.func f ts cs) m := run_store P w a _ m rfl

end Go.Proofs.Ytgjmodclgdkodaa

/- A region that draws its order, whose operations read, and whose calls may make memory: one walk, in the order of the text. -/

namespace Go.Proofs.Ytgjmodclgdkodaa

open Go Go.RowKit

/-- A world in which all that lay below n in W lies as it lay. -/
structure Later (n : Nat) (W : World) where
  w : World
  h : Below n W w

instance (n : Nat) (W : World) : Nonempty (Later n W) := ⟨⟨W, Below.refl _ _⟩⟩

def Later.step {n : Nat} {W : World} (x : Later n W) {w' : World} (h : Below x.w.heap.size x.w w') (hn : n ≤ W.heap.size) : Later n W := ⟨w', x.h.trans (h.mono (Nat.le_trans hn x.h.size))⟩

theorem wp_region_later {P : Program} {id : Nat} {Q : Exit → Act → World → Prop} {a : Act} {w : World} {l : List Oper} (n : Nat) (W : World) (hm : P.follows .mixedOrders = true) (hB : Region.lexB .any l.toArray = true) (h0 : Below n W w.drew)
    (h : wpQuiet P l.toArray (fun w' => ∃ x : Later n W, w' = x.w) (fun a' => ∀ w', (∃ x : Later n W, w' = x.w) → Q .normal a' w') l a) : (Code.region id l.toArray true).wp P Q a w :=
  wp_region_quiet (C := fun w' => ∃ x : Later n W, w' = x.w) hm hB ⟨⟨_, h0⟩, rfl⟩ (by simpa using h)

/-- A call's contract, met in a later world. -/
theorem calls_later {P : Program} {f : FuncId} {args : Array Value} {n : Nat} {W : World} {v : Value} (x : Later n W) (hn : n ≤ W.heap.size) (h : Calls P f args x.w fun e w' => e = .returned v ∧ Below x.w.heap.size x.w w') :
    Calls P f args x.w fun e w' => e = .returned v ∧ ∃ y : Later n W, w' = y.w :=
  h.mono fun _ _ ⟨he, hb⟩ => ⟨he, x.step hb hn, rfl⟩

end Go.Proofs.Ytgjmodclgdkodaa

/- Check. -/

namespace Go.Proofs.Ytgjmodclgdkodaa

open Go.RowKit Go.Shelf
set_option maxRecDepth 100000

/-- Variables rise. -/
def RiseS (l : List Bd) : Prop := ∀ (i j : Nat) (x y : Bd), i < j → l[i]? = some x → l[j]? = some y → x.v < y.v

theorem RiseS.rise {l : List Bd} (h : RiseS l) : Rise l := fun i j x y hij hx hy => by
  rcases Nat.lt_or_ge i j with h1 | h1
  · exact Int.le_of_lt (h i j x y h1 hx hy)
  · obtain rfl : i = j := by omega
    rw [hx] at hy
    injection hy with hy
    rw [hy]
    exact Int.le_refl _

/-- Does it rise from lo on, and is no variable bound to itself? -/
def chkFrom (lo : Int) : List Bd → Bool
  | [] => true
  | x :: xs => decide (lo < x.v) && (!decide (selfB x) && chkFrom x.v xs)

def chkB (l : List Bd) : Bool := chkFrom (-1) l

/-- What Check tells. -/
def chkN (l : List Bd) : Int := if chkB l = true then 0 else 2

theorem chkN_yes {l : List Bd} (h : chkB l = true) : chkN l = 0 := by unfold chkN; rw [if_pos h]

theorem chkN_no {l : List Bd} (h : chkB l = false) : chkN l = 2 := by unfold chkN; rw [h]; rfl

/-- How far Check has come: lo is the last variable. -/
structure ChkI (l : List Bd) (k : Nat) (lo : Int) : Prop where
  ge : -1 ≤ lo
  first : k = 0 → lo = -1
  last : ∀ (m : Nat) (y : Bd), k = m + 1 → l[m]? = some y → y.v = lo
  rest : chkFrom lo (l.drop k) = chkB l

theorem ChkI.start (l : List Bd) : ChkI l 0 (-1) := ⟨Int.le_refl _, fun _ => rfl, fun m y h => by omega, rfl⟩

section

variable {l : List Bd} {k : Nat} {lo : Int} {x : Bd}

theorem ChkI.cons (h : ChkI l k lo) (hx : l[k]? = some x) : chkB l = (decide (lo < x.v) && (!decide (selfB x) && chkFrom x.v (l.drop (k + 1)))) := by
  obtain ⟨hlt, hx'⟩ := List.getElem?_eq_some_iff.1 hx
  rw [← h.rest, List.drop_eq_getElem_cons hlt, hx']
  rfl

theorem ChkI.low (h : ChkI l k lo) (hx : l[k]? = some x) (hn : ¬ lo < x.v) : chkB l = false := by
  rw [h.cons hx, decide_eq_false hn]
  rfl

theorem ChkI.self (h : ChkI l k lo) (hx : l[k]? = some x) (hn : selfB x) : chkB l = false := by
  rw [h.cons hx, decide_eq_true hn]
  simp

theorem ChkI.next (h : ChkI l k lo) (hx : l[k]? = some x) (h1 : lo < x.v) (hn : ¬ selfB x) : ChkI l (k + 1) x.v :=
  ⟨by have := h.ge; omega, fun e => by omega, fun m y e hy => by obtain rfl : m = k := by omega
                                                                 rw [hx] at hy; injection hy with hy; rw [hy], by rw [h.cons hx, decide_eq_true h1, decide_eq_false hn]; rfl⟩

theorem ChkI.done (h : ChkI l k lo) (hk : l.length ≤ k) : chkB l = true := by
  rw [← h.rest, List.drop_eq_nil_of_le hk]
  rfl

end

end Go.Proofs.Ytgjmodclgdkodaa

/- kbo's each: a term and all that stands in it, till the function that is handed over says no. -/

namespace Go.Proofs.Ytgjmodclgdkodaa

open Go.RowKit Go.Shelf
set_option maxRecDepth 100000

section

variable {σ : Type} (vs : σ → Tm → σ × Bool)

mutual
def evT : σ → Tm → σ × Bool
  | s, .node f xs => if (vs s (.node f xs)).2 then evL (vs s (.node f xs)).1 xs else ((vs s (.node f xs)).1, false)
def evL : σ → List Tm → σ × Bool
  | s, [] => (s, true)
  | s, t :: ts => if (evT s t).2 then evL (evT s t).1 ts else ((evT s t).1, false)
end

end

section

variable {σ : Type} (V : σ → Tm → Prop) (vs : σ → Tm → σ × Bool)

mutual
/-- All that is asked on the way may be asked. -/
def okT : σ → Tm → Prop
  | s, .node f xs => V s (.node f xs) ∧ ((vs s (.node f xs)).2 = true → okL (vs s (.node f xs)).1 xs)
def okL : σ → List Tm → Prop
  | _, [] => True
  | s, t :: ts => okT s t ∧ ((evT vs s t).2 = true → okL (evT vs s t).1 ts)
end

end

theorem okL_drop {σ : Type} {V : σ → Tm → Prop} {vs : σ → Tm → σ × Bool} {s : σ} {xs : List Tm} {k : Nat} {u : Tm} (h : xs[k]? = some u) (hk : okL V vs s (xs.drop k)) : okT V vs s u ∧ ((evT vs s u).2 = true → okL V vs (evT vs s u).1 (xs.drop (k + 1))) := by
  obtain ⟨h1, h2⟩ := List.getElem?_eq_some_iff.1 h
  rw [List.drop_eq_getElem_cons h1, h2, okL] at hk
  exact hk

theorem evL_drop {σ : Type} {vs : σ → Tm → σ × Bool} {s : σ} {xs : List Tm} {k : Nat} {u : Tm} (h : xs[k]? = some u) : evL vs s (xs.drop k) = if (evT vs s u).2 then evL vs (evT vs s u).1 (xs.drop (k + 1)) else ((evT vs s u).1, false) := by
  obtain ⟨h1, h2⟩ := List.getElem?_eq_some_iff.1 h
  rw [List.drop_eq_getElem_cons h1, h2, evL]

/-- What is asked of the function that is handed over. -/
structure VisC {σ : Type} (V : σ → Tm → Prop) (vs : σ → Tm → σ × Bool) (k : FuncId) (cv : Array Value) (C D N : Nat → Prop) (I : σ → World → Prop) (B0 : Nat) : Prop where
  ent : ∀ (args : Array Value) (w : World), (callFunc k args).run Try.prog w = .ok (.enter k args) w
  call : ∀ (s : σ) (t : Tm) (A : Option Addr) (c : Nat) (W : World), B0 ≤ W.heap.size → I s W → I64 t.fn → V s t → ArgsN W N A t.args → Calls Try.prog k (#[.agg #[.int .i64 t.fn, .slice A t.args.length c]] ++ cv) W fun e W' => e = .returned (.bool (vs s t).2) ∧ I (vs s t).1 W' ∧ KeepsC C W W'
  stay : ∀ s W W', I s W → Keeps D W W' → I s W'
  cb : ∀ g, C g → g < B0
  db : ∀ g, D g → g < B0
  nb : ∀ g, N g → g < B0
  nc : ∀ g, N g → ¬ C g

def VisPost {σ : Type} (C : Nat → Prop) (I : σ → World → Prop) (r : σ × Bool) (w : World) (e : Ending) (w' : World) : Prop := e = .returned (.bool r.2) ∧ I r.1 w' ∧ KeepsC C w w'

section

variable {σ : Type} {V : σ → Tm → Prop} {vs : σ → Tm → σ × Bool} {k : FuncId} {cv : Array Value} {C D N : Nat → Prop} {I : σ → World → Prop} {B0 : Nat}

def EachAt (V : σ → Tm → Prop) (vs : σ → Tm → σ × Bool) (k : FuncId) (cv : Array Value) (C N : Nat → Prop) (I : σ → World → Prop) (B0 vb wb : Nat) (t : Tm) : Prop :=
  ∀ (s : σ) (A : Option Addr) (c : Nat) (w : World), B0 ≤ w.heap.size → Boxed w vb 116 (.func (.func k) #[] cv) → Boxed w wb 116 (.func (.func 81) #[] #[.pointer (some ⟨vb, 0, none⟩), .pointer (some ⟨wb, 0, none⟩)]) →
    I s w → I64 t.fn → okT V vs s t → ArgsN w N A t.args →
    Calls Try.prog 81 #[.agg #[.int .i64 t.fn, .slice A t.args.length c], .pointer (some ⟨vb, 0, none⟩), .pointer (some ⟨wb, 0, none⟩)] w (VisPost C I (evT vs s t) w)

set_option maxHeartbeats 2000000 in
theorem each1_any (hN : VisC V vs k cv C D N I B0) (vb wb : Nat) (hvC : ¬ C vb) (hwC : ¬ C wb) (t : Tm) : EachAt V vs k cv C N I B0 vb wb t := by
  refine Tm.ind (P := EachAt V vs k cv C N I B0 vb wb) (fun f xs ih => ?_) t
  intro s A c w hB0 hvb hwb hs hf hV hA
  rw [okT] at hV
  obtain ⟨hV0, hVx⟩ := hV
  simp only [Tm.fn, Tm.args] at hf hA ⊢
  have hlen := hA.len
  have q0 := heap_alloc_new w (.cells #[.int .i64 f, .slice A xs.length c] 39)
  obtain ⟨W, hW⟩ : ∃ W, w.alloc (.cells #[.int .i64 f, .slice A xs.length c] 39) = W := ⟨_, rfl⟩
  have hB : Below w.heap.size w W := by rw [← hW]; exact (Below.refl _ _).alloc (Nat.le_refl _) _
  rw [hW] at q0
  have hWs : w.heap.size < W.heap.size := (Array.getElem?_eq_some_iff.1 q0).1
  have hnC : ∀ g, w.heap.size ≤ g → ¬ C g := fun g h e => by have := hN.cb _ e; omega
  have hnD : ∀ g, D g → g < w.heap.size := fun g e => by have := hN.db _ e; omega
  have hkW : KeepsC C w W := KeepsC.of_below hB
  obtain ⟨x0, x1, _, _⟩ := cells_two q0
  have hcv := Boxed.cell (show Boxed W vb _ _ from (hB.block _ hvb.lt).trans hvb)
  have H1 := Lib.hid (hN.call s (.node f xs) A c W (by omega) (hN.stay s w W hs ((Keeps.of_below hB).mono fun g e => hnD g e)) hf hV0 (hA.keep fun g e => hB.block g (by have := hN.nb g e; omega)))
  have hent := hN.ent
  have HW := Lib.hid hW
  have HN := Lib.hid hN
  have HA := Lib.hid hA
  have hev : evT vs s (.node f xs) = if (vs s (.node f xs)).2 then evL vs (vs s (.node f xs)).1 xs else ((vs s (.node f xs)).1, false) := by rw [evT]
  have Hev := Lib.hid hev
  obtain ⟨r0, hr0⟩ : ∃ r0, vs s (.node f xs) = r0 := ⟨_, rfl⟩
  have H1 : Hid (Calls Try.prog k (#[.agg #[.int .i64 f, .slice A xs.length c]] ++ cv) W fun e W' => e = .returned (.bool r0.2) ∧ I r0.1 W' ∧ KeepsC C W W') := by rw [← hr0]; exact H1
  rw [hr0] at Hev hVx
  clear hW hA hs hN hev hr0
  rcases hr : r0.2 with _ | _
  · have Hr := Lib.hid hr
    clear hr hVx
    go_enter Try.func81, Try.ntmps81
    go_upto_region 1 with fail
    rw [HW.out]
    go_wp2_with (first
      | ((with_reducible refine H1.out.mono ?_); go_must (rintro e w1 ⟨rfl, hI1, hk1⟩; rw [Hr.out]; have hI1 := Lib.hid hI1))
      | fail)
    go_ret
    exact ⟨by rw [Hev.out, Hr.out]; rfl, by rw [Hev.out, Hr.out]; exact hI1.out, hkW.trans hk1⟩
  · have Hr := Lib.hid hr
    have HV0 : Hid (okL V vs r0.1 (xs.drop 0)) := Lib.hid (hVx hr)
    clear hr hVx
    have Hev : Hid (evT vs s (.node f xs) = evL vs r0.1 xs) := Lib.hid (by rw [Hev.out, Hr.out]; rfl)
    have Hvb := Lib.hid hvb
    have Hwb := Lib.hid hwb
    clear hvb hwb
    go_enter Try.func81, Try.ntmps81
    go_upto_region 1 with fail
    rw [HW.out]
    go_wp2_with (first
      | ((with_reducible refine H1.out.mono ?_); go_must (rintro e w1 ⟨rfl, hI1, hk1⟩; rw [Hr.out]; have hI1 := Lib.hid hI1; obtain ⟨y0, y1, _, _⟩ := cells_two ((hk1.block hWs (hnC _ (Nat.le_refl _))).trans q0)))
      | fail)
    have hK1 := hkW.trans hk1
    have HE0 : Hid (evL vs r0.1 xs = evL vs r0.1 (xs.drop 0)) := Lib.hid rfl
    clear x0 x1 hcv
    go_loopw [14] (fun i wr => ∃ (j : Nat) (s' : σ), j ≤ xs.length ∧ i = .int .i64 (j : Int) ∧ KeepsC C w wr ∧ Hid (I s' wr) ∧ Hid (evL vs r0.1 xs = evL vs s' (xs.drop j)) ∧ Hid (okL V vs s' (xs.drop j))) (fun i _ => xs.length - (intOf i).toNat)
    case atStart => exact ⟨0, r0.1, Nat.zero_le _, rfl, hK1, hI1, HE0, HV0⟩
    case round =>
      obtain ⟨j, s', hj, rfl, hKr, HI, HE, HV⟩ := hrel
      by_cases hlt : j < xs.length
      · obtain ⟨u, hu⟩ : ∃ u, xs[j]? = some u := ⟨_, List.getElem?_eq_getElem hlt⟩
        obtain ⟨bb, off, A1, c1, rfl, ha⟩ := (HA.out.keep fun g e => hKr.block (by have := HN.out.nb g e; omega) (HN.out.nc g e)).get hu
        have e0 := ha.c0
        have e1 := ha.c1
        have hzr := hKr.size
        have r0' := heap_alloc_new wr (.cells #[.int .i64 u.fn, .slice A1 u.args.length c1] 39)
        obtain ⟨W1, hW1⟩ : ∃ W1, wr.alloc (.cells #[.int .i64 u.fn, .slice A1 u.args.length c1] 39) = W1 := ⟨_, rfl⟩
        have hB1 : Below wr.heap.size wr W1 := by rw [← hW1]; exact (Below.refl _ _).alloc (Nat.le_refl _) _
        rw [hW1] at r0'
        have hW1s : wr.heap.size < W1.heap.size := (Array.getElem?_eq_some_iff.1 r0').1
        obtain ⟨z0, z1, _, _⟩ := cells_two r0'
        have hKW1 : KeepsC C w W1 := hKr.trans (KeepsC.of_below hB1)
        have hvb1 : Boxed W1 vb 116 (.func (.func k) #[] cv) := (hKW1.block Hvb.out.lt hvC).trans Hvb.out
        have hwb1 : Boxed W1 wb 116 (.func (.func 81) #[] #[.pointer (some ⟨vb, 0, none⟩), .pointer (some ⟨wb, 0, none⟩)]) := (hKW1.block Hwb.out.lt hwC).trans Hwb.out
        have hcw := hwb1.cell
        have hmem := List.mem_of_getElem? hu
        obtain ⟨hVu, hVn⟩ := okL_drop hu HV.out
        have hcall := Lib.hid (ih u hmem s' A1 c1 W1 (by omega) hvb1 hwb1 (HN.out.stay s' wr W1 HI.out ((Keeps.of_below hB1).mono fun g e => by have := hnD g e; show g < wr.heap.size; omega)) ha.hi hVu (ha.sub.keep fun g e => hB1.block g (by have := HN.out.nb g e; omega)))
        have hd := evL_drop (vs := vs) (s := s') hu
        have HW1 := Lib.hid hW1
        obtain ⟨r1, hr1⟩ : ∃ r1, evT vs s' u = r1 := ⟨_, rfl⟩
        rw [hr1] at hcall hd hVn
        have HVn := Lib.hid hVn
        have Hd := Lib.hid hd
        clear hW1 ha hu hd hr1 hvb1 hwb1 hVu hVn
        rcases hr : r1.2 with _ | _
        · have Hr1 := Lib.hid hr
          clear hr
          go_upto_region 6 with fail
          rw [HW1.out]
          go_wp2_with (first
            | (go_at_call 81; (with_reducible refine hcall.out.mono ?_); go_must (rintro e w2 ⟨rfl, hI2, hk2⟩; rw [Hr1.out]; have hI2 := Lib.hid hI2))
            | fail)
          go_ret
          have hfin : evT vs s (.node f xs) = (r1.1, false) := by rw [Hev.out, HE.out, Hd.out, Hr1.out]; rfl
          exact ⟨ret_bool (by rw [hfin]), by rw [hfin]; exact hI2.out, hKW1.trans hk2⟩
        · have Hr1 := Lib.hid hr
          have HE2 : Hid (evL vs r0.1 xs = evL vs r1.1 (xs.drop (j + 1))) := Lib.hid (by rw [HE.out, Hd.out, hr]; rfl)
          have HV2 : Hid (okL V vs r1.1 (xs.drop (j + 1))) := Lib.hid (HVn.out hr)
          clear hr
          go_upto_region 6 with fail
          rw [HW1.out]
          go_wp2_with (first
            | (go_at_call 81; (with_reducible refine hcall.out.mono ?_); go_must (rintro e w2 ⟨rfl, hI2, hk2⟩; rw [Hr1.out]; have hI2 := Lib.hid hI2; have hK2 := hKW1.trans hk2))
            | fail)
          go_roundw
          case rel => exact ⟨j + 1, r1.1, by omega, by go_num, hK2, hI2, HE2, HV2⟩
          case measure => simp [intOf]; omega
      · obtain rfl : j = xs.length := by omega
        have hfin : Hid (evT vs s (.node f xs) = (s', true)) := Lib.hid (by rw [Hev.out, HE.out, List.drop_length, evL])
        go_wp2
        go_ret
        exact ⟨ret_bool (by rw [hfin.out]), by rw [hfin.out]; exact HI.out, hKr⟩

@[local go_sem] theorem run_store_visit {P : Program} {w : World} {a : Addr} {m : Mode} (f : Fn) (ts cs : Array Value) : (store a (.func f ts cs) m).run P w = stored P w a (.func f ts cs) m := run_store P w a _ m rfl

set_option maxHeartbeats 1000000 in
theorem each_any (hN : VisC V vs k cv C D N I B0) (t : Tm) (s : σ) (A : Option Addr) (c : Nat) (w : World) (hB0 : B0 ≤ w.heap.size) (hs : I s w) (hf : I64 t.fn) (hV : okT V vs s t) (hA : ArgsN w N A t.args) :
    Calls Try.prog 67 #[.agg #[.int .i64 t.fn, .slice A t.args.length c], .func (.func k) #[] cv] w (VisPost C I (evT vs s t) w) := by
  obtain ⟨q0, q1, q2⟩ := heap3 w (.cells #[.int .i64 t.fn, .slice A t.args.length c] 39) (.cells #[.func (.func k) #[] cv] 116) (.cells #[.func (.func 81) #[] #[.pointer (some ⟨w.heap.size + 1, 0, none⟩), .pointer (some ⟨w.heap.size + 1 + 1, 0, none⟩)]] 116)
  obtain ⟨W, hW⟩ : ∃ W, (((w.alloc (.cells #[.int .i64 t.fn, .slice A t.args.length c] 39)).alloc (.cells #[.func (.func k) #[] cv] 116)).alloc (.cells #[.func (.func 81) #[] #[.pointer (some ⟨w.heap.size + 1, 0, none⟩), .pointer (some ⟨w.heap.size + 1 + 1, 0, none⟩)]] 116)) = W := ⟨_, rfl⟩
  have hB : Below w.heap.size w W := by rw [← hW]; exact (((Below.refl _ _).alloc (Nat.le_refl _) _).alloc (by simp) _).alloc (by simp; omega) _
  rw [hW] at q0 q1 q2
  have hWs : w.heap.size + 1 + 1 < W.heap.size := (Array.getElem?_eq_some_iff.1 q2).1
  have hnC : ∀ g, w.heap.size ≤ g → ¬ C g := fun g h e => by have := hN.cb _ e; omega
  obtain ⟨x0, x1, _, _⟩ := cells_two q0
  have y0 := Boxed.cell (show Boxed W (w.heap.size + 1 + 1) _ _ from q2)
  have H1 := Lib.hid (each1_any hN (w.heap.size + 1) (w.heap.size + 1 + 1) (hnC _ (by omega)) (hnC _ (by omega)) t s A c W (by omega) q1 q2 (hN.stay s w W hs ((Keeps.of_below hB).mono fun g e => by have := hN.db _ e; show g < w.heap.size; omega)) hf hV (hA.keep fun g e => hB.block g (by have := hN.nb g e; omega)))
  have HW := Lib.hid hW
  clear hW hA hs hN
  go_enter Try.func67, Try.ntmps67
  go_upto_region 3 with fail
  rw [HW.out]
  go_wp2_with (first
    | (go_at_call 81; (with_reducible refine H1.out.mono ?_); go_must (rintro e w2 ⟨rfl, hI2, hk2⟩; have hI2 := Lib.hid hI2))
    | fail)
  go_ret
  exact ⟨rfl, hI2.out, (KeepsC.of_below hB).trans hk2⟩

end

end Go.Proofs.Ytgjmodclgdkodaa

