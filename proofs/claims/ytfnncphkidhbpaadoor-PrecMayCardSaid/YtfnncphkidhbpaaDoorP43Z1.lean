import Derived.Test.YtfnncphkidhbpaaDoorProg
import Derived.WalkKit
import Derived.WalkSpells
import Derived.WalkLawsBesides
import Derived.Lib.Hide
import Derived.Below
import Derived.Laws.OwnMore
import Derived.Deep.AppendLies
import Derived.Deep.Draws
import Derived.Laws.StructEq
import Derived.BigQuiet
import Derived.Deep.QuietTactic
import Derived.RangeFuncNested
import Derived.RangeFuncBound
import Derived.RangeFuncCalls
import Derived.RangeFuncLeaves
import Derived.Maps.AppendAt
import Derived.OwnWalk
import Derived.Deep.RegionHeld3
import Derived.Shelf.Abstract
import Derived.Shelf.RegionOpen
import Derived.OwnWalkIn
import Derived.TacticsInMore
import Derived.LoopNIn
import Derived.LoopIn
import Derived.Deep.DeepCutAuto
import Derived.RangeFuncBox
import Derived.Laws.EntriesVeiled
import Derived.Shelf.Sort.Plain
import Derived.Ground.Names2Prog
import Derived.Shelf.Slices.CompactI
import Derived.Shelf.Slices.In.SortNone
import Derived.Sort.OwnSortedInts
import Derived.Lib.RowBridge
import Derived.Sort.Grow
/- Plain words on memory, symbols and signatures; '==' of two symbols. -/

namespace Go.Proofs.YtfnncphkidhbpaaDoor

open Go.RowKit

theorem ret_int {k : IntKind} {a b : Int} (h : a = b) : Ending.returned (.int k a) = .returned (.int k b) := by rw [h]

theorem ret_bool {a b : Bool} (h : a = b) : Ending.returned (.bool a) = .returned (.bool b) := by rw [h]

theorem bl_drewN {B : Nat} {a w : World} (h : Below B a w) (n : Nat) : Below B a (w.drewN n) := ⟨h.os, h.tape, h.output, h.size, h.block⟩

theorem bl_drewN' {B : Nat} {a w : World} {n : Nat} (h : Below B a (w.drewN n)) : Below B a w := ⟨h.os, h.tape, h.output, h.size, h.block⟩

/-- A call's new memory lies above what the caller keeps. -/
theorem bl_step {w w1 w2 : World} (h : Below w.heap.size w w1) (h' : Below w1.heap.size w1 w2) : Below w.heap.size w w2 := h.trans (h'.mono h.size)

/-- A symbol. -/
structure Sm where
  name : ByteArray
  arity : Int
  pred : Bool
  deriving DecidableEq

instance : Inhabited Sm := ⟨⟨ByteArray.empty, 0, false⟩⟩

def Sm.cells (x : Sm) : List Value := [.string x.name, .int .i64 x.arity, .bool x.pred]

structure Sm.Ok (x : Sm) : Prop where
  size : x.name.size ≤ maxLen
  lo : -9223372036854775808 ≤ x.arity
  hi : x.arity ≤ 9223372036854775807

theorem sm_ext {x y : Sm} (h : x.name = y.name ∧ x.arity = y.arity ∧ x.pred = y.pred) : x = y := by
  obtain ⟨a, b, c⟩ := x
  obtain ⟨a', b', c'⟩ := y
  obtain ⟨rfl, rfl, rfl⟩ := h
  rfl

theorem sm_ne {x y : Sm} (h : ¬x.name = y.name ∨ ¬x.arity = y.arity ∨ ¬x.pred = y.pred) : x ≠ y := by
  rintro rfl
  rcases h with h | h | h <;> exact h rfl

theorem flat_get (l : List Sm) (i r : Nat) (hr : r < 3) : (l.flatMap Sm.cells)[i * 3 + r]? = (l[i]?).bind fun x => x.cells[r]? := by
  induction l generalizing i with
  | nil => simp
  | cons x l ih =>
    have hlen : x.cells.length = 3 := rfl
    rw [List.flatMap_cons]
    cases i with
    | zero => rw [List.getElem?_append_left (by omega)]; simp
    | succ i =>
      rw [List.getElem?_append_right (by omega), hlen, show (i + 1) * 3 + r - 3 = i * 3 + r from by omega, ih]
      simp

theorem flat_len (l : List Sm) : (l.flatMap Sm.cells).length = l.length * 3 := by
  induction l with
  | nil => rfl
  | cons x l ih =>
    have hlen : x.cells.length = 3 := rfl
    rw [List.flatMap_cons, List.length_append, ih, hlen, List.length_cons]
    omega

theorem flat_one (l : List Sm) : ∀ u ∈ l.flatMap Sm.cells, u.oneCell' = true := by
  intro u hu
  obtain ⟨x, _, hx⟩ := List.mem_flatMap.1 hu
  simp only [Sm.cells, List.mem_cons, List.not_mem_nil, or_false] at hx
  rcases hx with rfl | rfl | rfl <;> rfl

/-- The slice value (A, n) holds the symbols l; its cells lie below block B. -/
structure Syms (w : World) (B : Nat) (A : Option Addr) (n : Nat) (l : List Sm) : Prop where
  len : l.length = n
  ok : ∀ x ∈ l, x.Ok
  ad : 0 < n → ∃ b off, A = some ⟨b, off, none⟩ ∧ b < B ∧ ∀ i x, l[i]? = some x →
    w.cell? ⟨b, off + i * 3, none⟩ = some (.string x.name) ∧ w.cell? ⟨b, off + i * 3 + 1, none⟩ = some (.int .i64 x.arity) ∧ w.cell? ⟨b, off + i * 3 + 2, none⟩ = some (.bool x.pred)

section

variable {w w' : World} {B B' n : Nat} {A : Option Addr} {l : List Sm}

theorem Syms.keep (h : Syms w B A n l) (hk : ∀ p : Addr, p.block < B → w'.cell? p = w.cell? p) : Syms w' B A n l :=
  ⟨h.len, h.ok, fun hn => by
    obtain ⟨b, off, hA, hlt, hc⟩ := h.ad hn
    refine ⟨b, off, hA, hlt, fun i x hi => ?_⟩
    obtain ⟨h1, h2, h3⟩ := hc i x hi
    exact ⟨(hk ⟨b, _, none⟩ hlt).trans h1, (hk ⟨b, _, none⟩ hlt).trans h2, (hk ⟨b, _, none⟩ hlt).trans h3⟩⟩

theorem Syms.below (h : Syms w B A n l) (hb : Below B w w') : Syms w' B A n l := h.keep fun _ hp => hb.cell hp

theorem Syms.drewN (h : Syms w B A n l) (k : Nat) : Syms (w.drewN k) B A n l := h.keep fun _ _ => rfl

theorem Syms.more (h : Syms w B A n l) (hB : B ≤ B') : Syms w B' A n l :=
  ⟨h.len, h.ok, fun hn => by
    obtain ⟨b, off, hA, hlt, hc⟩ := h.ad hn
    exact ⟨b, off, hA, by omega, hc⟩⟩

theorem Syms.nil_ (w : World) (B : Nat) (A : Option Addr) : Syms w B A 0 [] := ⟨rfl, fun x hx => by simp at hx, fun h => absurd h (by omega)⟩

/-- A later world of a call: its memory is kept, and reaches further. -/
theorem Syms.on (h : Syms w w.heap.size A n l) (hb : Below w.heap.size w w') : Syms w' w'.heap.size A n l := (h.below hb).more hb.size

theorem Syms.flat (h : Syms w B A n l) (hn : 0 < n) : ∃ b off, A = some ⟨b, off, none⟩ ∧ b < B ∧ ∀ j u, (l.flatMap Sm.cells)[j]? = some u → w.cell? ⟨b, off + j, none⟩ = some u := by
  obtain ⟨b, off, hA, hlt, hc⟩ := h.ad hn
  refine ⟨b, off, hA, hlt, fun j u hu => ?_⟩
  have hj : j = j / 3 * 3 + j % 3 := by omega
  have hr : j % 3 < 3 := Nat.mod_lt _ (by omega)
  generalize j / 3 = i at hj
  generalize j % 3 = r at hj hr
  subst hj
  rw [flat_get _ _ _ hr] at hu
  cases hx : l[i]? with
  | none => rw [hx] at hu; simp at hu
  | some x =>
    rw [hx] at hu
    obtain ⟨h1, h2, h3⟩ := hc i x hx
    match r, hr with
    | 0, _ => simp [Sm.cells] at hu; rw [← hu]; exact h1
    | 1, _ => simp [Sm.cells] at hu; rw [← hu]; exact h2
    | 2, _ => simp [Sm.cells] at hu; rw [← hu]; exact h3

theorem Syms.of_flat (hl : l.length = n) (hok : ∀ x ∈ l, x.Ok) (h : 0 < n → ∃ b off, A = some ⟨b, off, none⟩ ∧ b < B ∧ ∀ j u, (l.flatMap Sm.cells)[j]? = some u → w.cell? ⟨b, off + j, none⟩ = some u) : Syms w B A n l :=
  ⟨hl, hok, fun hn => by
    obtain ⟨b, off, hA, hlt, hc⟩ := h hn
    refine ⟨b, off, hA, hlt, fun i x hx => ⟨?_, ?_, ?_⟩⟩
    · exact hc (i * 3) _ (by have := flat_get l i 0 (by omega); rw [Nat.add_zero] at this; rw [this, hx]; rfl)
    · exact (congrArg w.cell? (by simp)).trans (hc (i * 3 + 1) _ (by rw [flat_get _ _ _ (by omega), hx]; rfl))
    · exact (congrArg w.cell? (by simp)).trans (hc (i * 3 + 2) _ (by rw [flat_get _ _ _ (by omega), hx]; rfl))⟩

end

/-- Are two symbols the same? (A plain definition: the walk does not open it.) -/
def smB (a : ByteArray) (b : Int) (c : Bool) (a' : ByteArray) (b' : Int) (c' : Bool) : Bool := decide ((⟨a, b, c⟩ : Sm) = ⟨a', b', c'⟩)

theorem smB_true {x y : Sm} (h : x = y) : smB x.name x.arity x.pred y.name y.arity y.pred = true := by subst h; simp [smB]

theorem smB_false {x y : Sm} (h : x ≠ y) : smB x.name x.arity x.pred y.name y.arity y.pred = false := by
  simp only [smB, decide_eq_false_iff_not]; exact h

theorem run_eql_sym (a a' : ByteArray) (b b' : Int) (c c' : Bool) (w : World) : Sem.run Tryd.prog (binOp .eql 62 (.agg #[.string a, .int .i64 b, .bool c]) (.agg #[.string a', .int .i64 b', .bool c'])) w =
    .ok (.bool (smB a b c a' b' c')) w := by
  have hS : Tryd.prog.underlying 62 = some (.struct (Tryd.prog.fieldsOf 62)) := by kernel_rfl
  have hp : Tryd.prog.stoodInHeld 62 = false := by kernel_rfl
  rw [run_eql_struct, show (10000 : Nat) = 9999 + 1 from rfl, run_equalIn_agg w 9999 62 _ _ hS hp]
  simp only [Program.fieldsOf, Tryd.underlying62]
  go_simp
  by_cases h1 : a = a'
  · by_cases h2 : b = b' <;> by_cases h3 : c = c' <;> simp [smB, h1, h2, h3]
  · have h1' : ¬ a.toList = a'.toList := fun e => h1 (by
      rw [ByteArray.toList_eq, ByteArray.toList_eq] at e
      exact ByteArray.ext (Array.toList_inj.1 e))
    simp [smB, h1, h1']

theorem run_neq_sym (a a' : ByteArray) (b b' : Int) (c c' : Bool) (w : World) : Sem.run Tryd.prog (binOp .neq 62 (.agg #[.string a, .int .i64 b, .bool c]) (.agg #[.string a', .int .i64 b', .bool c'])) w =
    .ok (.bool (!smB a b c a' b' c')) w := by
  have h := run_eql_sym a a' b b' c c' w
  simp only [binOp] at h ⊢
  rw [Sem.run_bind] at h ⊢
  revert h
  generalize Sem.run Tryd.prog (Op.equal 62 (.agg #[.string a, .int .i64 b, .bool c]) (.agg #[.string a', .int .i64 b', .bool c'])) w = r
  intro h
  cases r with
  | ok v w' =>
    simp only [Result.andThen_ok, Sem.run_pure] at h ⊢
    injection h with h1 h2
    injection h1 with h1
    rw [h1, h2]
  | halt x w' => simp [Result.andThen] at h

end Go.Proofs.YtfnncphkidhbpaaDoor

/- A range over a function whose iterator keeps cells of its own: what the body speaks of (C) and what the iterator owns lie apart. -/

namespace Go.Proofs.YtfnncphkidhbpaaDoor

open Go Go.RowKit

variable {F : Fence} {n : Nat} {P : Program} {α : Type}

/-- The blocks of S lie as they lay. -/
structure Keeps (S : Nat → Prop) (W W' : World) : Prop where
  os : W'.os = W.os
  tape : W'.tape = W.tape
  output : W'.output = W.output
  size : W.heap.size ≤ W'.heap.size
  block : ∀ g, S g → W'.heap[g]? = W.heap[g]?

theorem Keeps.refl (S : Nat → Prop) (W : World) : Keeps S W W := ⟨rfl, rfl, rfl, Nat.le_refl _, fun _ _ => rfl⟩

theorem Keeps.trans {S : Nat → Prop} {A B C : World} (h : Keeps S A B) (k : Keeps S B C) : Keeps S A C :=
  ⟨k.os.trans h.os, k.tape.trans h.tape, k.output.trans h.output, Nat.le_trans h.size k.size, fun g hg => (k.block g hg).trans (h.block g hg)⟩

theorem Keeps.mono {S T : Nat → Prop} {A B : World} (h : Keeps S A B) (hs : ∀ g, T g → S g) : Keeps T A B := ⟨h.os, h.tape, h.output, h.size, fun g hg => h.block g (hs g hg)⟩

theorem Keeps.below {S : Nat → Prop} {b : Nat} {A B : World} (h : Keeps S A B) (hs : ∀ g, g < b → S g) : Below b A B := ⟨h.os, h.tape, h.output, h.size, fun g hg => h.block g (hs g hg)⟩

theorem Keeps.of_below {b : Nat} {A B : World} (h : Below b A B) : Keeps (· < b) A B := ⟨h.os, h.tape, h.output, h.size, h.block⟩

theorem Keeps.of_grown {A B : World} {row : Option Nat} (h : A.grownBy B row) : Keeps (fun g => g < A.heap.size ∧ some g ≠ row) A B := ⟨h.os, h.tape, h.output, h.size, fun g hg => h.block g hg.1 hg.2⟩

theorem Keeps.put (W : World) (l : Nat) (o : Obj) : Keeps (· ≠ l) W (W.putObj l o) :=
  ⟨rfl, rfl, rfl, by simp, fun _ hk => World.putObj_heap_other (fun e => hk e)⟩

theorem Keeps.alloc (W : World) (o : Obj) : Keeps (· < W.heap.size) W (W.alloc o) := Keeps.of_below ((Below.refl _ _).alloc (Nat.le_refl _) _)

theorem Keeps.set (W : World) (p : Addr) (v : Value) : Keeps (· ≠ p.block) W (W.setCell p v) := ⟨rfl, rfl, rfl, by simp, fun g hg => Below.heap_setCell W p v g hg⟩

theorem Keeps.drewN (S : Nat → Prop) (W : World) (k : Nat) : Keeps S W (W.drewN k) := ⟨rfl, rfl, rfl, Nat.le_refl _, fun _ _ => rfl⟩

/-- A step of the body's side: N's blocks, and the old ones that it does not speak of, lie as they lay; it speaks of no old ones more. -/
structure Stp (N : Nat → Prop) (C : World → Nat → Prop) (A B : World) : Prop where
  keeps : Keeps (fun g => N g ∨ (g < A.heap.size ∧ ¬ C A g)) A B
  grows : ∀ g, C B g → C A g ∨ A.heap.size ≤ g

theorem Stp.refl (N : Nat → Prop) (C : World → Nat → Prop) (A : World) : Stp N C A A := ⟨Keeps.refl _ _, fun _ h => .inl h⟩

theorem Stp.trans {N : Nat → Prop} {C : World → Nat → Prop} {A B D : World} (h : Stp N C A B) (k : Stp N C B D) : Stp N C A D := by
  refine ⟨h.keeps.trans (k.keeps.mono fun g hg => ?_), fun g hg => ?_⟩
  · rcases hg with hg | ⟨h1, h2⟩
    · exact .inl hg
    · exact .inr ⟨Nat.lt_of_lt_of_le h1 h.keeps.size, fun e => (h.grows g e).elim h2 (fun e => by omega)⟩
  · rcases k.grows g hg with h1 | h1
    · exact h.grows g h1
    · exact .inr (Nat.le_trans h.keeps.size h1)

/-- What is said of a state abides whatever turns none of C's blocks; and C gains nothing by that. -/
def FrameC {β : Type} (C : World → Nat → Prop) (J : β → World → Prop) : Prop := ∀ s W W', J s W → Keeps (C W) W W' → J s W' ∧ ∀ g, C W' g → C W g

def BoundC {β : Type} (C : World → Nat → Prop) (J : β → World → Prop) : Prop := ∀ s W, J s W → ∀ g, C W g → g < W.heap.size

/-- An iterator's contract: whatever the rounds speak of, as long as they keep to it. -/
def SeqC (F : Fence) (n : Nat) (P : Program) (gf : Nat) (lb : Array Value) (encs : α → Array Value) (Fx : α → World → Prop) (N : Nat → Prop) (S Sp : List α → Prop) (w : World) : Prop :=
  ∀ (l : Nat) (C : World → Nat → Prop) (J Jx : List α → World → Prop) (W : World), Below w.heap.size w W → FrameC C J → BoundC C J →
    (∀ m pre x W1, J pre W1 → Sp (pre ++ [x]) → Fx x W1 → YieldAt F m P l (encs x) W1 fun e W' =>
      (e = .returned (.bool true) ∧ J (pre ++ [x]) W' ∧ Stp N C W1 W') ∨ (e = .returned (.bool false) ∧ Jx (pre ++ [x]) W')) →
    J [] W →
    CallsIn F n P gf (#[.func (.yield l) #[] #[]] ++ lb) W fun e W' => (∃ v, e = .returned v) ∧ ((∃ xs, S xs ∧ J xs W') ∨ (∃ pre, Sp pre ∧ Jx pre W'))

/-- How a round's body may be left. -/
def bodyC (N : Nat → Prop) (C : World → Nat → Prop) (I : List α → World → Prop) (Ix : Code → List α → World → Prop) (xs : List α) (W : World) : Exit → Act → World → Prop
  | .normal, _, W' => I xs W' ∧ Stp N C W W'
  | .ret, _, W' => Ix .ret xs W' ∧ Stp N C W W'
  | .exit id, _, W' => Ix (.exit id) xs W' ∧ Stp N C W W'
  | .goto t, _, W' => Ix (.goto t) xs W' ∧ Stp N C W W'
  | .panic _, _, _ => False
  | .outgrown, _, _ => False

theorem range_law {g : Operand} {ps : Array Tmp} {assign body : Code} {Q : Exit → Act → World → Prop} {a : Act} {w : World}
    (hro : F.round = none) (hd : F.depth = none) {gf : Nat} {lb : Array Value} (hg : a.eval g = .func (.func gf) #[] lb) (hFg : F.fn gf) (eg : ∀ args w, (callFunc gf args).run P w = .ok (.enter gf args) w)
    {encs : α → Array Value} {Fx : α → World → Prop} {N : Nat → Prop} {S Sp : List α → Prop} {w0 : World} (hseq : ∀ m, SeqC F m P gf lb encs Fx N S Sp w0) (hb0 : Below w0.heap.size w0 w) (hps : ∀ x, (encs x).size = ps.size) (hN : ∀ g, N g → g < w.heap.size)
    (C : World → Nat → Prop) (I : List α → World → Prop) (Ix : Code → List α → World → Prop) (hI : FrameC C I) (hbd : BoundC C I) (hIx : ∀ c, FrameC C (Ix c))
    (h0 : I [] w) (Ax : List α → α → Act → World → Prop)
    (hAx : ∀ pre x a' W l r o, Ax pre x a' W → w.heap.size ≤ l → W.heap[l]? = some (.loop r) → ¬ C W l → (∀ g, C (W.putObj l o) g → C W g) ∧ Ax pre x a' (W.putObj l o))
    (hassign : ∀ (l m : Nat) (pre : List α) (x : α) (W : World) (K : Act → World → Prop), I pre W → Sp (pre ++ [x]) → Fx x W → (∀ a' W', Stp N C W W' → Ax pre x a' W' → K a' W') →
      assign.wpIn (F.inRound l) m P (Exit.then K (fun _ _ _ => False)) { tmps := (ps.zip (encs x)).foldl (fun t (p, v) => t.setIfInBounds p v) a.tmps, defers := [] } W)
    (hbody : ∀ (l m : Nat) (pre : List α) (x : α) (a' : Act) (W : World), Sp (pre ++ [x]) → Ax pre x a' W → body.wpIn (F.inRound l) m P (bodyC N C I Ix (pre ++ [x]) W) a' W)
    (hdone : ∀ (D : Nat) (xs : List α) (W : World), w.heap.size ≤ D → S xs → I xs W → W.heap[D]? = some (.deferred (some [])) → Q .normal { a with defers := { target := .collected D, args := #[] } :: a.defers } W)
    (hstop : ∀ (D : Nat) (c : Code) (pre : List α) (W : World), w.heap.size ≤ D → Sp pre → Ix c pre W → W.heap[D]? = some (.deferred (some [])) → c.wpIn F n P Q { a with defers := { target := .collected D, args := #[] } :: a.defers } W) :
    (Code.rangeFunc g ps assign body).wpIn F n P Q a w := by
  refine wpIn_rangeFunc fun fn hfn => ?_
  rw [hro]
  have hdd : ∀ k : Nat, F.depth.isSome = true → 1 ≤ k := fun k h => by rw [hd] at h; cases h
  -- the two blocks that the statement lays: for the rounds' deferred calls (d); the loop's record (l)
  obtain ⟨d, hd0⟩ : ∃ d, d = w.heap.size := ⟨_, rfl⟩
  obtain ⟨rec, hrec⟩ : ∃ rec : LoopState → Option Code → Loop, rec = fun st pe => { state := st, pending := pe, fn, tmps := a.tmps, params := ps, assign, body, defers := w.heap.size } := ⟨_, rfl⟩
  obtain ⟨W1, hW1⟩ : ∃ W1, (w.alloc (.deferred (some []))).alloc (.loop (rec .ready none)) = W1 := ⟨_, rfl⟩
  have hl1 : W1.heap[d + 1]? = some (.loop (rec .ready none)) := by
    rw [← hW1, hd0, show w.heap.size + 1 = (w.alloc (.deferred (some []))).heap.size by simp]; exact World.alloc_heap_new _ _
  have hk1 : W1.heap[d]? = some (.deferred (some [])) := by rw [← hW1, hd0]; exact (Below.heap_alloc _ _ _ (by simp)).trans (World.alloc_heap_new w _)
  have hBw : Below w.heap.size w W1 := by rw [← hW1]; exact ((Below.refl _ w).alloc (Nat.le_refl _) _).alloc (by simp) _
  have hIw := hI [] w W1 h0 ((Keeps.of_below hBw).mono fun g e => hbd [] w h0 g e)
  have hbw : ∀ g, C W1 g → g < w.heap.size := fun g e => hbd [] w h0 g (hIw.2 g e)
  have hNd : ∀ g, N g → g < d := fun g e => by rw [hd0]; exact hN g e
  -- what the rounds speak of, with the two blocks
  let CJ : World → Nat → Prop := fun W g => C W g ∨ g = d + 1 ∨ g = d
  let J : List α → World → Prop := fun pre W => I pre W ∧ (W.heap[d + 1]? = some (.loop (rec .ready none)) ∧ W.heap[d]? = some (.deferred (some []))) ∧ ¬ C W (d + 1) ∧ ¬ C W d
  let Jx : List α → World → Prop := fun pre W => ∃ c, Ix c pre W ∧ (W.heap[d + 1]? = some (.loop (rec .done (some c))) ∧ W.heap[d]? = some (.deferred (some []))) ∧ ¬ C W (d + 1)
  have hJF : FrameC CJ J := by
    rintro s A B ⟨h1, ⟨h2, h3⟩, h4, h5⟩ hk
    have hi := hI s A B h1 (hk.mono fun g e => .inl e)
    exact ⟨⟨hi.1, ⟨(hk.block _ (.inr (.inl rfl))).trans h2, (hk.block _ (.inr (.inr rfl))).trans h3⟩, fun e => h4 (hi.2 _ e), fun e => h5 (hi.2 _ e)⟩, fun g e => e.elim (fun e => .inl (hi.2 g e)) .inr⟩
  have hJB : BoundC CJ J := by
    rintro s A ⟨h1, ⟨h2, h3⟩, _, _⟩ g (e | rfl | rfl)
    · exact hbd s A h1 g e
    · exact (Array.getElem?_eq_some_iff.1 h2).1
    · exact (Array.getElem?_eq_some_iff.1 h3).1
  refine ⟨d + 1, [{ target := .collected d, args := #[] }], W1, { target := .fn (.func gf) lb, args := #[.func (.yield (d + 1)) #[] #[]] }, W1, gf, #[.func (.yield (d + 1)) #[] #[]] ++ lb, W1, ?_, ?_, ?_, ?_, fun h => hdd _ h, ?_⟩
  · rw [← hW1, hrec, hd0]; exact run_enterLoop_outer _ _ _ _ _
  · simp only [resolve, hg]
    simp [go_sem]
  · intro f' hf'; simp [Target.leads] at hf'; subst hf'; exact hFg
  · simp [invoke, go_sem, eg]
  · refine (hseq _ (d + 1) CJ J Jx W1 (hb0.trans (hBw.mono hb0.size)) hJF hJB ?_ ⟨hIw.1, ⟨hl1, hk1⟩, fun e => ?_, fun e => ?_⟩).mono ?_
    · -- one round
      rintro m pre x W ⟨hi, ⟨hl, hk⟩, hnl, hnd⟩ hsp hfx
      have hy := run_yield (P := P) (args := encs x) hl (by rw [hrec]; exact hps x)
      rw [hrec] at hy
      refine ⟨fn, _, assign, body, hy, roundIn_of_wpIn hfn (hassign _ m pre x W _ hi hsp hfx ?_)⟩
      clear hy
      intro a' Wa hst hax
      have hlW : d + 1 < W.heap.size := (Array.getElem?_eq_some_iff.1 hl).1
      have hla : Wa.heap[d + 1]? = some (.loop (rec .ready none)) := (hst.keeps.block _ (.inr ⟨hlW, hnl⟩)).trans hl
      have hka : Wa.heap[d]? = some (.deferred (some [])) := (hst.keeps.block _ (.inr ⟨by omega, hnd⟩)).trans hk
      have hnla : ¬ C Wa (d + 1) := fun e => (hst.grows _ e).elim hnl (fun e => by omega)
      have hnda : ¬ C Wa d := fun e => (hst.grows _ e).elim hnd (fun e => by omega)
      have hla1 : d + 1 < Wa.heap.size := (Array.getElem?_eq_some_iff.1 hla).1
      refine ⟨_, run_beginRound hla (by rw [hrec]), ?_⟩
      obtain ⟨hgr, hax2⟩ := hAx pre x a' Wa (d + 1) _ (.loop { rec .ready none with state := .busy }) hax (by omega) hla hnla
      obtain ⟨Wb, hWb⟩ : ∃ Wb, Wa.putObj (d + 1) (.loop { rec .ready none with state := .busy }) = Wb := ⟨_, rfl⟩
      have hlb : Wb.heap[d + 1]? = some (.loop { rec .ready none with state := .busy }) := by rw [← hWb]; exact World.putObj_heap_same hla1
      have hkb : Wb.heap[d]? = some (.deferred (some [])) := by rw [← hWb]; exact (World.putObj_heap_other (by omega)).trans hka
      have hKab : Keeps (· ≠ d + 1) Wa Wb := by rw [← hWb]; exact Keeps.put _ _ _
      rw [hWb] at hgr hax2 ⊢
      have hnlb : ¬ C Wb (d + 1) := fun e => hnla (hgr _ e)
      have hndb : ¬ C Wb d := fun e => hnda (hgr _ e)
      refine wpIn_mono (hbody _ m pre x a' Wb hsp hax2) ?_
      have hszb : Wa.heap.size ≤ Wb.heap.size := hKab.size
      have fin : ∀ (jump : Option Code) (W3 : World), Stp N C Wb W3 →
          (Instr.endRound (d + 1) jump).run P W3 = .ok (.bool jump.isNone) (W3.putObj (d + 1) (.loop (rec (if jump.isNone then .ready else .done) jump))) ∧
          (W3.putObj (d + 1) (.loop (rec (if jump.isNone then .ready else .done) jump))).heap[d + 1]? = some (.loop (rec (if jump.isNone then .ready else .done) jump)) ∧
          (W3.putObj (d + 1) (.loop (rec (if jump.isNone then .ready else .done) jump))).heap[d]? = some (.deferred (some [])) ∧ ¬ C W3 (d + 1) ∧ ¬ C W3 d := fun jump W3 h3 => by
        have hl3 : W3.heap[d + 1]? = some (.loop { rec .ready none with state := .busy }) := (h3.keeps.block _ (.inr ⟨by omega, hnlb⟩)).trans hlb
        have hk3 : W3.heap[d]? = some (.deferred (some [])) := (h3.keeps.block _ (.inr ⟨by omega, hndb⟩)).trans hkb
        have := run_endRound (P := P) jump hl3
        rw [hrec] at this ⊢
        exact ⟨this, World.putObj_heap_same (Array.getElem?_eq_some_iff.1 hl3).1, (World.putObj_heap_other (by omega)).trans hk3, fun e => (h3.grows _ e).elim hnlb (fun e => by omega), fun e => (h3.grows _ e).elim hndb (fun e => by omega)⟩
      rintro e a3 W3 hp
      cases e with
      | normal =>
        obtain ⟨hi3, h3⟩ := hp
        obtain ⟨hr, hl4, hk4, hn4, hm4⟩ := fin none W3 h3
        obtain ⟨hi4, hg4⟩ := hI _ W3 _ hi3 ((Keeps.put W3 (d + 1) (.loop (rec (if (none : Option Code).isNone then .ready else .done) none))).mono fun g e he => hn4 (he ▸ e))
        refine ⟨_, _, hr, .inl ⟨rfl, ⟨hi4, ⟨hl4, hk4⟩, fun e => hn4 (hg4 _ e), fun e => hm4 (hg4 _ e)⟩, ⟨?_, ?_⟩⟩⟩
        · refine (hst.keeps.mono fun g hg => ?_).trans ((hKab.mono fun g hg => ?_).trans ((h3.keeps.mono fun g hg => ?_).trans ((Keeps.put W3 (d + 1) _).mono fun g hg => ?_)))
          · exact hg.elim .inl fun hg => .inr ⟨hg.1, fun e => hg.2 (.inl e)⟩
          · exact hg.elim (fun e => by have := hNd _ e; omega) fun hg e => hg.2 (.inr (.inl e))
          · exact hg.elim .inl fun hg => .inr ⟨by have := hst.keeps.size; omega, fun e => (hst.grows g (hgr g e)).elim (fun e => hg.2 (.inl e)) (fun e => by omega)⟩
          · exact hg.elim (fun e => by have := hNd _ e; omega) fun hg e => hg.2 (.inr (.inl e))
        · rintro g (e | e)
          · rcases h3.grows g (hg4 g e) with e | e
            · rcases hst.grows g (hgr g e) with e | e
              · exact .inl (.inl e)
              · exact .inr e
            · exact .inr (Nat.le_trans hst.keeps.size (Nat.le_trans hszb e))
          · exact .inl (.inr e)
      | ret =>
        obtain ⟨hi3, h3⟩ := hp
        obtain ⟨hr, hl4, hk4, hn4, hm4⟩ := fin (some .ret) W3 h3
        have hK4 := (Keeps.put W3 (d + 1) (.loop (rec (if (some Code.ret).isNone then .ready else .done) (some .ret)))).mono (T := C W3) fun g e he => hn4 (he ▸ e)
        exact ⟨_, _, hr, .inr ⟨rfl, .ret, (hIx _ _ W3 _ hi3 hK4).1, ⟨hl4, hk4⟩, fun e => hn4 ((hIx _ _ W3 _ hi3 hK4).2 _ e)⟩⟩
      | exit id =>
        obtain ⟨hi3, h3⟩ := hp
        obtain ⟨hr, hl4, hk4, hn4, hm4⟩ := fin (some (.exit id)) W3 h3
        have hK4 := (Keeps.put W3 (d + 1) (.loop (rec (if (some (Code.exit id)).isNone then .ready else .done) (some (.exit id))))).mono (T := C W3) fun g e he => hn4 (he ▸ e)
        exact ⟨_, _, hr, .inr ⟨rfl, .exit id, (hIx _ _ W3 _ hi3 hK4).1, ⟨hl4, hk4⟩, fun e => hn4 ((hIx _ _ W3 _ hi3 hK4).2 _ e)⟩⟩
      | goto t =>
        obtain ⟨hi3, h3⟩ := hp
        obtain ⟨hr, hl4, hk4, hn4, hm4⟩ := fin (some (.goto t)) W3 h3
        have hK4 := (Keeps.put W3 (d + 1) (.loop (rec (if (some (Code.goto t)).isNone then .ready else .done) (some (.goto t))))).mono (T := C W3) fun g e he => hn4 (he ▸ e)
        exact ⟨_, _, hr, .inr ⟨rfl, .goto t, (hIx _ _ W3 _ hi3 hK4).1, ⟨hl4, hk4⟩, fun e => hn4 ((hIx _ _ W3 _ hi3 hK4).2 _ e)⟩⟩
      | panic ch => exact hp.elim
      | outgrown => exact hp.elim
    · have := hbw _ e; omega
    · have := hbw _ e; omega
    · -- behind the iterator
      rintro e W2 ⟨⟨v, rfl⟩, (⟨xs, hS, hi, ⟨hl, hk⟩, hnl, _⟩ | ⟨pre, hSp, c, hi, ⟨hl, hk⟩, hnl⟩)⟩
      · refine ⟨none, _, by have := run_endLoop (P := P) hl (by rw [hrec]; simp); rw [hrec] at this; exact this, hdone d xs _ (by omega) hS ?_ ((World.putObj_heap_other (by omega)).trans hk)⟩
        exact (hI xs W2 _ hi ((Keeps.put W2 (d + 1) _).mono fun g e he => hnl (he ▸ e))).1
      · refine ⟨some c, _, by have := run_endLoop (P := P) hl (by rw [hrec]; simp); rw [hrec] at this; exact this, hstop d c pre _ (by omega) hSp ?_ ((World.putObj_heap_other (by omega)).trans hk)⟩
        exact (hIx c pre W2 _ hi ((Keeps.put W2 (d + 1) _).mono fun g e he => hnl (he ▸ e))).1

end Go.Proofs.YtfnncphkidhbpaaDoor

/- Plain words on terms: trees, their sizes, their order; how they lie in memory. -/

namespace Go.Proofs.YtfnncphkidhbpaaDoor

open Go.RowKit

/-- A term, in plain words. -/
inductive Tm where
  | node (f : Int) (xs : List Tm)

def Tm.fn : Tm → Int
  | .node f _ => f

def Tm.args : Tm → List Tm
  | .node _ xs => xs

theorem Tm.eta (t : Tm) : Tm.node t.fn t.args = t := by cases t; rfl

theorem Tm.ind {P : Tm → Prop} (h : ∀ f xs, (∀ t ∈ xs, P t) → P (.node f xs)) (t : Tm) : P t :=
  Tm.rec (motive_1 := P) (motive_2 := fun xs => ∀ t ∈ xs, P t) (fun f xs ih => h f xs ih) (by simp) (fun t ts h1 h2 => by simp only [List.mem_cons]; rintro u (rfl | hu); exact h1; exact h2 _ hu) t

mutual
def Tm.size : Tm → Nat
  | .node _ xs => sizes xs + 1
def sizes : List Tm → Nat
  | [] => 0
  | t :: ts => t.size + sizes ts
end

mutual
def Tm.depth : Tm → Nat
  | .node _ xs => depths xs + 1
def depths : List Tm → Nat
  | [] => 0
  | t :: ts => max t.depth (depths ts)
end

theorem size_mem {t : Tm} {xs : List Tm} (h : t ∈ xs) : t.size ≤ sizes xs := by
  induction xs with
  | nil => simp at h
  | cons a xs ih =>
    simp only [List.mem_cons] at h
    simp only [sizes]
    rcases h with rfl | h
    · omega
    · have := ih h; omega

theorem depth_mem {t : Tm} {xs : List Tm} (h : t ∈ xs) : t.depth ≤ depths xs := by
  induction xs with
  | nil => simp at h
  | cons a xs ih =>
    simp only [List.mem_cons] at h
    simp only [depths]
    rcases h with rfl | h
    · omega
    · have := ih h; omega

theorem size_pos (t : Tm) : 1 ≤ t.size := by cases t; simp only [Tm.size]; omega

theorem depth_pos (t : Tm) : 1 ≤ t.depth := by cases t; simp only [Tm.depth]; omega

theorem sizes_len (xs : List Tm) : xs.length ≤ sizes xs := by
  induction xs with
  | nil => simp [sizes]
  | cons a xs ih => have := size_pos a; simp only [List.length_cons, sizes]; omega

/-- Which of two numbers of symbols or variables is ahead. -/
def headI (f g : Int) : Int := if f = g then 0 else if f < 0 ∧ g < 0 then (if g < f then -1 else 1) else if f < g then -1 else 1

def numI (a b : Int) : Int := if a < b then -1 else if b < a then 1 else 0

mutual
def cmpT : Tm → Tm → Int
  | .node f xs, u => if headI f u.fn ≠ 0 then headI f u.fn else if cmpL xs u.args ≠ 0 then cmpL xs u.args else numI xs.length u.args.length
def cmpL : List Tm → List Tm → Int
  | [], _ => 0
  | a :: xs, bs => match bs with
    | [] => 0
    | b :: bs => if cmpT a b ≠ 0 then cmpT a b else cmpL xs bs
end

theorem cmpT_eq (t u : Tm) : cmpT t u = if headI t.fn u.fn ≠ 0 then headI t.fn u.fn else if cmpL t.args u.args ≠ 0 then cmpL t.args u.args else numI t.args.length u.args.length := by
  cases t; simp only [cmpT, Tm.fn, Tm.args]; rfl

/-- The first place k whose answer is not 0 decides. -/
theorem cmpL_hit : ∀ {xs bs : List Tm} {k : Nat} {a b : Tm}, xs[k]? = some a → bs[k]? = some b → (∀ j x y, j < k → xs[j]? = some x → bs[j]? = some y → cmpT x y = 0) → cmpT a b ≠ 0 → cmpL xs bs = cmpT a b
  | [], _, _, _, _, h, _, _, _ => by simp at h
  | x :: xs, [], _, _, _, _, h, _, _ => by simp at h
  | x :: xs, y :: bs, 0, a, b, h1, h2, _, hne => by
    simp at h1 h2
    subst h1; subst h2
    simp only [cmpL, if_pos hne]
  | x :: xs, y :: bs, k + 1, a, b, h1, h2, h, hne => by
    have h0 := h 0 x y (by omega) rfl rfl
    simp only [cmpL, h0, ne_eq, not_true_eq_false, if_false]
    exact cmpL_hit (by simpa using h1) (by simpa using h2) (fun j x' y' hj hx hy => h (j + 1) x' y' (by omega) (by simpa using hx) (by simpa using hy)) hne

theorem cmpL_miss : ∀ {xs bs : List Tm}, (∀ (j : Nat) (x y : Tm), xs[j]? = some x → bs[j]? = some y → cmpT x y = 0) → cmpL xs bs = 0
  | [], _, _ => by simp only [cmpL]
  | x :: xs, [], _ => by simp only [cmpL]
  | x :: xs, y :: bs, h => by
    have h0 := h 0 x y rfl rfl
    simp only [cmpL, h0, ne_eq, not_true_eq_false, if_false]
    exact cmpL_miss fun j x' y' hx hy => h (j + 1) x' y' (by simpa using hx) (by simpa using hy)

def I64 (i : Int) : Prop := -9223372036854775808 ≤ i ∧ i ≤ 9223372036854775807

theorem I64.lo {i : Int} (h : I64 i) : -9223372036854775808 ≤ i := h.1

theorem I64.hi {i : Int} (h : I64 i) : i ≤ 9223372036854775807 := h.2

/-- The slice at A holds the terms; their cells lie below block B. -/
inductive Args (w : World) (B : Nat) : Option Addr → List Tm → Prop
  | nil (A : Option Addr) : Args w B A []
  | row (b off : Nat) (xs : List Tm) (A' : Nat → Option Addr) (c' : Nat → Nat) (hb : b < B) (hlen : xs.length ≤ 9223372036854775807) (hi : ∀ (i : Nat) (t : Tm), xs[i]? = some t → I64 t.fn)
      (h0 : ∀ (i : Nat) (t : Tm), xs[i]? = some t → w.cell? ⟨b, off + i * 2, none⟩ = some (.int .i64 t.fn))
      (h1 : ∀ (i : Nat) (t : Tm), xs[i]? = some t → w.cell? ⟨b, off + i * 2 + 1, none⟩ = some (.slice (A' i) t.args.length (c' i)))
      (hs : ∀ (i : Nat) (t : Tm), xs[i]? = some t → Args w B (A' i) t.args) : Args w B (some ⟨b, off, none⟩) xs

section

variable {w w' : World} {B B' : Nat} {A : Option Addr} {xs : List Tm}

theorem Args.keep (h : Args w B A xs) (hk : ∀ p : Addr, p.block < B → w'.cell? p = w.cell? p) : Args w' B A xs := by
  induction h with
  | nil A => exact .nil A
  | row b off xs A' c' hb hlen hi h0 h1 _ ih => exact .row b off xs A' c' hb hlen hi (fun i t e => (hk ⟨b, _, none⟩ hb).trans (h0 i t e)) (fun i t e => (hk ⟨b, _, none⟩ hb).trans (h1 i t e)) ih

theorem Args.blw (h : Args w B A xs) (hb : Below B w w') : Args w' B A xs := h.keep fun _ hp => hb.cell hp

theorem Args.more (h : Args w B A xs) (hB : B ≤ B') : Args w B' A xs := by
  induction h with
  | nil A => exact .nil A
  | row b off xs A' c' hb hlen hi h0 h1 _ ih => exact .row b off xs A' c' (by omega) hlen hi h0 h1 ih

theorem Args.on (h : Args w w.heap.size A xs) (hb : Below w.heap.size w w') : Args w' w'.heap.size A xs := (h.blw hb).more hb.size

theorem Args.drewN (h : Args w B A xs) (k : Nat) : Args (w.drewN k) B A xs := h.keep fun _ _ => rfl

theorem Args.len (h : Args w B A xs) : xs.length ≤ 9223372036854775807 := by
  cases h with
  | nil => simp
  | row => assumption

/-- One of the terms. -/
structure ArgAt (w : World) (B b off i : Nat) (t : Tm) (A' : Option Addr) (c' : Nat) : Prop where
  hb : b < B
  hi : I64 t.fn
  c0 : w.cell? ⟨b, off + i * 2, none⟩ = some (.int .i64 t.fn)
  c1 : w.cell? ⟨b, off + i * 2 + 1, none⟩ = some (.slice A' t.args.length c')
  sub : Args w B A' t.args

theorem Args.get (h : Args w B A xs) {i : Nat} {t : Tm} (hi : xs[i]? = some t) : ∃ b off A' c', A = some ⟨b, off, none⟩ ∧ ArgAt w B b off i t A' c' := by
  cases h with
  | nil => simp at hi
  | row b off _ A' c' hb hlen hi' h0 h1 hs => exact ⟨b, off, A' i, c' i, rfl, hb, hi' i t hi, h0 i t hi, h1 i t hi, hs i t hi⟩

end

end Go.Proofs.YtfnncphkidhbpaaDoor

/- Appending symbols to a row of the call's own. -/

namespace Go.Proofs.YtfnncphkidhbpaaDoor

open Go.RowKit

theorem info_sym : (Tryd.prog.info? 62).map (fun i => (i.zero, i.size, i.bytes)) = some (some (.agg #[.string ByteArray.empty, .int .i64 0, .bool false]), 3, 32) := by kernel_rfl

/-- The slice v is the call's own (its row lies from block base on), and holds the symbols l. -/
structure Own (w : World) (base : Nat) (v : Value) (l : List Sm) : Prop where
  row : w.ownsRow base 62 3 v l.length (l.flatMap Sm.cells)
  ok : ∀ x ∈ l, x.Ok

section

variable {w w' : World} {base B n : Nat} {v : Value} {l l' : List Sm} {A : Option Addr}

theorem Own.nil_ (w : World) (base : Nat) : Own w base (.slice none 0 0) [] := ⟨⟨rfl, .inl ⟨rfl, rfl⟩⟩, fun x hx => by simp at hx⟩

theorem Own.shape (h : Own w base v l) : ∃ A c, v = .slice A l.length c := by
  rcases h.row.2 with ⟨hv, h0⟩ | ⟨g, cap, cur, hv, _⟩
  · exact ⟨none, 0, by rw [hv, h0]⟩
  · exact ⟨_, cap, hv⟩

theorem Own.syms {c : Nat} (h : Own w base (.slice A n c) l) : Syms w w.heap.size A n l := by
  have hn : n = l.length := by
    obtain ⟨A', c', e⟩ := h.shape
    injection e
  subst hn
  refine Syms.of_flat rfl h.ok fun hpos => ?_
  rcases h.row.2 with ⟨_, h0⟩ | ⟨g, cap, cur, hv, _, hg, _, _, _, htake⟩
  · omega
  · injection hv with hA
    refine ⟨g, 0, hA, (Array.getElem?_eq_some_iff.1 hg).1, fun j u hu => ?_⟩
    rw [← htake, List.getElem?_take] at hu
    simp only [World.cell?, hg, Nat.zero_add]
    split at hu
    · simpa using hu
    · cases hu

theorem Own.below (h : Own w base v l) (hb : Below w.heap.size w w') : Own w' base v l := by
  refine ⟨⟨h.row.1, ?_⟩, h.ok⟩
  rcases h.row.2 with h0 | ⟨g, cap, cur, hv, hbase, hg, hrest⟩
  · exact .inl h0
  · exact .inr ⟨g, cap, cur, hv, hbase, (hb.block g (Array.getElem?_eq_some_iff.1 hg).1).trans hg, hrest⟩

theorem Own.keep (h : Own w base v l) (hk : ∀ g, base ≤ g → g < w.heap.size → w'.heap[g]? = w.heap[g]?) : Own w' base v l := by
  refine ⟨⟨h.row.1, ?_⟩, h.ok⟩
  rcases h.row.2 with h0 | ⟨g, cap, cur, hv, hbase, hg, hrest⟩
  · exact .inl h0
  · exact .inr ⟨g, cap, cur, hv, hbase, (hk g hbase (Array.getElem?_eq_some_iff.1 hg).1).trans hg, hrest⟩

theorem Own.setCell (h : Own w base v l) {p : Addr} (hp : p.block < base) (u : Value) : Own (w.setCell p u) base v l :=
  h.keep fun g hg _ => Below.heap_setCell w p u g (by omega)

theorem Own.drewN (h : Own w base v l) (k : Nat) : Own (w.drewN k) base v l := h.keep fun _ _ _ => rfl

theorem Own.alloc (h : Own w base v l) (o : Obj) : Own (w.alloc o) base v l := h.keep fun g _ hg => Below.heap_alloc w o g hg

theorem run_append_none (ty c : Nat) (h : Own w base v l) : (Builtin.append_ #[27, 27] ty #[v, .slice none 0 c]).run Tryd.prog w = .ok v w := by
  obtain ⟨i, hi, _⟩ := info_parts info_sym
  rcases h.row.2 with ⟨rfl, _⟩ | ⟨g, cap, cur, rfl, _, _, hnc, _⟩
  · simp [Builtin.append_, run_underlying Tryd.underlying27, sizeOf, typeInfo, hi, Builtin.lenOf, Builtin.firstCells]
  · simp [Builtin.append_, run_underlying Tryd.underlying27, sizeOf, typeInfo, hi, Builtin.lenOf, Builtin.firstCells, hnc, storeCells]

theorem run_append_syms (ty c m : Nat) (h : Own w base v l) (hs : Syms w B A m l') (hm : (l.length + m) * 32 ≤ 140737488355328) (hbase : base ≤ w.heap.size) :
    ∃ A' c' w', (Builtin.append_ #[27, 27] ty #[v, .slice A m c]).run Tryd.prog w = .ok (.slice A' (l.length + m) c') w' ∧ Own w' base (.slice A' (l.length + m) c') (l ++ l') ∧ w.grownBy w' v.ownBlock := by
  have hm' : l'.length = m := hs.len
  have key : ∃ v' w', (Builtin.append_ #[27, 27] ty #[v, .slice A m c]).run Tryd.prog w = .ok v' w' ∧ Own w' base v' (l ++ l') ∧ w.grownBy w' v.ownBlock := by
    rcases A with _ | ad
    · have h0 : m = 0 := by
        rcases Nat.eq_zero_or_pos m with h0 | h0
        · exact h0
        · obtain ⟨_, _, e, _⟩ := hs.ad h0
          cases e
      subst h0
      have : l' = [] := List.eq_nil_of_length_eq_zero hm'
      subst this
      exact ⟨v, w, run_append_none ty c h, by rw [List.append_nil]; exact h, World.grownBy.refl w _⟩
    · have hcells : ∀ j u, (l'.flatMap Sm.cells)[j]? = some u → w.cell? (ad.add j) = some u := by
        intro j u hu
        rcases Nat.eq_zero_or_pos m with h0 | h0
        · have : l' = [] := List.eq_nil_of_length_eq_zero (hm'.trans h0)
          subst this
          simp at hu
        · obtain ⟨b, off, e, _, hc⟩ := hs.flat h0
          injection e with e
          subst e
          have := hc j u hu
          unfold Addr.add
          split
          · rename_i hj; subst hj; simpa using this
          · exact this
      obtain ⟨i0, hi0, hz0, hz1, hz2⟩ := info_parts info_sym
      obtain ⟨v', w', hrun, hrow, hg, _⟩ := run_append_own (P := Tryd.prog) w base 27 ty 62 i0 _ 3 32 Tryd.underlying27 hi0 hz0 hz1 hz2 rfl (by omega) v l.length _ h.row ad m c (l'.flatMap Sm.cells)
        (by rw [flat_len, hm']) hcells (flat_one l') (by simp only [maxLen]; omega) hm hbase
      refine ⟨v', w', hrun, ⟨?_, fun x hx => ?_⟩, hg⟩
      · rw [List.flatMap_append, List.length_append, hm']; exact hrow
      · rcases List.mem_append.1 hx with hx | hx
        · exact h.ok x hx
        · exact hs.ok x hx
  obtain ⟨v', w', hrun, hown, hg⟩ := key
  obtain ⟨A', c', e⟩ := hown.shape
  rw [List.length_append, hm'] at e
  subst e
  exact ⟨A', c', w', hrun, hown, hg⟩

theorem wp_append_syms {o : Oper} {a : Act} {K : Act → World → Prop} {Q : Exit → Act → World → Prop} (s x : Operand)
    (ho : o.op = .call { callee := .builtin .append, args := #[s, x], argTypes := #[27, 27] }) (v : Value) (l : List Sm) (hs : a.eval s = v) (base : Nat) (hown : Own w base v l)
    (A : Option Addr) (m c B : Nat) (l' : List Sm) (hx : a.eval x = .slice A m c) (hr : Syms w B A m l') (hm : (l.length + m) * 32 ≤ 140737488355328) (hbase : base ≤ w.heap.size)
    (h : ∀ A' c' w', Own w' base (.slice A' (l.length + m) c') (l ++ l') → w.grownBy w' v.ownBlock → K (a.put o.dst (.slice A' (l.length + m) c')) w') : o.wp Tryd.prog a w K Q := by
  obtain ⟨A', c', w', hrun, h2, h3⟩ := run_append_syms o.type c m hown hr hm hbase
  unfold Oper.wp
  simp [execOp, ho, resolve, invoke, builtin, hs, hx, hrun, Result.andThen]
  exact h A' c' w' h2 h3

theorem wpList_append_syms {ops : Array Oper} {rest : List Oper} {o : Oper} {a : Act} {Q : Exit → Act → World → Prop} (hgd : o.guard = none) (s x : Operand)
    (ho : o.op = .call { callee := .builtin .append, args := #[s, x], argTypes := #[27, 27] }) (v : Value) (l : List Sm) (hs : a.eval s = v) (base : Nat) (hown : Own w base v l)
    (A : Option Addr) (m c B : Nat) (l' : List Sm) (hx : a.eval x = .slice A m c) (hr : Syms w B A m l') (hm : (l.length + m) * 32 ≤ 140737488355328) (hbase : base ≤ w.heap.size)
    (h : ∀ A' c' w', Own w' base (.slice A' (l.length + m) c') (l ++ l') → w.grownBy w' v.ownBlock → wpList Tryd.prog ops Q rest (a.put o.dst (.slice A' (l.length + m) c')) w') : wpList Tryd.prog ops Q (o :: rest) a w :=
  wpList_plain hgd fun _ hK => wp_append_syms s x ho v l hs base hown A m c B l' hx hr hm hbase fun A' c' w' h2 h3 => hK _ _ (h A' c' w' h2 h3)

theorem step_append_syms {ops : Array Oper} {o : Oper} {a : Act} {K : Act → World → Prop} {Q : Exit → Act → World → Prop} {E : Prop} (hgd : o.guard = none) (s x : Operand)
    (ho : o.op = .call { callee := .builtin .append, args := #[s, x], argTypes := #[27, 27] }) (v : Value) (l : List Sm) (hs : a.eval s = v) (base : Nat) (hown : Own w base v l)
    (A : Option Addr) (m c B : Nat) (l' : List Sm) (hx : a.eval x = .slice A m c) (hr : Syms w B A m l') (hm : (l.length + m) * 32 ≤ 140737488355328) (hbase : base ≤ w.heap.size)
    (h : ∀ A' c' w', Own w' base (.slice A' (l.length + m) c') (l ++ l') → w.grownBy w' v.ownBlock → K (a.put o.dst (.slice A' (l.length + m) c')) w') : if Region.wanted o (yielded ops a.tmps) = true then Oper.wp Tryd.prog o a w K Q else E := by
  rw [if_pos (by simp [Region.wanted, hgd])]
  exact wp_append_syms s x ho v l hs base hown A m c B l' hx hr hm hbase h

end

end Go.Proofs.YtfnncphkidhbpaaDoor

/- The functions on names and on one symbol, and a symbol's place: what each call answers. One symbol: is its name one, may it be; $true. One symbol by the plain answer; $true; a symbol's place; two signatures. Copies; the plain check of a signature. -/

namespace Go.Proofs.YtfnncphkidhbpaaDoor

open Go.RowKit

def nameC (c : Int) : Bool := decide ((97 ≤ c ∧ c ≤ 122) ∨ (65 ≤ c ∧ c ≤ 90) ∨ (48 ≤ c ∧ c ≤ 57) ∨ c = 95)

theorem nameC_true {c : Int} (h : (97 ≤ c ∧ c ≤ 122) ∨ (65 ≤ c ∧ c ≤ 90) ∨ (48 ≤ c ∧ c ≤ 57) ∨ c = 95) : nameC c = true := by simpa [nameC] using h

theorem nameC_false {c : Int} (h : ¬ ((97 ≤ c ∧ c ≤ 122) ∨ (65 ≤ c ∧ c ≤ 90) ∨ (48 ≤ c ∧ c ≤ 57) ∨ c = 95)) : nameC c = false := by simpa [nameC] using h

set_option maxHeartbeats 400000 in
theorem nameByte_any (c : Int) (w : World) :
    Calls Tryd.prog 58 #[.int .u8 c] w fun e w' => e = .returned (.bool (nameC c)) ∧ w = w' := by
  go_enter Tryd.func58, Tryd.ntmps58
  go_wp2
  all_goals
    go_ret
    refine ⟨ret_bool ?_, rfl⟩
    rw [eq_comm, Bool.eq_iff_iff]
    simp only [nameC, decide_eq_true_eq, Bool.or_eq_true, beq_iff_eq]
    first | omega | (simp only [iff_true]; omega)

/-- Are all bytes of a text a name's? -/
def nameAll (l : List UInt8) : Bool := l.all fun c => nameC c.toNat

theorem take_snoc (s : ByteArray) (k : Nat) (h : k < s.size) : s.data.toList.take (k + 1) = s.data.toList.take k ++ [s[k]] := by
  rw [List.take_succ_eq_append_getElem (by simpa using h)]; rfl

theorem nameAll_snoc (l : List UInt8) (c : UInt8) : nameAll (l ++ [c]) = (nameAll l && nameC c.toNat) := by simp [nameAll]

theorem nameAll_cut {l : List UInt8} {k : Nat} (h : nameAll (l.take k) = false) : nameAll l = false := by
  cases hl : nameAll l with
  | false => rfl
  | true =>
    unfold nameAll at hl h
    rw [List.all_eq_true] at hl
    rw [List.all_eq_false] at h
    obtain ⟨x, hx, hf⟩ := h
    exact absurd (hl x (List.mem_of_mem_take hx)) hf

set_option maxHeartbeats 400000 in
theorem all_any (s : ByteArray) (w : World) (hs : s.size ≤ maxLen) :
    Calls Tryd.prog 57 #[.string s, .func (.func 58) #[] #[]] w fun e w' => e = .returned (.bool (nameAll s.data.toList)) ∧ w = w' := by
  unfold maxLen at hs
  go_enter Tryd.func57, Tryd.ntmps57
  go_wp2
  go_loop [8] (fun i => ∃ k : Nat, k ≤ s.size ∧ i = .int .i64 k ∧ Hid (nameAll (s.data.toList.take k) = true)) (fun i => s.size - (intOf i).toNat)
  case atStart => exact ⟨0, Nat.zero_le _, rfl, by simp [Hid, nameAll]⟩
  case round =>
    obtain ⟨k, hk, rfl, HA⟩ := hrel
    by_cases hlt : k < s.size
    · have hts := take_snoc s k hlt
      have hsn := nameAll_snoc (s.data.toList.take k) s[k]
      rw [← hts, HA.out, Bool.true_and] at hsn
      have HS := Lib.hid hsn
      clear hsn hts
      cases hc : nameC (s[k].toNat : Int) with
      | true =>
        go_wp2_with (first | (go_at_call 58; refine (nameByte_any _ _).mono ?_; rintro e w' ⟨rfl, rfl⟩) | fail)
        go_round
        case rel => exact ⟨k + 1, by omega, by go_num, by rw [Hid, HS.out]; exact hc⟩
        case measure => simp [intOf]; omega
      | false =>
        go_wp2_with (first | (go_at_call 58; refine (nameByte_any _ _).mono ?_; rintro e w' ⟨rfl, rfl⟩) | fail)
        go_ret
        exact ⟨ret_bool (nameAll_cut (HS.out.trans hc)).symm, rfl⟩
    · have : k = s.size := by omega
      subst this
      go_wp2
      go_ret
      exact ⟨ret_bool (by have := HA.out; rw [List.take_of_length_le (by simp)] at this; exact this.symm), rfl⟩

end Go.Proofs.YtfnncphkidhbpaaDoor

namespace Go.Proofs.YtfnncphkidhbpaaDoor

open Go.RowKit

/-- Is a text a name? -/
def namedB (s : ByteArray) : Bool := decide (1 ≤ s.size) && decide (s.size ≤ 40) && nameAll s.data.toList

/-- What may be wrong with a symbol that is not $true: 0, 111 or 112. -/
def oneI (name : ByteArray) (arity : Int) : Int := if namedB name = false then 111 else if arity < 0 ∨ 6 < arity then 112 else 0

set_option maxHeartbeats 400000 in
theorem fits_any (s : ByteArray) (a : Int) (w : World) (hs : s.size ≤ maxLen) :
    Calls Tryd.prog 31 #[.string s, .int .i64 a] w fun e w' => e = .returned (.int .i64 (oneI s a)) ∧ w = w' := by
  by_cases h0 : s.size = 0
  · have hf := Lib.hid (show oneI s a = 111 by simp [oneI, namedB, h0])
    have h0' : (((s.size : Nat) : Int) == 0) = true := by simp [h0]
    clear h0
    go_enter Tryd.func31, Tryd.ntmps31
    go_wp2_with fail
    go_ret
    exact ⟨ret_int hf.out.symm, rfl⟩
  · have h0' : (((s.size : Nat) : Int) == 0) = false := by simpa using h0
    by_cases h1 : 40 < s.size
    · have hf := Lib.hid (show oneI s a = 111 by simp [oneI, namedB, Nat.not_le.2 h1])
      clear h0
      go_enter Tryd.func31, Tryd.ntmps31
      go_wp2_with fail
      go_ret
      exact ⟨ret_int hf.out.symm, rfl⟩
    · cases h2 : nameAll s.data.toList with
      | false =>
        have hf := Lib.hid (show oneI s a = 111 by simp [oneI, namedB, h2])
        clear h0
        go_enter Tryd.func31, Tryd.ntmps31
        go_wp2_with (first | (go_at_call 57; refine (all_any _ _ hs).mono ?_; rintro e w' ⟨rfl, rfl⟩) | fail)
        go_ret
        exact ⟨ret_int hf.out.symm, rfl⟩
      | true =>
        have hf := Lib.hid (show oneI s a = if a < 0 ∨ 6 < a then 112 else 0 by
          have e : namedB s = true := by simp [namedB, h2]; omega
          simp [oneI, e])
        clear h0
        go_enter Tryd.func31, Tryd.ntmps31
        go_wp2_with (first | (go_at_call 57; refine (all_any _ _ hs).mono ?_; rintro e w' ⟨rfl, rfl⟩) | fail)
        all_goals
          go_ret
          refine ⟨ret_int ?_, rfl⟩
          rw [hf.out]
          first | rw [if_pos (by omega)] | rw [if_neg (by omega)]

end Go.Proofs.YtfnncphkidhbpaaDoor

namespace Go.Proofs.YtfnncphkidhbpaaDoor

open Go.RowKit

def truthS : ByteArray := ⟨#[36, 116, 114, 117, 101]⟩

def truthSm : Sm := ⟨truthS, 0, true⟩

theorem truth_ok : truthSm.Ok := ⟨by decide, by decide, by decide⟩

set_option maxHeartbeats 400000 in
theorem Truth_any (w : World) :
    Calls Tryd.prog 21 #[] w fun e w' => e = .returned (.agg #[.string truthSm.name, .int .i64 truthSm.arity, .bool truthSm.pred]) ∧ Below w.heap.size w w' := by
  go_enter Tryd.func21, Tryd.ntmps21
  go_wp2
  refine bodyPost_ret (v := .agg #[.string truthSm.name, .int .i64 truthSm.arity, .bool truthSm.pred]) (by simp [results, Tryd.results21, go_sem, truthSm, truthS]) rfl ⟨rfl, ?_⟩
  repeat first | exact Below.refl _ _ | refine bl_drewN ?_ _ | refine Below.alloc ?_ (by simp) _ | refine Below.setCell ?_ (by simp) _

def atI (l : List Sm) (x : Sm) : Int := match l.findIdx? (· == x) with | some i => i | none => -1

theorem atI_hit (l : List Sm) (x : Sm) (k : Nat) (hx : l[k]? = some x) (h : ∀ j, j < k → l[j]? ≠ some x) : atI l x = k := by
  have : l.findIdx? (· == x) = some k := by
    rw [List.findIdx?_eq_some_iff_getElem]
    obtain ⟨hk, hx⟩ := List.getElem?_eq_some_iff.1 hx
    refine ⟨hk, by simp [hx], fun j hj => ?_⟩
    have := h j hj
    rw [List.getElem?_eq_getElem (by omega)] at this
    simpa using this
  simp [atI, this]

theorem atI_miss (l : List Sm) (x : Sm) (h : ∀ j, j < l.length → l[j]? ≠ some x) : atI l x = -1 := by
  have : l.findIdx? (· == x) = none := by
    rw [List.findIdx?_eq_none_iff]
    intro y hy
    obtain ⟨j, hj, rfl⟩ := List.getElem_of_mem hy
    have := h j hj
    rw [List.getElem?_eq_getElem hj] at this
    simpa using this
  simp [atI, this]

theorem not_before {l : List Sm} {x y : Sm} {k : Nat} (h : ∀ j, j < k → l[j]? ≠ some x) (hy : l[k]? = some y) (hx : y ≠ x) : ∀ j, j < k + 1 → l[j]? ≠ some x := by
  intro j hlt
  by_cases e : j = k
  · subst e; rw [hy]; intro h; injection h with h; exact hx h
  · exact h j (by omega)

theorem alike_before {l l' : List Sm} {k : Nat} (h : ∀ j, j < k → l[j]? = l'[j]?) (hk : l[k]? = l'[k]?) : ∀ j, j < k + 1 → l[j]? = l'[j]? := by
  intro j hlt
  by_cases e : j = k
  · subst e; exact hk
  · exact h j (by omega)

theorem alike_not {l l' : List Sm} {k : Nat} {x y : Sm} (hx : l[k]? = some x) (hy : l'[k]? = some y) (h : x ≠ y) : decide (l = l') = false := by
  rw [decide_eq_false_iff_not]
  rintro rfl
  rw [hx] at hy
  injection hy with hy
  exact h hy

theorem alike_all {l l' : List Sm} {n : Nat} (hl : l.length = n) (hl' : l'.length = n) (h : ∀ j, j < n → l[j]? = l'[j]?) : decide (l = l') = true := by
  rw [decide_eq_true_eq]
  refine List.ext_getElem? fun j => ?_
  by_cases hj : j < n
  · exact h j hj
  · rw [List.getElem?_eq_none (by omega), List.getElem?_eq_none (by omega)]

end Go.Proofs.YtfnncphkidhbpaaDoor

namespace Go.Proofs.YtfnncphkidhbpaaDoor

open Go.RowKit

/-- The value v is the signature l. -/
def IsSig (w : World) (l : List Sm) (v : Value) : Prop := ∃ A c, v = .agg #[.slice A l.length c] ∧ Syms w w.heap.size A l.length l

def SigPost (l : List Sm) (w : World) (e : Ending) (w' : World) : Prop := ∃ v, e = .returned v ∧ IsSig w' l v ∧ Below w.heap.size w w'

/-- What a cell beneath the first B blocks holds behind more of them. -/
theorem cell_on {B : Nat} {W w1 : World} (hb : Below B W w1) {b o : Nat} {v : Value} (hlt : b < B) (h : W.cell? ⟨b, o, none⟩ = some v) : w1.cell? ⟨b, o, none⟩ = some v := (hb.cell (p := ⟨b, o, none⟩) hlt).trans h

theorem frozen_on {B : Nat} {W w1 : World} (hb : Below B W w1) {b o : Nat} {x : Bool} (hlt : b < B) (h : W.frozen? ⟨b, o, none⟩ = x) : w1.frozen? ⟨b, o, none⟩ = x := (hb.frozen (p := ⟨b, o, none⟩) hlt).trans h

end Go.Proofs.YtfnncphkidhbpaaDoor

/- Terms in memory of a call's own: rows that lie apart. -/

namespace Go.Proofs.YtfnncphkidhbpaaDoor

open Go.RowKit
set_option maxRecDepth 100000

theorem info_term : (Tryd.prog.info? 47).map (fun i => (i.zero, i.size, i.bytes)) = some (some (.agg #[.int .i64 0, .slice none 0 0]), 2, 32) := by kernel_rfl

/-- The slice at A holds the terms; all its rows lie in blocks lo .. hi - 1, each in a block of its own. -/
inductive OwnT (w : World) : Nat → Nat → Option Addr → List Tm → Prop
  | nil (lo hi : Nat) (A : Option Addr) : OwnT w lo hi A []
  | row (lo hi b cap : Nat) (xs : List Tm) (vs : List Value) (A' : Nat → Option Addr) (c' m : Nat → Nat) (hlo : lo ≤ b) (hpos : 0 < xs.length) (hlen : xs.length ≤ 9223372036854775807) (hrow : w.ownsRow b 47 2 (.slice (some ⟨b, 0, none⟩) xs.length cap) xs.length vs)
      (hm0 : b + 1 ≤ m 0) (hmn : m xs.length ≤ hi) (hm : ∀ i : Nat, i < xs.length → m i ≤ m (i + 1)) (hi64 : ∀ (i : Nat) (t : Tm), xs[i]? = some t → I64 t.fn)
      (h0 : ∀ (i : Nat) (t : Tm), xs[i]? = some t → vs[i * 2]? = some (.int .i64 t.fn))
      (h1 : ∀ (i : Nat) (t : Tm), xs[i]? = some t → vs[i * 2 + 1]? = some (.slice (A' i) t.args.length (c' i)))
      (hs : ∀ (i : Nat) (t : Tm), xs[i]? = some t → OwnT w (m i) (m (i + 1)) (A' i) t.args) : OwnT w lo hi (some ⟨b, 0, none⟩) xs

theorem mono_to {m : Nat → Nat} {n : Nat} (h : ∀ i : Nat, i < n → m i ≤ m (i + 1)) : ∀ {i j : Nat}, i ≤ j → j ≤ n → m i ≤ m j := by
  intro i j hij hj
  induction j with
  | zero => obtain rfl : i = 0 := by omega
            exact Nat.le_refl _
  | succ j ih =>
    by_cases e : i = j + 1
    · subst e; exact Nat.le_refl _
    · exact Nat.le_trans (ih (by omega) (by omega)) (h j (by omega))

theorem ownsRow_keep {w w' : World} {base e size n : Nat} {v : Value} {xs : List Value} {g : Nat} (h : w.ownsRow base e size v n xs) (hv : ∀ g', v.ownBlock = some g' → g' = g) (hk : w'.heap[g]? = w.heap[g]?) : w'.ownsRow base e size v n xs := by
  refine ⟨h.1, ?_⟩
  rcases h.2 with h0 | ⟨g', cap, cur, rfl, hbase, hg, hrest⟩
  · exact .inl h0
  · obtain rfl := hv g' rfl
    exact .inr ⟨g', cap, cur, rfl, hbase, hk.trans hg, hrest⟩

section

variable {w w' : World} {lo hi lo' hi' : Nat} {A : Option Addr} {xs : List Tm}

theorem OwnT.keep (h : OwnT w lo hi A xs) : (∀ g, lo ≤ g → g < hi → w'.heap[g]? = w.heap[g]?) → OwnT w' lo hi A xs := by
  induction h with
  | nil lo hi A => intro _; exact .nil lo hi A
  | row lo hi b cap xs vs A' c' m hlo hpos hlen hrow hm0 hmn hm hi64 h0 h1 _ ih =>
    intro hk
    have hbm : b < hi := by have := mono_to hm (Nat.zero_le xs.length) (Nat.le_refl _); omega
    refine .row lo hi b cap xs vs A' c' m hlo hpos hlen (ownsRow_keep hrow (fun g' e => by simp [Value.ownBlock] at e; exact e.symm) (hk b hlo hbm)) hm0 hmn hm hi64 h0 h1 fun i t hit => ih i t hit fun g h2 h3 => hk g ?_ ?_
    · have hil := (List.getElem?_eq_some_iff.1 hit).1
      have := mono_to hm (Nat.zero_le i) (by omega)
      omega
    · have hil := (List.getElem?_eq_some_iff.1 hit).1
      have := mono_to hm (show i + 1 ≤ xs.length by omega) (Nat.le_refl _)
      omega

theorem OwnT.on (h : OwnT w lo hi A xs) (hb : Below w.heap.size w w') (hh : hi ≤ w.heap.size) : OwnT w' lo hi A xs := h.keep fun g _ hg => hb.block g (by omega)

theorem OwnT.wide (h : OwnT w lo hi A xs) (h1 : lo' ≤ lo) (h2 : hi ≤ hi') : OwnT w lo' hi' A xs := by
  cases h with
  | nil => exact .nil lo' hi' A
  | row _ _ b cap _ vs A' c' m hlo hpos hlen hrow hm0 hmn hm hi64 a0 a1 hs => exact .row lo' hi' b cap xs vs A' c' m (by omega) hpos hlen hrow hm0 (by omega) hm hi64 a0 a1 hs

theorem OwnT.args {B : Nat} (h : OwnT w lo hi A xs) : hi ≤ B → Args w B A xs := by
  induction h with
  | nil lo hi A => intro _; exact .nil A
  | row lo hi b cap xs vs A' c' m hlo hpos hlen hrow hm0 hmn hm hi64 h0 h1 _ ih =>
    intro hB
    have hbm : b < hi := by have := mono_to hm (Nat.zero_le xs.length) (Nat.le_refl _); omega
    have hvs : vs.length = xs.length * 2 := hrow.1
    refine .row b 0 xs A' c' (by omega) hlen hi64 (fun i t e => ?_) (fun i t e => ?_) fun i t hit => ih i t hit ?_
    · have hil := (List.getElem?_eq_some_iff.1 e).1
      rw [Nat.zero_add, hrow.cellAt (i * 2) (by omega)]
      exact h0 i t e
    · have hil := (List.getElem?_eq_some_iff.1 e).1
      rw [Nat.zero_add, hrow.cellAt (i * 2 + 1) (by omega)]
      exact h1 i t e
    · have hil := (List.getElem?_eq_some_iff.1 hit).1
      have := mono_to hm (show i + 1 ≤ xs.length by omega) (Nat.le_refl _)
      omega

end

/-- The first k terms of a row of xs.length elements are laid. -/
structure RowK (w : World) (b cap : Nat) (xs : List Tm) (k : Nat) (vs : List Value) (A' : Nat → Option Addr) (c' m : Nat → Nat) : Prop where
  row : w.ownsRow b 47 2 (.slice (some ⟨b, 0, none⟩) xs.length cap) xs.length vs
  m0 : b + 1 ≤ m 0
  mke : m k ≤ w.heap.size
  mono : ∀ i : Nat, i < k → m i ≤ m (i + 1)
  i64 : ∀ (i : Nat) (t : Tm), i < k → xs[i]? = some t → I64 t.fn
  v0 : ∀ (i : Nat) (t : Tm), i < k → xs[i]? = some t → vs[i * 2]? = some (.int .i64 t.fn)
  v1 : ∀ (i : Nat) (t : Tm), i < k → xs[i]? = some t → vs[i * 2 + 1]? = some (.slice (A' i) t.args.length (c' i))
  sub : ∀ (i : Nat) (t : Tm), i < k → xs[i]? = some t → OwnT w (m i) (m (i + 1)) (A' i) t.args

section

variable {w w' : World} {lo hi : Nat} {xs : List Tm} {b cap k : Nat} {vs : List Value} {A' : Nat → Option Addr} {c' m : Nat → Nat}

theorem RowK.whole (h : RowK w b cap xs xs.length vs A' c' m) (hpos : 0 < xs.length) (hlen : xs.length ≤ 9223372036854775807) (hlo : lo ≤ b) (hhi : w.heap.size ≤ hi) : OwnT w lo hi (some ⟨b, 0, none⟩) xs :=
  have hlt : ∀ {i : Nat} {t : Tm}, xs[i]? = some t → i < xs.length := fun e => (List.getElem?_eq_some_iff.1 e).1
  .row lo hi b cap xs vs A' c' m hlo hpos hlen h.row h.m0 (Nat.le_trans h.mke hhi) h.mono (fun i t e => h.i64 i t (hlt e) e) (fun i t e => h.v0 i t (hlt e) e) (fun i t e => h.v1 i t (hlt e) e) fun i t e => h.sub i t (hlt e) e

theorem RowK.on (h : RowK w b cap xs k vs A' c' m) (hbs : b < w.heap.size) (hb : Below w.heap.size w w') : RowK w' b cap xs k vs A' c' m :=
  ⟨ownsRow_keep h.row (fun g' e => by simp [Value.ownBlock] at e; exact e.symm) (hb.block b hbs), h.m0, Nat.le_trans h.mke hb.size, h.mono, h.i64, h.v0, h.v1, fun i t hik e => (h.sub i t hik e).on hb (Nat.le_trans (mono_to h.mono (show i + 1 ≤ k by omega) (Nat.le_refl _)) h.mke)⟩

/-- One more. -/
theorem RowK.step (h : RowK w b cap xs k vs A' c' m) {t : Tm} {A1 : Option Addr} {c1 lo1 : Nat} (hk : xs[k]? = some t) (hi : I64 t.fn) (hs : OwnT w lo1 w.heap.size A1 t.args) (hlo : m k ≤ lo1) :
    ∃ vs' A'' c'' m', RowK ((w.setCell ⟨b, k * 2, none⟩ (.int .i64 t.fn)).setCell ⟨b, k * 2 + 1, none⟩ (.slice A1 t.args.length c1)) b cap xs (k + 1) vs' A'' c'' m' := by
  have hkl := (List.getElem?_eq_some_iff.1 hk).1
  have hvs : vs.length = xs.length * 2 := h.row.1
  have h1 := (h.row.stored (k * 2) (.int .i64 t.fn)).1
  have h2 := (h1.stored (k * 2 + 1) (.slice A1 t.args.length c1)).1
  have hother : ∀ g, b + 1 ≤ g → ((w.setCell ⟨b, k * 2, none⟩ (.int .i64 t.fn)).setCell ⟨b, k * 2 + 1, none⟩ (.slice A1 t.args.length c1)).heap[g]? = w.heap[g]? := fun g hg =>
    (heap_setCell_other _ _ _ _ (show g ≠ b by omega)).trans (heap_setCell_other _ _ _ _ (show g ≠ b by omega))
  have hm0 : ∀ i, i ≤ k → b + 1 ≤ m i := fun i hi => Nat.le_trans h.m0 (mono_to h.mono (Nat.zero_le i) hi)
  refine ⟨_, fun i => if i = k then A1 else A' i, fun i => if i = k then c1 else c' i, fun i => if i = k + 1 then w.heap.size else m i, h2, ?_, ?_, ?_, ?_, ?_, ?_, ?_⟩
  · simp only [if_neg (show ¬ (0 = k + 1) by omega)]; exact h.m0
  · simp
  · intro i hik
    by_cases e : i = k
    · subst e
      simp only [if_neg (show ¬ (i = i + 1) by omega), if_true]
      exact h.mke
    · simp only [if_neg (show ¬ (i = k + 1) by omega), if_neg (show ¬ (i + 1 = k + 1) by omega)]
      exact h.mono i (by omega)
  · intro i u hik e
    by_cases e1 : i = k
    · subst e1; rw [hk] at e; cases e; exact hi
    · exact h.i64 i u (by omega) e
  · intro i u hik e
    by_cases e1 : i = k
    · subst e1; rw [hk] at e; cases e
      rw [List.getElem?_set_ne (by omega), List.getElem?_set_self (by omega)]
    · rw [List.getElem?_set_ne (by omega), List.getElem?_set_ne (by omega)]
      exact h.v0 i u (by omega) e
  · intro i u hik e
    by_cases e1 : i = k
    · subst e1; rw [hk] at e; cases e
      simp only [if_true]
      rw [List.getElem?_set_self (by simp; omega)]
    · simp only [if_neg e1]
      rw [List.getElem?_set_ne (by omega), List.getElem?_set_ne (by omega)]
      exact h.v1 i u (by omega) e
  · intro i u hik e
    by_cases e1 : i = k
    · subst e1; rw [hk] at e; cases e
      simp only [if_true, if_neg (show ¬ (i = i + 1) by omega)]
      exact (hs.wide hlo (Nat.le_refl _)).keep fun g h3 _ => hother g (Nat.le_trans (hm0 i (Nat.le_refl _)) h3)
    · simp only [if_neg e1, if_neg (show ¬ (i = k + 1) by omega), if_neg (show ¬ (i + 1 = k + 1) by omega)]
      exact (h.sub i u (by omega) e).keep fun g h3 _ => hother g (Nat.le_trans (hm0 i (by omega)) h3)

end

end Go.Proofs.YtfnncphkidhbpaaDoor

/- clone. -/

namespace Go.Proofs.YtfnncphkidhbpaaDoor

open Go.RowKit
set_option maxRecDepth 100000

/-- A copy of t, in new memory. -/
def ClonePost (t : Tm) (w : World) (e : Ending) (w' : World) : Prop := ∃ A' c', e = .returned (.agg #[.int .i64 t.fn, .slice A' t.args.length c']) ∧ OwnT w' w.heap.size w'.heap.size A' t.args ∧ Below w.heap.size w w'

def CloneAt (t : Tm) : Prop := t.size ≤ 4398046511104 → ∀ (A : Option Addr) (c : Nat) (w : World), I64 t.fn → Args w w.heap.size A t.args → Calls Tryd.prog 40 #[.agg #[.int .i64 t.fn, .slice A t.args.length c]] w (ClonePost t w)

theorem heap3 (w : World) (o1 o2 o3 : Obj) : (((w.alloc o1).alloc o2).alloc o3).heap[w.heap.size]? = some o1 ∧ (((w.alloc o1).alloc o2).alloc o3).heap[w.heap.size + 1]? = some o2 ∧ (((w.alloc o1).alloc o2).alloc o3).heap[w.heap.size + 1 + 1]? = some o3 := by
  have e1 : (w.alloc o1).heap.size = w.heap.size + 1 := by simp
  have e2 : ((w.alloc o1).alloc o2).heap.size = w.heap.size + 1 + 1 := by simp
  refine ⟨?_, ?_, ?_⟩
  · rw [Below.heap_alloc _ _ _ (by omega), Below.heap_alloc _ _ _ (by omega)]
    exact heap_alloc_new w o1
  · rw [Below.heap_alloc _ _ _ (by omega), ← e1]
    exact heap_alloc_new _ o2
  · rw [← e2]
    exact heap_alloc_new _ o3

theorem cell_set2 {W : World} {b b' o o1 o2 : Nat} {u v x : Value} (h : W.cell? ⟨b, o, none⟩ = some x) (hb : b ≠ b') : ((W.setCell ⟨b', o1, none⟩ u).setCell ⟨b', o2, none⟩ v).cell? ⟨b, o, none⟩ = some x := by
  have e : ((W.setCell ⟨b', o1, none⟩ u).setCell ⟨b', o2, none⟩ v).heap[b]? = W.heap[b]? := (heap_setCell_other _ _ _ _ hb).trans (heap_setCell_other _ _ _ _ hb)
  rw [← h]
  simp only [World.cell?, e]

theorem cells_two {W : World} {b : Nat} {x y : Value} {t : TypeId} (h : W.heap[b]? = some (.cells #[x, y] t)) : W.cell? ⟨b, 0, none⟩ = some x ∧ W.cell? ⟨b, 1, none⟩ = some y ∧ W.frozen? ⟨b, 0, none⟩ = false ∧ W.frozen? ⟨b, 1, none⟩ = false := by
  refine ⟨?_, ?_, ?_, ?_⟩ <;> simp [World.cell?, World.frozen?, h]

set_option maxHeartbeats 2000000 in
theorem clone_any (t : Tm) : CloneAt t := by
  refine Tm.ind (P := CloneAt) (fun f xs ih => ?_) t
  intro hsz A c w hf hA
  simp only [Tm.fn, Tm.args] at hf hA ⊢
  have hlen : xs.length ≤ 4398046511104 := by have := sizes_len xs; simp only [Tm.size] at hsz; omega
  obtain ⟨i0, hi, hz0, hz1, hz2⟩ := info_parts info_term
  rcases Nat.eq_zero_or_pos xs.length with h0 | h0
  · obtain rfl : xs = [] := List.eq_nil_of_length_eq_zero h0
    clear h0
    simp only [List.length_nil] at *
    go_enter Tryd.func40, Tryd.ntmps40
    go_wp2
    go_loopw [21] (fun i wr => i = .int .i64 0 ∧ wr = (((w.alloc (.cells #[.int .i64 f, .slice A 0 c] 47)).alloc (.cells #[.int .i64 0, .slice none 0 0] 47)).alloc (.cells #[.int .i64 f, .slice none 0 0] 47))) (fun i _ => 0)
    case atStart => exact ⟨rfl, rfl⟩
    case round =>
      obtain ⟨rfl, rfl⟩ := hrel
      go_wp2
      refine bodyPost_ret (v := .agg #[.int .i64 f, .slice none 0 0]) (by simp [results, Tryd.results40, go_sem]) rfl ⟨none, 0, rfl, .nil _ _ _, ?_⟩
      exact (((Below.refl _ _).alloc (Nat.le_refl _) _).alloc (by simp) _).alloc (by simp; omega) _
  · have hpos : ((xs.length : Int) > 0) := by omega
    go_enter Tryd.func40, Tryd.ntmps40
    go_wp2_with (first
      | (at_make; go_loud (skip)
         refine wpList_make_full _ rfl _ _ 45 rfl (w.heap.size + 1 + 1 + 1) 47 i0 (.agg #[.int .i64 0, .slice none 0 0]) 2 Tryd.underlying45 hi hz0 hz1 .i64 .i64 _ _ xs.length rfl rfl rfl rfl (by rw [hz2]; omega) (by unfold maxLen; omega) (by simp) ?_
         intro w1 hown hgrow
         have hB1 := (Below.refl (((w.alloc (.cells #[.int .i64 f, .slice A xs.length c] 47)).alloc (.cells #[.int .i64 0, .slice none 0 0] 47)).alloc (.cells #[.int .i64 f, .slice none 0 0] 47)).heap.size _).grown hgrow (Nat.le_refl _) (fun k e => by cases e)
         have hs0 : (((w.alloc (.cells #[.int .i64 f, .slice A xs.length c] 47)).alloc (.cells #[.int .i64 0, .slice none 0 0] 47)).alloc (.cells #[.int .i64 f, .slice none 0 0] 47)).heap.size = w.heap.size + 1 + 1 + 1 := by simp
         rw [hs0] at hown hB1
         have q0 : w1.heap[w.heap.size]? = some (.cells #[.int .i64 f, .slice A xs.length c] 47) := (hB1.block _ (by omega)).trans (heap3 _ _ _ _).1
         have q1 : w1.heap[w.heap.size + 1]? = some (.cells #[.int .i64 0, .slice none 0 0] 47) := (hB1.block _ (by omega)).trans (heap3 _ _ _ _).2.1
         have q2 : w1.heap[w.heap.size + 1 + 1]? = some (.cells #[.int .i64 f, .slice none 0 0] 47) := (hB1.block _ (by omega)).trans (heap3 _ _ _ _).2.2
         obtain ⟨a0, a1, _, _⟩ := cells_two q0
         obtain ⟨b0, b1, g0, g1⟩ := cells_two q1
         obtain ⟨c0, c1, k0, k1⟩ := cells_two q2
         clear hgrow hs0)
      | fail)
    have hbs1 : w.heap.size + 1 + 1 + 1 < w1.heap.size := by
      rcases hown.2 with ⟨h, _⟩ | ⟨g, cap, cur, h, _, hg, _⟩
      · cases h
      · injection h with h _ _; injection h with h; injection h with h _ _; subst h
        exact (Array.getElem?_eq_some_iff.1 hg).1
    obtain ⟨W2, hW2⟩ : ∃ W2, w1.setCell ⟨w.heap.size + 1 + 1, 1, none⟩ (.slice (some ⟨w.heap.size + 1 + 1 + 1, 0, none⟩) xs.length xs.length) = W2 := ⟨_, rfl⟩
    have y1 : W2.heap[w.heap.size + 1]? = some (.cells #[.int .i64 0, .slice none 0 0] 47) := by rw [← hW2]; exact (heap_setCell_other _ _ _ _ (by show w.heap.size + 1 ≠ w.heap.size + 1 + 1; omega)).trans q1
    have y2 : W2.heap[w.heap.size + 1 + 1]? = some (.cells #[.int .i64 f, .slice (some ⟨w.heap.size + 1 + 1 + 1, 0, none⟩) xs.length xs.length] 47) := by rw [← hW2]; exact heap_setCell_same w1 _ 1 _ _ _ q2
    have HB2 : Below w.heap.size w W2 := by
      rw [← hW2]
      exact (((((Below.refl w.heap.size w).alloc (Nat.le_refl _) _).alloc (by simp) _).alloc (by simp; omega) _).trans (hB1.mono (by omega))).setCell (by show _ ≤ w.heap.size + 1 + 1; omega) _
    have HR : ∃ vs A' c' m, RowK W2 (w.heap.size + 1 + 1 + 1) xs.length xs 0 vs A' c' m := by
      refine ⟨_, fun _ => none, fun _ => 0, fun _ => w.heap.size + 1 + 1 + 1 + 1, ownsRow_keep hown (fun g' e => by simp [Value.ownBlock] at e; exact e.symm) (g := w.heap.size + 1 + 1 + 1) ?_, Nat.le_refl _, ?_, fun i h => by omega, fun i t h => by omega, fun i t h => by omega, fun i t h => by omega, fun i t h => by omega⟩
      · rw [← hW2]; exact heap_setCell_other _ _ _ _ (by show w.heap.size + 1 + 1 + 1 ≠ w.heap.size + 1 + 1; omega)
      · rw [← hW2]; simp; omega
    have hbs2 : w.heap.size + 1 + 1 + 1 < W2.heap.size := by rw [← hW2]; simpa using hbs1
    rw [hW2]
    clear hW2 hown hB1 q0 q1 q2 a0 a1 b0 b1 g0 g1 c0 c1 k0 k1 hbs1
    go_loopw [21] (fun i wr => ∃ k : Nat, k ≤ xs.length ∧ i = .int .i64 (k : Int) ∧ Below (w.heap.size + 1 + 1 + 1) W2 wr ∧ w.heap.size + 1 + 1 + 1 < wr.heap.size ∧ Hid (∃ vs A' c' m, RowK wr (w.heap.size + 1 + 1 + 1) xs.length xs k vs A' c' m)) (fun i _ => xs.length - (intOf i).toNat)
    case atStart => exact ⟨0, Nat.zero_le _, rfl, Below.refl _ _, hbs2, HR⟩
    case round =>
      obtain ⟨k, hk, rfl, hBr, hbs, H⟩ := hrel
      obtain ⟨b0, b1, g0, g1⟩ := cells_two ((hBr.block _ (by omega)).trans y1)
      obtain ⟨c0, c1, _, _⟩ := cells_two ((hBr.block _ (by omega)).trans y2)
      have hBw : Below w.heap.size w wr := HB2.trans (hBr.mono (by omega))
      by_cases hlt : k < xs.length
      · obtain ⟨t, ht⟩ : ∃ t, xs[k]? = some t := ⟨_, List.getElem?_eq_getElem hlt⟩
        obtain ⟨bb, off, A1, c1', rfl, ha⟩ := (hA.on hBw).get ht
        have e0 := ha.c0
        have e1 := ha.c1
        have hsub := Lib.hid (ha.sub)
        have hi64 := ha.hi
        have hmem := List.mem_of_getElem? ht
        have hszt : t.size ≤ 4398046511104 := by have := size_mem hmem; simp only [Tm.size] at hsz; omega
        have Ht := Lib.hid ht
        obtain ⟨vs, A', c', m, hR⟩ := H.out
        have hvl : vs.length = xs.length * 2 := hR.row.1
        have hR := Lib.hid hR
        clear ht ha H
        go_wp2
        obtain ⟨W3, hW3⟩ : ∃ W3, wr.alloc (.cells #[.int .i64 t.fn, .slice A1 t.args.length c1'] 47) = W3 := ⟨_, rfl⟩
        have hB3 : Below wr.heap.size wr W3 := by rw [← hW3]; exact (Below.refl _ _).alloc (Nat.le_refl _) _
        obtain ⟨f0, f1, _, _⟩ := cells_two (W := W3) (b := wr.heap.size) (x := .int .i64 t.fn) (y := .slice A1 t.args.length c1') (t := 47) (by rw [← hW3]; exact heap_alloc_new wr _)
        have hz3 : wr.heap.size < W3.heap.size := by rw [← hW3]; simp
        have d1 := cell_on hB3 (by omega) c1
        have hs3 := Lib.hid (hsub.out.on hB3)
        rw [hW3]
        clear hW3
        go_region_held3 (fun w' => w'.cell? ⟨w.heap.size + 1 + 1, 1, none⟩ = some (.slice (some ⟨w.heap.size + 1 + 1 + 1, 0, none⟩) xs.length xs.length) ∧ w'.cell? ⟨wr.heap.size, 0, none⟩ = some (.int .i64 t.fn) ∧ w'.cell? ⟨wr.heap.size, 1, none⟩ = some (.slice A1 t.args.length c1'))
          (first | exact ⟨d1, f0, f1⟩ | exact ⟨cell_on hB4 (by omega) d1, cell_on hB4 hz3 f0, cell_on hB4 hz3 f1⟩ | exact ⟨cell_set2 (cell_on hB4 (by omega) d1) (by omega), cell_set2 (cell_on hB4 hz3 f0) (by omega), cell_set2 (cell_on hB4 hz3 f1) (by omega)⟩)
          (first
            | (go_at_call 40
               refine (ih t hmem hszt A1 c1' W3.drew hi64 (hs3.out.drewN 1)).mono ?_
               rintro e w4 ⟨A4, c4, rfl, hO4, hb4⟩
               have hB4 : Below W3.heap.size W3 w4 := ⟨hb4.os, hb4.tape, hb4.output, hb4.size, hb4.block⟩
               have hR4 := (hR.out.on hbs hB3).on (by omega) hB4
               have r0 := (hR4.row.cellAt (k * 2) (by omega)).trans (List.getElem?_eq_getElem (by omega))
               have r1 := (hR4.row.cellAt (k * 2 + 1) (by omega)).trans (List.getElem?_eq_getElem (by omega))
               have s0 := hR4.row.frozenAt (k * 2)
               have s1 := hR4.row.frozenAt (k * 2 + 1)
               have hR4 := Lib.hid hR4))
        have hlo := Nat.le_trans hR.out.mke hB3.size
        have hst := hR4.out.step (c1 := c4) Ht.out hi64 hO4 hlo
        have hlt4 : w.heap.size + 1 + 1 + 1 < w4.heap.size := by have := hB4.size; omega
        go_wp2
        go_roundw
        case rel => exact ⟨k + 1, by omega, by go_num, ((hBr.trans (hB3.mono (by omega))).trans (hB4.mono (by omega))).setCell (Nat.le_refl _) _ |>.setCell (Nat.le_refl _) _, by simpa using hlt4, hst⟩
        case measure => simp [intOf]; omega
      · obtain rfl : k = xs.length := by omega
        obtain ⟨vs, A', c', m, hR⟩ := H.out
        go_wp2
        have z1 : (wr.setCell ⟨w.heap.size + 1, 0, none⟩ (.int .i64 f)).heap[w.heap.size + 1]? = some (.cells #[.int .i64 f, .slice none 0 0] 47) := heap_setCell_same wr _ 0 _ _ _ ((hBr.block _ (by omega)).trans y1)
        have z2 : ((wr.setCell ⟨w.heap.size + 1, 0, none⟩ (.int .i64 f)).setCell ⟨w.heap.size + 1, 1, none⟩ (.slice (some ⟨w.heap.size + 1 + 1 + 1, 0, none⟩) xs.length xs.length)).heap[w.heap.size + 1]? = some (.cells #[.int .i64 f, .slice (some ⟨w.heap.size + 1 + 1 + 1, 0, none⟩) xs.length xs.length] 47) := heap_setCell_same _ _ 1 _ _ _ z1
        have p0 := (cells_two z1).1
        have p1 := (cells_two z2).2.1
        refine bodyPost_ret (v := .agg #[.int .i64 f, .slice (some ⟨w.heap.size + 1 + 1 + 1, 0, none⟩) xs.length xs.length]) (by simp [results, Tryd.results40, go_sem, p0, p1]) rfl ⟨some ⟨w.heap.size + 1 + 1 + 1, 0, none⟩, xs.length, rfl, ?_, ?_⟩
        · refine OwnT.wide (lo := w.heap.size + 1 + 1 + 1) (hi := wr.heap.size) ((hR.whole h0 (by omega) (Nat.le_refl _) (Nat.le_refl _)).keep fun g h1 _ => ?_) (by omega) (by simp)
          exact (heap_setCell_other _ _ _ _ (by show g ≠ w.heap.size + 1; omega)).trans (heap_setCell_other _ _ _ _ (by show g ≠ w.heap.size + 1; omega))
        · exact (hBw.setCell (by show _ ≤ w.heap.size + 1; omega) _).setCell (by show _ ≤ w.heap.size + 1; omega) _

end Go.Proofs.YtfnncphkidhbpaaDoor

/- find, At. -/

namespace Go.Proofs.YtfnncphkidhbpaaDoor

open Go.RowKit
set_option maxRecDepth 100000

/-- What stands at a place. -/
def subT : Tm → List Int → Option Tm
  | t, [] => some t
  | t, i :: p => if 0 ≤ i ∧ i < t.args.length then (t.args[i.toNat]?).bind (subT · p) else none

/-- The slice at A holds the numbers. -/
structure Ints (w : World) (B : Nat) (A : Option Addr) (l : List Int) : Prop where
  len : l.length ≤ 9223372036854775807
  i64 : ∀ x ∈ l, I64 x
  ad : 0 < l.length → ∃ b off, A = some ⟨b, off, none⟩ ∧ b < B ∧ ∀ (i : Nat) (x : Int), l[i]? = some x → w.cell? ⟨b, off + i, none⟩ = some (.int .i64 x)

section

variable {w w' : World} {B B' : Nat} {A : Option Addr} {l : List Int}

theorem Ints.keep (h : Ints w B A l) (hk : ∀ p : Addr, p.block < B → w'.cell? p = w.cell? p) : Ints w' B A l :=
  ⟨h.len, h.i64, fun hn => by
    obtain ⟨b, off, hA, hlt, hc⟩ := h.ad hn
    exact ⟨b, off, hA, hlt, fun i x hi => (hk ⟨b, _, none⟩ hlt).trans (hc i x hi)⟩⟩

theorem Ints.blw (h : Ints w B A l) (hb : Below B w w') : Ints w' B A l := h.keep fun _ hp => hb.cell hp

theorem Ints.more (h : Ints w B A l) (hB : B ≤ B') : Ints w B' A l :=
  ⟨h.len, h.i64, fun hn => by
    obtain ⟨b, off, hA, hlt, hc⟩ := h.ad hn
    exact ⟨b, off, hA, by omega, hc⟩⟩

theorem Ints.on (h : Ints w w.heap.size A l) (hb : Below w.heap.size w w') : Ints w' w'.heap.size A l := (h.blw hb).more hb.size

end

/-- The two cells from off on in block b are the term's. -/
structure PtrT (w : World) (B b off : Nat) (t : Tm) : Prop where
  hb : b < B
  i64 : I64 t.fn
  c0 : w.cell? ⟨b, off, none⟩ = some (.int .i64 t.fn)
  rest : ∃ A c, w.cell? ⟨b, off + 1, none⟩ = some (.slice A t.args.length c) ∧ Args w B A t.args

/-- The place of what is found, if it is there. -/
def FindPost (t : Tm) (p : List Int) (w : World) (B : Nat) (e : Ending) (w' : World) : Prop := w' = w ∧
  match subT t p with
  | none => e = .returned (.pointer none)
  | some s => ∃ b off, e = .returned (.pointer (some ⟨b, off, none⟩)) ∧ PtrT w B b off s

theorem sub_step {t u : Tm} {i : Int} {p : List Int} (h0 : 0 ≤ i) (h1 : i < t.args.length) (hu : t.args[i.toNat]? = some u) : subT t (i :: p) = subT u p := by
  simp only [subT, if_pos (And.intro h0 h1), hu, Option.bind_some]

theorem sub_none {t : Tm} {i : Int} {p : List Int} (h : i < 0 ∨ ↑t.args.length ≤ i) : subT t (i :: p) = none := by
  simp only [subT]
  rw [if_neg (by omega)]

def atT (t : Tm) (p : List Int) : Tm := (subT t p).getD (.node 0 [])

/-- What stands at the place, in new memory; the zero term, if there is none. -/
def AtPost (t : Tm) (p : List Int) (w : World) (e : Ending) (w' : World) : Prop := ∃ A' c', e = .returned (.tuple #[.agg #[.int .i64 (atT t p).fn, .slice A' (atT t p).args.length c'], .bool (subT t p).isSome]) ∧ I64 (atT t p).fn ∧ OwnT w' w.heap.size w'.heap.size A' (atT t p).args ∧ Below w.heap.size w w'

theorem sub_size : ∀ {t s : Tm} {p : List Int}, subT t p = some s → s.size ≤ t.size
  | t, s, [], h => by simp only [subT] at h; cases h; exact Nat.le_refl _
  | t, s, i :: p, h => by
    simp only [subT] at h
    split at h
    · cases hu : t.args[i.toNat]? with
      | none => rw [hu] at h; cases h
      | some u =>
        rw [hu] at h
        have h1 := sub_size (p := p) h
        have h2 := size_mem (List.mem_of_getElem? hu)
        cases t with
        | node f xs => simp only [Tm.size, Tm.args] at h2 ⊢; omega
    · cases h

theorem set2_two {W : World} {b : Nat} {x y u v : Value} {t : TypeId} (h : W.heap[b]? = some (.cells #[x, y] t)) : (W.setCell ⟨b, 0, none⟩ u).heap[b]? = some (.cells #[u, y] t) ∧ ((W.setCell ⟨b, 0, none⟩ u).setCell ⟨b, 1, none⟩ v).heap[b]? = some (.cells #[u, v] t) :=
  have h1 : (W.setCell ⟨b, 0, none⟩ u).heap[b]? = some (.cells #[u, y] t) := heap_setCell_same W _ 0 _ _ _ h
  ⟨h1, heap_setCell_same _ _ 1 _ _ _ h1⟩

end Go.Proofs.YtfnncphkidhbpaaDoor

/- walk: what it goes over, in plain words; its memory. -/

namespace Go.Proofs.YtfnncphkidhbpaaDoor

open Go.RowKit
set_option maxRecDepth 100000

mutual
/-- The places of a term from place p on, and what stands there, in order. -/
def vis : List Int → Tm → List (List Int × Tm)
  | p, .node f xs => (p, .node f xs) :: visL p 0 xs
def visL : List Int → Nat → List Tm → List (List Int × Tm)
  | _, _, [] => []
  | p, i, t :: ts => vis (p ++ [(i : Int)]) t ++ visL p (i + 1) ts
end

theorem vis_eq (p : List Int) (t : Tm) : vis p t = (p, t) :: visL p 0 t.args := by cases t; simp only [vis, Tm.args]

theorem visL_snoc : ∀ (p : List Int) (i : Nat) (xs : List Tm) (t : Tm), visL p i (xs ++ [t]) = visL p i xs ++ vis (p ++ [((i + xs.length : Nat) : Int)]) t
  | p, i, [], t => by simp [visL]
  | p, i, x :: xs, t => by
    simp only [List.cons_append, visL, List.append_assoc, List.length_cons]
    rw [visL_snoc p (i + 1) xs t, show i + 1 + xs.length = i + (xs.length + 1) by omega]

theorem visL_take {p : List Int} {xs : List Tm} {k : Nat} {t : Tm} (h : xs[k]? = some t) : visL p 0 (xs.take (k + 1)) = visL p 0 (xs.take k) ++ vis (p ++ [(k : Int)]) t := by
  have hlt := (List.getElem?_eq_some_iff.1 h).1
  rw [List.take_add_one, h]
  simp only [Option.toList]
  rw [visL_snoc]
  simp [Nat.min_eq_left (Nat.le_of_lt hlt)]

theorem visL_pre (p : List Int) (xs : List Tm) (k : Nat) : visL p 0 (xs.take k) <+: visL p 0 xs := by
  have key : ∀ (ys : List Tm) (i : Nat) (zs : List Tm), visL p i zs <+: visL p i (zs ++ ys) := by
    intro ys i zs
    induction zs generalizing i with
    | nil => simp [visL]
    | cons z zs ih => simp only [List.cons_append, visL]; exact List.prefix_append_right_inj _ |>.2 (ih (i + 1))
  have := key (xs.drop k) 0 (xs.take k)
  rwa [List.take_append_drop] at this

/-- The slice at A holds the terms; their cells lie in N's blocks. -/
inductive ArgsN (w : World) (N : Nat → Prop) : Option Addr → List Tm → Prop
  | nil (A : Option Addr) : ArgsN w N A []
  | row (b off : Nat) (xs : List Tm) (A' : Nat → Option Addr) (c' : Nat → Nat) (hb : N b) (hlen : xs.length ≤ 9223372036854775807) (hi : ∀ (i : Nat) (t : Tm), xs[i]? = some t → I64 t.fn)
      (h0 : ∀ (i : Nat) (t : Tm), xs[i]? = some t → w.cell? ⟨b, off + i * 2, none⟩ = some (.int .i64 t.fn))
      (h1 : ∀ (i : Nat) (t : Tm), xs[i]? = some t → w.cell? ⟨b, off + i * 2 + 1, none⟩ = some (.slice (A' i) t.args.length (c' i)))
      (hs : ∀ (i : Nat) (t : Tm), xs[i]? = some t → ArgsN w N (A' i) t.args) : ArgsN w N (some ⟨b, off, none⟩) xs

theorem cell_of_heap {w w' : World} {b o : Nat} (h : w'.heap[b]? = w.heap[b]?) : w'.cell? ⟨b, o, none⟩ = w.cell? ⟨b, o, none⟩ := World.cell?_of_block h

section

variable {w w' : World} {N : Nat → Prop} {B : Nat} {A : Option Addr} {xs : List Tm}

theorem Args.toN (h : Args w B A xs) : ArgsN w (· < B) A xs := by
  induction h with
  | nil A => exact .nil A
  | row b off xs A' c' hb hlen hi h0 h1 _ ih => exact .row b off xs A' c' hb hlen hi h0 h1 ih

theorem ArgsN.args (h : ArgsN w N A xs) (hN : ∀ g, N g → g < B) : Args w B A xs := by
  induction h with
  | nil A => exact .nil A
  | row b off xs A' c' hb hlen hi h0 h1 _ ih => exact .row b off xs A' c' (hN b hb) hlen hi h0 h1 ih

theorem ArgsN.keep (h : ArgsN w N A xs) (hk : ∀ g, N g → w'.heap[g]? = w.heap[g]?) : ArgsN w' N A xs := by
  induction h with
  | nil A => exact .nil A
  | row b off xs A' c' hb hlen hi h0 h1 _ ih => exact .row b off xs A' c' hb hlen hi (fun i t e => (cell_of_heap (hk b hb)).trans (h0 i t e)) (fun i t e => (cell_of_heap (hk b hb)).trans (h1 i t e)) ih

theorem ArgsN.wide {M : Nat → Prop} (h : ArgsN w N A xs) (hk : ∀ g, N g → M g) : ArgsN w M A xs := by
  induction h with
  | nil A => exact .nil A
  | row b off xs A' c' hb hlen hi h0 h1 _ ih => exact .row b off xs A' c' (hk b hb) hlen hi h0 h1 ih

theorem ArgsN.len (h : ArgsN w N A xs) : xs.length ≤ 9223372036854775807 := by
  cases h with
  | nil => simp
  | row => assumption

structure ArgAtN (w : World) (N : Nat → Prop) (b off i : Nat) (t : Tm) (A' : Option Addr) (c' : Nat) : Prop where
  hb : N b
  hi : I64 t.fn
  c0 : w.cell? ⟨b, off + i * 2, none⟩ = some (.int .i64 t.fn)
  c1 : w.cell? ⟨b, off + i * 2 + 1, none⟩ = some (.slice A' t.args.length c')
  sub : ArgsN w N A' t.args

theorem ArgsN.get (h : ArgsN w N A xs) {i : Nat} {t : Tm} (hi : xs[i]? = some t) : ∃ b off A' c', A = some ⟨b, off, none⟩ ∧ ArgAtN w N b off i t A' c' := by
  cases h with
  | nil => simp at hi
  | row b off _ A' c' hb hlen hi' h0 h1 hs => exact ⟨b, off, A' i, c' i, rfl, hb, hi' i t hi, h0 i t hi, h1 i t hi, hs i t hi⟩

theorem OwnT.argsN {lo hi : Nat} (h : OwnT w lo hi A xs) : ArgsN w (fun g => lo ≤ g ∧ g < hi) A xs := by
  induction h with
  | nil lo hi A => exact .nil A
  | row lo hi b cap xs vs A' c' m hlo hpos hlen hrow hm0 hmn hm hi64 h0 h1 _ ih =>
    have hbm : b < hi := by have := mono_to hm (Nat.zero_le xs.length) (Nat.le_refl _); omega
    have hvs : vs.length = xs.length * 2 := hrow.1
    refine .row b 0 xs A' c' ⟨hlo, hbm⟩ hlen hi64 (fun i t e => ?_) (fun i t e => ?_) fun i t hit => (ih i t hit).wide fun g hg => ?_
    · have hil := (List.getElem?_eq_some_iff.1 e).1
      rw [Nat.zero_add, hrow.cellAt (i * 2) (by omega)]
      exact h0 i t e
    · have hil := (List.getElem?_eq_some_iff.1 e).1
      rw [Nat.zero_add, hrow.cellAt (i * 2 + 1) (by omega)]
      exact h1 i t e
    · have hil := (List.getElem?_eq_some_iff.1 hit).1
      have e1 := mono_to hm (show i + 1 ≤ xs.length by omega) (Nat.le_refl _)
      have e2 := mono_to hm (Nat.zero_le i) (by omega)
      omega

end

/-- What is handed to a round: a place and what stands there, where they lie. -/
structure Vis where
  pos : List Int
  t : Tm
  A : Option Addr
  c : Nat
  A' : Option Addr
  c' : Nat

def Vis.key (x : Vis) : List Int × Tm := (x.pos, x.t)

def visEnc (x : Vis) : Array Value := #[.slice x.A x.pos.length x.c, .agg #[.int .i64 x.t.fn, .slice x.A' x.t.args.length x.c']]

structure VisFx (x : Vis) (W : World) : Prop where
  pos : Ints W W.heap.size x.A x.pos
  i64 : I64 x.t.fn
  args : Args W W.heap.size x.A' x.t.args

/-- The iterator's cells: yield, the place so far, the function that goes on. -/
structure ItSt (W : World) (C : World → Nat → Prop) (l b : Nat) (pos : List Int) : Prop where
  cy : W.heap[b]? = some (.cells #[.func (.yield l) #[] #[]] 93)
  cp : ∃ A c, W.heap[b + 1]? = some (.cells #[.slice A pos.length c] 71) ∧ W.ownsRow (b + 3) 3 1 (.slice A pos.length c) pos.length (pos.map (Value.int .i64)) ∧ ∀ g, (Value.slice A pos.length c).ownBlock = some g → ¬ C W g
  cv : W.heap[b + 2]? = some (.cells #[.func (.func 64) #[] #[.pointer (some ⟨b, 0, none⟩), .pointer (some ⟨b + 1, 0, none⟩), .pointer (some ⟨b + 2, 0, none⟩)]] 89)
  nc : ¬ C W b ∧ ¬ C W (b + 1) ∧ ¬ C W (b + 2)

theorem row_lt {W : World} {base n : Nat} {e : TypeId} {size : Nat} {v : Value} {vs : List Value} (h : W.ownsRow base e size v n vs) : ∀ g, v.ownBlock = some g → base ≤ g ∧ g < W.heap.size := by
  intro g hg
  rcases h.2 with ⟨rfl, _⟩ | ⟨g', cap, cur, rfl, hb, hgc, _⟩
  · cases hg
  · simp [Value.ownBlock] at hg
    subst hg
    exact ⟨hb, (Array.getElem?_eq_some_iff.1 hgc).1⟩

theorem row_keep {W W' : World} {base n : Nat} {e : TypeId} {size : Nat} {v : Value} {vs : List Value} (h : W.ownsRow base e size v n vs) (hk : ∀ g, v.ownBlock = some g → W'.heap[g]? = W.heap[g]?) : W'.ownsRow base e size v n vs := by
  refine ⟨h.1, ?_⟩
  rcases h.2 with h0 | ⟨g', cap, cur, rfl, hb, hgc, hrest⟩
  · exact .inl h0
  · exact .inr ⟨g', cap, cur, rfl, hb, (hk g' rfl).trans hgc, hrest⟩

section

variable {W W' : World} {C : World → Nat → Prop} {N : Nat → Prop} {l b : Nat} {pos : List Int}

/-- It stays, where nothing of its own turns and the rounds speak of none of it. -/
theorem ItSt.keep (h : ItSt W C l b pos) (hk : ∀ g, g < W.heap.size → ¬ C W g → W'.heap[g]? = W.heap[g]? ∧ ¬ C W' g) : ItSt W' C l b pos := by
  obtain ⟨A, c, h1, h2, h3⟩ := h.cp
  have lt : ∀ {g : Nat} {o : Obj}, W.heap[g]? = some o → g < W.heap.size := fun e => (Array.getElem?_eq_some_iff.1 e).1
  refine ⟨(hk b (lt h.cy) h.nc.1).1.trans h.cy, ⟨A, c, (hk _ (lt h1) h.nc.2.1).1.trans h1, row_keep h2 fun g e => (hk g (row_lt h2 g e).2 (h3 g e)).1, fun g e => (hk g (row_lt h2 g e).2 (h3 g e)).2⟩, (hk _ (lt h.cv) h.nc.2.2).1.trans h.cv, (hk b (lt h.cy) h.nc.1).2, (hk _ (lt h1) h.nc.2.1).2, (hk _ (lt h.cv) h.nc.2.2).2⟩

theorem ItSt.stp (h : ItSt W C l b pos) (hs : Stp N C W W') : ItSt W' C l b pos :=
  h.keep fun g h1 h2 => ⟨hs.keeps.block g (.inr ⟨h1, h2⟩), fun e => (hs.grows g e).elim h2 (fun e => by omega)⟩

theorem ItSt.alloc (h : ItSt W C l b pos) (o : Obj) (hC : ∀ g, C (W.alloc o) g → C W g) : ItSt (W.alloc o) C l b pos :=
  h.keep fun g h1 h2 => ⟨Below.heap_alloc W o g h1, fun e => h2 (hC g e)⟩

/-- The place, as the rounds may read it. -/
theorem ItSt.ints (h : ItSt W C l b pos) (hi : ∀ x ∈ pos, I64 x) (hl : pos.length ≤ 9223372036854775807) : ∃ A c, W.heap[b + 1]? = some (.cells #[.slice A pos.length c] 71) ∧ Ints W W.heap.size A pos := by
  obtain ⟨A, c, h1, h2, h3⟩ := h.cp
  refine ⟨A, c, h1, hl, hi, fun hpos => ?_⟩
  rcases h2.2 with ⟨_, h0⟩ | ⟨g, cap, cur, hv, hb, hg, _⟩
  · omega
  · injection hv with hA hn hc
    subst hA
    refine ⟨g, 0, rfl, (Array.getElem?_eq_some_iff.1 hg).1, fun i x hx => ?_⟩
    have hlt := (List.getElem?_eq_some_iff.1 hx).1
    rw [Nat.zero_add, h2.cellAt i (by simpa using hlt)]
    simp [hx]

end

end Go.Proofs.YtfnncphkidhbpaaDoor

/- Terms with their variables renamed, in plain words; a row of terms that is made member by member. each, at terms: a row of its own of what becomes of the members. -/

namespace Go.Proofs.YtfnncphkidhbpaaDoor

open Go.RowKit
set_option maxRecDepth 100000

section

variable {σ : Type} (nx : σ → Int → σ × Int)

/-- A symbol's number, or a variable's renamed: what is asked in turn keeps a state. -/
def renF (s : σ) (f : Int) : σ × Int := if f < 0 then ((nx s (-1 - f)).1, -1 - (nx s (-1 - f)).2) else (s, f)

mutual
def renT : σ → Tm → σ × Tm
  | s, .node f xs => ((renL (renF nx s f).1 xs).1, .node (renF nx s f).2 (renL (renF nx s f).1 xs).2)
def renL : σ → List Tm → σ × List Tm
  | s, [] => (s, [])
  | s, t :: ts => ((renL (renT s t).1 ts).1, (renT s t).2 :: (renL (renT s t).1 ts).2)
end

theorem renL_len : ∀ (s : σ) (xs : List Tm), (renL nx s xs).2.length = xs.length
  | _, [] => by simp [renL]
  | s, t :: ts => by simp [renL, renL_len]

theorem renL_get : ∀ (s : σ) (xs : List Tm) (i : Nat) (t : Tm), xs[i]? = some t → (renL nx s xs).2[i]? = some (renT nx (renL nx s (xs.take i)).1 t).2 ∧ (renL nx s (xs.take (i + 1))).1 = (renT nx (renL nx s (xs.take i)).1 t).1
  | _, [], i, t, h => by simp at h
  | s, x :: xs, 0, t, h => by
    simp at h
    subst h
    simp [renL]
  | s, x :: xs, i + 1, t, h => by
    have ih := renL_get (renT nx s x).1 xs i t (by simpa using h)
    simp only [List.take_succ_cons, renL, List.getElem?_cons_succ]
    exact ih

end

/-- All blocks that were there lie as they lay, but for C's. -/
def KeepsC (C : Nat → Prop) (w w' : World) : Prop := Keeps (fun g => g < w.heap.size ∧ ¬ C g) w w'

section

variable {C : Nat → Prop} {a b c : World}

theorem KeepsC.k (h : KeepsC C a b) : Keeps (fun g => g < a.heap.size ∧ ¬ C g) a b := h

theorem KeepsC.refl (C : Nat → Prop) (a : World) : KeepsC C a a := Keeps.refl _ _

theorem KeepsC.size (h : KeepsC C a b) : a.heap.size ≤ b.heap.size := Keeps.size h

theorem KeepsC.trans (h : KeepsC C a b) (k : KeepsC C b c) : KeepsC C a c := Keeps.trans h (Keeps.mono k fun _ e => ⟨Nat.lt_of_lt_of_le e.1 h.size, e.2⟩)

theorem KeepsC.of_below (h : Below a.heap.size a b) : KeepsC C a b := (Keeps.of_below h).mono fun _ e => e.1

theorem KeepsC.alloc (h : KeepsC C a b) (o : Obj) : KeepsC C a (b.alloc o) := h.trans (Keeps.alloc b o |>.mono fun _ e => e.1)

theorem KeepsC.set (h : KeepsC C a b) {p : Addr} (hp : a.heap.size ≤ p.block) (v : Value) : KeepsC C a (b.setCell p v) :=
  Keeps.trans h ((Keeps.set b p v).mono fun g e => by show g ≠ p.block; have := e.1; omega)

theorem KeepsC.block (h : KeepsC C a b) {g : Nat} (hg : g < a.heap.size) (hc : ¬ C g) : b.heap[g]? = a.heap[g]? := Keeps.block h g ⟨hg, hc⟩

theorem KeepsC.below (h : KeepsC C a b) {n : Nat} (hn : n ≤ a.heap.size) (hc : ∀ g, g < n → ¬ C g) : Below n a b := Keeps.below h fun g e => ⟨by omega, hc g e⟩

theorem KeepsC.none (h : KeepsC (fun _ => False) a b) : Below a.heap.size a b := h.below (Nat.le_refl _) fun _ _ e => e

theorem KeepsC.mono {D : Nat → Prop} (h : KeepsC C a b) (hd : ∀ g, C g → D g) : KeepsC D a b := Keeps.mono h fun _ e => ⟨e.1, fun k => e.2 (hd _ k)⟩

end

theorem RowK.onK {w w' : World} {xs : List Tm} {b cap k : Nat} {vs : List Value} {A' : Nat → Option Addr} {c' m : Nat → Nat} (h : RowK w b cap xs k vs A' c' m) (hbs : b < w.heap.size) (hs : w.heap.size ≤ w'.heap.size) (hk : ∀ g, b ≤ g → g < w.heap.size → w'.heap[g]? = w.heap[g]?) : RowK w' b cap xs k vs A' c' m :=
  ⟨ownsRow_keep h.row (fun g' e => by simp [Value.ownBlock] at e; exact e.symm) (hk b (Nat.le_refl _) hbs), h.m0, Nat.le_trans h.mke hs, h.mono, h.i64, h.v0, h.v1, fun i t hik e => (h.sub i t hik e).keep fun g h1 h2 => hk g (by have := mono_to h.mono (Nat.zero_le i) (by omega); have := h.m0; omega) (by have := mono_to h.mono (show i + 1 ≤ k by omega) (Nat.le_refl _); have := h.mke; omega)⟩

end Go.Proofs.YtfnncphkidhbpaaDoor

namespace Go.Proofs.YtfnncphkidhbpaaDoor

open Go.RowKit
set_option maxRecDepth 100000

theorem argsN_upK {w w' : World} {C N : Nat → Prop} {A : Option Addr} {xs : List Tm} (h : ArgsN w N A xs) (hk : KeepsC C w w') (hb : ∀ g, N g → g < w.heap.size) (hc : ∀ g, N g → ¬ C g) : ArgsN w' N A xs :=
  h.keep fun g e => hk.block (hb g e) (hc g e)

end Go.Proofs.YtfnncphkidhbpaaDoor

/- walk's closure that calls itself. -/

namespace Go.Proofs.YtfnncphkidhbpaaDoor

open Go.RowKit Go.Shelf
attribute [local go_sem] Oper.semAt_some
set_option maxRecDepth 100000

theorem infoInt : (Tryd.prog.info? 3).map (fun i => (i.zero, i.size, i.bytes)) = some (some (.int .i64 0), 1, 8) := by kernel_rfl

/-- 'append' in a fence; and the row lies where it lay, or in a new block. -/
theorem wpListIn_append_at {F : Fence} {n : Nat} {P : Program} (w : World) {ops : Array Oper} {rest : List Oper} {o : Oper} {a : Act} {Q : Exit → Act → World → Prop}
    (hg : o.guard = none) (s x : Operand) (t : TypeId) (hop : o.op = Op.call { callee := Callee.builtin Builtin.append, args := #[s, x], argTypes := #[t, t] })
    (base : Nat) (e : TypeId) (i : TypeInfo) (z : Value) (size bytes : Nat) (h1 : P.underlying t = some (.slice e)) (h2 : P.info? e = some i) (h3 : i.zero = some z) (h4 : i.size = size) (h5 : i.bytes = bytes) (h6 : z.cells.size = size) (h7 : 0 < size)
    (v : Value) (k : Nat) (xs : List Value) (hs : a.eval s = v) (hown : w.ownsRow base e size v k xs) (ad : Addr) (m c : Nat) (news : List Value) (hx : a.eval x = .slice (some ad) m c) (hn : news.length = m * size)
    (hc : ∀ j u, news[j]? = some u → w.cell? (ad.add j) = some u) (h1c : ∀ u ∈ news, u.oneCell' = true) (b1 : k + m ≤ maxLen) (b2 : (k + m) * bytes ≤ 140737488355328) (b3 : base ≤ w.heap.size)
    (hK : ∀ v' w', w'.ownsRow base e size v' (k + m) (xs ++ news) → w.grownBy w' v.ownBlock → (v'.ownBlock = v.ownBlock ∨ v'.ownBlock = some w.heap.size) → wpListIn F n P ops Q rest (a.put o.dst v') w') :
    wpListIn F n P ops Q (o :: rest) a w := by
  obtain ⟨v', w', hrun, r1, r2, _, r4⟩ := run_append_own_at (P := P) w base t o.type e i z size bytes h1 h2 h3 h4 h5 h6 h7 v k xs hown ad m c news hn hc h1c b1 b2 b3
  refine wpListIn_plain hg fun K hK' => ⟨?_, ?_⟩
  · simp [Oper.about, hop, resolve, Target.leads, Sem.run_pure]
  · rw [Oper.semAt_plain F _ _ (by rw [hop]; intro c hc'; cases hc')]
    simp [execOp, hop, resolve, invoke, builtin, hs, hx, hrun, Result.andThen]
    exact hK' _ _ (hK v' w' r1 r2 r4)

theorem room_of_none {F : Fence} (hd : F.depth = none) (k : Nat) : F.room k := fun d h => by rw [hd] at h; cases h

theorem row_pop {W : World} {base n g cap : Nat} {e : TypeId} {vs : List Value} {x : Value} (h : W.ownsRow base e 1 (.slice (some ⟨g, 0, none⟩) (n + 1) cap) (n + 1) (vs ++ [x])) : W.ownsRow base e 1 (.slice (some ⟨g, 0, none⟩) n cap) n vs := by
  have hl : vs.length = n := by have := h.1; simp at this; omega
  refine ⟨by simpa using hl, .inr ?_⟩
  rcases h.2 with ⟨h0, _⟩ | ⟨g', cap', cur, hv, hb, hg, h1, h2, h3, h4⟩
  · cases h0
  · injection hv with e1 e2 e3
    injection e1 with e1
    injection e1 with e1 _ _
    subst e1; subst e3
    refine ⟨g, cap, cur, rfl, hb, hg, by omega, h2, h3, ?_⟩
    have h5 := congrArg (List.take n) h4
    rw [List.take_take, Nat.min_eq_left (by omega)] at h5
    rw [Nat.mul_one, h5]
    exact List.take_left' hl

/-- One number more stands behind the place. -/
theorem ItSt.pushed {wr w1 : World} {C : World → Nat → Prop} {l b c k : Nat} {pos : List Int} {A : Option Addr} {v1 : Value} (h : ItSt wr C l b pos) (hrow : w1.ownsRow (b + 3) 3 1 v1 (pos.length + 1) (pos.map (Value.int .i64) ++ [.int .i64 (k : Int)]))
    (hK : Keeps (fun g => g < wr.heap.size ∧ some g ≠ (Value.slice A pos.length c).ownBlock) wr w1) (hro : ∀ g, (Value.slice A pos.length c).ownBlock = some g → b + 3 ≤ g) (hC : ∀ g, C (w1.setCell ⟨b + 1, 0, none⟩ v1) g → C wr g) (hbd : ∀ g, C wr g → g < wr.heap.size)
    (hp : w1.heap[b + 1]? = wr.heap[b + 1]?) (hv1 : ∀ g, v1.ownBlock = some g → some g = (Value.slice A pos.length c).ownBlock ∨ wr.heap.size ≤ g) (hnr : ∀ g, (Value.slice A pos.length c).ownBlock = some g → ¬ C wr g) :
    ItSt (w1.setCell ⟨b + 1, 0, none⟩ v1) C l b (pos ++ [(k : Int)]) := by
  have lt : ∀ {g : Nat} {o : Obj}, wr.heap[g]? = some o → g < wr.heap.size := fun e => (Array.getElem?_eq_some_iff.1 e).1
  obtain ⟨g, cap, rfl⟩ := ownsRow_succ hrow
  obtain ⟨A0, c0, q1, q2, q3⟩ := h.cp
  have hg := (row_lt hrow g rfl).1
  refine ⟨?_, ⟨some ⟨g, 0, none⟩, cap, ?_, ?_, ?_⟩, ?_, fun e => h.nc.1 (hC _ e), fun e => h.nc.2.1 (hC _ e), fun e => h.nc.2.2 (hC _ e)⟩
  · rw [heap_setCell_other _ _ _ _ (by show b ≠ b + 1; omega)]
    exact (hK.block b ⟨lt h.cy, fun e => by have := hro b e.symm; omega⟩).trans h.cy
  · have := heap_setCell_same w1 (b + 1) 0 _ _ (.slice (some ⟨g, 0, none⟩) (pos.length + 1) cap) (hp.trans q1)
    simpa using this
  · have := ownsRow_keep (w' := w1.setCell ⟨b + 1, 0, none⟩ (.slice (some ⟨g, 0, none⟩) (pos.length + 1) cap)) (g := g) hrow (fun g' e => by simp [Value.ownBlock] at e; exact e.symm) (heap_setCell_other _ _ _ _ (by show g ≠ b + 1; omega))
    simpa using this
  · intro g' e hc
    simp [Value.ownBlock] at e
    subst e
    have hc' := hC _ hc
    rcases hv1 g rfl with e | e
    · exact hnr g e.symm hc'
    · have := hbd _ hc'; omega
  · rw [heap_setCell_other _ _ _ _ (by show b + 2 ≠ b + 1; omega)]
    exact (hK.block (b + 2) ⟨lt h.cv, fun e => by have := hro _ e.symm; omega⟩).trans h.cv

/-- The last number of the place goes. -/
theorem ItSt.popped {wr : World} {C : World → Nat → Prop} {l b : Nat} {pos : List Int} {x : Int} (h : ItSt wr C l b (pos ++ [x])) : ∃ g cap, wr.heap[b + 1]? = some (.cells #[.slice (some ⟨g, 0, none⟩) (pos.length + 1) cap] 71) ∧ pos.length + 1 ≤ cap ∧
    ((∀ e, C (wr.setCell ⟨b + 1, 0, none⟩ (.slice (some ⟨g, 0, none⟩) pos.length cap)) e → C wr e) → ItSt (wr.setCell ⟨b + 1, 0, none⟩ (.slice (some ⟨g, 0, none⟩) pos.length cap)) C l b pos) := by
  obtain ⟨A, c, q1, q2, q3⟩ := h.cp
  simp only [List.length_append, List.length_cons, List.length_nil, Nat.zero_add, List.map_append, List.map_cons, List.map_nil] at q1 q2 q3
  obtain ⟨g, cap, hv⟩ := ownsRow_succ q2
  injection hv with e1 _ e3
  subst e1; subst e3
  have hg := (row_lt q2 g rfl).1
  have hcap : pos.length + 1 ≤ c := by
    rcases q2.2 with ⟨h0, _⟩ | ⟨g', cap', cur, hv, _, _, h1, _⟩
    · cases h0
    · injection hv with e1 e2 e3; subst e3; exact h1
  refine ⟨g, c, q1, hcap, fun hC => ⟨?_, ⟨some ⟨g, 0, none⟩, c, ?_, ?_, ?_⟩, ?_, fun e => h.nc.1 (hC _ e), fun e => h.nc.2.1 (hC _ e), fun e => h.nc.2.2 (hC _ e)⟩⟩
  · rw [heap_setCell_other _ _ _ _ (by show b ≠ b + 1; omega)]; exact h.cy
  · exact heap_setCell_same wr (b + 1) 0 _ _ _ q1
  · exact ownsRow_keep (g := g) (row_pop q2) (fun g' e => by simp [Value.ownBlock] at e; exact e.symm) (heap_setCell_other _ _ _ _ (by show g ≠ b + 1; omega))
  · intro g' e hc
    simp [Value.ownBlock] at e
    subst e
    exact q3 g rfl (hC _ hc)
  · rw [heap_setCell_other _ _ _ _ (by show b + 2 ≠ b + 1; omega)]; exact h.cv

/-- What a walk from this term on does. -/
def VisitAt (F : Fence) (l b D : Nat) (N : Nat → Prop) (C : World → Nat → Prop) (J Jx : List Vis → World → Prop) (V : List (List Int × Tm)) (t : Tm) : Prop :=
  ∀ (n : Nat) (pos : List Int) (pre : List Vis) (A : Option Addr) (c : Nat) (W : World), I64 t.fn → ArgsN W N A t.args → J pre W → ItSt W C l b pos → (∀ x ∈ pos, I64 x) → pos.length + t.depth ≤ D → (pre.map Vis.key ++ vis pos t <+: V) →
    CallsIn F n Tryd.prog 64 #[.agg #[.int .i64 t.fn, .slice A t.args.length c], .pointer (some ⟨b, 0, none⟩), .pointer (some ⟨b + 1, 0, none⟩), .pointer (some ⟨b + 2, 0, none⟩)] W fun e W' =>
      (e = .returned (.bool true) ∧ ∃ q : List Vis, q.map Vis.key = vis pos t ∧ J (pre ++ q) W' ∧ ItSt W' C l b pos ∧ Keeps N W W') ∨
      (e = .returned (.bool false) ∧ ∃ q : List Vis, (pre ++ q).map Vis.key <+: V ∧ Jx (pre ++ q) W')

theorem visit_in (F : Fence) (hd : F.depth = none) (h65 : F.fn 64) (hro : F.round = none) (l b D : Nat) (hD : D ≤ 1099511627776) (N : Nat → Prop) (C : World → Nat → Prop) (J Jx : List Vis → World → Prop) (V : List (List Int × Tm))
    (hJ : FrameC C J) (hB : BoundC C J) (hNb : ∀ g, N g → g < b)
    (hY : ∀ m pre x W1, J pre W1 → (pre ++ [x]).map Vis.key <+: V → VisFx x W1 → YieldAt F m Tryd.prog l (visEnc x) W1 fun e W' =>
      (e = .returned (.bool true) ∧ J (pre ++ [x]) W' ∧ Stp N C W1 W') ∨ (e = .returned (.bool false) ∧ Jx (pre ++ [x]) W')) (t : Tm) :
    VisitAt F l b D N C J Jx V t := by
  refine Tm.ind (P := VisitAt F l b D N C J Jx V) (fun f xs ih => ?_) t
  intro n pos pre A c W hf hA hJ0 hI hpi hdp hV
  have hdd : ∀ k : Nat, (F.depth.isSome = true → 1 ≤ k) := fun k h => by rw [hd] at h; cases h
  simp only [Tm.fn, Tm.args] at hf hA ⊢
  have hl64 := hA.len
  have hpl : pos.length ≤ 9223372036854775807 := by omega
  obtain ⟨i0, hi, hz0, hz1, hz2⟩ := info_parts infoInt
  -- the box of the term, and the first round
  obtain ⟨W1, hW1⟩ : ∃ W1, W.alloc (.cells #[.int .i64 f, .slice A xs.length c] 47) = W1 := ⟨_, rfl⟩
  have hK1 : Keeps (· < W.heap.size) W W1 := by rw [← hW1]; exact Keeps.alloc _ _
  have hbox : W1.heap[W.heap.size]? = some (.cells #[.int .i64 f, .slice A xs.length c] 47) := by rw [← hW1]; exact heap_alloc_new _ _
  obtain ⟨hJ1, hC1⟩ := hJ pre W W1 hJ0 (hK1.mono fun g e => hB pre W hJ0 g e)
  have hI1 : ItSt W1 C l b pos := hI.keep fun g h1 h2 => ⟨hK1.block g h1, fun e => h2 (hC1 g e)⟩
  have hbl : b + 2 < W.heap.size := (Array.getElem?_eq_some_iff.1 hI.cv).1
  have hA1 : ArgsN W1 N A xs := hA.keep fun g e => hK1.block g (by have := hNb g e; show g < W.heap.size; omega)
  obtain ⟨Ap, cp, hp1, hints⟩ := hI1.ints hpi hpl
  have hfx : VisFx ⟨pos, .node f xs, Ap, cp, A, c⟩ W1 := ⟨hints, hf, hA1.args fun g e => by have := hNb g e; have := hK1.size; omega⟩
  have hV1 : (pre ++ [(⟨pos, .node f xs, Ap, cp, A, c⟩ : Vis)]).map Vis.key <+: V := by
    refine List.IsPrefix.trans ?_ hV
    rw [List.map_append, vis_eq]
    exact (List.prefix_append_right_inj _).2 (by simp [Vis.key])
  obtain ⟨fn, tmps, assign, body, hy, hR⟩ := hY (n - 1) pre _ W1 hJ1 hV1 hfx
  simp only [visEnc, Tm.fn, Tm.args] at hy
  have hcy := Boxed.cell (show Boxed W1 b _ _ from hI1.cy)
  have hcp := Boxed.cell (show Boxed W1 (b + 1) _ _ from hp1)
  have Hy := Lib.hid hI1
  have HJ1 := Lib.hid hJ1
  have Hpv := Lib.hid hV1
  have hBW := hB pre W hJ0
  have Hvis := Lib.hid (vis_eq pos (.node f xs))
  clear hI hJ0 hints hfx hV1 hp1 hI1 hJ1
  subst hW1
  refine callsIn_of_wp Tryd.func64 rfl h65 ?_ hro
  simp only [Tryd.ntmps64, List.size_toArray, List.length_cons, List.length_nil, Nat.reduceAdd, Nat.reduceSub, Array.replicate_succ, Array.replicate_zero, List.push_toArray, List.append_toArray, List.nil_append, List.cons_append]
  gi_wp2
  refine hR.mono ?_
  rintro e W2 (⟨rfl, hJ2, hst2⟩ | ⟨rfl, hJx2⟩)
  · have hb2 : ¬ C (W.alloc (.cells #[.int .i64 f, .slice A xs.length c] 47)) W.heap.size := fun e => by have := hBW _ (hC1 _ e); omega
    have hx2 : W2.heap[W.heap.size]? = some (.cells #[.int .i64 f, .slice A xs.length c] 47) := (hst2.keeps.block _ (.inr ⟨by simp, hb2⟩)).trans hbox
    obtain ⟨_, x1, _, _⟩ := cells_two hx2
    have hI2 := Hy.out.stp hst2
    have hA2 : ArgsN W2 N A xs := hA1.keep fun g e => hst2.keeps.block g (.inl e)
    have hK2 : Keeps N W W2 := (hK1.mono fun g e => by have := hNb g e; show g < W.heap.size; omega).trans (hst2.keeps.mono fun g e => .inl e)
    obtain ⟨q0, hq0⟩ : ∃ q0 : Vis, q0 = ⟨pos, .node f xs, Ap, cp, A, c⟩ := ⟨_, rfl⟩
    rw [← hq0] at hJ2
    have hq0k : q0.key = (pos, .node f xs) := by rw [hq0]; rfl
    clear hR hy hst2 hq0
    gi_wp2
    gi_loopw [16] (fun i wr => ∃ (k : Nat) (q : List Vis), k ≤ xs.length ∧ i = .int .i64 (k : Int) ∧ q.map Vis.key = (pos, .node f xs) :: visL pos 0 (xs.take k) ∧ J (pre ++ q) wr ∧ ItSt wr C l b pos ∧ Keeps N W wr) (fun i _ => xs.length - (intOf i).toNat)
    case atStart => exact ⟨0, [q0], Nat.zero_le _, rfl, by simp [hq0k, visL], hJ2, hI2, hK2⟩
    case round =>
      obtain ⟨k, q, hk, rfl, hq, hJr, hIr, hKr⟩ := hrel
      by_cases hlt : k < xs.length
      · obtain ⟨u, hu⟩ : ∃ u, xs[k]? = some u := ⟨_, List.getElem?_eq_getElem hlt⟩
        have hAr : ArgsN wr N A xs := hA.keep fun g e => hKr.block g e
        obtain ⟨bb, off, A1, c1, rfl, ha⟩ := hAr.get hu
        have e0 := ha.c0
        have e1 := ha.c1
        have hbr : b + 2 < wr.heap.size := (Array.getElem?_eq_some_iff.1 hIr.cv).1
        obtain ⟨Ar, cr, hpr, hrow, hnr⟩ := hIr.cp
        have hBr := hB _ _ hJr
        -- the box of the argument; its number as a row of one
        have hKa : Keeps (· < wr.heap.size) wr (wr.alloc (.cells #[.int .i64 u.fn, .slice A1 u.args.length c1] 47)) := Keeps.alloc _ _
        have hKb : Keeps (· < wr.heap.size) wr ((wr.alloc (.cells #[.int .i64 u.fn, .slice A1 u.args.length c1] 47)).alloc (.cells #[.int .i64 (k : Int)] 3)) := hKa.trans ((Keeps.alloc _ _).mono fun g e => by show g < _; simp; have : g < wr.heap.size := e; omega)
        have hbx0 : ((wr.alloc (.cells #[.int .i64 u.fn, .slice A1 u.args.length c1] 47)).alloc (.cells #[.int .i64 (k : Int)] 3)).heap[wr.heap.size]? = some (.cells #[.int .i64 u.fn, .slice A1 u.args.length c1] 47) := (Below.heap_alloc _ _ _ (by simp)).trans (heap_alloc_new _ _)
        have hone := cell_one_new (wr.alloc (.cells #[.int .i64 u.fn, .slice A1 u.args.length c1] 47)) (.int .i64 (k : Int)) 3
        rw [World.size_alloc] at hone
        have hpD : pos.length + 1 ≤ 1099511627776 := by have := depth_pos u; have := depth_mem (List.mem_of_getElem? hu); simp only [Tm.depth] at hdp; omega
        have Hu := Lib.hid hu
        have Ha := Lib.hid ha
        have HI := Lib.hid hIr
        have HJ := Lib.hid hJr
        have hcpr := Boxed.cell (show Boxed (wr.alloc (.cells #[.int .i64 u.fn, .slice A1 u.args.length c1] 47)) (b + 1) _ _ from (hKa.block _ (by show b + 1 < wr.heap.size; omega)).trans hpr)
        have hcvr := Boxed.cell (show Boxed wr (b + 2) _ _ from hIr.cv)
        have hfp := Boxed.frozen (show Boxed wr (b + 1) _ _ from hpr)
        clear hu ha hIr hJr hAr
        gi_wp2_with (first
          | (gi_at_builtin
             go_must (
             refine wpListIn_append_at _ rfl _ _ 71 rfl (b + 3) 3 i0 (.int .i64 0) 1 8 Tryd.underlying71 hi hz0 hz1 hz2 rfl (by decide) _ _ _ rfl ((hrow.alloc _).alloc _) ⟨wr.heap.size + 1, 0, none⟩ 1 1 [.int .i64 (k : Int)] rfl rfl hone (by simp [Value.oneCell']) (by unfold maxLen; omega) (by omega) (by simp; omega) ?_
             intro v1 w1 hown1 hgr1 hat1
             obtain ⟨g1, cap1, rfl⟩ := ownsRow_succ hown1
             have hK1' : Keeps (fun g => g < wr.heap.size ∧ some g ≠ (Value.slice Ar pos.length cr).ownBlock) wr w1 := (hKb.mono fun g e => e.1).trans ((Keeps.of_grown hgr1).mono fun g e => ⟨by have h7 := e.1; simp; omega, e.2⟩)
             have hbx1 : w1.heap[wr.heap.size]? = some (.cells #[.int .i64 u.fn, .slice A1 u.args.length c1] 47) := (hgr1.block _ (by simp; omega) (fun e => by have := (row_lt hrow _ e.symm).2; omega)).trans hbx0
             have hpb1 : w1.heap[b + 1]? = wr.heap[b + 1]? := hK1'.block _ ⟨by omega, fun e => by have := (row_lt hrow _ e.symm).1; omega⟩
             have hpv1 : w1.heap[b + 2]? = wr.heap[b + 2]? := hK1'.block _ ⟨by omega, fun e => by have := (row_lt hrow _ e.symm).1; omega⟩
             have hd1 := hJ _ wr (w1.setCell ⟨b + 1, 0, none⟩ (.slice (some ⟨g1, 0, none⟩) (pos.length + 1) cap1)) HJ.out ⟨hK1'.os, hK1'.tape, hK1'.output, by simpa using hK1'.size, fun g e => (heap_setCell_other _ _ _ _ (fun e' => HI.out.nc.2.1 (by have e'' : g = b + 1 := e'; rw [← e'']; exact e))).trans (hK1'.block g ⟨hBr g e, fun e' => hnr g e'.symm e⟩)⟩
             have hI5 := HI.out.pushed hown1 hK1' (fun g e => (row_lt hrow g e).1) hd1.2 hBr hpb1 (fun g e => hat1.elim (fun h9 => .inl (e.symm.trans h9)) (fun h9 => .inr (by rw [e] at h9; injection h9 with h9; rw [h9]; simp; omega))) hnr
             have hcv5 := Boxed.cell (show Boxed w1 (b + 2) _ _ from hpv1.trans HI.out.cv)
             obtain ⟨hb50, hb51, _, _⟩ := cells_two hbx1
             have hfr5 := Boxed.frozen (show Boxed w1 (b + 1) _ _ from hpb1.trans hpr)
             have hcc5 := Boxed.cell (show Boxed w1 (b + 1) _ _ from hpb1.trans hpr)
             have hI5 := Lib.hid hI5
             have hd1 := Lib.hid hd1
             clear hgr1 hbx1))
          | fail)
        have hKN : Keeps N wr (w1.setCell ⟨b + 1, 0, none⟩ (.slice (some ⟨g1, 0, none⟩) (pos.length + 1) cap1)) := (hK1'.mono fun g e => ⟨by have := hNb g e; omega, fun e' => by have := hNb g e; have := (row_lt hrow _ e'.symm).1; omega⟩).trans ((Keeps.set _ _ _).mono fun g e => by have := hNb g e; show g ≠ b + 1; omega)
        have hmem := List.mem_of_getElem? Hu.out
        have hk64 : I64 (k : Int) := ⟨by omega, by omega⟩
        have hVk := visL_take (p := pos) Hu.out
        have hdu := depth_mem hmem
        refine (ih u hmem (n - 1) (pos ++ [(k : Int)]) (pre ++ q) A1 c1 _ Ha.out.hi (Ha.out.sub.keep fun g e => hKN.block g e) hd1.out.1 hI5.out ?_ ?_ ?_).mono ?_
        · intro x hx
          rcases List.mem_append.1 hx with hx | hx
          · exact hpi x hx
          · simp only [List.mem_cons, List.not_mem_nil, or_false] at hx
            subst hx; exact hk64
        · simp only [Tm.depth] at hdp
          simp only [List.length_append, List.length_cons, List.length_nil]
          omega
        · refine List.IsPrefix.trans ?_ hV
          rw [List.map_append, hq, List.append_assoc, List.cons_append, ← hVk, Hvis.out]
          exact (List.prefix_append_right_inj _).2 ((List.prefix_cons_inj _).2 (visL_pre pos xs (k + 1)))
        · rintro e w6 (⟨rfl, q', hq', hJ6, hI6, hK6⟩ | ⟨rfl, q', hq', hJx6⟩)
          · obtain ⟨g6, c6, p6, hcap6, hpop⟩ := hI6.popped
            have hcap6' : ((pos.length : Nat) : Int) ≤ (c6 : Int) := by omega
            have hcp6 := Boxed.cell (show Boxed w6 (b + 1) _ _ from p6)
            have hfr6 := Boxed.frozen (show Boxed w6 (b + 1) _ _ from p6)
            have hd6 := hJ _ w6 (w6.setCell ⟨b + 1, 0, none⟩ (.slice (some ⟨g6, 0, none⟩) pos.length c6)) hJ6 ((Keeps.set _ _ _).mono fun g e e' => hI6.nc.2.1 (by have e'' : g = b + 1 := e'; rw [← e'']; exact e))
            have hI7 := Lib.hid (hpop hd6.2)
            have hJ7 := Lib.hid hd6.1
            have hK7 := Lib.hid (((hKr.trans hKN).trans hK6).trans ((Keeps.set w6 ⟨b + 1, 0, none⟩ (.slice (some ⟨g6, 0, none⟩) pos.length c6)).mono (T := N) fun g e => by have := hNb g e; show g ≠ b + 1; omega))
            have hqq := Lib.hid (show (q ++ q').map Vis.key = (pos, .node f xs) :: visL pos 0 (xs.take (k + 1)) by rw [List.map_append, hq, hq', hVk]; rfl)
            clear hK1' hKN hd6 hI6 hJ6 hK6 hpop hKr hq hq' hVk hdu
            gi_wp2
            go_roundw
            case rel => exact ⟨k + 1, q ++ q', by omega, by go_num, hqq.out, by rw [← List.append_assoc]; exact hJ7.out, hI7.out, hK7.out⟩
            case measure => simp [intOf]; omega
          · gi_wp2
            go_ret
            exact .inr ⟨rfl, q ++ q', by rw [← List.append_assoc]; exact hq', by rw [← List.append_assoc]; exact hJx6⟩
      · obtain rfl : k = xs.length := by omega
        gi_wp2
        go_ret
        exact .inl ⟨rfl, q, by rw [hq, Hvis.out, List.take_length]; rfl, hJr, hIr, hKr⟩
  · gi_wp2
    go_ret
    exact .inr ⟨rfl, _, Hpv.out, hJx2⟩

end Go.Proofs.YtfnncphkidhbpaaDoor

/- Compare, Same: the order of terms as such. -/

namespace Go.Proofs.YtfnncphkidhbpaaDoor

open Go.RowKit
set_option maxRecDepth 100000

abbrev tmV (t : Tm) (A : Option Addr) (c : Nat) : Value := .agg #[.int .i64 t.fn, .slice A t.args.length c]

theorem variable_any (f : Int) (v : Value) (w : World) (hf : I64 f) (hlt : f < 0) :
    Calls Tryd.prog 62 #[.agg #[.int .i64 f, v]] w fun e w' => e = .returned (.int .i64 (-1 - f)) ∧ Below w.heap.size w w' := by
  have h1 := hf.1
  have h2 := hf.2
  go_enter Tryd.func62, Tryd.ntmps62
  go_wp2
  go_ret
  exact ⟨rfl, (Below.refl _ _).alloc (Nat.le_refl _) _⟩

theorem numI_lt {a b : Int} (h : a < b) : numI a b = -1 := by simp [numI, h]

theorem numI_gt {a b : Int} (h : b < a) : numI a b = 1 := by simp [numI, h]; omega

theorem numI_eq {a b : Int} (h1 : b ≤ a) (h2 : a ≤ b) : numI a b = 0 := by
  have : a = b := by omega
  subst this
  simp [numI]

theorem cmpNum_any (a b : Int) (w : World) :
    Calls Tryd.prog 46 #[.int .i64 a, .int .i64 b] w fun e w' => e = .returned (.int .i64 (numI a b)) ∧ Below w.heap.size w w' := by
  go_enter Tryd.func46, Tryd.ntmps46
  go_wp2
  all_goals
    go_ret
    first
      | exact ⟨ret_int (numI_lt (by omega)).symm, Below.refl _ _⟩
      | exact ⟨ret_int (numI_gt (by omega)).symm, Below.refl _ _⟩
      | exact ⟨ret_int (numI_eq (by omega) (by omega)).symm, Below.refl _ _⟩

theorem headI_vv {f g : Int} (hf : f < 0) (hg : g < 0) : headI f g = numI (-1 - f) (-1 - g) := by
  unfold headI numI
  by_cases h : f = g
  · subst h; simp
  · rw [if_neg h, if_pos ⟨hf, hg⟩]
    by_cases h1 : g < f
    · rw [if_pos h1, if_pos (by omega)]
    · rw [if_neg h1, if_neg (by omega), if_pos (by omega)]

theorem headI_ss {f g : Int} (h : ¬ (f < 0 ∧ g < 0)) : headI f g = numI f g := by
  unfold headI numI
  by_cases e : f = g
  · subst e; simp
  · rw [if_neg e, if_neg h]
    by_cases h1 : f < g
    · rw [if_pos h1, if_pos h1]
    · rw [if_neg h1, if_neg h1, if_pos (by omega)]

end Go.Proofs.YtfnncphkidhbpaaDoor

/- fits: which terms may be over a signature. -/

namespace Go.Proofs.YtfnncphkidhbpaaDoor

open Go.RowKit
set_option maxRecDepth 100000

mutual
/-- May the term be, and how much room is left? -/
def fitT (l : List Sm) : Tm → Int → Int → Bool × Int
  | .node f xs, d, r =>
    if r - 1 < 0 ∨ 30 < d then (false, r - 1)
    else if f < 0 then (decide (-1 - f < 48 ∧ xs.length = 0), r - 1)
    else match l[f.toNat]? with
      | none => (false, r - 1)
      | some s => if s.arity ≠ xs.length ∨ (s.pred = true ∧ 1 < d) then (false, r - 1) else fitL l xs (d + 1) (r - 1)
def fitL (l : List Sm) : List Tm → Int → Int → Bool × Int
  | [], _, r => (true, r)
  | t :: ts, d, r => if (fitT l t d r).1 = true then fitL l ts d (fitT l t d r).2 else (false, (fitT l t d r).2)
end

section

variable {l : List Sm} {f d r : Int} {xs : List Tm} {s : Sm} {t : Tm}

theorem fit_room (h : r - 1 < 0 ∨ 30 < d) : fitT l (.node f xs) d r = (false, r - 1) := by simp only [fitT, if_pos h]

theorem fit_var (h : ¬ (r - 1 < 0 ∨ 30 < d)) (hf : f < 0) : fitT l (.node f xs) d r = (decide (-1 - f < 48 ∧ xs.length = 0), r - 1) := by simp only [fitT, if_neg h, if_pos hf]

theorem fit_out (h : ¬ (r - 1 < 0 ∨ 30 < d)) (hf : ¬ f < 0) (ho : (l.length : Int) ≤ f) : fitT l (.node f xs) d r = (false, r - 1) := by
  simp only [fitT, if_neg h, if_neg hf, List.getElem?_eq_none (show l.length ≤ f.toNat by omega)]

theorem fit_bad (h : ¬ (r - 1 < 0 ∨ 30 < d)) (hf : ¬ f < 0) (hs : l[f.toNat]? = some s) (hb : s.arity ≠ xs.length ∨ (s.pred = true ∧ 1 < d)) : fitT l (.node f xs) d r = (false, r - 1) := by
  simp only [fitT, if_neg h, if_neg hf, hs, if_pos hb]

theorem fit_in (h : ¬ (r - 1 < 0 ∨ 30 < d)) (hf : ¬ f < 0) (hs : l[f.toNat]? = some s) (hb : ¬ (s.arity ≠ xs.length ∨ (s.pred = true ∧ 1 < d))) : fitT l (.node f xs) d r = fitL l xs (d + 1) (r - 1) := by
  simp only [fitT, if_neg h, if_neg hf, hs, if_neg hb]

theorem fitL_yes (h : (fitT l t d r).1 = true) : fitL l (t :: xs) d r = fitL l xs d (fitT l t d r).2 := by simp only [fitL, if_pos h]

theorem fitL_no (h : (fitT l t d r).1 = false) : fitL l (t :: xs) d r = (false, (fitT l t d r).2) := by simp [fitL, h]

end

/-- The room shrinks, and not below -1 where it was 0 at least. -/
theorem fit_le (l : List Sm) (t : Tm) : ∀ d r, 0 ≤ r → (fitT l t d r).2 ≤ r - 1 ∧ -1 ≤ (fitT l t d r).2 ∧ ((fitT l t d r).1 = true → 0 ≤ (fitT l t d r).2) := by
  refine Tm.ind (P := fun t => ∀ d r, 0 ≤ r → (fitT l t d r).2 ≤ r - 1 ∧ -1 ≤ (fitT l t d r).2 ∧ ((fitT l t d r).1 = true → 0 ≤ (fitT l t d r).2)) (fun f xs ih d r hr => ?_) t
  have key : ∀ ys : List Tm, (∀ t ∈ ys, ∀ d r, 0 ≤ r → (fitT l t d r).2 ≤ r - 1 ∧ -1 ≤ (fitT l t d r).2 ∧ ((fitT l t d r).1 = true → 0 ≤ (fitT l t d r).2)) → ∀ d r, 0 ≤ r → (fitL l ys d r).2 ≤ r ∧ -1 ≤ (fitL l ys d r).2 ∧ ((fitL l ys d r).1 = true → 0 ≤ (fitL l ys d r).2) := by
    intro ys
    induction ys with
    | nil => intro _ d r hr; simp only [fitL]; exact ⟨Int.le_refl _, by omega, fun _ => hr⟩
    | cons y ys ihy =>
      intro h d r hr
      have h1 := h y (by simp) d r hr
      cases hb : (fitT l y d r).1 with
      | true =>
        rw [fitL_yes hb]
        have h2 := ihy (fun t ht => h t (by simp [ht])) d _ (h1.2.2 hb)
        exact ⟨by omega, h2.2.1, h2.2.2⟩
      | false => rw [fitL_no hb]; exact ⟨by show _ ≤ r; omega, h1.2.1, fun h => by cases h⟩
  by_cases h1 : r - 1 < 0 ∨ 30 < d
  · rw [fit_room h1]; exact ⟨Int.le_refl _, by show -1 ≤ r - 1; omega, fun h => by cases h⟩
  · by_cases hf : f < 0
    · rw [fit_var h1 hf]; exact ⟨Int.le_refl _, by show -1 ≤ r - 1; omega, fun _ => by show 0 ≤ r - 1; omega⟩
    · cases hs : l[f.toNat]? with
      | none => rw [fit_out h1 hf (by have := List.getElem?_eq_none_iff.1 hs; omega)]; exact ⟨Int.le_refl _, by show -1 ≤ r - 1; omega, fun h => by cases h⟩
      | some s =>
        by_cases hb : s.arity ≠ xs.length ∨ (s.pred = true ∧ 1 < d)
        · rw [fit_bad h1 hf hs hb]; exact ⟨Int.le_refl _, by show -1 ≤ r - 1; omega, fun h => by cases h⟩
        · rw [fit_in h1 hf hs hb]; exact key xs ih (d + 1) (r - 1) (by omega)

def FitPost (l : List Sm) (t : Tm) (d r : Int) (rb : Nat) (w : World) (e : Ending) (w' : World) : Prop :=
  e = .returned (.bool (fitT l t d r).1) ∧ Keeps (fun g => g < w.heap.size ∧ g ≠ rb) w w' ∧ w'.heap[rb]? = some (.cells #[.int .i64 (fitT l t d r).2] 3)

def FitAt (l : List Sm) (t : Tm) : Prop := ∀ (As A : Option Addr) (cs c : Nat) (d r : Int) (rb : Nat) (w : World), I64 t.fn → Syms w rb As l.length l → l.length ≤ 9223372036854775807 → Args w rb A t.args → w.heap[rb]? = some (.cells #[.int .i64 r] 3) → 0 ≤ r → r ≤ 300 → 1 ≤ d → d ≤ 31 →
  Calls Tryd.prog 39 #[.agg #[.slice As l.length cs], .agg #[.int .i64 t.fn, .slice A t.args.length c], .int .i64 d, .pointer (some ⟨rb, 0, none⟩)] w (FitPost l t d r rb w)

theorem heap2 (w : World) (o1 o2 : Obj) : ((w.alloc o1).alloc o2).heap[w.heap.size]? = some o1 ∧ ((w.alloc o1).alloc o2).heap[w.heap.size + 1]? = some o2 := by
  have e1 : (w.alloc o1).heap.size = w.heap.size + 1 := by simp
  refine ⟨?_, ?_⟩
  · rw [Below.heap_alloc _ _ _ (by omega)]
    exact heap_alloc_new w o1
  · rw [← e1]
    exact heap_alloc_new _ o2

theorem cells_one {W : World} {b : Nat} {x : Value} {t : TypeId} (h : W.heap[b]? = some (.cells #[x] t)) : W.cell? ⟨b, 0, none⟩ = some x ∧ W.frozen? ⟨b, 0, none⟩ = false := by
  refine ⟨?_, ?_⟩ <;> simp [World.cell?, World.frozen?, h]

set_option maxHeartbeats 2000000 in
theorem termFits_any (l : List Sm) (t : Tm) : FitAt l t := by
  refine Tm.ind (P := FitAt l) (fun f xs ih => ?_) t
  intro As A cs c d r rb w hf hS hl hA hr hr0 hr3 hd1 hd3
  simp only [Tm.fn, Tm.args] at hf hA ⊢
  have hrb : rb < w.heap.size := (Array.getElem?_eq_some_iff.1 hr).1
  obtain ⟨p0, p1⟩ := heap2 w (.cells #[.slice As l.length cs] 29) (.cells #[.int .i64 f, .slice A xs.length c] 47)
  obtain ⟨W, hW⟩ : ∃ W, ((w.alloc (.cells #[.slice As l.length cs] 29)).alloc (.cells #[.int .i64 f, .slice A xs.length c] 47)) = W := ⟨_, rfl⟩
  have hB : Below w.heap.size w W := by rw [← hW]; exact ((Below.refl _ _).alloc (Nat.le_refl _) _).alloc (by simp) _
  rw [hW] at p0 p1
  have hrW : W.heap[rb]? = some (.cells #[.int .i64 r] 3) := (hB.block rb hrb).trans hr
  -- behind the room's count
  obtain ⟨V, hV⟩ : ∃ V, W.setCell ⟨rb, 0, none⟩ (.int .i64 (r - 1)) = V := ⟨_, rfl⟩
  have hKV : Keeps (· ≠ rb) W V := by rw [← hV]; exact (Keeps.set W ⟨rb, 0, none⟩ _).mono fun g e => e
  have q0 := (hKV.block _ (show w.heap.size ≠ rb by omega)).trans p0
  have q1 := (hKV.block _ (show w.heap.size + 1 ≠ rb by omega)).trans p1
  have qr : V.heap[rb]? = some (.cells #[.int .i64 (r - 1)] 3) := by rw [← hV]; exact heap_setCell_same W rb 0 _ _ _ hrW
  obtain ⟨a0, _⟩ := cells_one q0
  obtain ⟨b0, b1, _, _⟩ := cells_two q1
  obtain ⟨r0, r1⟩ := cells_one qr
  obtain ⟨s0, s1⟩ := cells_one hrW
  have hKw : Keeps (fun g => g < w.heap.size ∧ g ≠ rb) w V := ((Keeps.of_below hB).mono fun g e => e.1).trans (hKV.mono fun g e => e.2)
  have hSV := hS.keep (w' := V) fun p hp => World.cell?_of_block (hKw.block _ ⟨by omega, by omega⟩)
  have HW := Lib.hid hW
  have HV := Lib.hid hV
  clear hW hV
  go_enter Tryd.func39, Tryd.ntmps39
  go_upto_region 1 with fail
  rw [HW.out]
  go_upto_region 2 with fail
  rw [HV.out]
  have fin : ∀ {v : Bool} {x : Int} {w' : World}, Hid (fitT l (.node f xs) d r = (v, x)) → Keeps (fun g => g < w.heap.size ∧ g ≠ rb) w w' → w'.heap[rb]? = some (.cells #[.int .i64 x] 3) → FitPost l (.node f xs) d r rb w (.returned (.bool v)) w' := fun h hk hc => ⟨by rw [h.out], hk, by rw [h.out]; exact hc⟩
  have hwV : w.heap.size + 1 < V.heap.size := (Array.getElem?_eq_some_iff.1 q1).1
  have keep2 : ∀ {w2 : World}, Below V.heap.size V w2 → Keeps (fun g => g < w.heap.size ∧ g ≠ rb) w w2 ∧ w2.heap[rb]? = some (.cells #[.int .i64 (r - 1)] 3) := fun h => ⟨hKw.trans ((Keeps.of_below h).mono fun g e => by have := e.1; show g < V.heap.size; omega), (h.block rb (by omega)).trans qr⟩
  by_cases h1 : r - 1 < 0 ∨ 30 < d
  · have hf := Lib.hid (fit_room (l := l) (f := f) (xs := xs) h1)
    by_cases h2 : r - 1 < 0
    · go_wp2
      go_ret
      exact fin hf hKw qr
    · have h3 : 30 < d := by omega
      go_wp2
      go_ret
      exact fin hf hKw qr
  · obtain ⟨h2, h3⟩ := not_or.1 h1
    by_cases hf0 : f < 0
    · have hfv := fit_var (l := l) (xs := xs) h1 hf0
      by_cases hv1 : -1 - f < 48
      · have hfv' := Lib.hid hfv
        go_wp2_with (first
          | (go_at_call 62
             refine (variable_any f _ V hf hf0).mono ?_
             rintro e w2 ⟨rfl, hb2⟩
             have hx2 := cell_on hb2 (b := w.heap.size + 1) (o := 1) (by have := (Array.getElem?_eq_some_iff.1 q1).1; omega) b1)
          | fail)
        go_ret
        have k2 := keep2 hb2
        exact ⟨ret_bool (by rw [hfv'.out]; simp only [hv1, true_and]; cases xs <;> simp; omega), k2.1, by rw [hfv'.out]; exact k2.2⟩
      · have hfv' := Lib.hid hfv
        go_wp2_with (first
          | (go_at_call 62
             refine (variable_any f _ V hf hf0).mono ?_
             rintro e w2 ⟨rfl, hb2⟩)
          | fail)
        go_ret
        have k2 := keep2 hb2
        exact ⟨ret_bool (by rw [hfv'.out]; exact (decide_eq_false fun h => by have := h.1; omega).symm), k2.1, by rw [hfv'.out]; exact k2.2⟩
    · by_cases ho : (l.length : Int) ≤ f
      · have hfo := Lib.hid (fit_out (l := l) (xs := xs) h1 hf0 ho)
        go_wp2
        go_ret
        exact fin hfo hKw qr
      · obtain ⟨k0, rfl⟩ : ∃ k0 : Nat, f = (k0 : Int) := ⟨f.toNat, by omega⟩
        obtain ⟨s, hs⟩ : ∃ s, l[k0]? = some s := ⟨_, List.getElem?_eq_getElem (by omega)⟩
        obtain ⟨sb, so, rfl, hsb, hsc⟩ := hSV.ad (by omega)
        obtain ⟨y0, y1, y2⟩ := hsc _ _ hs
        have hs' : l[((k0 : Int)).toNat]? = some s := by simpa using hs
        have hlt' : (k0 : Int) < l.length := by omega
        have hge' : (k0 : Int) ≥ 0 := by omega
        by_cases hb : s.arity ≠ xs.length ∨ (s.pred = true ∧ 1 < d)
        · have hfb := Lib.hid (fit_bad (xs := xs) h1 hf0 hs' hb)
          by_cases hb1 : s.arity = xs.length
          · have hb2 : s.pred = true ∧ 1 < d := hb.resolve_left (fun h => h hb1)
            obtain ⟨hb3, hb4⟩ := hb2
            clear hs hs' hsc
            go_wp2
            go_ret
            exact fin hfb (keep2 ((Below.refl _ _).alloc (Nat.le_refl _) _)).1 (keep2 ((Below.refl _ _).alloc (Nat.le_refl _) _)).2
          · clear hs hs' hsc
            go_wp2
            go_ret
            exact fin hfb (keep2 ((Below.refl _ _).alloc (Nat.le_refl _) _)).1 (keep2 ((Below.refl _ _).alloc (Nat.le_refl _) _)).2
        · have hfi := Lib.hid (fit_in (xs := xs) h1 hf0 hs' hb)
          have hb1 : s.arity = xs.length := Classical.not_not.1 (fun h => hb (.inl h))
          have hb2 : s.pred = true → ¬ 1 < d := fun h h' => hb (.inr ⟨h, h'⟩)
          have hB5 : Below V.heap.size V (V.alloc (.cells #[.string s.name, .int .i64 s.arity, .bool s.pred] 62)) := (Below.refl _ _).alloc (Nat.le_refl _) _
          clear hs hs' hsc hb
          go_upto_region 9 with fail
          go_cut [62] (fun s62 wx => s62 = .bool false ∧ wx = V.alloc (.cells #[.string s.name, .int .i64 s.arity, .bool s.pred] 62))
          case first =>
            by_cases hp : s.pred = true
            · have hd := hb2 hp
              go_wp2
              go_meet
              case rel => exact ⟨rfl, by rw [hb1, hp]⟩
            · have hp' : s.pred = false := by simpa using hp
              go_wp2
              go_meet
              case rel => exact ⟨rfl, by rw [hb1, hp']⟩
          case rest =>
            obtain ⟨rfl, rfl⟩ := hcut
            obtain ⟨V5, hV5⟩ : ∃ V5, V.alloc (.cells #[.string s.name, .int .i64 s.arity, .bool s.pred] 62) = V5 := ⟨_, rfl⟩
            rw [hV5] at hB5 ⊢
            have k5 := keep2 hB5
            have x0 := (hB5.block _ (by omega)).trans q0
            have x1 := (hB5.block _ hwV).trans q1
            have hV5s : w.heap.size + 1 < V5.heap.size := (Array.getElem?_eq_some_iff.1 x1).1
            obtain ⟨z0, _⟩ := cells_one x0
            obtain ⟨_, z1, _, _⟩ := cells_two x1
            clear hV5 q0 q1 qr a0 b0 b1 r0 r1 s0 s1 y0 y1 y2 hB5 hB hrW p0 p1 HW HV
            go_wp2
            go_loopw [66] (fun i wr => ∃ (k : Nat) (r' : Int), k ≤ xs.length ∧ i = .int .i64 (k : Int) ∧ Keeps (fun g => g < V5.heap.size ∧ g ≠ rb) V5 wr ∧ wr.heap[rb]? = some (.cells #[.int .i64 r'] 3) ∧ 0 ≤ r' ∧ r' ≤ 300 ∧ Hid (fitL l xs (d + 1) (r - 1) = fitL l (xs.drop k) (d + 1) r')) (fun i _ => xs.length - (intOf i).toNat)
            case atStart => exact ⟨0, r - 1, Nat.zero_le _, rfl, Keeps.refl _ _, k5.2, by omega, by omega, rfl⟩
            case round =>
              obtain ⟨k, r', hk, rfl, hKr, hcr, hr0', hr3', H⟩ := hrel
              have hKwr : Keeps (fun g => g < w.heap.size ∧ g ≠ rb) w wr := k5.1.trans (hKr.mono fun g e => ⟨by have := e.1; omega, e.2⟩)
              by_cases hlt : k < xs.length
              · obtain ⟨u, hu⟩ : ∃ u, xs[k]? = some u := ⟨_, List.getElem?_eq_getElem hlt⟩
                obtain ⟨bb, off, A1, c1, rfl, ha⟩ := (hA.keep (w' := wr) fun p hp => World.cell?_of_block (hKwr.block _ ⟨by omega, by omega⟩)).get hu
                have e0 := ha.c0
                have e1 := ha.c1
                have hl2 := hA.len
                have hwr : rb < wr.heap.size := (Array.getElem?_eq_some_iff.1 hcr).1
                have hdrop : xs.drop k = u :: xs.drop (k + 1) := by
                  rw [List.drop_eq_getElem_cons hlt]
                  rw [List.getElem?_eq_getElem hlt] at hu
                  injection hu with hu
                  rw [hu]
                have hBa : Below wr.heap.size wr (wr.alloc (.cells #[.int .i64 u.fn, .slice A1 u.args.length c1] 47)) := (Below.refl _ _).alloc (Nat.le_refl _) _
                have g0 := cell_on hBa (b := w.heap.size) (o := 0) (by have := hKr.size; omega) ((World.cell?_of_block (a := ⟨w.heap.size, 0, none⟩) (hKr.block w.heap.size ⟨by omega, by omega⟩)).trans z0)
                have hsy := Lib.hid ((hS.keep (w' := wr) fun p hp => World.cell?_of_block (hKwr.block _ ⟨by omega, by omega⟩)).below (hBa.mono (show rb ≤ wr.heap.size by omega)))
                have hsu := Lib.hid (ha.sub.blw (hBa.mono (show rb ≤ wr.heap.size by omega)))
                have hcr' := Lib.hid ((hBa.block rb hwr).trans hcr)
                have hfle := fit_le l u (d + 1) r' hr0'
                have hu64 := ha.hi
                have hmem := List.mem_of_getElem? hu
                clear hu ha
                cases hb : (fitT l u (d + 1) r').1 with
                | true =>
                  have hfy := fitL_yes (xs := xs.drop (k + 1)) hb
                  have H2 : Hid (fitL l xs (d + 1) (r - 1) = fitL l (xs.drop (k + 1)) (d + 1) (fitT l u (d + 1) r').2) := by
                    rw [show fitL l xs (d + 1) (r - 1) = _ from H.out, hdrop, hfy]; rfl
                  have hb' := Lib.hid hb
                  clear hb hfy H hdrop
                  go_wp2_with (first
                    | (go_at_call 39
                       refine (ih u hmem (some ⟨sb, so, none⟩) A1 cs c1 (d + 1) r' rb _ hu64 hsy.out hl hsu.out hcr'.out hr0' hr3' (by omega) (by omega)).mono ?_
                       rintro e w8 ⟨rfl, hK8, hc8⟩
                       rw [hb'.out])
                    | fail)
                  exact ⟨⟨k + 1, _, by omega, by go_num, (hKr.trans ((Keeps.of_below hBa).mono fun g e => by have := e.1; have := hKr.size; show g < wr.heap.size; omega)).trans (hK8.mono fun g e => ⟨by have := e.1; have := hKr.size; simp; omega, e.2⟩), hc8, hfle.2.2 hb'.out, by omega, H2.out⟩, by simp [intOf]; omega⟩
                | false =>
                  have hfn := fitL_no (xs := xs.drop (k + 1)) hb
                  have H2 : Hid (fitT l (.node (k0 : Int) xs) d r = (false, (fitT l u (d + 1) r').2)) := by
                    rw [hfi.out, show fitL l xs (d + 1) (r - 1) = _ from H.out, hdrop, hfn]; rfl
                  have hb' := Lib.hid hb
                  clear hb hfn H hdrop
                  go_wp2_with (first
                    | (go_at_call 39
                       refine (ih u hmem (some ⟨sb, so, none⟩) A1 cs c1 (d + 1) r' rb _ hu64 hsy.out hl hsu.out hcr'.out hr0' hr3' (by omega) (by omega)).mono ?_
                       rintro e w8 ⟨rfl, hK8, hc8⟩
                       rw [hb'.out])
                    | fail)
                  go_ret
                  exact fin H2 (hKwr.trans (((Keeps.of_below hBa).mono (T := fun g => g < w.heap.size ∧ g ≠ rb) fun g e => by have := e.1; have := hKr.size; show g < wr.heap.size; omega).trans (hK8.mono fun g e => ⟨by have := e.1; have := hKr.size; simp; omega, e.2⟩))) hc8
              · obtain rfl : k = xs.length := by omega
                have H2 : fitT l (.node (k0 : Int) xs) d r = (true, r') := by
                  rw [hfi.out, show fitL l xs (d + 1) (r - 1) = _ from H.out]; simp [fitL]
                have H2 := Lib.hid H2
                go_wp2
                go_ret
                exact fin H2 hKwr hcr

end Go.Proofs.YtfnncphkidhbpaaDoor

/- rename: whatever function tells the numbers, and whatever state it keeps. -/

namespace Go.Proofs.YtfnncphkidhbpaaDoor

open Go.RowKit Go.Shelf
set_option maxRecDepth 100000

/-- What is asked of the function that tells the numbers. -/
structure NumC {σ : Type} (nx : σ → Int → σ × Int) (kn : FuncId) (nc : Array Value) (C D N : Nat → Prop) (I : σ → World → Prop) (B0 : Nat) : Prop where
  ent : ∀ (args : Array Value) (w : World), (callFunc kn args).run Tryd.prog w = .ok (.enter kn args) w
  call : ∀ (s : σ) (v : Int) (W : World), B0 ≤ W.heap.size → I s W → 0 ≤ v → v ≤ 9223372036854775807 → Calls Tryd.prog kn (#[.int .i64 v] ++ nc) W fun e W' => e = .returned (.int .i64 (nx s v).2) ∧ I64 (nx s v).2 ∧ I (nx s v).1 W' ∧ KeepsC C W W'
  stay : ∀ s W W', I s W → Keeps D W W' → I s W'
  cb : ∀ g, C g → g < B0
  db : ∀ g, D g → g < B0
  nb : ∀ g, N g → g < B0
  nc : ∀ g, N g → ¬ C g

/-- The term renamed, in new memory. -/
def RenPost {σ : Type} (C : Nat → Prop) (I : σ → World → Prop) (r : σ × Tm) (w : World) (e : Ending) (w' : World) : Prop :=
  ∃ A' c', e = .returned (.agg #[.int .i64 r.2.fn, .slice A' r.2.args.length c']) ∧ I64 r.2.fn ∧ OwnT w' w.heap.size w'.heap.size A' r.2.args ∧ I r.1 w' ∧ KeepsC C w w'

section

variable {σ : Type} {nx : σ → Int → σ × Int} {kn : FuncId} {nc : Array Value} {C D N : Nat → Prop} {I : σ → World → Prop} {B0 : Nat}

theorem ren_fin (hN : NumC nx kn nc C D N I B0) {s s1 : σ} {f f' : Int} {xs : List Tm} {A3 : Option Addr} {c3 : Nat} {w W w1 w3 : World} (hB0 : B0 ≤ w.heap.size) (hB : Below w.heap.size w W) (hk1 : KeepsC C W w1) (hk3 : KeepsC C w1 w3)
    (hO3 : OwnT w3 w1.heap.size w3.heap.size A3 (renL nx s1 xs).2) (hI3 : I (renL nx s1 xs).1 w3) (hF : renF nx s f = (s1, f')) (h64 : I64 f') (hW : w.heap.size + 2 < W.heap.size) :
    RenPost C I (renT nx s (.node f xs)) w (.returned (.agg #[.int .i64 f', .slice A3 (renL nx s1 xs).2.length c3])) ((w3.setCell ⟨w.heap.size + 1 + 1, 0, none⟩ (.int .i64 f')).setCell ⟨w.heap.size + 1 + 1, 1, none⟩ (.slice A3 (renL nx s1 xs).2.length c3)) := by
  have hr : renT nx s (.node f xs) = ((renL nx s1 xs).1, .node f' (renL nx s1 xs).2) := by simp only [renT, hF]
  have hz1 := hk1.size
  have hoth : ∀ g, g ≠ w.heap.size + 1 + 1 → ((w3.setCell ⟨w.heap.size + 1 + 1, 0, none⟩ (.int .i64 f')).setCell ⟨w.heap.size + 1 + 1, 1, none⟩ (.slice A3 (renL nx s1 xs).2.length c3)).heap[g]? = w3.heap[g]? := fun g e => (heap_setCell_other _ _ _ _ e).trans (heap_setCell_other _ _ _ _ e)
  rw [hr]
  refine ⟨A3, c3, rfl, h64, ?_, ?_, ?_⟩
  · exact OwnT.wide (lo := w1.heap.size) (hi := w3.heap.size) (hO3.keep fun g h1 _ => hoth g (by omega)) (by omega) (by simp)
  · exact hN.stay _ _ _ hI3 ⟨rfl, rfl, rfl, by simp, fun g e => hoth g (by have := hN.db g e; omega)⟩
  · exact ((((KeepsC.of_below hB).trans hk1).trans hk3).set (by show _ ≤ w.heap.size + 1 + 1; omega) _).set (by show _ ≤ w.heap.size + 1 + 1; omega) _

end

end Go.Proofs.YtfnncphkidhbpaaDoor

/- clone, Move. -/

namespace Go.Proofs.YtfnncphkidhbpaaDoor

open Go.RowKit Go.Shelf
set_option maxRecDepth 100000

mutual
theorem renT_id {σ : Type} (s : σ) : ∀ t : Tm, renT (fun (s : σ) v => (s, v)) s t = (s, t)
  | .node f xs => by
    have hF : renF (fun (s : σ) v => (s, v)) s f = (s, f) := by
      unfold renF
      split
      · simp only; rw [show -1 - (-1 - f) = f by omega]
      · rfl
    simp only [renT, hF, renL_id s xs]
theorem renL_id {σ : Type} (s : σ) : ∀ xs : List Tm, renL (fun (s : σ) v => (s, v)) s xs = (s, xs)
  | [] => by simp only [renL]
  | t :: ts => by simp only [renL, renT_id s t, renL_id s ts]
end

/-- A copy of t, in new memory. -/
def CopyPost (t : Tm) (w : World) (e : Ending) (w' : World) : Prop := ∃ A' c', e = .returned (.agg #[.int .i64 t.fn, .slice A' t.args.length c']) ∧ OwnT w' w.heap.size w'.heap.size A' t.args ∧ Below w.heap.size w w'

/-- A variable's number moved, where it may be. -/
def movI (b v : Int) : Int := if (0 < b ∧ v ≤ 2147483647 - b) ∨ (b ≤ 0 ∧ 0 ≤ v + b ∧ v + b ≤ 2147483647) then v + b else v

theorem movI_i64 {b v : Int} (hb : I64 b) (h0 : 0 ≤ v) (h1 : v ≤ 9223372036854775807) : I64 (movI b v) := by
  have hlo := hb.1
  have hhi := hb.2
  unfold movI
  split
  · exact ⟨by omega, by omega⟩
  · exact ⟨by omega, h1⟩

/-- The term with its variables moved. -/
def movT (b : Int) (t : Tm) : Tm := (renT (fun (s : Unit) v => (s, movI b v)) () t).2

def TermPost (t : Tm) (w : World) (e : Ending) (w' : World) : Prop := ∃ A' c', e = .returned (.agg #[.int .i64 t.fn, .slice A' t.args.length c']) ∧ I64 t.fn ∧ OwnT w' w.heap.size w'.heap.size A' t.args ∧ Below w.heap.size w w'

end Go.Proofs.YtfnncphkidhbpaaDoor

/- A row of numbers, read; a call's contract in a round of a range. -/

namespace Go.Proofs.YtfnncphkidhbpaaDoor

open Go.RowKit Go.Shelf
set_option maxRecDepth 100000

/-- A slice that holds the numbers. -/
def IntsV (w : World) (v : Value) (l : List Int) : Prop := ∃ A c, v = .slice A l.length c ∧ Ints w w.heap.size A l

/-- A row of the call's own, read. -/
theorem row_ints {w : World} {base : Nat} {v : Value} {l : List Int} (h : w.ownsRow base 3 1 v l.length (l.map (Value.int .i64))) (hl : l.length ≤ 9223372036854775807) (hi : ∀ x ∈ l, I64 x) : IntsV w v l := by
  rcases h.2 with ⟨rfl, h0⟩ | ⟨g, cap, cur, rfl, hb, hg, _⟩
  · exact ⟨none, 0, by rw [h0], hl, hi, fun hn => by omega⟩
  · refine ⟨_, _, rfl, hl, hi, fun hn => ⟨g, 0, rfl, (Array.getElem?_eq_some_iff.1 hg).1, fun i x hx => ?_⟩⟩
    have hlt := (List.getElem?_eq_some_iff.1 hx).1
    rw [Nat.zero_add, h.cellAt i (by simpa using hlt)]
    simp [hx]

/-- A call's contract, in a round of a range. -/
theorem calls_round {P : Program} {f : FuncId} {args : Array Value} {w : World} {R : Ending → World → Prop} (l m : Nat) (h : Calls P f args w R) : CallsIn (Fence.wide.inRound l) m P f args w R := (callsIn_wide (n := m)).2 h

end Go.Proofs.YtfnncphkidhbpaaDoor

/- Rows of terms that grow, in plain words. -/

namespace Go.Proofs.YtfnncphkidhbpaaDoor

open Go.RowKit Go.Shelf
set_option maxRecDepth 100000

/-- A term as a member of a row: where its own arguments lie. -/
structure Ti where
  t : Tm
  A : Option Addr
  c : Nat

def Ti.cells (x : Ti) : List Value := [.int .i64 x.t.fn, .slice x.A x.t.args.length x.c]

theorem ti_get (l : List Ti) (i r : Nat) (hr : r < 2) : (l.flatMap Ti.cells)[i * 2 + r]? = (l[i]?).bind fun x => x.cells[r]? := by
  induction l generalizing i with
  | nil => simp
  | cons x l ih =>
    have hlen : x.cells.length = 2 := rfl
    rw [List.flatMap_cons]
    cases i with
    | zero => rw [List.getElem?_append_left (by omega)]; simp
    | succ i =>
      rw [List.getElem?_append_right (by omega), hlen, show (i + 1) * 2 + r - 2 = i * 2 + r from by omega, ih]
      simp

theorem ti_len (l : List Ti) : (l.flatMap Ti.cells).length = l.length * 2 := by
  induction l with
  | nil => rfl
  | cons x l ih =>
    have hlen : x.cells.length = 2 := rfl
    rw [List.flatMap_cons, List.length_append, ih, hlen, List.length_cons]
    omega

theorem ti_one (l : List Ti) : ∀ u ∈ l.flatMap Ti.cells, u.oneCell' = true := by
  intro u hu
  obtain ⟨x, _, hx⟩ := List.mem_flatMap.1 hu
  simp only [Ti.cells, List.mem_cons, List.not_mem_nil, or_false] at hx
  rcases hx with rfl | rfl <;> rfl

/-- The slice v is the call's own; it holds the terms l, whose arguments lie in N's blocks. -/
structure RowT (w : World) (base : Nat) (v : Value) (l : List Ti) (N : Nat → Prop) : Prop where
  row : w.ownsRow base 47 2 v l.length (l.flatMap Ti.cells)
  i64 : ∀ x ∈ l, I64 x.t.fn
  sub : ∀ x ∈ l, ArgsN w N x.A x.t.args

section

variable {w w' : World} {base base' : Nat} {v : Value} {l : List Ti} {N M : Nat → Prop}

theorem RowT.nil_ (w : World) (base : Nat) (N : Nat → Prop) : RowT w base (.slice none 0 0) [] N :=
  ⟨World.ownsRow_nil w _ _ _, fun x hx => by simp at hx, fun x hx => by simp at hx⟩

theorem RowT.keep (h : RowT w base v l N) (hv : ∀ g, v.ownBlock = some g → w'.heap[g]? = w.heap[g]?) (hN : ∀ g, N g → w'.heap[g]? = w.heap[g]?) : RowT w' base v l N :=
  ⟨row_keep h.row hv, h.i64, fun x hx => (h.sub x hx).keep hN⟩

theorem RowT.wide (h : RowT w base v l N) (hk : ∀ g, N g → M g) : RowT w base v l M := ⟨h.row, h.i64, fun x hx => (h.sub x hx).wide hk⟩

theorem RowT.shape (h : RowT w base v l N) : ∃ A c, v = .slice A l.length c := by
  rcases h.row.2 with ⟨hv, h0⟩ | ⟨g, cap, cur, hv, _⟩
  · exact ⟨none, 0, by rw [hv, h0]⟩
  · exact ⟨_, cap, hv⟩

/-- The row, read. -/
theorem RowT.argsN (h : RowT w base v l N) (hl : l.length ≤ 9223372036854775807) (hv : ∀ g, v.ownBlock = some g → M g) (hN : ∀ g, N g → M g) : ∃ A c, v = .slice A l.length c ∧ ArgsN w M A (l.map Ti.t) := by
  rcases h.row.2 with ⟨rfl, h0⟩ | ⟨g, cap, cur, rfl, hb, hg, _⟩
  · obtain rfl : l = [] := List.eq_nil_of_length_eq_zero h0
    exact ⟨none, 0, rfl, .nil _⟩
  · refine ⟨_, _, rfl, .row g 0 _ (fun i => ((l[i]?).map Ti.A).getD none) (fun i => ((l[i]?).map Ti.c).getD 0) (hv g rfl) (by simpa using hl) (fun i t e => ?_) (fun i t e => ?_) (fun i t e => ?_) fun i t e => ?_⟩
    all_goals
      rw [List.getElem?_map] at e
      cases hx : l[i]? with
      | none => rw [hx] at e; cases e
      | some x =>
        rw [hx] at e
        injection e with e
        subst e
        have hlt := (List.getElem?_eq_some_iff.1 hx).1
        have hm := List.mem_of_getElem? hx
        have q0 := ti_get l i 0 (by omega)
        have q1 := ti_get l i 1 (by omega)
        have c0 := h.row.cellAt (i * 2) (by omega)
        have c1 := h.row.cellAt (i * 2 + 1) (by omega)
        rw [Nat.add_zero, hx] at q0
        rw [hx] at q1
        rw [q0] at c0
        rw [q1] at c1
        try simp only [Option.map_some, Option.getD_some]
        try rw [Nat.zero_add]
        first | exact h.i64 x hm | exact c0 | exact c1 | exact (h.sub x hm).wide hN

/-- One more. -/
theorem RowT.push {x : Ti} {v' : Value} (h : RowT w base v l N) (hrow : w'.ownsRow base 47 2 v' (l.length + 1) (l.flatMap Ti.cells ++ x.cells)) (hi : I64 x.t.fn) (hx : ArgsN w' M x.A x.t.args) (hk : ∀ g, N g → w'.heap[g]? = w.heap[g]?) (hNM : ∀ g, N g → M g) : RowT w' base v' (l ++ [x]) M := by
  refine ⟨?_, ?_, ?_⟩
  · rw [List.length_append, List.flatMap_append]
    simpa using hrow
  · intro y hy
    rcases List.mem_append.1 hy with hy | hy
    · exact h.i64 y hy
    · simp only [List.mem_cons, List.not_mem_nil, or_false] at hy
      subst hy; exact hi
  · intro y hy
    rcases List.mem_append.1 hy with hy | hy
    · exact ((h.sub y hy).keep hk).wide hNM
    · simp only [List.mem_cons, List.not_mem_nil, or_false] at hy
      subst hy; exact hx

end

/-- 'append' as one step of a region that draws its order; and the row lies where it lay, or in a new block. -/
theorem step_append_at {P : Program} {w : World} {ops : Array Oper} {o : Oper} {a : Act} {K : Act → World → Prop} {Q : Exit → Act → World → Prop} {E : Prop}
    (hg : o.guard = none) (s x : Operand) (t : TypeId) (hop : o.op = Op.call { callee := Callee.builtin Builtin.append, args := #[s, x], argTypes := #[t, t] })
    (base : Nat) (e : TypeId) (i : TypeInfo) (z : Value) (size bytes : Nat) (h1 : P.underlying t = some (.slice e)) (h2 : P.info? e = some i) (h3 : i.zero = some z) (h4 : i.size = size) (h5 : i.bytes = bytes) (h6 : z.cells.size = size) (h7 : 0 < size)
    (v : Value) (k : Nat) (xs : List Value) (hs : a.eval s = v) (hown : w.ownsRow base e size v k xs) (ad : Addr) (m c : Nat) (news : List Value) (hx : a.eval x = .slice (some ad) m c) (hn : news.length = m * size)
    (hc : ∀ j u, news[j]? = some u → w.cell? (ad.add j) = some u) (h1c : ∀ u ∈ news, u.oneCell' = true) (b1 : k + m ≤ maxLen) (b2 : (k + m) * bytes ≤ 140737488355328) (b3 : base ≤ w.heap.size)
    (hK : ∀ v' w', w'.ownsRow base e size v' (k + m) (xs ++ news) → w.grownBy w' v.ownBlock → (v'.ownBlock = v.ownBlock ∨ v'.ownBlock = some w.heap.size) → K (a.put o.dst v') w') :
    if Region.wanted o (yielded ops a.tmps) = true then Oper.wp P o a w K Q else E := by
  obtain ⟨v', w', hrun, r1, r2, _, r4⟩ := run_append_own_at (P := P) w base t o.type e i z size bytes h1 h2 h3 h4 h5 h6 h7 v k xs hown ad m c news hn hc h1c b1 b2 b3
  rw [if_pos (by simp [Region.wanted, hg])]
  unfold Oper.wp
  simp [execOp, hop, resolve, invoke, builtin, hs, hx, hrun, Result.andThen]
  exact hK _ _ r1 r2 r4

/-- The two cells of a block that was laid for one term. -/
theorem cells_new_two (w : World) (x y : Value) (t : TypeId) : ∀ j u, [x, y][j]? = some u → (w.alloc (.cells #[x, y] t)).cell? ((⟨w.heap.size, 0, none⟩ : Addr).add j) = some u := by
  intro j u hj
  match j, hj with
  | 0, hj => simp at hj; subst hj; simp [Addr.add]
  | 1, hj => simp at hj; subst hj; simp [Addr.add]
  | j + 2, hj => simp at hj

end Go.Proofs.YtfnncphkidhbpaaDoor

/- Binds in memory; how two stand; which is itself. finder, at rows that rise; halve. halve: the first bind of a variable. finder$1: what a variable is bound to. put: what stands for the variables is put in, anew each time. put, at binds that rise. putter and Apply. -/

namespace Go.Proofs.YtfnncphkidhbpaaDoor

open Go.RowKit Go.Shelf
set_option maxRecDepth 100000

/-- What stands for a variable, in plain words. -/
structure Bd where
  v : Int
  t : Tm

/-- The slice at A holds the binds; they, and their terms, lie in N's blocks. -/
structure Binds (w : World) (N : Nat → Prop) (A : Option Addr) (l : List Bd) : Prop where
  len : l.length ≤ 9223372036854775807
  ad : 0 < l.length → ∃ b off, A = some ⟨b, off, none⟩ ∧ N b ∧ ∀ (i : Nat) (x : Bd), l[i]? = some x → ∃ A' c', w.cell? ⟨b, off + i * 3, none⟩ = some (.int .i64 x.v) ∧ w.cell? ⟨b, off + i * 3 + 1, none⟩ = some (.int .i64 x.t.fn) ∧ w.cell? ⟨b, off + i * 3 + 2, none⟩ = some (.slice A' x.t.args.length c') ∧ I64 x.v ∧ I64 x.t.fn ∧ ArgsN w N A' x.t.args

section

variable {w w' : World} {N M : Nat → Prop} {A : Option Addr} {l : List Bd}

theorem Binds.keep (h : Binds w N A l) (hk : ∀ g, N g → w'.heap[g]? = w.heap[g]?) : Binds w' N A l :=
  ⟨h.len, fun hn => by
    obtain ⟨b, off, hA, hb, hc⟩ := h.ad hn
    refine ⟨b, off, hA, hb, fun i x hx => ?_⟩
    obtain ⟨A', c', h0, h1, h2, h3, h4, h5⟩ := hc i x hx
    exact ⟨A', c', (cell_of_heap (hk b hb)).trans h0, (cell_of_heap (hk b hb)).trans h1, (cell_of_heap (hk b hb)).trans h2, h3, h4, h5.keep hk⟩⟩

theorem Binds.wide (h : Binds w N A l) (hk : ∀ g, N g → M g) : Binds w M A l :=
  ⟨h.len, fun hn => by
    obtain ⟨b, off, hA, hb, hc⟩ := h.ad hn
    refine ⟨b, off, hA, hk b hb, fun i x hx => ?_⟩
    obtain ⟨A', c', h0, h1, h2, h3, h4, h5⟩ := hc i x hx
    exact ⟨A', c', h0, h1, h2, h3, h4, h5.wide hk⟩⟩

theorem Binds.nil_ (w : World) (N : Nat → Prop) (A : Option Addr) : Binds w N A [] := ⟨by simp, fun h => by simp at h⟩

/-- One of them. -/
structure BdAt (w : World) (N : Nat → Prop) (b off i : Nat) (x : Bd) (A' : Option Addr) (c' : Nat) : Prop where
  hb : N b
  c0 : w.cell? ⟨b, off + i * 3, none⟩ = some (.int .i64 x.v)
  c1 : w.cell? ⟨b, off + i * 3 + 1, none⟩ = some (.int .i64 x.t.fn)
  c2 : w.cell? ⟨b, off + i * 3 + 2, none⟩ = some (.slice A' x.t.args.length c')
  iv : I64 x.v
  it : I64 x.t.fn
  sub : ArgsN w N A' x.t.args

theorem Binds.get (h : Binds w N A l) {i : Nat} {x : Bd} (hx : l[i]? = some x) : ∃ b off A' c', A = some ⟨b, off, none⟩ ∧ BdAt w N b off i x A' c' := by
  have hlt := (List.getElem?_eq_some_iff.1 hx).1
  obtain ⟨b, off, hA, hb, hc⟩ := h.ad (by omega)
  obtain ⟨A', c', h0, h1, h2, h3, h4, h5⟩ := hc i x hx
  exact ⟨b, off, A', c', hA, hb, h0, h1, h2, h3, h4, h5⟩

end

theorem cells_three {W : World} {b : Nat} {x y z : Value} {t : TypeId} (h : W.heap[b]? = some (.cells #[x, y, z] t)) : W.cell? ⟨b, 0, none⟩ = some x ∧ W.cell? ⟨b, 1, none⟩ = some y ∧ W.cell? ⟨b, 2, none⟩ = some z ∧ W.frozen? ⟨b, 0, none⟩ = false ∧ W.frozen? ⟨b, 1, none⟩ = false ∧ W.frozen? ⟨b, 2, none⟩ = false := by
  refine ⟨?_, ?_, ?_, ?_, ?_, ?_⟩ <;> simp [World.cell?, World.frozen?, h]

/-- Does a bind bind a variable to itself? -/
def selfB (x : Bd) : Prop := x.t.fn = -1 - x.v ∧ x.t.args.length = 0

instance (x : Bd) : Decidable (selfB x) := inferInstanceAs (Decidable (_ ∧ _))

end Go.Proofs.YtfnncphkidhbpaaDoor

namespace Go.Proofs.YtfnncphkidhbpaaDoor

open Go.RowKit Go.Shelf
set_option maxRecDepth 100000

/-- Variables do not fall. -/
def Rise (l : List Bd) : Prop := ∀ (i j : Nat) (x y : Bd), i ≤ j → l[i]? = some x → l[j]? = some y → x.v ≤ y.v

end Go.Proofs.YtfnncphkidhbpaaDoor

namespace Go.Proofs.YtfnncphkidhbpaaDoor

open Go.RowKit Go.Shelf
set_option maxRecDepth 100000

/-- What a variable is bound to, by the first bind of it. -/
def findB (l : List Bd) (v : Int) : Option Bd := l.find? fun x => decide (x.v = v)

theorem findB_at {l : List Bd} {v : Int} {k : Nat} {x : Bd} (hx : l[k]? = some x) (hv : x.v = v) (hlow : ∀ (i : Nat) (y : Bd), i < k → l[i]? = some y → y.v < v) : findB l v = some x := by
  unfold findB
  rw [List.find?_eq_some_iff_getElem]
  obtain ⟨hlt, he⟩ := List.getElem?_eq_some_iff.1 hx
  refine ⟨by simpa using hv, k, hlt, he, fun j hj => ?_⟩
  have := hlow j _ hj (List.getElem?_eq_getElem (by omega))
  simp
  omega

theorem findB_none {l : List Bd} {v : Int} (h : ∀ (i : Nat) (y : Bd), l[i]? = some y → y.v ≠ v) : findB l v = none := by
  unfold findB
  rw [List.find?_eq_none]
  intro x hx
  obtain ⟨i, hi⟩ := List.mem_iff_getElem?.1 hx
  simpa using h i x hi

def HalvePost (l : List Bd) (v : Int) (N : Nat → Prop) (w : World) (e : Ending) (w' : World) : Prop := Below w.heap.size w w' ∧
  match findB l v with
  | none => e = .returned (.tuple #[.agg #[.int .i64 0, .int .i64 0, .slice none 0 0], .bool false])
  | some x => ∃ A' c', e = .returned (.tuple #[.agg #[.int .i64 x.v, .int .i64 x.t.fn, .slice A' x.t.args.length c'], .bool true]) ∧ I64 x.v ∧ I64 x.t.fn ∧ ArgsN w N A' x.t.args

structure HvI (l : List Bd) (v : Int) (lo hi : Nat) : Prop where
  le : lo ≤ hi
  len : hi ≤ l.length
  low : ∀ (i : Nat) (y : Bd), i < lo → l[i]? = some y → y.v < v
  high : ∀ (i : Nat) (y : Bd), hi ≤ i → l[i]? = some y → v ≤ y.v

theorem set3_three {W : World} {b : Nat} {x y z u v t : Value} {ty : TypeId} (h : W.heap[b]? = some (.cells #[x, y, z] ty)) : (((W.setCell ⟨b, 0, none⟩ u).setCell ⟨b, 1, none⟩ v).setCell ⟨b, 2, none⟩ t).heap[b]? = some (.cells #[u, v, t] ty) :=
  have h1 : (W.setCell ⟨b, 0, none⟩ u).heap[b]? = some (.cells #[u, y, z] ty) := heap_setCell_same W _ 0 _ _ _ h
  have h2 : ((W.setCell ⟨b, 0, none⟩ u).setCell ⟨b, 1, none⟩ v).heap[b]? = some (.cells #[u, v, z] ty) := heap_setCell_same _ _ 1 _ _ _ h1
  heap_setCell_same _ _ 2 _ _ _ h2

end Go.Proofs.YtfnncphkidhbpaaDoor

namespace Go.Proofs.YtfnncphkidhbpaaDoor

open Go.RowKit Go.Shelf
set_option maxRecDepth 100000

def FinderPost (l : List Bd) (v : Int) (w : World) (e : Ending) (w' : World) : Prop := Below w.heap.size w w' ∧
  match findB l v with
  | none => e = .returned (.tuple #[.agg #[.int .i64 0, .slice none 0 0], .bool false])
  | some x => ∃ A' c', e = .returned (.tuple #[.agg #[.int .i64 x.t.fn, .slice A' x.t.args.length c'], .bool true]) ∧ I64 x.t.fn ∧ Args w w.heap.size A' x.t.args

theorem alloc_old {W : World} {b : Nat} {x o : Obj} (h : W.heap[b]? = some x) : (W.alloc o).heap[b]? = some x :=
  (((Below.refl W.heap.size W).alloc (Nat.le_refl _) o).block _ (Array.getElem?_eq_some_iff.1 h).1).trans h

end Go.Proofs.YtfnncphkidhbpaaDoor

namespace Go.Proofs.YtfnncphkidhbpaaDoor

open Go.RowKit Go.Shelf
set_option maxRecDepth 100000

mutual
def appT (g : Int → Option Tm) : Tm → Tm
  | .node f xs => (if f < 0 then g (-1 - f) else none).getD (.node f (appL g xs))
def appL (g : Int → Option Tm) : List Tm → List Tm
  | [] => []
  | t :: ts => appT g t :: appL g ts
end

theorem appL_eq (g : Int → Option Tm) : ∀ xs : List Tm, appL g xs = xs.map (appT g)
  | [] => by simp only [appL, List.map_nil]
  | t :: ts => by simp only [appL, appL_eq g ts, List.map_cons]

/-- What is put in for a variable. -/
def bdT (l : List Bd) (v : Int) : Option Tm := (findB l v).map Bd.t

/-- A term of memory of its own. -/
def NewPost (t : Tm) (w : World) (e : Ending) (w' : World) : Prop :=
  ∃ A' c', e = .returned (.agg #[.int .i64 t.fn, .slice A' t.args.length c']) ∧ I64 t.fn ∧ OwnT w' w.heap.size w'.heap.size A' t.args ∧ Below w.heap.size w w'

end Go.Proofs.YtfnncphkidhbpaaDoor

namespace Go.Proofs.YtfnncphkidhbpaaDoor

open Go.RowKit Go.Shelf
set_option maxRecDepth 100000

theorem put_fin {y : Tm} {A3 : Option Addr} {c3 n : Nat} {w w1 w3 : World} (hb : Below w.heap.size w w1) (hk : Below w1.heap.size w1 w3) (hO : OwnT w3 w1.heap.size w3.heap.size A3 y.args) (hi : I64 y.fn) (hn1 : w.heap.size ≤ n) (hn2 : n < w1.heap.size) :
    NewPost y w (.returned (.agg #[.int .i64 y.fn, .slice A3 y.args.length c3])) ((w3.setCell ⟨n, 0, none⟩ (.int .i64 y.fn)).setCell ⟨n, 1, none⟩ (.slice A3 y.args.length c3)) := by
  have hoth : ∀ g, g ≠ n → ((w3.setCell ⟨n, 0, none⟩ (.int .i64 y.fn)).setCell ⟨n, 1, none⟩ (.slice A3 y.args.length c3)).heap[g]? = w3.heap[g]? := fun g e => (heap_setCell_other _ _ _ _ e).trans (heap_setCell_other _ _ _ _ e)
  have hs := hb.size
  exact ⟨A3, c3, rfl, hi, OwnT.wide (lo := w1.heap.size) (hi := w3.heap.size) (hO.keep fun g h1 _ => hoth g (by omega)) (by omega) (by simp), ((hb.trans (hk.mono hs)).setCell (by show _ ≤ n; omega) _).setCell (by show _ ≤ n; omega) _⟩

end Go.Proofs.YtfnncphkidhbpaaDoor

namespace Go.Proofs.YtfnncphkidhbpaaDoor

open Go.RowKit Go.Shelf
set_option maxRecDepth 100000

@[local go_sem] theorem run_store_func {P : Program} {w : World} {a : Addr} {m : Mode} (f : Fn) (ts cs : Array Value) : (store a (.func f ts cs) m).run P w = stored P w a (.func f ts cs) m := run_store P w a _ m rfl

end Go.Proofs.YtfnncphkidhbpaaDoor

/- A region that draws its order, whose operations read, and whose calls may make memory: one walk, in the order of the text. -/

namespace Go.Proofs.YtfnncphkidhbpaaDoor

open Go Go.RowKit

/-- A world in which all that lay below n in W lies as it lay. -/
structure Later (n : Nat) (W : World) where
  w : World
  h : Below n W w

instance (n : Nat) (W : World) : Nonempty (Later n W) := ⟨⟨W, Below.refl _ _⟩⟩

def Later.step {n : Nat} {W : World} (x : Later n W) {w' : World} (h : Below x.w.heap.size x.w w') (hn : n ≤ W.heap.size) : Later n W := ⟨w', x.h.trans (h.mono (Nat.le_trans hn x.h.size))⟩

theorem wp_region_later {P : Program} {id : Nat} {Q : Exit → Act → World → Prop} {a : Act} {w : World} {l : List Oper} (n : Nat) (W : World) (hm : P.follows .mixedOrders = true) (hB : Region.lexB .any l.toArray = true) (h0 : Below n W w.drew)
    (h : wpQuiet P l.toArray (fun w' => ∃ x : Later n W, w' = x.w) (fun a' => ∀ w', (∃ x : Later n W, w' = x.w) → Q .normal a' w') l a) : (Code.region id l.toArray true).wp P Q a w :=
  wp_region_quiet (C := fun w' => ∃ x : Later n W, w' = x.w) hm hB ⟨⟨_, h0⟩, rfl⟩ (by simpa using h)

/-- A call's contract, met in a later world. -/
theorem calls_later {P : Program} {f : FuncId} {args : Array Value} {n : Nat} {W : World} {v : Value} (x : Later n W) (hn : n ≤ W.heap.size) (h : Calls P f args x.w fun e w' => e = .returned v ∧ Below x.w.heap.size x.w w') :
    Calls P f args x.w fun e w' => e = .returned v ∧ ∃ y : Later n W, w' = y.w :=
  h.mono fun _ _ ⟨he, hb⟩ => ⟨he, x.step hb hn, rfl⟩

end Go.Proofs.YtfnncphkidhbpaaDoor

/- Check. -/

namespace Go.Proofs.YtfnncphkidhbpaaDoor

open Go.RowKit Go.Shelf
set_option maxRecDepth 100000

/-- Variables rise. -/
def RiseS (l : List Bd) : Prop := ∀ (i j : Nat) (x y : Bd), i < j → l[i]? = some x → l[j]? = some y → x.v < y.v

theorem RiseS.rise {l : List Bd} (h : RiseS l) : Rise l := fun i j x y hij hx hy => by
  rcases Nat.lt_or_ge i j with h1 | h1
  · exact Int.le_of_lt (h i j x y h1 hx hy)
  · obtain rfl : i = j := by omega
    rw [hx] at hy
    injection hy with hy
    rw [hy]
    exact Int.le_refl _

/-- Does it rise from lo on, and is no variable bound to itself? -/
def chkFrom (lo : Int) : List Bd → Bool
  | [] => true
  | x :: xs => decide (lo < x.v) && (!decide (selfB x) && chkFrom x.v xs)

def chkB (l : List Bd) : Bool := chkFrom (-1) l

/-- What Check tells. -/
def chkN (l : List Bd) : Int := if chkB l = true then 0 else 2

theorem chkN_yes {l : List Bd} (h : chkB l = true) : chkN l = 0 := by unfold chkN; rw [if_pos h]

theorem chkN_no {l : List Bd} (h : chkB l = false) : chkN l = 2 := by unfold chkN; rw [h]; rfl

/-- How far Check has come: lo is the last variable. -/
structure ChkI (l : List Bd) (k : Nat) (lo : Int) : Prop where
  ge : -1 ≤ lo
  first : k = 0 → lo = -1
  last : ∀ (m : Nat) (y : Bd), k = m + 1 → l[m]? = some y → y.v = lo
  rest : chkFrom lo (l.drop k) = chkB l

theorem ChkI.start (l : List Bd) : ChkI l 0 (-1) := ⟨Int.le_refl _, fun _ => rfl, fun m y h => by omega, rfl⟩

section

variable {l : List Bd} {k : Nat} {lo : Int} {x : Bd}

theorem ChkI.cons (h : ChkI l k lo) (hx : l[k]? = some x) : chkB l = (decide (lo < x.v) && (!decide (selfB x) && chkFrom x.v (l.drop (k + 1)))) := by
  obtain ⟨hlt, hx'⟩ := List.getElem?_eq_some_iff.1 hx
  rw [← h.rest, List.drop_eq_getElem_cons hlt, hx']
  rfl

theorem ChkI.low (h : ChkI l k lo) (hx : l[k]? = some x) (hn : ¬ lo < x.v) : chkB l = false := by
  rw [h.cons hx, decide_eq_false hn]
  rfl

theorem ChkI.self (h : ChkI l k lo) (hx : l[k]? = some x) (hn : selfB x) : chkB l = false := by
  rw [h.cons hx, decide_eq_true hn]
  simp

theorem ChkI.next (h : ChkI l k lo) (hx : l[k]? = some x) (h1 : lo < x.v) (hn : ¬ selfB x) : ChkI l (k + 1) x.v :=
  ⟨by have := h.ge; omega, fun e => by omega, fun m y e hy => by obtain rfl : m = k := by omega
                                                                 rw [hx] at hy; injection hy with hy; rw [hy], by rw [h.cons hx, decide_eq_true h1, decide_eq_false hn]; rfl⟩

theorem ChkI.done (h : ChkI l k lo) (hk : l.length ≤ k) : chkB l = true := by
  rw [← h.rest, List.drop_eq_nil_of_le hk]
  rfl

end

end Go.Proofs.YtfnncphkidhbpaaDoor

/- rows of numbers in memory -/

namespace Go.Proofs.YtfnncphkidhbpaaDoor

open Go.RowKit Go.Shelf
set_option maxRecDepth 100000
set_option maxRecDepth 100000

/-- The slice v is the call's own; it holds the numbers. -/
structure IntsR (w : World) (base : Nat) (v : Value) (l : List Int) : Prop where
  row : w.ownsRow base 3 1 v l.length (l.map (Value.int .i64))
  i64 : ∀ x ∈ l, I64 x

theorem IntsR.get {w : World} {base : Nat} {v : Value} {l : List Int} (h : IntsR w base v l) {i : Nat} {x : Int} (hx : l[i]? = some x) : ∃ g c, v = .slice (some ⟨g, 0, none⟩) l.length c ∧ g < w.heap.size ∧ w.cell? ⟨g, i, none⟩ = some (.int .i64 x) := by
  have hlt := (List.getElem?_eq_some_iff.1 hx).1
  rcases h.row.2 with ⟨_, h0⟩ | ⟨g, cap, cur, rfl, hb, hg, _⟩
  · omega
  · refine ⟨g, cap, rfl, (Array.getElem?_eq_some_iff.1 hg).1, ?_⟩
    rw [h.row.cellAt i (by simpa using hlt)]
    simp [hx]

theorem IntsR.on {w w' : World} {base : Nat} {v : Value} {l : List Int} (h : IntsR w base v l) (hb : Below w.heap.size w w') : IntsR w' base v l := ⟨row_keep h.row fun g e => hb.block g (row_lt h.row g e).2, h.i64⟩

theorem row_slice {W : World} {base n : Nat} {e : TypeId} {size : Nat} {v : Value} {vs : List Value} (h : W.ownsRow base e size v n vs) : ∃ A c, v = .slice A n c := by
  rcases h.2 with ⟨hv, h0⟩ | ⟨g, cap, cur, hv, _⟩
  · exact ⟨none, 0, by rw [hv, h0]⟩
  · exact ⟨_, cap, hv⟩

theorem frozen_9 {W : World} {b : Nat} {cs : Array Value} {t : TypeId} (h : W.heap[b]? = some (.cells cs t)) (o : Nat) : W.frozen? ⟨b, o, none⟩ = false := by simp [World.frozen?, h]

theorem info_int : (Tryd.prog.info? 3).map (fun i => (i.zero, i.size, i.bytes)) = some (some (.int .i64 0), 1, 8) := by kernel_rfl

end Go.Proofs.YtfnncphkidhbpaaDoor

/- walk; Size. -/

namespace Go.Proofs.YtfnncphkidhbpaaDoor

open Go.RowKit Go.Shelf
attribute [local go_sem] Oper.semAt_some
set_option maxRecDepth 100000

theorem walk_any (t : Tm) (A : Option Addr) (c : Nat) (w : World) :
    Calls Tryd.prog 42 #[.agg #[.int .i64 t.fn, .slice A t.args.length c]] w fun e w' => e = .returned (.func (.func 63) #[] #[.pointer (some ⟨w.heap.size, 0, none⟩)]) ∧ w' = w.alloc (.cells #[.int .i64 t.fn, .slice A t.args.length c] 47) := by
  go_enter Tryd.func42, Tryd.ntmps42
  go_wp2
  go_ret
  exact ⟨rfl, rfl⟩

set_option maxHeartbeats 1000000 in
theorem walk1_seq (F : Fence) (hd : F.depth = none) (h64 : F.fn 63) (h65 : F.fn 64) (hro : F.round = none) (m : Nat) (B : Nat) (t : Tm) (A : Option Addr) (c : Nat) (N : Nat → Prop) (w0 : World)
    (hb : w0.heap[B]? = some (.cells #[.int .i64 t.fn, .slice A t.args.length c] 47)) (hf : I64 t.fn) (hA : ArgsN w0 N A t.args) (hN : ∀ g, N g → g < w0.heap.size) (hdp : t.depth ≤ 1099511627776) :
    SeqC F m Tryd.prog 63 #[.pointer (some ⟨B, 0, none⟩)] visEnc VisFx N (fun xs => xs.map Vis.key = vis [] t) (fun pre => pre.map Vis.key <+: vis [] t) w0 := by
  intro l C J Jx W hW hJ hB hY h0
  have hdd : ∀ k : Nat, (F.depth.isSome = true → 1 ≤ k) := fun k h => by rw [hd] at h; cases h
  have hBl : B < w0.heap.size := (Array.getElem?_eq_some_iff.1 hb).1
  have hbW : W.heap[B]? = some (.cells #[.int .i64 t.fn, .slice A t.args.length c] 47) := (hW.block B hBl).trans hb
  obtain ⟨b0, b1, _, _⟩ := cells_two hbW
  have hWs := hW.size
  have hAW : ArgsN W N A t.args := hA.keep fun g e => hW.block g (hN g e)
  have hvis := visit_in F hd h65 hro l W.heap.size 1099511627776 (Nat.le_refl _) N C J Jx (vis [] t) hJ hB (fun g e => by have := hN g e; omega) hY t
  refine callsIn_of_wp Tryd.func63 rfl h64 ?_ hro
  simp only [Tryd.ntmps63, List.size_toArray, List.length_cons, List.length_nil, Nat.reduceAdd, Nat.reduceSub, Array.replicate_succ, Array.replicate_zero, List.push_toArray, List.append_toArray, List.nil_append, List.cons_append]
  have hK0 : Keeps (· < W.heap.size) W (((W.alloc (.cells #[.func (.yield l) #[] #[]] 93)).alloc (.cells #[.slice none 0 0] 71)).alloc (.cells #[.func (.func 64) #[] #[.pointer (some ⟨W.heap.size, 0, none⟩), .pointer (some ⟨W.heap.size + 1, 0, none⟩), .pointer (some ⟨W.heap.size + 1 + 1, 0, none⟩)]] 89)) := Keeps.of_below ((((Below.refl _ _).alloc (Nat.le_refl _) _).alloc (by simp) _).alloc (by simp; omega) _)
  obtain ⟨q0, q1, _, _⟩ := cells_two ((hK0.block B (by show B < W.heap.size; omega)).trans hbW)
  gi_wp2
  obtain ⟨W3, hW3⟩ : ∃ W3, (((W.alloc (.cells #[.func (.yield l) #[] #[]] 93)).alloc (.cells #[.slice none 0 0] 71)).alloc (.cells #[.func (.func 64) #[] #[.pointer (some ⟨W.heap.size, 0, none⟩), .pointer (some ⟨W.heap.size + 1, 0, none⟩), .pointer (some ⟨W.heap.size + 1 + 1, 0, none⟩)]] 89)) = W3 := ⟨_, rfl⟩
  have hK3 : Keeps (· < W.heap.size) W W3 := by rw [← hW3]; exact Keeps.of_below ((((Below.refl _ _).alloc (Nat.le_refl _) _).alloc (by simp) _).alloc (by simp; omega) _)
  obtain ⟨p0, p1, p2⟩ := heap3 W (.cells #[.func (.yield l) #[] #[]] 93) (.cells #[.slice none 0 0] 71) (.cells #[.func (.func 64) #[] #[.pointer (some ⟨W.heap.size, 0, none⟩), .pointer (some ⟨W.heap.size + 1, 0, none⟩), .pointer (some ⟨W.heap.size + 1 + 1, 0, none⟩)]] 89)
  rw [hW3] at p0 p1 p2 ⊢
  obtain ⟨hJ3, hC3⟩ := hJ [] W W3 h0 (hK3.mono fun g e => hB [] W h0 g e)
  have hCb : ∀ g, W.heap.size ≤ g → ¬ C W3 g := fun g h e => by have := hB [] W h0 g (hC3 g e); omega
  have hI : ItSt W3 C l W.heap.size [] := ⟨p0, ⟨none, 0, p1, ⟨rfl, .inl ⟨rfl, rfl⟩⟩, fun g e => by cases e⟩, p2, hCb _ (Nat.le_refl _), hCb _ (by omega), hCb _ (by omega)⟩
  refine (hvis (m - 1) [] [] A c W3 hf (hAW.keep fun g e => hK3.block g (by have := hN g e; show g < W.heap.size; omega)) hJ3 hI (by simp) (by simpa using hdp) (by simp)).mono ?_
  rintro e W' (⟨rfl, q, hq, hJq, _, _⟩ | ⟨rfl, q, hq, hJx⟩)
  · gi_wp2
    go_end0
    exact ⟨⟨_, rfl⟩, .inl ⟨q, hq, by simpa using hJq⟩⟩
  · gi_wp2
    go_end0
    exact ⟨⟨_, rfl⟩, .inr ⟨q, by simpa using hq, by simpa using hJx⟩⟩

end Go.Proofs.YtfnncphkidhbpaaDoor

/- Size. -/

namespace Go.Proofs.YtfnncphkidhbpaaDoor

open Go.RowKit Go.Shelf
attribute [local go_sem] Oper.semAt_some
set_option maxRecDepth 100000

theorem vis_len (t : Tm) : ∀ p, (vis p t).length = t.size := by
  have key : ∀ xs : List Tm, (∀ t ∈ xs, ∀ p, (vis p t).length = t.size) → ∀ (p : List Int) (i : Nat), (visL p i xs).length = sizes xs := by
    intro xs
    induction xs with
    | nil => intro _ p i; simp [visL, sizes]
    | cons x xs ih =>
      intro h p i
      simp only [visL, sizes, List.length_append, h x (by simp), ih (fun t ht => h t (by simp [ht]))]
  refine Tm.ind (P := fun t => ∀ p, (vis p t).length = t.size) (fun f xs ih p => ?_) t
  simp only [vis, Tm.size, List.length_cons, key xs ih]

theorem pre_len {t : Tm} {pre : List Vis} (h : pre.map Vis.key <+: vis [] t) : pre.length ≤ t.size := by
  have := h.length_le
  rw [vis_len, List.length_map] at this
  exact this

/-- What a range's record turns, where a body's cells are asked. -/
theorem put_block {W : World} {l g : Nat} {r : Loop} {o : Obj} {cs : Array Value} {t : TypeId} {z : Nat × Nat} (h : W.heap[g]? = some (.cells cs t z)) (hl : W.heap[l]? = some (.loop r)) : (W.putObj l o).heap[g]? = some (.cells cs t z) :=
  (World.putObj_heap_other (fun e => by subst e; rw [h] at hl; cases hl)).trans h

end Go.Proofs.YtfnncphkidhbpaaDoor

/- slices.Sort, slices.Compact: the library's contract at this program, as the kit's tools print it. -/
namespace Go.Proofs
open Go.Shelf
def Tryd.lays189_ren : Go.Shelf.Ren := ⟨fun | 189 => 60 | 125 => 45 | 257 => 80 | 128 => 73 | 129 => 74 | 294 => 86 | 295 => 87 | 296 => 88 | 297 => 89 | 298 => 90 | 299 => 91 | 216 => 92 | 300 => 93 | 301 => 94 | 328 => 96 | 329 => 82 | 330 => 83 | 331 => 97 | 332 => 98 | 215 => 75 | 343 => 99 | n => n, fun | 28 => 22 | 3 => 3 | 46 => 97 | 0 => 0 | 51 => 118 | 53 => 120 | 4 => 4 | 183 => 111 | 182 => 110 | 131 => 115 | 5 => 5 | 9 => 9 | 218 => 125 | 222 => 91 | 228 => 136 | 229 => 137 | n => n, fun | n => n⟩
theorem Tryd.lays189 : Go.Proofs.Lays.n189 Tryd.prog Tryd.lays189_ren := {
  mixed := by kernel_rfl
  f125 := Tryd.func45.trans (congrArg some (by kernel_rfl))
  f128 := Tryd.func73.trans (congrArg some (by kernel_rfl))
  f129 := Tryd.func74.trans (congrArg some (by kernel_rfl))
  f189 := Tryd.func60.trans (congrArg some (by kernel_rfl))
  f215 := Tryd.func75.trans (congrArg some (by kernel_rfl))
  f216 := Tryd.func92.trans (congrArg some (by kernel_rfl))
  f257 := Tryd.func80.trans (congrArg some (by kernel_rfl))
  f294 := Tryd.func86.trans (congrArg some (by kernel_rfl))
  f295 := Tryd.func87.trans (congrArg some (by kernel_rfl))
  f296 := Tryd.func88.trans (congrArg some (by kernel_rfl))
  f297 := Tryd.func89.trans (congrArg some (by kernel_rfl))
  f298 := Tryd.func90.trans (congrArg some (by kernel_rfl))
  f299 := Tryd.func91.trans (congrArg some (by kernel_rfl))
  f300 := Tryd.func93.trans (congrArg some (by kernel_rfl))
  f301 := Tryd.func94.trans (congrArg some (by kernel_rfl))
  f328 := Tryd.func96.trans (congrArg some (by kernel_rfl))
  f329 := Tryd.func82.trans (congrArg some (by kernel_rfl))
  f330 := Tryd.func83.trans (congrArg some (by kernel_rfl))
  f331 := Tryd.func97.trans (congrArg some (by kernel_rfl))
  f332 := Tryd.func98.trans (congrArg some (by kernel_rfl))
  f343 := Tryd.func99.trans (congrArg some (by kernel_rfl))
  t0 := Tryd.underlying0
  a0 := Tryd.isAgg0
  z0 := Tryd.sizeOf0
  v0 := Tryd.zeroValue0
  t3 := Tryd.underlying3
  a3 := Tryd.isAgg3
  z3 := Tryd.sizeOf3
  v3 := Tryd.zeroValue3
  t4 := Tryd.underlying4
  a4 := Tryd.isAgg4
  z4 := Tryd.sizeOf4
  v4 := Tryd.zeroValue4
  t5 := Tryd.underlying5
  a5 := Tryd.isAgg5
  z5 := Tryd.sizeOf5
  v5 := Tryd.zeroValue5
  t9 := Tryd.underlying9
  a9 := Tryd.isAgg9
  z9 := Tryd.sizeOf9
  v9 := Tryd.zeroValue9
  t28 := Tryd.underlying22
  a28 := Tryd.isAgg22
  z28 := Tryd.sizeOf22
  v28 := Tryd.zeroValue22
  t46 := Tryd.underlying97
  a46 := Tryd.isAgg97
  z46 := Tryd.sizeOf97
  v46 := Tryd.zeroValue97
  t51 := Tryd.underlying118
  a51 := Tryd.isAgg118
  z51 := Tryd.sizeOf118
  v51 := Tryd.zeroValue118
  t53 := Tryd.underlying120
  a53 := Tryd.isAgg120
  z53 := Tryd.sizeOf120
  v53 := Tryd.zeroValue120
  t131 := Tryd.underlying115
  a131 := Tryd.isAgg115
  z131 := Tryd.sizeOf115
  v131 := Tryd.zeroValue115
  t182 := Tryd.underlying110
  a182 := Tryd.isAgg110
  z182 := Tryd.sizeOf110
  v182 := Tryd.zeroValue110
  t183 := Tryd.underlying111
  a183 := Tryd.isAgg111
  z183 := Tryd.sizeOf111
  v183 := Tryd.zeroValue111
  t218 := Tryd.underlying125
  a218 := Tryd.isAgg125
  z218 := Tryd.sizeOf125
  v218 := Tryd.zeroValue125
  t222 := Tryd.underlying91
  a222 := Tryd.isAgg91
  z222 := Tryd.sizeOf91
  v222 := Tryd.zeroValue91
  t228 := Tryd.underlying136
  a228 := Tryd.isAgg136
  z228 := Tryd.sizeOf136
  v228 := Tryd.zeroValue136
  t229 := Tryd.underlying137
  a229 := Tryd.isAgg137
  z229 := Tryd.sizeOf137
  v229 := Tryd.zeroValue137 }
open Go.Sort Go.RowKit in
theorem Tryd.slices_Sort_int (blk off cap : Nat) (zs : List Int) (w : World) (hH : Holds (Value.int .i64) w blk off zs.toArray) (hblk : blk < w.heap.size) (hsz : zs.length < 4611686018427387904) :
    Calls Tryd.prog 60 #[.slice (some ⟨blk, off, none⟩) zs.length cap] w fun e w' =>
      e = .returned (.tuple #[]) ∧ ∃ n os, w' = grow (putRow (Value.int .i64) (Sort.ahead w n) blk off (zs.mergeSort fun x y => decide (x ≤ y)).toArray) os := Any.slices_Sort_int Tryd.lays189 blk off cap zs w hH hblk hsz
def Tryd.laysNm220_ren : Go.Shelf.Ren := ⟨fun | 20 => 34 | n => n, fun | 22 => 22 | 3 => 3 | 4 => 4 | 0 => 0 | n => n, fun | n => n⟩
theorem Tryd.laysNm220 : Go.Proofs.Lays2.n20 Tryd.prog Tryd.laysNm220_ren := {
  mixed := by kernel_rfl
  f20 := Tryd.func34.trans (congrArg some (by kernel_rfl))
  t0 := Tryd.underlying0
  a0 := Tryd.isAgg0
  z0 := Tryd.sizeOf0
  v0 := Tryd.zeroValue0
  t3 := Tryd.underlying3
  a3 := Tryd.isAgg3
  z3 := Tryd.sizeOf3
  v3 := Tryd.zeroValue3
  t4 := Tryd.underlying4
  a4 := Tryd.isAgg4
  z4 := Tryd.sizeOf4
  v4 := Tryd.zeroValue4
  t22 := Tryd.underlying22
  a22 := Tryd.isAgg22
  z22 := Tryd.sizeOf22
  v22 := Tryd.zeroValue22
  i3 := by kernel_rfl }
open Go.RowKit Go.Lib Go.Sort in
theorem Tryd.slices_Compact_int (blk off cap : Nat) (zs : List Int) (w : World) (hH : Holds (Value.int .i64) w blk off zs.toArray) (hsz : zs.length ≤ 9223372036854775807) (hcap : zs.length ≤ cap) :
    Calls Tryd.prog 34 #[.slice (some ⟨blk, off, none⟩) zs.length cap] w fun e w' => e = .returned (.slice (some ⟨blk, off, none⟩) (Lib.compact zs).length cap) ∧ ∃ q, w' = putRow (Value.int .i64) (Sort.ahead w q) blk off (Lib.compact zs ++ List.replicate (zs.length - (Lib.compact zs).length) 0).toArray := Any.slices_Compact_int Tryd.laysNm220 blk off cap zs w hH hsz hcap
open Go.RowKit Go.Lib Go.Sort in
theorem Tryd.slices_Compact_int_empty (a : Option Addr) (cap : Nat) (w : World) :
    Calls Tryd.prog 34 #[.slice a 0 cap] w fun e w' => e = .returned (.slice a 0 cap) ∧ w' = w := Any.slices_Compact_int_empty Tryd.laysNm220 a cap w
open Go.RowKit Go.Sort in
theorem Tryd.slices_Sort_int_none (p : Option Addr) (cap : Nat) (w : World) :
    Calls Tryd.prog 60 #[.slice p 0 cap] w fun e w' => e = .returned (.tuple #[]) ∧ w' = w := Any.slices_Sort_int_none Tryd.lays189 p cap w
end Go.Proofs

/- slices.Values of a row of numbers that is an argument, slices.AppendSeq, slices.Collect, slices.Sorted: walked. -/

namespace Go.Proofs.YtfnncphkidhbpaaDoor

open Go.RowKit Go.Shelf
attribute [local go_sem] Oper.semAt_some
set_option maxRecDepth 100000

theorem valuesP_any (A : Option Addr) (n c : Nat) (w : World) : Calls Tryd.prog 33 #[.slice A n c] w fun e w' => e = .returned (.func (.func 61) #[] #[.pointer (some ⟨w.heap.size, 0, none⟩)]) ∧ w' = w.alloc (.cells #[.slice A n c] 22) := by
  go_enter Tryd.func33, Tryd.ntmps33
  go_wp2
  go_ret
  exact ⟨rfl, rfl⟩

set_option maxHeartbeats 2000000 in
/-- The iterator over a row of numbers. -/
theorem valuesP1_seq (m B : Nat) (l : List Int) (A : Option Addr) (c : Nat) (w0 : World) (hb : w0.heap[B]? = some (.cells #[.slice A l.length c] 22)) (hR : Ints w0 w0.heap.size A l) :
    SeqC Fence.wide m Tryd.prog 61 #[.pointer (some ⟨B, 0, none⟩)] (fun x : Int => #[.int .i64 x]) (fun _ _ => True) (· < w0.heap.size) (fun xs => xs = l) (fun pre => pre <+: l) w0 := by
  intro lp C J Jx W hW hJ hB hY h0
  have hBl : B < w0.heap.size := (Array.getElem?_eq_some_iff.1 hb).1
  have hbW : W.cell? ⟨B, 0, none⟩ = some (.slice A l.length c) := cells_n' ((hW.block B hBl).trans hb)
  have hl := hR.len
  have hg : ∀ (i : Nat) (x : Int), l[i]? = some x → ∃ g o, A = some ⟨g, o, none⟩ ∧ g < w0.heap.size ∧ W.cell? ⟨g, o + i, none⟩ = some (.int .i64 x) := fun i x hx => by
    obtain ⟨g, o, h2, h3, h4⟩ := hR.ad (by have := (List.getElem?_eq_some_iff.1 hx).1; omega)
    exact ⟨g, o, h2, h3, (cell_of_heap (hW.block g h3)).trans (h4 i x hx)⟩
  have Hg := Lib.hid hg
  clear hR hb hg
  refine callsIn_of_wp Tryd.func61 rfl trivial ?_ rfl
  simp only [Tryd.ntmps61, List.size_toArray, List.length_cons, List.length_nil, Nat.reduceAdd, Nat.reduceSub, Array.replicate_succ, Array.replicate_zero, List.push_toArray, List.append_toArray, List.nil_append, List.cons_append]
  gi_wp2
  gi_loopw [7] (fun i wr => ∃ k : Nat, k ≤ l.length ∧ i = .int .i64 (k : Int) ∧ J (l.take k) wr ∧ Hid (Keeps (· < w0.heap.size) W wr)) (fun i _ => l.length - (intOf i).toNat)
  case atStart => exact ⟨0, Nat.zero_le _, rfl, h0, Lib.hid (Keeps.refl _ _)⟩
  case round =>
    obtain ⟨k, hk, rfl, hJr, HK⟩ := hrel
    by_cases hlt : k < l.length
    · obtain ⟨x, hx⟩ : ∃ x, l[k]? = some x := ⟨_, List.getElem?_eq_getElem hlt⟩
      obtain ⟨g, o, rfl, hgl, hc⟩ := Hg.out k x hx
      have e0 := (cell_of_heap (HK.out.block g hgl)).trans hc
      have hpre : l.take k ++ [x] <+: l := by
        have h1 : l.take (k + 1) = l.take k ++ [x] := by rw [List.take_add_one, hx]; rfl
        rw [← h1]; exact List.take_prefix _ _
      have Htk := Lib.hid (show l.take k ++ [x] = l.take (k + 1) by rw [List.take_add_one, hx]; rfl)
      obtain ⟨fn, tmps, assign, body, hy', hR⟩ := hY (m - 1) (l.take k) x wr hJr hpre trivial
      have Hpre := Lib.hid hpre
      clear hx hc hpre
      gi_wp2
      refine ⟨(fun h => by cases h), hR.mono ?_⟩
      rintro e W3 (⟨rfl, hJ3, hst⟩ | ⟨rfl, hJx3⟩)
      · gi_wp2
        go_roundw
        case rel => exact ⟨k + 1, by omega, by go_num, by rw [← Htk.out]; exact hJ3, Lib.hid (HK.out.trans (hst.keeps.mono fun g e => .inl e))⟩
        case measure => simp [intOf]; omega
      · gi_wp2
        refine bodyPost_ret (results_none rfl _ _ _) rfl ?_
        exact ⟨⟨_, rfl⟩, .inr ⟨_, Hpre.out, hJx3⟩⟩
    · obtain rfl : k = l.length := by omega
      rw [List.take_length] at hJr
      gi_wp2
      go_end0
      exact ⟨⟨_, rfl⟩, .inl ⟨_, rfl, hJr⟩⟩
where
  cells_n' {W : World} {b : Nat} {v : Value} {t : TypeId} (h : W.heap[b]? = some (.cells #[v] t)) : W.cell? ⟨b, 0, none⟩ = some v := by simp [World.cell?, h]

/-- What AppendSeq has laid: the row's slice in its box. -/
structure AppIV (w W : World) (k : List Int) : Prop where
  cell : ∃ v, Boxed W w.heap.size 22 v ∧ W.ownsRow (w.heap.size + 1) 3 1 v k.length (k.map (Value.int .i64))
  below : Below w.heap.size w W

def AppCV (h : Nat) (W : World) (g : Nat) : Prop := g < h + 1 ∨ ∃ v, Boxed W h 22 v ∧ v.ownBlock = some g

theorem boxed_eqV {W : World} {B : Nat} {t : TypeId} {v u : Value} (h : Boxed W B t v) (k : Boxed W B t u) : v = u := by
  have h' : W.heap[B]? = some (.cells #[v] t (0, 0)) := h
  have k' : W.heap[B]? = some (.cells #[u] t (0, 0)) := k
  rw [h'] at k'
  injection k' with k'
  injection k' with k'
  simpa using k'

theorem appV_frame (w : World) : FrameC (AppCV w.heap.size) (fun (pre : List Int) W => AppIV w W pre) := by
  rintro s A B ⟨⟨v, h1, h2⟩, h3⟩ hk
  have e1 : Boxed B w.heap.size 22 v := (hk.block _ (.inl (by omega))).trans h1
  refine ⟨⟨⟨v, e1, row_keep h2 fun g e => hk.block g (.inr ⟨v, h1, e⟩)⟩, h3.trans (hk.below fun g e => .inl (by omega))⟩, fun g e => ?_⟩
  rcases e with e | ⟨u, hu, e⟩
  · exact .inl e
  · obtain rfl := boxed_eqV e1 hu
    exact .inr ⟨v, h1, e⟩

theorem appV_bound (w : World) : BoundC (AppCV w.heap.size) (fun (pre : List Int) W => AppIV w W pre) := by
  rintro s A ⟨⟨v, h1, h2⟩, h3⟩ g e
  have hlt := h1.lt
  rcases e with e | ⟨u, hu, e⟩
  · omega
  · obtain rfl := boxed_eqV h1 hu
    exact (row_lt h2 g e).2

theorem appV_step {w W w2 X : World} {k : List Int} {z : Int} {v v' : Value} {N : Nat → Prop} (h : AppIV w W k) (hv : Boxed W w.heap.size 22 v) (hrow : W.ownsRow (w.heap.size + 1) 3 1 v k.length (k.map (Value.int .i64))) (hX : Below W.heap.size W X) (hN : ∀ g, N g → g < w.heap.size)
    (hown : w2.ownsRow (w.heap.size + 1) 3 1 v' (k.length + 1) (k.map (Value.int .i64) ++ [.int .i64 z])) (hgr : X.grownBy w2 v.ownBlock) (hat : v'.ownBlock = v.ownBlock ∨ v'.ownBlock = some X.heap.size) :
    AppIV w (w2.setCell ⟨w.heap.size, 0, none⟩ v') (k ++ [z]) ∧ Stp N (AppCV w.heap.size) W (w2.setCell ⟨w.heap.size, 0, none⟩ v') := by
  have hlt := row_lt hrow
  have hvl := hv.lt
  have hs1 := hX.size
  have K1 : Keeps (fun g => g < W.heap.size ∧ some g ≠ v.ownBlock) W w2 := ((Keeps.of_below hX).mono fun g e => e.1).trans ((Keeps.of_grown hgr).mono fun g e => ⟨by omega, e.2⟩)
  have hs2 := K1.size
  have e1 : Boxed w2 w.heap.size 22 v := (K1.block _ ⟨by omega, fun e => by have := (hlt _ e.symm).1; omega⟩).trans hv
  have e2 := Boxed.set v' e1
  have hW0 := h.below.size
  refine ⟨⟨⟨v', e2, ?_⟩, (h.below.trans (K1.below fun g e => ⟨by omega, fun e' => by have := (hlt _ e'.symm).1; omega⟩)).setCell (Nat.le_refl _) _⟩, ⟨?_, ?_⟩⟩
  · rw [List.length_append, List.map_append]
    refine row_keep hown fun g e => heap_setCell_other _ _ _ _ ?_
    have := (row_lt hown g e).1
    show g ≠ w.heap.size
    omega
  · refine (K1.mono fun g hg => ?_).trans ((Keeps.set w2 ⟨w.heap.size, 0, none⟩ v').mono fun g hg => ?_)
    · rcases hg with hg | hg
      · have hg' := hN g hg
        exact ⟨by omega, fun e => by have := (hlt _ e.symm).1; omega⟩
      · exact ⟨hg.1, fun e => hg.2 (.inr ⟨v, hv, e.symm⟩)⟩
    · show g ≠ w.heap.size
      rcases hg with hg | hg
      · have hg' := hN g hg
        omega
      · exact fun e => hg.2 (.inl (by omega))
  · rintro g (e | ⟨u, hu, e⟩)
    · exact .inl (.inl e)
    · obtain rfl := boxed_eqV e2 hu
      rcases hat with e3 | e3
      · exact .inl (.inr ⟨v, hv, e3 ▸ e⟩)
      · rw [e3] at e
        injection e with e
        exact .inr (by omega)

set_option maxHeartbeats 4000000 in
theorem appSeqP_any (gf : Nat) (lb : Array Value) (l : List Int) (N : Nat → Prop) (w : World) (hen : ∀ args w, (callFunc gf args).run Tryd.prog w = .ok (.enter gf args) w) (hseq : ∀ m, SeqC Fence.wide m Tryd.prog gf lb (fun x : Int => #[.int .i64 x]) (fun _ _ => True) N (fun xs => xs = l) (fun pre => pre <+: l) w)
    (hN : ∀ g, N g → g < w.heap.size) (h64 : ∀ x ∈ l, I64 x) (hl : l.length ≤ 4398046511104) :
    Calls Tryd.prog 79 #[.slice none 0 0, .func (.func gf) #[] lb] w fun e w' => ∃ v, e = .returned v ∧ IntsR w' w.heap.size v l ∧ Below w.heap.size w w' := by
  obtain ⟨i0, hi, hz0, hz1, hz2⟩ := info_parts info_int
  refine (callsIn_wide (n := 3)).1 (callsIn_of_wp_marks Tryd.func79 rfl trivial ?_ rfl)
  simp only [Tryd.ntmps79, List.size_toArray, List.length_cons, List.length_nil, Nat.reduceAdd, Nat.reduceSub, Array.replicate_succ, Array.replicate_zero, List.push_toArray, List.append_toArray, List.nil_append, List.cons_append]
  refine wpIn_wide.2 ?_
  go_wp2
  have p0 := heap_alloc_new w (.cells #[.slice none 0 0] 22)
  obtain ⟨W, hW⟩ : ∃ W, w.alloc (.cells #[.slice none 0 0] 22) = W := ⟨_, rfl⟩
  have hB : Below w.heap.size w W := by rw [← hW]; exact (Below.refl _ _).alloc (Nat.le_refl _) _
  rw [hW] at p0 ⊢
  refine (wpIn_wide (n := 3)).1 ?_
  refine range_law (F := Fence.wide) (n := 3) (w0 := w) rfl rfl (gf := gf) (lb := lb) rfl trivial hen hseq hB (fun _ => rfl) (fun g e => Nat.lt_of_lt_of_le (hN g e) hB.size)
    (AppCV w.heap.size) (fun pre W => AppIV w W pre) (fun _ _ _ => False)
    (appV_frame w) (appV_bound w) (fun _ _ _ _ h _ => h.elim) ⟨⟨.slice none 0 0, p0, World.ownsRow_nil W _ _ _⟩, hB⟩
    (fun pre x a' W => AppIV w W pre ∧ a' = { tmps := #[.slice none 0 0, .func (.func gf) #[] lb, .pointer (some ⟨w.heap.size, 0, none⟩), undef, .slice none 0 0, .int .i64 x, .func (.func gf) #[] lb, .int .i64 x, undef, undef, undef, undef, undef], defers := [] }) ?hAx ?assign ?body ?done ?stop
  case hAx =>
    rintro pre x a' W l r o ⟨h1, rfl⟩ hl hr hn
    have hK := Keeps.put W l o
    obtain ⟨h5, h6⟩ := appV_frame w pre W (W.putObj l o) h1 (hK.mono fun g e e' => hn (e' ▸ e))
    exact ⟨h6, h5, rfl⟩
  case assign =>
    intro l m pre x W K hI _ hfx hK
    gi_wp2
    exact hK _ _ (Stp.refl _ _ _) ⟨hI, by simp⟩
  case body =>
    rintro lp m pre x a' W hsp ⟨h1, rfl⟩
    obtain ⟨v, hv, hrow⟩ := h1.cell
    have hc := Boxed.cell hv
    have hfz := Boxed.frozen hv
    obtain ⟨A, c, rfl⟩ := row_slice hrow
    have hpl : pre.length + 1 ≤ l.length := by have := hsp.length_le; simpa using this
    have hrl := row_lt hrow
    have hvl := hv.lt
    have Hrow := Lib.hid hrow
    have H1 := Lib.hid h1
    have Hv := Lib.hid hv
    clear hrow h1 hv
    gi_wp2_with (first
      | (gi_at_builtin
         go_must (
         refine wpListIn_append_at _ rfl _ _ 22 rfl (w.heap.size + 1) 3 i0 (.int .i64 0) 1 8 Tryd.underlying22 hi hz0 hz1 hz2 rfl (by decide) (.slice A pre.length c) pre.length _ rfl (row_keep Hrow.out fun g e => Below.heap_alloc W _ g (hrl g e).2) ⟨W.heap.size, 0, none⟩ 1 1 [.int .i64 x] rfl rfl (cell_one_new _ _ _) (by simp [Value.oneCell']) (by unfold maxLen; omega) (by omega) (by simp; omega) ?_
         intro v5 w5 hown5 hgr5 hat5
         have hbx5 : Boxed w5 w.heap.size 22 (.slice A pre.length c) := (hgr5.block _ (by simp; omega) (fun e => by have := (hrl _ e.symm).1; omega)).trans ((Below.heap_alloc W _ _ hvl).trans Hv.out)
         have hfz5 := hbx5.frozen
         have hc5 := hbx5.cell
         obtain ⟨A5, c5, hv5⟩ := row_slice hown5
         subst hv5
         have Hown5 := Lib.hid hown5
         have Hgr5 := Lib.hid hgr5
         have Hat5 := Lib.hid hat5
         clear hown5 hgr5 hat5 hbx5))
      | gi_in)
    exact appV_step H1.out Hv.out Hrow.out ((Below.refl _ _).alloc (Nat.le_refl _) _) hN Hown5.out Hgr5.out Hat5.out
  case done =>
    rintro D ys W hD hS h1 hK
    obtain ⟨v, hv, hrow⟩ := h1.cell
    have hc := Boxed.cell hv
    have hb1 := h1.below
    have hs0 := hB.size
    subst hS
    clear h1
    obtain ⟨A, c, rfl⟩ := row_slice hrow
    go_wp2
    refine ⟨by simp, .inl ⟨_, _, rfl, run_takeDeferred hK, ?_⟩⟩
    have hrl := row_lt hrow
    refine ⟨.slice A ys.length c, by simp [results, Tryd.results79, go_sem], .slice A ys.length c, rfl, ⟨?_, h64⟩, hb1.trans (belowK_b (w := w) (Nat.le_refl _) W D _ _ (by omega) hK rfl rfl)⟩
    have h9 : W.ownsRow w.heap.size 3 1 (.slice A ys.length c) ys.length (ys.map (Value.int .i64)) := by
      refine ⟨hrow.1, ?_⟩
      rcases hrow.2 with h | ⟨g, cap, cur, h1, h2, h3⟩
      · exact .inl h
      · exact .inr ⟨g, cap, cur, h1, by omega, h3⟩
    refine row_keep h9 fun g e => World.putObj_heap_other fun e2 => ?_
    subst e2
    rcases hrow.2 with ⟨h, _⟩ | ⟨g, cap, cur, h1, h2, h3, _⟩
    · rw [h] at e; simp [Value.ownBlock] at e
    · rw [h1] at e
      simp [Value.ownBlock] at e
      subst e
      rw [h3] at hK; cases hK
  case stop => exact fun _ _ _ _ _ _ h _ => h.elim

theorem collectP_any (B : Nat) (l : List Int) (A : Option Addr) (c : Nat) (w : World) (hb : w.heap[B]? = some (.cells #[.slice A l.length c] 22)) (hR : Ints w w.heap.size A l) (hl : l.length ≤ 4398046511104) :
    Calls Tryd.prog 59 #[.func (.func 61) #[] #[.pointer (some ⟨B, 0, none⟩)]] w fun e w' => ∃ v', e = .returned v' ∧ IntsR w' w.heap.size v' l ∧ Below w.heap.size w w' := by
  have HA := Lib.hid (appSeqP_any 61 #[.pointer (some ⟨B, 0, none⟩)] l (· < w.heap.size) w (enters_of Tryd.func61 (by kernel_rfl) rfl) (fun m => valuesP1_seq m B l A c w hb hR) (fun g e => e) hR.i64 hl)
  clear hb hR
  go_enter Tryd.func59, Tryd.ntmps59
  go_wp2_with (first
    | (go_at_call 79; with_reducible refine HA.out.mono ?_; go_must (rintro e w1 ⟨v1, rfl, hI1, hb1⟩))
    | fail)
  go_ret
  exact ⟨_, rfl, hI1, hb1⟩

set_option maxHeartbeats 1000000 in
theorem sortedP_any (B : Nat) (l : List Int) (A : Option Addr) (c : Nat) (w : World) (hb : w.heap[B]? = some (.cells #[.slice A l.length c] 22)) (hR : Ints w w.heap.size A l) (hl : l.length ≤ 4398046511104) :
    Calls Tryd.prog 32 #[.func (.func 61) #[] #[.pointer (some ⟨B, 0, none⟩)]] w fun e w' => ∃ v', e = .returned v' ∧ IntsR w' w.heap.size v' (l.mergeSort fun x y => decide (x ≤ y)) ∧ Below w.heap.size w w' := by
  have HC := Lib.hid (collectP_any B l A c w hb hR hl)
  have h64 := hR.i64
  clear hb hR
  have hZ : ∀ x ∈ (l.mergeSort fun x y => decide (x ≤ y)), I64 x := fun x hx => h64 x ((List.mergeSort_perm l _).mem_iff.1 hx)
  obtain ⟨Z, hZe⟩ : ∃ Z, Z = l.mergeSort fun x y => decide (x ≤ y) := ⟨_, rfl⟩
  have hZl : Z.length = l.length := by rw [hZe]; exact List.length_mergeSort _
  rw [← hZe] at hZ ⊢
  have hsort : ∀ (w1 : World) (v1 : Value), IntsR w1 w.heap.size v1 l → Calls Tryd.prog 60 #[v1] w1 fun e w2 => e = .returned (.tuple #[]) ∧ IntsR w2 w.heap.size v1 Z ∧ (∀ g, g < w.heap.size → w2.heap[g]? = w1.heap[g]?) ∧ w2.os = w1.os ∧ w2.tape = w1.tape ∧ w2.output = w1.output ∧ w1.heap.size ≤ w2.heap.size := by
    intro w1 v1 h1
    rcases h1.row.2 with ⟨rfl, h0⟩ | ⟨g, cap, cur, rfl, hbg, hg, hcap, hcm, hcur, htk⟩
    · have hl0 : l = [] := List.eq_nil_of_length_eq_zero h0
      have hZ0 : Z = [] := List.eq_nil_of_length_eq_zero (by rw [hZl, hl0]; rfl)
      refine (Tryd.slices_Sort_int_none none 0 w1).mono ?_
      rintro e w2 ⟨rfl, rfl⟩
      refine ⟨rfl, ⟨?_, hZ⟩, fun _ _ => rfl, rfl, rfl, rfl, Nat.le_refl _⟩
      rw [hZ0]; exact World.ownsRow_nil _ _ _ _
    · have hgl : g < w1.heap.size := (Array.getElem?_eq_some_iff.1 hg).1
      rw [Nat.mul_one] at htk
      have h2 := Tryd.slices_Sort_int g 0 cap l w1 (holds_of_blockI hg htk) hgl (by omega)
      rw [← hZe] at h2
      refine h2.mono ?_
      rintro e w2 ⟨rfl, n, os, rfl⟩
      have hgr := grownBy_sortedI (w := w1) (g := g) (n := n) (os := os) Z.toArray
      have hhp := heap_sortedI (n := n) (os := os) Z.toArray hg
      have htk2 := take_putCellsI cur Z (by omega)
      refine ⟨rfl, ⟨⟨by simp, .inr ⟨g, cap, _, by rw [hZl], hbg, hhp, by omega, hcm, by simp [Sort.putCells]; omega, by rw [Nat.mul_one]; exact htk2⟩⟩, hZ⟩, fun k e => hgr.block k (by omega) (fun e2 => by injection e2; omega), hgr.os, hgr.tape, hgr.output, hgr.size⟩
  have HS := Lib.hid hsort
  clear hsort hZe
  go_enter Tryd.func32, Tryd.ntmps32
  go_wp2_with (first
    | (go_at_call 59; with_reducible refine HC.out.mono ?_; go_must (rintro e w1 ⟨v1, rfl, hI1, hb1⟩; have HS1 := Lib.hid (HS.out w1 v1 hI1); obtain ⟨A1, c1, hv1⟩ := row_slice hI1.row; subst hv1; clear hI1))
    | (go_at_call 60; with_reducible refine HS1.out.mono ?_; go_must (rintro e w2 ⟨rfl, hI2, hk2, ho2, ht2, hp2, hs2⟩))
    | fail)
  go_ret
  exact ⟨_, rfl, hI2, ⟨ho2.trans hb1.os, ht2.trans hb1.tape, hp2.trans hb1.output, Nat.le_trans hb1.size hs2, fun g e => (hk2 g e).trans (hb1.block g e)⟩⟩

end Go.Proofs.YtfnncphkidhbpaaDoor

/- What sort's comparing function may leave: new blocks, and a stream that goes on. append goes on, too. -/

namespace Go.Proofs.YtfnncphkidhbpaaDoor

open Go.RowKit
set_option maxRecDepth 100000

/-- All that there was is as it was; the stream has gone on. -/
structure On (w w' : World) : Prop where
  b : Below w.heap.size w w'
  d : w.drawn ≤ w'.drawn

theorem On.refl (w : World) : On w w := ⟨Below.refl _ _, Nat.le_refl _⟩

theorem On.trans {a b c : World} (h : On a b) (k : On b c) : On a c := ⟨h.b.trans (k.b.mono h.b.size), Nat.le_trans h.d k.d⟩

theorem On.alloc {a w : World} (h : On a w) (o : Obj) : On a (w.alloc o) := ⟨h.b.alloc h.b.size o, h.d⟩

theorem On.drew {a w : World} (h : On a w) : On a w.drew := ⟨h.b.drew, Nat.le_succ_of_le h.d⟩

theorem On.grown {w w' : World} (h : On w w') : ∃ q os', w' = Sort.grow (w.drewN q) os' := by
  obtain ⟨⟨h1, h2, h3, h4, h5⟩, h6⟩ := h
  refine ⟨w'.drawn - w.drawn, w'.heap.extract w.heap.size w'.heap.size, ?_⟩
  have hh : w'.heap = w.heap ++ w'.heap.extract w.heap.size w'.heap.size := by
    apply Array.ext_getElem?
    intro k
    rcases Nat.lt_or_ge k w.heap.size with hk | hk
    · rw [Array.getElem?_append_left hk]; exact h5 k hk
    · rw [Array.getElem?_append_right hk, Array.getElem?_extract]
      split
      · congr 1; omega
      · rw [Array.getElem?_eq_none]; omega
  have hd : w'.drawn = w.drawn + (w'.drawn - w.drawn) := by omega
  cases w'
  cases w
  simp only [Sort.grow, World.drewN] at *
  subst h1 h2 h3
  rw [← hh, ← hd]

theorem append_drawn {P : Program} (w : World) (base : Nat) (t ty e : TypeId) (i : TypeInfo) (z : Value) (size bytes : Nat) (ht : P.underlying t = some (.slice e)) (hi : P.info? e = some i) (hz : i.zero = some z)
    (hsize : i.size = size) (hby : i.bytes = bytes)
    (v : Value) (n : Nat) (xs : List Value) (hown : w.ownsRow base e size v n xs)
    (a : Addr) (m c : Nat) (news : List Value) (hl : news.length = m * size) (hnews : ∀ j u, news[j]? = some u → w.cell? (a.add j) = some u) (h1 : ∀ u ∈ news, u.oneCell' = true)
    (hm : 0 < m) (h63 : n + m ≤ maxLen) (hbytes : (n + m) * bytes ≤ 140737488355328) {v' : Value} {w' : World} (hr : (Builtin.append_ #[t, t] ty #[v, .slice (some a) m c]).run P w = .ok v' w') : w.drawn ≤ w'.drawn := by
  subst hsize hby
  have hsmall : n + m ≤ 9223372036854775807 := by simp only [maxLen] at h63; omega
  rcases hown.2 with ⟨rfl, rfl⟩ | ⟨g, cap, cur, rfl, hbg, hg, hnc, hcm, hcs, htake⟩
  · have h := run_append_nil (P := P) w t ty e i z ht hi hz a m c news hl hnews (by omega) (by omega) (by have hb := hbytes; simp only [Nat.zero_add] at hb; omega)
    rw [h] at hr
    obtain ⟨-, rfl⟩ := Result.ok.inj hr
    show w.drawn ≤ w.drawn + 1
    omega
  · by_cases hroom : n + m ≤ cap
    · have hfit : n * i.size + news.length ≤ cur.size := by rw [hl, hcs, ← Nat.add_mul]; exact Nat.mul_le_mul_right _ hroom
      have h := run_append_room (P := P) w t ty e i ht hi g n cap cur hg a m c news hl hnews h1 hroom hfit
      rw [h] at hr
      obtain ⟨-, rfl⟩ := Result.ok.inj hr
      exact Nat.le_refl _
    · have holds : ∀ j u, xs[j]? = some u → w.cell? ((⟨g, 0, none⟩ : Addr).add j) = some u := hown.cells (g := g) rfl
      have h := run_append_grow (P := P) w t ty e i z ht hi hz ⟨g, 0, none⟩ n cap xs hown.1 holds a m c news hl hnews (by omega) (by omega) (growslice_fits (by omega) hbytes)
      rw [h] at hr
      obtain ⟨-, rfl⟩ := Result.ok.inj hr
      show w.drawn ≤ w.drawn + 1
      omega

/-- 'append' as one step of a region that draws its order; the stream goes on. -/
theorem step_append_d {P : Program} {w : World} {ops : Array Oper} {o : Oper} {a : Act} {K : Act → World → Prop} {Q : Exit → Act → World → Prop} {E : Prop}
    (hg : o.guard = none) (s x : Operand) (t : TypeId) (hop : o.op = Op.call { callee := Callee.builtin Builtin.append, args := #[s, x], argTypes := #[t, t] })
    (base : Nat) (e : TypeId) (i : TypeInfo) (z : Value) (size bytes : Nat) (h1 : P.underlying t = some (.slice e)) (h2 : P.info? e = some i) (h3 : i.zero = some z) (h4 : i.size = size) (h5 : i.bytes = bytes) (h6 : z.cells.size = size) (h7 : 0 < size)
    (v : Value) (k : Nat) (xs : List Value) (hs : a.eval s = v) (hown : w.ownsRow base e size v k xs) (ad : Addr) (m c : Nat) (news : List Value) (hx : a.eval x = .slice (some ad) m c) (hn : news.length = m * size)
    (hc : ∀ j u, news[j]? = some u → w.cell? (ad.add j) = some u) (h1c : ∀ u ∈ news, u.oneCell' = true) (b1 : k + m ≤ maxLen) (b2 : (k + m) * bytes ≤ 140737488355328) (b3 : base ≤ w.heap.size) (hm : 0 < m)
    (hK : ∀ v' w', w'.ownsRow base e size v' (k + m) (xs ++ news) → w.grownBy w' v.ownBlock → (v'.ownBlock = v.ownBlock ∨ v'.ownBlock = some w.heap.size) → w.drawn ≤ w'.drawn → K (a.put o.dst v') w') :
    if Region.wanted o (yielded ops a.tmps) = true then Oper.wp P o a w K Q else E := by
  obtain ⟨v', w', hrun, r1, r2, _, r4⟩ := run_append_own_at (P := P) w base t o.type e i z size bytes h1 h2 h3 h4 h5 h6 h7 v k xs hown ad m c news hn hc h1c b1 b2 b3
  have r5 := append_drawn (P := P) w base t o.type e i z size bytes h1 h2 h3 h4 h5 v k xs hown ad m c news hn hc h1c hm b1 b2 hrun
  rw [if_pos (by simp [Region.wanted, hg])]
  unfold Oper.wp
  simp [execOp, hop, resolve, invoke, builtin, hs, hx, hrun, Result.andThen]
  exact hK _ _ r1 r2 r4 r5

/-- 'append' in a region of one order; the stream goes on. -/
theorem wpList_append_d {P : Program} {w : World} {ops : Array Oper} {rest : List Oper} {o : Oper} {a : Act} {Q : Exit → Act → World → Prop}
    (hg : o.guard = none) (s x : Operand) (t : TypeId) (hop : o.op = Op.call { callee := Callee.builtin Builtin.append, args := #[s, x], argTypes := #[t, t] })
    (base : Nat) (e : TypeId) (i : TypeInfo) (z : Value) (size bytes : Nat) (h1 : P.underlying t = some (.slice e)) (h2 : P.info? e = some i) (h3 : i.zero = some z) (h4 : i.size = size) (h5 : i.bytes = bytes) (h6 : z.cells.size = size) (h7 : 0 < size)
    (v : Value) (k : Nat) (xs : List Value) (hs : a.eval s = v) (hown : w.ownsRow base e size v k xs) (ad : Addr) (m c : Nat) (news : List Value) (hx : a.eval x = .slice (some ad) m c) (hn : news.length = m * size)
    (hc : ∀ j u, news[j]? = some u → w.cell? (ad.add j) = some u) (h1c : ∀ u ∈ news, u.oneCell' = true) (b1 : k + m ≤ maxLen) (b2 : (k + m) * bytes ≤ 140737488355328) (b3 : base ≤ w.heap.size) (hm : 0 < m)
    (hK : ∀ v' w', w'.ownsRow base e size v' (k + m) (xs ++ news) → w.grownBy w' v.ownBlock → (v'.ownBlock = v.ownBlock ∨ v'.ownBlock = some w.heap.size) → w.drawn ≤ w'.drawn → wpList P ops Q rest (a.put o.dst v') w') : wpList P ops Q (o :: rest) a w :=
  wpList_plain hg fun K hKK => by
    obtain ⟨v', w', hrun, r1, r2, _, r4⟩ := run_append_own_at (P := P) w base t o.type e i z size bytes h1 h2 h3 h4 h5 h6 h7 v k xs hown ad m c news hn hc h1c b1 b2 b3
    have r5 := append_drawn (P := P) w base t o.type e i z size bytes h1 h2 h3 h4 h5 v k xs hown ad m c news hn hc h1c hm b1 b2 hrun
    unfold Oper.wp
    simp [execOp, hop, resolve, invoke, builtin, hs, hx, hrun, Result.andThen]
    exact hKK _ _ (hK _ _ r1 r2 r4 r5)

/-- A world in which all that lay in W lies as it lay, and whose stream has gone on. -/
structure LatD (W : World) where
  w : World
  h : On W w

instance (W : World) : Nonempty (LatD W) := ⟨⟨W, On.refl _⟩⟩

theorem wp_region_latD {P : Program} {id : Nat} {Q : Exit → Act → World → Prop} {a : Act} {w : World} {l : List Oper} (W : World) (hm : P.follows .mixedOrders = true) (hB : Region.lexB .any l.toArray = true) (h0 : On W w.drew)
    (h : wpQuiet P l.toArray (fun w' => ∃ x : LatD W, w' = x.w) (fun a' => ∀ w', (∃ x : LatD W, w' = x.w) → Q .normal a' w') l a) : (Code.region id l.toArray true).wp P Q a w :=
  wp_region_quiet (C := fun w' => ∃ x : LatD W, w' = x.w) hm hB ⟨⟨_, h0⟩, rfl⟩ (by simpa using h)

theorem calls_latD {P : Program} {f : FuncId} {args : Array Value} {W : World} {v : Value} (x : LatD W) (h : Calls P f args x.w fun e w' => e = .returned v ∧ On x.w w') :
    Calls P f args x.w fun e w' => e = .returned v ∧ ∃ y : LatD W, w' = y.w :=
  h.mono fun _ _ ⟨he, hb⟩ => ⟨he, ⟨_, x.h.trans hb⟩, rfl⟩

theorem LatD.cell {W : World} (x : LatD W) {g o : Nat} {v : Value} (h : W.cell? ⟨g, o, none⟩ = some v) : x.w.cell? ⟨g, o, none⟩ = some v := (World.cell?_of_block (x.h.b.block g (World.block_lt_of_cell? W _ h))).trans h

end Go.Proofs.YtfnncphkidhbpaaDoor

