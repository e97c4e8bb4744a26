import Derived.Test.YtkpkhnaflohjpaaProg
import Derived.WalkKit
import Derived.WalkSpells
import Derived.WalkLawsBesides
import Derived.Lib.Hide
import Derived.Below
import Derived.Laws.OwnMore
import Derived.Deep.AppendLies
import Derived.Deep.Draws
import Derived.Laws.StructEq
import Derived.BigQuiet
import Derived.Deep.QuietTactic
import Derived.Maps.AppendAt
import Derived.OwnWalk
import Derived.Deep.RegionHeld3
import Derived.RangeFuncNested
import Derived.RangeFuncBound
import Derived.RangeFuncCalls
import Derived.RangeFuncLeaves
import Derived.Shelf.Abstract
import Derived.Shelf.RegionOpen
import Derived.OwnWalkIn
import Derived.TacticsInMore
import Derived.LoopNIn
import Derived.LoopIn
import Derived.Deep.DeepCutAuto
/- Plain words on memory, symbols and signatures; '==' of two symbols. -/

namespace Go.Proofs.Ytkpkhnaflohjpaa

open Go.RowKit

theorem ret_int {k : IntKind} {a b : Int} (h : a = b) : Ending.returned (.int k a) = .returned (.int k b) := by rw [h]

theorem ret_bool {a b : Bool} (h : a = b) : Ending.returned (.bool a) = .returned (.bool b) := by rw [h]

theorem bl_drewN {B : Nat} {a w : World} (h : Below B a w) (n : Nat) : Below B a (w.drewN n) := ⟨h.os, h.tape, h.output, h.size, h.block⟩

theorem bl_drewN' {B : Nat} {a w : World} {n : Nat} (h : Below B a (w.drewN n)) : Below B a w := ⟨h.os, h.tape, h.output, h.size, h.block⟩

/-- A call's new memory lies above what the caller keeps. -/
theorem bl_step {w w1 w2 : World} (h : Below w.heap.size w w1) (h' : Below w1.heap.size w1 w2) : Below w.heap.size w w2 := h.trans (h'.mono h.size)

/-- A symbol. -/
structure Sm where
  name : ByteArray
  arity : Int
  pred : Bool
  deriving DecidableEq

instance : Inhabited Sm := ⟨⟨ByteArray.empty, 0, false⟩⟩

def Sm.cells (x : Sm) : List Value := [.string x.name, .int .i64 x.arity, .bool x.pred]

structure Sm.Ok (x : Sm) : Prop where
  size : x.name.size ≤ maxLen
  lo : -9223372036854775808 ≤ x.arity
  hi : x.arity ≤ 9223372036854775807

theorem sm_ext {x y : Sm} (h : x.name = y.name ∧ x.arity = y.arity ∧ x.pred = y.pred) : x = y := by
  obtain ⟨a, b, c⟩ := x
  obtain ⟨a', b', c'⟩ := y
  obtain ⟨rfl, rfl, rfl⟩ := h
  rfl

theorem sm_ne {x y : Sm} (h : ¬x.name = y.name ∨ ¬x.arity = y.arity ∨ ¬x.pred = y.pred) : x ≠ y := by
  rintro rfl
  rcases h with h | h | h <;> exact h rfl

theorem flat_get (l : List Sm) (i r : Nat) (hr : r < 3) : (l.flatMap Sm.cells)[i * 3 + r]? = (l[i]?).bind fun x => x.cells[r]? := by
  induction l generalizing i with
  | nil => simp
  | cons x l ih =>
    have hlen : x.cells.length = 3 := rfl
    rw [List.flatMap_cons]
    cases i with
    | zero => rw [List.getElem?_append_left (by omega)]; simp
    | succ i =>
      rw [List.getElem?_append_right (by omega), hlen, show (i + 1) * 3 + r - 3 = i * 3 + r from by omega, ih]
      simp

theorem flat_len (l : List Sm) : (l.flatMap Sm.cells).length = l.length * 3 := by
  induction l with
  | nil => rfl
  | cons x l ih =>
    have hlen : x.cells.length = 3 := rfl
    rw [List.flatMap_cons, List.length_append, ih, hlen, List.length_cons]
    omega

theorem flat_one (l : List Sm) : ∀ u ∈ l.flatMap Sm.cells, u.oneCell' = true := by
  intro u hu
  obtain ⟨x, _, hx⟩ := List.mem_flatMap.1 hu
  simp only [Sm.cells, List.mem_cons, List.not_mem_nil, or_false] at hx
  rcases hx with rfl | rfl | rfl <;> rfl

/-- The slice value (A, n) holds the symbols l; its cells lie below block B. -/
structure Syms (w : World) (B : Nat) (A : Option Addr) (n : Nat) (l : List Sm) : Prop where
  len : l.length = n
  ok : ∀ x ∈ l, x.Ok
  ad : 0 < n → ∃ b off, A = some ⟨b, off, none⟩ ∧ b < B ∧ ∀ i x, l[i]? = some x →
    w.cell? ⟨b, off + i * 3, none⟩ = some (.string x.name) ∧ w.cell? ⟨b, off + i * 3 + 1, none⟩ = some (.int .i64 x.arity) ∧ w.cell? ⟨b, off + i * 3 + 2, none⟩ = some (.bool x.pred)

section

variable {w w' : World} {B B' n : Nat} {A : Option Addr} {l : List Sm}

theorem Syms.keep (h : Syms w B A n l) (hk : ∀ p : Addr, p.block < B → w'.cell? p = w.cell? p) : Syms w' B A n l :=
  ⟨h.len, h.ok, fun hn => by
    obtain ⟨b, off, hA, hlt, hc⟩ := h.ad hn
    refine ⟨b, off, hA, hlt, fun i x hi => ?_⟩
    obtain ⟨h1, h2, h3⟩ := hc i x hi
    exact ⟨(hk ⟨b, _, none⟩ hlt).trans h1, (hk ⟨b, _, none⟩ hlt).trans h2, (hk ⟨b, _, none⟩ hlt).trans h3⟩⟩

theorem Syms.below (h : Syms w B A n l) (hb : Below B w w') : Syms w' B A n l := h.keep fun _ hp => hb.cell hp

theorem Syms.drewN (h : Syms w B A n l) (k : Nat) : Syms (w.drewN k) B A n l := h.keep fun _ _ => rfl

theorem Syms.more (h : Syms w B A n l) (hB : B ≤ B') : Syms w B' A n l :=
  ⟨h.len, h.ok, fun hn => by
    obtain ⟨b, off, hA, hlt, hc⟩ := h.ad hn
    exact ⟨b, off, hA, by omega, hc⟩⟩

theorem Syms.nil_ (w : World) (B : Nat) (A : Option Addr) : Syms w B A 0 [] := ⟨rfl, fun x hx => by simp at hx, fun h => absurd h (by omega)⟩

/-- A later world of a call: its memory is kept, and reaches further. -/
theorem Syms.on (h : Syms w w.heap.size A n l) (hb : Below w.heap.size w w') : Syms w' w'.heap.size A n l := (h.below hb).more hb.size

theorem Syms.flat (h : Syms w B A n l) (hn : 0 < n) : ∃ b off, A = some ⟨b, off, none⟩ ∧ b < B ∧ ∀ j u, (l.flatMap Sm.cells)[j]? = some u → w.cell? ⟨b, off + j, none⟩ = some u := by
  obtain ⟨b, off, hA, hlt, hc⟩ := h.ad hn
  refine ⟨b, off, hA, hlt, fun j u hu => ?_⟩
  have hj : j = j / 3 * 3 + j % 3 := by omega
  have hr : j % 3 < 3 := Nat.mod_lt _ (by omega)
  generalize j / 3 = i at hj
  generalize j % 3 = r at hj hr
  subst hj
  rw [flat_get _ _ _ hr] at hu
  cases hx : l[i]? with
  | none => rw [hx] at hu; simp at hu
  | some x =>
    rw [hx] at hu
    obtain ⟨h1, h2, h3⟩ := hc i x hx
    match r, hr with
    | 0, _ => simp [Sm.cells] at hu; rw [← hu]; exact h1
    | 1, _ => simp [Sm.cells] at hu; rw [← hu]; exact h2
    | 2, _ => simp [Sm.cells] at hu; rw [← hu]; exact h3

theorem Syms.of_flat (hl : l.length = n) (hok : ∀ x ∈ l, x.Ok) (h : 0 < n → ∃ b off, A = some ⟨b, off, none⟩ ∧ b < B ∧ ∀ j u, (l.flatMap Sm.cells)[j]? = some u → w.cell? ⟨b, off + j, none⟩ = some u) : Syms w B A n l :=
  ⟨hl, hok, fun hn => by
    obtain ⟨b, off, hA, hlt, hc⟩ := h hn
    refine ⟨b, off, hA, hlt, fun i x hx => ⟨?_, ?_, ?_⟩⟩
    · exact hc (i * 3) _ (by have := flat_get l i 0 (by omega); rw [Nat.add_zero] at this; rw [this, hx]; rfl)
    · exact (congrArg w.cell? (by simp)).trans (hc (i * 3 + 1) _ (by rw [flat_get _ _ _ (by omega), hx]; rfl))
    · exact (congrArg w.cell? (by simp)).trans (hc (i * 3 + 2) _ (by rw [flat_get _ _ _ (by omega), hx]; rfl))⟩

end

/-- Are two symbols the same? (A plain definition: the walk does not open it.) -/
def smB (a : ByteArray) (b : Int) (c : Bool) (a' : ByteArray) (b' : Int) (c' : Bool) : Bool := decide ((⟨a, b, c⟩ : Sm) = ⟨a', b', c'⟩)

theorem smB_true {x y : Sm} (h : x = y) : smB x.name x.arity x.pred y.name y.arity y.pred = true := by subst h; simp [smB]

theorem smB_false {x y : Sm} (h : x ≠ y) : smB x.name x.arity x.pred y.name y.arity y.pred = false := by
  simp only [smB, decide_eq_false_iff_not]; exact h

end Go.Proofs.Ytkpkhnaflohjpaa

/- Plain words on terms: trees, their sizes, their order; how they lie in memory. -/

namespace Go.Proofs.Ytkpkhnaflohjpaa

open Go.RowKit

/-- A term, in plain words. -/
inductive Tm where
  | node (f : Int) (xs : List Tm)

def Tm.fn : Tm → Int
  | .node f _ => f

def Tm.args : Tm → List Tm
  | .node _ xs => xs

theorem Tm.eta (t : Tm) : Tm.node t.fn t.args = t := by cases t; rfl

theorem Tm.ind {P : Tm → Prop} (h : ∀ f xs, (∀ t ∈ xs, P t) → P (.node f xs)) (t : Tm) : P t :=
  Tm.rec (motive_1 := P) (motive_2 := fun xs => ∀ t ∈ xs, P t) (fun f xs ih => h f xs ih) (by simp) (fun t ts h1 h2 => by simp only [List.mem_cons]; rintro u (rfl | hu); exact h1; exact h2 _ hu) t

mutual
def Tm.size : Tm → Nat
  | .node _ xs => sizes xs + 1
def sizes : List Tm → Nat
  | [] => 0
  | t :: ts => t.size + sizes ts
end

mutual
def Tm.depth : Tm → Nat
  | .node _ xs => depths xs + 1
def depths : List Tm → Nat
  | [] => 0
  | t :: ts => max t.depth (depths ts)
end

theorem size_mem {t : Tm} {xs : List Tm} (h : t ∈ xs) : t.size ≤ sizes xs := by
  induction xs with
  | nil => simp at h
  | cons a xs ih =>
    simp only [List.mem_cons] at h
    simp only [sizes]
    rcases h with rfl | h
    · omega
    · have := ih h; omega

theorem depth_mem {t : Tm} {xs : List Tm} (h : t ∈ xs) : t.depth ≤ depths xs := by
  induction xs with
  | nil => simp at h
  | cons a xs ih =>
    simp only [List.mem_cons] at h
    simp only [depths]
    rcases h with rfl | h
    · omega
    · have := ih h; omega

theorem size_pos (t : Tm) : 1 ≤ t.size := by cases t; simp only [Tm.size]; omega

theorem depth_pos (t : Tm) : 1 ≤ t.depth := by cases t; simp only [Tm.depth]; omega

theorem sizes_len (xs : List Tm) : xs.length ≤ sizes xs := by
  induction xs with
  | nil => simp [sizes]
  | cons a xs ih => have := size_pos a; simp only [List.length_cons, sizes]; omega

/-- Which of two numbers of symbols or variables is ahead. -/
def headI (f g : Int) : Int := if f = g then 0 else if f < 0 ∧ g < 0 then (if g < f then -1 else 1) else if f < g then -1 else 1

def numI (a b : Int) : Int := if a < b then -1 else if b < a then 1 else 0

mutual
def cmpT : Tm → Tm → Int
  | .node f xs, u => if headI f u.fn ≠ 0 then headI f u.fn else if cmpL xs u.args ≠ 0 then cmpL xs u.args else numI xs.length u.args.length
def cmpL : List Tm → List Tm → Int
  | [], _ => 0
  | a :: xs, bs => match bs with
    | [] => 0
    | b :: bs => if cmpT a b ≠ 0 then cmpT a b else cmpL xs bs
end

theorem cmpT_eq (t u : Tm) : cmpT t u = if headI t.fn u.fn ≠ 0 then headI t.fn u.fn else if cmpL t.args u.args ≠ 0 then cmpL t.args u.args else numI t.args.length u.args.length := by
  cases t; simp only [cmpT, Tm.fn, Tm.args]; rfl

/-- The first place k whose answer is not 0 decides. -/
theorem cmpL_hit : ∀ {xs bs : List Tm} {k : Nat} {a b : Tm}, xs[k]? = some a → bs[k]? = some b → (∀ j x y, j < k → xs[j]? = some x → bs[j]? = some y → cmpT x y = 0) → cmpT a b ≠ 0 → cmpL xs bs = cmpT a b
  | [], _, _, _, _, h, _, _, _ => by simp at h
  | x :: xs, [], _, _, _, _, h, _, _ => by simp at h
  | x :: xs, y :: bs, 0, a, b, h1, h2, _, hne => by
    simp at h1 h2
    subst h1; subst h2
    simp only [cmpL, if_pos hne]
  | x :: xs, y :: bs, k + 1, a, b, h1, h2, h, hne => by
    have h0 := h 0 x y (by omega) rfl rfl
    simp only [cmpL, h0, ne_eq, not_true_eq_false, if_false]
    exact cmpL_hit (by simpa using h1) (by simpa using h2) (fun j x' y' hj hx hy => h (j + 1) x' y' (by omega) (by simpa using hx) (by simpa using hy)) hne

theorem cmpL_miss : ∀ {xs bs : List Tm}, (∀ (j : Nat) (x y : Tm), xs[j]? = some x → bs[j]? = some y → cmpT x y = 0) → cmpL xs bs = 0
  | [], _, _ => by simp only [cmpL]
  | x :: xs, [], _ => by simp only [cmpL]
  | x :: xs, y :: bs, h => by
    have h0 := h 0 x y rfl rfl
    simp only [cmpL, h0, ne_eq, not_true_eq_false, if_false]
    exact cmpL_miss fun j x' y' hx hy => h (j + 1) x' y' (by simpa using hx) (by simpa using hy)

def I64 (i : Int) : Prop := -9223372036854775808 ≤ i ∧ i ≤ 9223372036854775807

theorem I64.lo {i : Int} (h : I64 i) : -9223372036854775808 ≤ i := h.1

theorem I64.hi {i : Int} (h : I64 i) : i ≤ 9223372036854775807 := h.2

/-- The slice at A holds the terms; their cells lie below block B. -/
inductive Args (w : World) (B : Nat) : Option Addr → List Tm → Prop
  | nil (A : Option Addr) : Args w B A []
  | row (b off : Nat) (xs : List Tm) (A' : Nat → Option Addr) (c' : Nat → Nat) (hb : b < B) (hlen : xs.length ≤ 9223372036854775807) (hi : ∀ (i : Nat) (t : Tm), xs[i]? = some t → I64 t.fn)
      (h0 : ∀ (i : Nat) (t : Tm), xs[i]? = some t → w.cell? ⟨b, off + i * 2, none⟩ = some (.int .i64 t.fn))
      (h1 : ∀ (i : Nat) (t : Tm), xs[i]? = some t → w.cell? ⟨b, off + i * 2 + 1, none⟩ = some (.slice (A' i) t.args.length (c' i)))
      (hs : ∀ (i : Nat) (t : Tm), xs[i]? = some t → Args w B (A' i) t.args) : Args w B (some ⟨b, off, none⟩) xs

section

variable {w w' : World} {B B' : Nat} {A : Option Addr} {xs : List Tm}

theorem Args.keep (h : Args w B A xs) (hk : ∀ p : Addr, p.block < B → w'.cell? p = w.cell? p) : Args w' B A xs := by
  induction h with
  | nil A => exact .nil A
  | row b off xs A' c' hb hlen hi h0 h1 _ ih => exact .row b off xs A' c' hb hlen hi (fun i t e => (hk ⟨b, _, none⟩ hb).trans (h0 i t e)) (fun i t e => (hk ⟨b, _, none⟩ hb).trans (h1 i t e)) ih

theorem Args.blw (h : Args w B A xs) (hb : Below B w w') : Args w' B A xs := h.keep fun _ hp => hb.cell hp

theorem Args.more (h : Args w B A xs) (hB : B ≤ B') : Args w B' A xs := by
  induction h with
  | nil A => exact .nil A
  | row b off xs A' c' hb hlen hi h0 h1 _ ih => exact .row b off xs A' c' (by omega) hlen hi h0 h1 ih

theorem Args.on (h : Args w w.heap.size A xs) (hb : Below w.heap.size w w') : Args w' w'.heap.size A xs := (h.blw hb).more hb.size

theorem Args.drewN (h : Args w B A xs) (k : Nat) : Args (w.drewN k) B A xs := h.keep fun _ _ => rfl

theorem Args.len (h : Args w B A xs) : xs.length ≤ 9223372036854775807 := by
  cases h with
  | nil => simp
  | row => assumption

/-- One of the terms. -/
structure ArgAt (w : World) (B b off i : Nat) (t : Tm) (A' : Option Addr) (c' : Nat) : Prop where
  hb : b < B
  hi : I64 t.fn
  c0 : w.cell? ⟨b, off + i * 2, none⟩ = some (.int .i64 t.fn)
  c1 : w.cell? ⟨b, off + i * 2 + 1, none⟩ = some (.slice A' t.args.length c')
  sub : Args w B A' t.args

theorem Args.get (h : Args w B A xs) {i : Nat} {t : Tm} (hi : xs[i]? = some t) : ∃ b off A' c', A = some ⟨b, off, none⟩ ∧ ArgAt w B b off i t A' c' := by
  cases h with
  | nil => simp at hi
  | row b off _ A' c' hb hlen hi' h0 h1 hs => exact ⟨b, off, A' i, c' i, rfl, hb, hi' i t hi, h0 i t hi, h1 i t hi, hs i t hi⟩

end

end Go.Proofs.Ytkpkhnaflohjpaa

/- Appending symbols to a row of the call's own. -/

namespace Go.Proofs.Ytkpkhnaflohjpaa

open Go.RowKit

section

variable {w w' : World} {base B n : Nat} {v : Value} {l l' : List Sm} {A : Option Addr}

end

end Go.Proofs.Ytkpkhnaflohjpaa

/- The functions on names and on one symbol, and a symbol's place: what each call answers. One symbol: is its name one, may it be; $true. One symbol by the plain answer; $true; a symbol's place; two signatures. Copies; the plain check of a signature. -/

namespace Go.Proofs.Ytkpkhnaflohjpaa

open Go.RowKit

def nameC (c : Int) : Bool := decide ((97 ≤ c ∧ c ≤ 122) ∨ (65 ≤ c ∧ c ≤ 90) ∨ (48 ≤ c ∧ c ≤ 57) ∨ c = 95)

theorem nameC_true {c : Int} (h : (97 ≤ c ∧ c ≤ 122) ∨ (65 ≤ c ∧ c ≤ 90) ∨ (48 ≤ c ∧ c ≤ 57) ∨ c = 95) : nameC c = true := by simpa [nameC] using h

theorem nameC_false {c : Int} (h : ¬ ((97 ≤ c ∧ c ≤ 122) ∨ (65 ≤ c ∧ c ≤ 90) ∨ (48 ≤ c ∧ c ≤ 57) ∨ c = 95)) : nameC c = false := by simpa [nameC] using h

/-- Are all bytes of a text a name's? -/
def nameAll (l : List UInt8) : Bool := l.all fun c => nameC c.toNat

theorem take_snoc (s : ByteArray) (k : Nat) (h : k < s.size) : s.data.toList.take (k + 1) = s.data.toList.take k ++ [s[k]] := by
  rw [List.take_succ_eq_append_getElem (by simpa using h)]; rfl

theorem nameAll_snoc (l : List UInt8) (c : UInt8) : nameAll (l ++ [c]) = (nameAll l && nameC c.toNat) := by simp [nameAll]

theorem nameAll_cut {l : List UInt8} {k : Nat} (h : nameAll (l.take k) = false) : nameAll l = false := by
  cases hl : nameAll l with
  | false => rfl
  | true =>
    unfold nameAll at hl h
    rw [List.all_eq_true] at hl
    rw [List.all_eq_false] at h
    obtain ⟨x, hx, hf⟩ := h
    exact absurd (hl x (List.mem_of_mem_take hx)) hf

end Go.Proofs.Ytkpkhnaflohjpaa

namespace Go.Proofs.Ytkpkhnaflohjpaa

open Go.RowKit

/-- Is a text a name? -/
def namedB (s : ByteArray) : Bool := decide (1 ≤ s.size) && decide (s.size ≤ 40) && nameAll s.data.toList

/-- What may be wrong with a symbol that is not $true: 0, 111 or 112. -/
def oneI (name : ByteArray) (arity : Int) : Int := if namedB name = false then 111 else if arity < 0 ∨ 6 < arity then 112 else 0

end Go.Proofs.Ytkpkhnaflohjpaa

namespace Go.Proofs.Ytkpkhnaflohjpaa

open Go.RowKit

def truthS : ByteArray := ⟨#[36, 116, 114, 117, 101]⟩

def truthSm : Sm := ⟨truthS, 0, true⟩

theorem truth_ok : truthSm.Ok := ⟨by decide, by decide, by decide⟩

def atI (l : List Sm) (x : Sm) : Int := match l.findIdx? (· == x) with | some i => i | none => -1

theorem atI_hit (l : List Sm) (x : Sm) (k : Nat) (hx : l[k]? = some x) (h : ∀ j, j < k → l[j]? ≠ some x) : atI l x = k := by
  have : l.findIdx? (· == x) = some k := by
    rw [List.findIdx?_eq_some_iff_getElem]
    obtain ⟨hk, hx⟩ := List.getElem?_eq_some_iff.1 hx
    refine ⟨hk, by simp [hx], fun j hj => ?_⟩
    have := h j hj
    rw [List.getElem?_eq_getElem (by omega)] at this
    simpa using this
  simp [atI, this]

theorem atI_miss (l : List Sm) (x : Sm) (h : ∀ j, j < l.length → l[j]? ≠ some x) : atI l x = -1 := by
  have : l.findIdx? (· == x) = none := by
    rw [List.findIdx?_eq_none_iff]
    intro y hy
    obtain ⟨j, hj, rfl⟩ := List.getElem_of_mem hy
    have := h j hj
    rw [List.getElem?_eq_getElem hj] at this
    simpa using this
  simp [atI, this]

theorem not_before {l : List Sm} {x y : Sm} {k : Nat} (h : ∀ j, j < k → l[j]? ≠ some x) (hy : l[k]? = some y) (hx : y ≠ x) : ∀ j, j < k + 1 → l[j]? ≠ some x := by
  intro j hlt
  by_cases e : j = k
  · subst e; rw [hy]; intro h; injection h with h; exact hx h
  · exact h j (by omega)

theorem alike_before {l l' : List Sm} {k : Nat} (h : ∀ j, j < k → l[j]? = l'[j]?) (hk : l[k]? = l'[k]?) : ∀ j, j < k + 1 → l[j]? = l'[j]? := by
  intro j hlt
  by_cases e : j = k
  · subst e; exact hk
  · exact h j (by omega)

theorem alike_not {l l' : List Sm} {k : Nat} {x y : Sm} (hx : l[k]? = some x) (hy : l'[k]? = some y) (h : x ≠ y) : decide (l = l') = false := by
  rw [decide_eq_false_iff_not]
  rintro rfl
  rw [hx] at hy
  injection hy with hy
  exact h hy

theorem alike_all {l l' : List Sm} {n : Nat} (hl : l.length = n) (hl' : l'.length = n) (h : ∀ j, j < n → l[j]? = l'[j]?) : decide (l = l') = true := by
  rw [decide_eq_true_eq]
  refine List.ext_getElem? fun j => ?_
  by_cases hj : j < n
  · exact h j hj
  · rw [List.getElem?_eq_none (by omega), List.getElem?_eq_none (by omega)]

end Go.Proofs.Ytkpkhnaflohjpaa

namespace Go.Proofs.Ytkpkhnaflohjpaa

open Go.RowKit

/-- The value v is the signature l. -/
def IsSig (w : World) (l : List Sm) (v : Value) : Prop := ∃ A c, v = .agg #[.slice A l.length c] ∧ Syms w w.heap.size A l.length l

def SigPost (l : List Sm) (w : World) (e : Ending) (w' : World) : Prop := ∃ v, e = .returned v ∧ IsSig w' l v ∧ Below w.heap.size w w'

/-- What a cell beneath the first B blocks holds behind more of them. -/
theorem cell_on {B : Nat} {W w1 : World} (hb : Below B W w1) {b o : Nat} {v : Value} (hlt : b < B) (h : W.cell? ⟨b, o, none⟩ = some v) : w1.cell? ⟨b, o, none⟩ = some v := (hb.cell (p := ⟨b, o, none⟩) hlt).trans h

theorem frozen_on {B : Nat} {W w1 : World} (hb : Below B W w1) {b o : Nat} {x : Bool} (hlt : b < B) (h : W.frozen? ⟨b, o, none⟩ = x) : w1.frozen? ⟨b, o, none⟩ = x := (hb.frozen (p := ⟨b, o, none⟩) hlt).trans h

end Go.Proofs.Ytkpkhnaflohjpaa

/- Terms in memory of a call's own: rows that lie apart. -/

namespace Go.Proofs.Ytkpkhnaflohjpaa

open Go.RowKit
set_option maxRecDepth 100000

theorem info_term : (Try.prog.info? 27).map (fun i => (i.zero, i.size, i.bytes)) = some (some (.agg #[.int .i64 0, .slice none 0 0]), 2, 32) := by kernel_rfl

/-- The slice at A holds the terms; all its rows lie in blocks lo .. hi - 1, each in a block of its own. -/
inductive OwnT (w : World) : Nat → Nat → Option Addr → List Tm → Prop
  | nil (lo hi : Nat) (A : Option Addr) : OwnT w lo hi A []
  | row (lo hi b cap : Nat) (xs : List Tm) (vs : List Value) (A' : Nat → Option Addr) (c' m : Nat → Nat) (hlo : lo ≤ b) (hpos : 0 < xs.length) (hlen : xs.length ≤ 9223372036854775807) (hrow : w.ownsRow b 27 2 (.slice (some ⟨b, 0, none⟩) xs.length cap) xs.length vs)
      (hm0 : b + 1 ≤ m 0) (hmn : m xs.length ≤ hi) (hm : ∀ i : Nat, i < xs.length → m i ≤ m (i + 1)) (hi64 : ∀ (i : Nat) (t : Tm), xs[i]? = some t → I64 t.fn)
      (h0 : ∀ (i : Nat) (t : Tm), xs[i]? = some t → vs[i * 2]? = some (.int .i64 t.fn))
      (h1 : ∀ (i : Nat) (t : Tm), xs[i]? = some t → vs[i * 2 + 1]? = some (.slice (A' i) t.args.length (c' i)))
      (hs : ∀ (i : Nat) (t : Tm), xs[i]? = some t → OwnT w (m i) (m (i + 1)) (A' i) t.args) : OwnT w lo hi (some ⟨b, 0, none⟩) xs

theorem mono_to {m : Nat → Nat} {n : Nat} (h : ∀ i : Nat, i < n → m i ≤ m (i + 1)) : ∀ {i j : Nat}, i ≤ j → j ≤ n → m i ≤ m j := by
  intro i j hij hj
  induction j with
  | zero => obtain rfl : i = 0 := by omega
            exact Nat.le_refl _
  | succ j ih =>
    by_cases e : i = j + 1
    · subst e; exact Nat.le_refl _
    · exact Nat.le_trans (ih (by omega) (by omega)) (h j (by omega))

theorem ownsRow_keep {w w' : World} {base e size n : Nat} {v : Value} {xs : List Value} {g : Nat} (h : w.ownsRow base e size v n xs) (hv : ∀ g', v.ownBlock = some g' → g' = g) (hk : w'.heap[g]? = w.heap[g]?) : w'.ownsRow base e size v n xs := by
  refine ⟨h.1, ?_⟩
  rcases h.2 with h0 | ⟨g', cap, cur, rfl, hbase, hg, hrest⟩
  · exact .inl h0
  · obtain rfl := hv g' rfl
    exact .inr ⟨g', cap, cur, rfl, hbase, hk.trans hg, hrest⟩

section

variable {w w' : World} {lo hi lo' hi' : Nat} {A : Option Addr} {xs : List Tm}

theorem OwnT.keep (h : OwnT w lo hi A xs) : (∀ g, lo ≤ g → g < hi → w'.heap[g]? = w.heap[g]?) → OwnT w' lo hi A xs := by
  induction h with
  | nil lo hi A => intro _; exact .nil lo hi A
  | row lo hi b cap xs vs A' c' m hlo hpos hlen hrow hm0 hmn hm hi64 h0 h1 _ ih =>
    intro hk
    have hbm : b < hi := by have := mono_to hm (Nat.zero_le xs.length) (Nat.le_refl _); omega
    refine .row lo hi b cap xs vs A' c' m hlo hpos hlen (ownsRow_keep hrow (fun g' e => by simp [Value.ownBlock] at e; exact e.symm) (hk b hlo hbm)) hm0 hmn hm hi64 h0 h1 fun i t hit => ih i t hit fun g h2 h3 => hk g ?_ ?_
    · have hil := (List.getElem?_eq_some_iff.1 hit).1
      have := mono_to hm (Nat.zero_le i) (by omega)
      omega
    · have hil := (List.getElem?_eq_some_iff.1 hit).1
      have := mono_to hm (show i + 1 ≤ xs.length by omega) (Nat.le_refl _)
      omega

theorem OwnT.on (h : OwnT w lo hi A xs) (hb : Below w.heap.size w w') (hh : hi ≤ w.heap.size) : OwnT w' lo hi A xs := h.keep fun g _ hg => hb.block g (by omega)

theorem OwnT.wide (h : OwnT w lo hi A xs) (h1 : lo' ≤ lo) (h2 : hi ≤ hi') : OwnT w lo' hi' A xs := by
  cases h with
  | nil => exact .nil lo' hi' A
  | row _ _ b cap _ vs A' c' m hlo hpos hlen hrow hm0 hmn hm hi64 a0 a1 hs => exact .row lo' hi' b cap xs vs A' c' m (by omega) hpos hlen hrow hm0 (by omega) hm hi64 a0 a1 hs

theorem OwnT.args {B : Nat} (h : OwnT w lo hi A xs) : hi ≤ B → Args w B A xs := by
  induction h with
  | nil lo hi A => intro _; exact .nil A
  | row lo hi b cap xs vs A' c' m hlo hpos hlen hrow hm0 hmn hm hi64 h0 h1 _ ih =>
    intro hB
    have hbm : b < hi := by have := mono_to hm (Nat.zero_le xs.length) (Nat.le_refl _); omega
    have hvs : vs.length = xs.length * 2 := hrow.1
    refine .row b 0 xs A' c' (by omega) hlen hi64 (fun i t e => ?_) (fun i t e => ?_) fun i t hit => ih i t hit ?_
    · have hil := (List.getElem?_eq_some_iff.1 e).1
      rw [Nat.zero_add, hrow.cellAt (i * 2) (by omega)]
      exact h0 i t e
    · have hil := (List.getElem?_eq_some_iff.1 e).1
      rw [Nat.zero_add, hrow.cellAt (i * 2 + 1) (by omega)]
      exact h1 i t e
    · have hil := (List.getElem?_eq_some_iff.1 hit).1
      have := mono_to hm (show i + 1 ≤ xs.length by omega) (Nat.le_refl _)
      omega

end

/-- The first k terms of a row of xs.length elements are laid. -/
structure RowK (w : World) (b cap : Nat) (xs : List Tm) (k : Nat) (vs : List Value) (A' : Nat → Option Addr) (c' m : Nat → Nat) : Prop where
  row : w.ownsRow b 27 2 (.slice (some ⟨b, 0, none⟩) xs.length cap) xs.length vs
  m0 : b + 1 ≤ m 0
  mke : m k ≤ w.heap.size
  mono : ∀ i : Nat, i < k → m i ≤ m (i + 1)
  i64 : ∀ (i : Nat) (t : Tm), i < k → xs[i]? = some t → I64 t.fn
  v0 : ∀ (i : Nat) (t : Tm), i < k → xs[i]? = some t → vs[i * 2]? = some (.int .i64 t.fn)
  v1 : ∀ (i : Nat) (t : Tm), i < k → xs[i]? = some t → vs[i * 2 + 1]? = some (.slice (A' i) t.args.length (c' i))
  sub : ∀ (i : Nat) (t : Tm), i < k → xs[i]? = some t → OwnT w (m i) (m (i + 1)) (A' i) t.args

section

variable {w w' : World} {lo hi : Nat} {xs : List Tm} {b cap k : Nat} {vs : List Value} {A' : Nat → Option Addr} {c' m : Nat → Nat}

theorem RowK.whole (h : RowK w b cap xs xs.length vs A' c' m) (hpos : 0 < xs.length) (hlen : xs.length ≤ 9223372036854775807) (hlo : lo ≤ b) (hhi : w.heap.size ≤ hi) : OwnT w lo hi (some ⟨b, 0, none⟩) xs :=
  have hlt : ∀ {i : Nat} {t : Tm}, xs[i]? = some t → i < xs.length := fun e => (List.getElem?_eq_some_iff.1 e).1
  .row lo hi b cap xs vs A' c' m hlo hpos hlen h.row h.m0 (Nat.le_trans h.mke hhi) h.mono (fun i t e => h.i64 i t (hlt e) e) (fun i t e => h.v0 i t (hlt e) e) (fun i t e => h.v1 i t (hlt e) e) fun i t e => h.sub i t (hlt e) e

theorem RowK.on (h : RowK w b cap xs k vs A' c' m) (hbs : b < w.heap.size) (hb : Below w.heap.size w w') : RowK w' b cap xs k vs A' c' m :=
  ⟨ownsRow_keep h.row (fun g' e => by simp [Value.ownBlock] at e; exact e.symm) (hb.block b hbs), h.m0, Nat.le_trans h.mke hb.size, h.mono, h.i64, h.v0, h.v1, fun i t hik e => (h.sub i t hik e).on hb (Nat.le_trans (mono_to h.mono (show i + 1 ≤ k by omega) (Nat.le_refl _)) h.mke)⟩

/-- One more. -/
theorem RowK.step (h : RowK w b cap xs k vs A' c' m) {t : Tm} {A1 : Option Addr} {c1 lo1 : Nat} (hk : xs[k]? = some t) (hi : I64 t.fn) (hs : OwnT w lo1 w.heap.size A1 t.args) (hlo : m k ≤ lo1) :
    ∃ vs' A'' c'' m', RowK ((w.setCell ⟨b, k * 2, none⟩ (.int .i64 t.fn)).setCell ⟨b, k * 2 + 1, none⟩ (.slice A1 t.args.length c1)) b cap xs (k + 1) vs' A'' c'' m' := by
  have hkl := (List.getElem?_eq_some_iff.1 hk).1
  have hvs : vs.length = xs.length * 2 := h.row.1
  have h1 := (h.row.stored (k * 2) (.int .i64 t.fn)).1
  have h2 := (h1.stored (k * 2 + 1) (.slice A1 t.args.length c1)).1
  have hother : ∀ g, b + 1 ≤ g → ((w.setCell ⟨b, k * 2, none⟩ (.int .i64 t.fn)).setCell ⟨b, k * 2 + 1, none⟩ (.slice A1 t.args.length c1)).heap[g]? = w.heap[g]? := fun g hg =>
    (heap_setCell_other _ _ _ _ (show g ≠ b by omega)).trans (heap_setCell_other _ _ _ _ (show g ≠ b by omega))
  have hm0 : ∀ i, i ≤ k → b + 1 ≤ m i := fun i hi => Nat.le_trans h.m0 (mono_to h.mono (Nat.zero_le i) hi)
  refine ⟨_, fun i => if i = k then A1 else A' i, fun i => if i = k then c1 else c' i, fun i => if i = k + 1 then w.heap.size else m i, h2, ?_, ?_, ?_, ?_, ?_, ?_, ?_⟩
  · simp only [if_neg (show ¬ (0 = k + 1) by omega)]; exact h.m0
  · simp
  · intro i hik
    by_cases e : i = k
    · subst e
      simp only [if_neg (show ¬ (i = i + 1) by omega), if_true]
      exact h.mke
    · simp only [if_neg (show ¬ (i = k + 1) by omega), if_neg (show ¬ (i + 1 = k + 1) by omega)]
      exact h.mono i (by omega)
  · intro i u hik e
    by_cases e1 : i = k
    · subst e1; rw [hk] at e; cases e; exact hi
    · exact h.i64 i u (by omega) e
  · intro i u hik e
    by_cases e1 : i = k
    · subst e1; rw [hk] at e; cases e
      rw [List.getElem?_set_ne (by omega), List.getElem?_set_self (by omega)]
    · rw [List.getElem?_set_ne (by omega), List.getElem?_set_ne (by omega)]
      exact h.v0 i u (by omega) e
  · intro i u hik e
    by_cases e1 : i = k
    · subst e1; rw [hk] at e; cases e
      simp only [if_true]
      rw [List.getElem?_set_self (by simp; omega)]
    · simp only [if_neg e1]
      rw [List.getElem?_set_ne (by omega), List.getElem?_set_ne (by omega)]
      exact h.v1 i u (by omega) e
  · intro i u hik e
    by_cases e1 : i = k
    · subst e1; rw [hk] at e; cases e
      simp only [if_true, if_neg (show ¬ (i = i + 1) by omega)]
      exact (hs.wide hlo (Nat.le_refl _)).keep fun g h3 _ => hother g (Nat.le_trans (hm0 i (Nat.le_refl _)) h3)
    · simp only [if_neg e1, if_neg (show ¬ (i = k + 1) by omega), if_neg (show ¬ (i + 1 = k + 1) by omega)]
      exact (h.sub i u (by omega) e).keep fun g h3 _ => hother g (Nat.le_trans (hm0 i (by omega)) h3)

end

end Go.Proofs.Ytkpkhnaflohjpaa

/- clone. -/

namespace Go.Proofs.Ytkpkhnaflohjpaa

open Go.RowKit
set_option maxRecDepth 100000

/-- A copy of t, in new memory. -/
def ClonePost (t : Tm) (w : World) (e : Ending) (w' : World) : Prop := ∃ A' c', e = .returned (.agg #[.int .i64 t.fn, .slice A' t.args.length c']) ∧ OwnT w' w.heap.size w'.heap.size A' t.args ∧ Below w.heap.size w w'

theorem heap3 (w : World) (o1 o2 o3 : Obj) : (((w.alloc o1).alloc o2).alloc o3).heap[w.heap.size]? = some o1 ∧ (((w.alloc o1).alloc o2).alloc o3).heap[w.heap.size + 1]? = some o2 ∧ (((w.alloc o1).alloc o2).alloc o3).heap[w.heap.size + 1 + 1]? = some o3 := by
  have e1 : (w.alloc o1).heap.size = w.heap.size + 1 := by simp
  have e2 : ((w.alloc o1).alloc o2).heap.size = w.heap.size + 1 + 1 := by simp
  refine ⟨?_, ?_, ?_⟩
  · rw [Below.heap_alloc _ _ _ (by omega), Below.heap_alloc _ _ _ (by omega)]
    exact heap_alloc_new w o1
  · rw [Below.heap_alloc _ _ _ (by omega), ← e1]
    exact heap_alloc_new _ o2
  · rw [← e2]
    exact heap_alloc_new _ o3

theorem cell_set2 {W : World} {b b' o o1 o2 : Nat} {u v x : Value} (h : W.cell? ⟨b, o, none⟩ = some x) (hb : b ≠ b') : ((W.setCell ⟨b', o1, none⟩ u).setCell ⟨b', o2, none⟩ v).cell? ⟨b, o, none⟩ = some x := by
  have e : ((W.setCell ⟨b', o1, none⟩ u).setCell ⟨b', o2, none⟩ v).heap[b]? = W.heap[b]? := (heap_setCell_other _ _ _ _ hb).trans (heap_setCell_other _ _ _ _ hb)
  rw [← h]
  simp only [World.cell?, e]

theorem cells_two {W : World} {b : Nat} {x y : Value} {t : TypeId} (h : W.heap[b]? = some (.cells #[x, y] t)) : W.cell? ⟨b, 0, none⟩ = some x ∧ W.cell? ⟨b, 1, none⟩ = some y ∧ W.frozen? ⟨b, 0, none⟩ = false ∧ W.frozen? ⟨b, 1, none⟩ = false := by
  refine ⟨?_, ?_, ?_, ?_⟩ <;> simp [World.cell?, World.frozen?, h]

end Go.Proofs.Ytkpkhnaflohjpaa

/- find, At. -/

namespace Go.Proofs.Ytkpkhnaflohjpaa

open Go.RowKit
set_option maxRecDepth 100000

/-- What stands at a place. -/
def subT : Tm → List Int → Option Tm
  | t, [] => some t
  | t, i :: p => if 0 ≤ i ∧ i < t.args.length then (t.args[i.toNat]?).bind (subT · p) else none

/-- The slice at A holds the numbers. -/
structure Ints (w : World) (B : Nat) (A : Option Addr) (l : List Int) : Prop where
  len : l.length ≤ 9223372036854775807
  i64 : ∀ x ∈ l, I64 x
  ad : 0 < l.length → ∃ b off, A = some ⟨b, off, none⟩ ∧ b < B ∧ ∀ (i : Nat) (x : Int), l[i]? = some x → w.cell? ⟨b, off + i, none⟩ = some (.int .i64 x)

section

variable {w w' : World} {B B' : Nat} {A : Option Addr} {l : List Int}

theorem Ints.keep (h : Ints w B A l) (hk : ∀ p : Addr, p.block < B → w'.cell? p = w.cell? p) : Ints w' B A l :=
  ⟨h.len, h.i64, fun hn => by
    obtain ⟨b, off, hA, hlt, hc⟩ := h.ad hn
    exact ⟨b, off, hA, hlt, fun i x hi => (hk ⟨b, _, none⟩ hlt).trans (hc i x hi)⟩⟩

theorem Ints.blw (h : Ints w B A l) (hb : Below B w w') : Ints w' B A l := h.keep fun _ hp => hb.cell hp

theorem Ints.more (h : Ints w B A l) (hB : B ≤ B') : Ints w B' A l :=
  ⟨h.len, h.i64, fun hn => by
    obtain ⟨b, off, hA, hlt, hc⟩ := h.ad hn
    exact ⟨b, off, hA, by omega, hc⟩⟩

theorem Ints.on (h : Ints w w.heap.size A l) (hb : Below w.heap.size w w') : Ints w' w'.heap.size A l := (h.blw hb).more hb.size

end

/-- The two cells from off on in block b are the term's. -/
structure PtrT (w : World) (B b off : Nat) (t : Tm) : Prop where
  hb : b < B
  i64 : I64 t.fn
  c0 : w.cell? ⟨b, off, none⟩ = some (.int .i64 t.fn)
  rest : ∃ A c, w.cell? ⟨b, off + 1, none⟩ = some (.slice A t.args.length c) ∧ Args w B A t.args

/-- The place of what is found, if it is there. -/
def FindPost (t : Tm) (p : List Int) (w : World) (B : Nat) (e : Ending) (w' : World) : Prop := w' = w ∧
  match subT t p with
  | none => e = .returned (.pointer none)
  | some s => ∃ b off, e = .returned (.pointer (some ⟨b, off, none⟩)) ∧ PtrT w B b off s

theorem sub_step {t u : Tm} {i : Int} {p : List Int} (h0 : 0 ≤ i) (h1 : i < t.args.length) (hu : t.args[i.toNat]? = some u) : subT t (i :: p) = subT u p := by
  simp only [subT, if_pos (And.intro h0 h1), hu, Option.bind_some]

theorem sub_none {t : Tm} {i : Int} {p : List Int} (h : i < 0 ∨ ↑t.args.length ≤ i) : subT t (i :: p) = none := by
  simp only [subT]
  rw [if_neg (by omega)]

def atT (t : Tm) (p : List Int) : Tm := (subT t p).getD (.node 0 [])

/-- What stands at the place, in new memory; the zero term, if there is none. -/
def AtPost (t : Tm) (p : List Int) (w : World) (e : Ending) (w' : World) : Prop := ∃ A' c', e = .returned (.tuple #[.agg #[.int .i64 (atT t p).fn, .slice A' (atT t p).args.length c'], .bool (subT t p).isSome]) ∧ I64 (atT t p).fn ∧ OwnT w' w.heap.size w'.heap.size A' (atT t p).args ∧ Below w.heap.size w w'

theorem sub_size : ∀ {t s : Tm} {p : List Int}, subT t p = some s → s.size ≤ t.size
  | t, s, [], h => by simp only [subT] at h; cases h; exact Nat.le_refl _
  | t, s, i :: p, h => by
    simp only [subT] at h
    split at h
    · cases hu : t.args[i.toNat]? with
      | none => rw [hu] at h; cases h
      | some u =>
        rw [hu] at h
        have h1 := sub_size (p := p) h
        have h2 := size_mem (List.mem_of_getElem? hu)
        cases t with
        | node f xs => simp only [Tm.size, Tm.args] at h2 ⊢; omega
    · cases h

theorem set2_two {W : World} {b : Nat} {x y u v : Value} {t : TypeId} (h : W.heap[b]? = some (.cells #[x, y] t)) : (W.setCell ⟨b, 0, none⟩ u).heap[b]? = some (.cells #[u, y] t) ∧ ((W.setCell ⟨b, 0, none⟩ u).setCell ⟨b, 1, none⟩ v).heap[b]? = some (.cells #[u, v] t) :=
  have h1 : (W.setCell ⟨b, 0, none⟩ u).heap[b]? = some (.cells #[u, y] t) := heap_setCell_same W _ 0 _ _ _ h
  ⟨h1, heap_setCell_same _ _ 1 _ _ _ h1⟩

end Go.Proofs.Ytkpkhnaflohjpaa

/- how often a variable stands in a term, plain -/

namespace Go.Proofs.Ytkpkhnaflohjpaa

open Go.RowKit
set_option maxRecDepth 100000
set_option maxRecDepth 100000

mutual
/-- How often v stands in a term. -/
def ofT (v : Int) : Tm → Nat
  | .node f xs => (if f = v then 1 else 0) + ofL v xs
def ofL (v : Int) : List Tm → Nat
  | [] => 0
  | t :: ts => ofT v t + ofL v ts
end

theorem ofL_append (v : Int) : ∀ xs ys : List Tm, ofL v (xs ++ ys) = ofL v xs + ofL v ys
  | [], ys => by simp [ofL]
  | x :: xs, ys => by simp only [List.cons_append, ofL, ofL_append v xs ys]; omega

theorem ofL_take {v : Int} {xs : List Tm} {k : Nat} {u : Tm} (h : xs[k]? = some u) : ofL v (xs.take (k + 1)) = ofL v (xs.take k) + ofT v u := by
  rw [List.take_add_one, h, Option.toList_some, ofL_append]; simp [ofL]

theorem ofT_le (v : Int) (t : Tm) : ofT v t ≤ t.size := by
  have key : ∀ xs : List Tm, (∀ t ∈ xs, ofT v t ≤ t.size) → ofL v xs ≤ sizes xs := by
    intro xs
    induction xs with
    | nil => intro _; simp [ofL, sizes]
    | cons x xs ih => intro h; have h1 := h x (by simp); have h2 := ih fun t ht => h t (by simp [ht]); simp only [ofL, sizes]; omega
  refine Tm.ind (P := fun t => ofT v t ≤ t.size) (fun f xs ih => ?_) t
  have h1 := key xs ih
  simp only [ofT, Tm.size]
  split <;> omega

theorem ofL_le (v : Int) : ∀ xs : List Tm, ofL v xs ≤ sizes xs
  | [] => by simp [ofL, sizes]
  | x :: xs => by have h1 := ofT_le v x; have h2 := ofL_le v xs; simp only [ofL, sizes]; omega

end Go.Proofs.Ytkpkhnaflohjpaa

/- The order of terms as such is an order: plain words. -/

namespace Go.Proofs.Ytkpkhnaflohjpaa

/-- Argument by argument, then by how many. -/
def cmpX : List Tm → List Tm → Int
  | [], [] => 0
  | [], _ :: _ => -1
  | _ :: _, [] => 1
  | x :: xs, y :: ys => if cmpT x y ≠ 0 then cmpT x y else cmpX xs ys

theorem cmpX_eq : ∀ xs ys : List Tm, cmpX xs ys = if cmpL xs ys ≠ 0 then cmpL xs ys else numI xs.length ys.length
  | [], [] => by simp [cmpX, cmpL, numI]
  | [], y :: ys => by simp [cmpX, cmpL, numI]
  | x :: xs, [] => by simp [cmpX, cmpL, numI]; omega
  | x :: xs, y :: ys => by
    by_cases h : cmpT x y = 0
    · simp only [cmpX, cmpL, h, ne_eq, not_true_eq_false, if_false]
      rw [cmpX_eq xs ys]
      have : numI (x :: xs).length (y :: ys).length = numI xs.length ys.length := by
        unfold numI
        simp only [List.length_cons]
        by_cases h1 : (xs.length : Int) < ys.length
        · rw [if_pos h1, if_pos (by omega)]
        · rw [if_neg h1, if_neg (by omega)]
          by_cases h2 : (ys.length : Int) < xs.length
          · rw [if_pos h2, if_pos (by omega)]
          · rw [if_neg h2, if_neg (by omega)]
      rw [this]
    · simp only [cmpX, cmpL, ne_eq, h, not_false_eq_true, if_true]

theorem cmpT_x (f g : Int) (xs ys : List Tm) : cmpT (.node f xs) (.node g ys) = if headI f g ≠ 0 then headI f g else cmpX xs ys := by
  rw [cmpX_eq]
  exact cmpT_eq _ _

theorem head_anti (f g : Int) : headI g f = - headI f g := by
  unfold headI
  by_cases h : f = g
  · subst h; simp
  · rw [if_neg h, if_neg (fun e => h e.symm)]
    by_cases h1 : f < 0 ∧ g < 0
    · rw [if_pos h1, if_pos ⟨h1.2, h1.1⟩]
      by_cases h2 : g < f
      · rw [if_pos h2, if_neg (by omega)]; rfl
      · rw [if_neg h2, if_pos (by omega)]
    · rw [if_neg h1, if_neg (fun e => h1 ⟨e.2, e.1⟩)]
      by_cases h2 : f < g
      · rw [if_pos h2, if_neg (by omega)]; rfl
      · rw [if_neg h2, if_pos (by omega)]

theorem head_zero {f g : Int} (h : headI f g = 0) : f = g := by
  unfold headI at h
  split at h
  · assumption
  · split at h
    · split at h <;> omega
    · split at h <;> omega

theorem head_lt {f g : Int} : headI f g < 0 ↔ (f < 0 ∧ g < 0 ∧ g < f) ∨ (¬ (f < 0 ∧ g < 0) ∧ f < g) := by
  unfold headI
  by_cases h : f = g
  · subst h
    simp
  · rw [if_neg h]
    by_cases h1 : f < 0 ∧ g < 0
    · rw [if_pos h1]
      by_cases h2 : g < f
      · rw [if_pos h2]; omega
      · rw [if_neg h2]; omega
    · rw [if_neg h1]
      by_cases h2 : f < g
      · rw [if_pos h2]; omega
      · rw [if_neg h2]; omega

theorem head_trans {f g k : Int} (h1 : headI f g < 0) (h2 : headI g k < 0) : headI f k < 0 := by
  rw [head_lt] at *
  omega

theorem head_range (f g : Int) : -1 ≤ headI f g ∧ headI f g ≤ 1 := by
  unfold headI
  split
  · omega
  · split <;> split <;> omega

theorem cmp_anti (t : Tm) : ∀ u, cmpT u t = - cmpT t u := by
  refine Tm.ind (P := fun t => ∀ u, cmpT u t = - cmpT t u) (fun f xs ih u => ?_) t
  obtain ⟨g, ys⟩ := u
  rw [cmpT_x, cmpT_x, head_anti f g]
  have key : ∀ xs : List Tm, (∀ t ∈ xs, ∀ u, cmpT u t = - cmpT t u) → ∀ ys, cmpX ys xs = - cmpX xs ys := by
    intro xs
    induction xs with
    | nil => intro _ ys; cases ys <;> simp [cmpX]
    | cons x xs ihx =>
      intro h ys
      cases ys with
      | nil => simp [cmpX]
      | cons y ys =>
        simp only [cmpX]
        rw [h x (by simp) y, ihx (fun t ht => h t (by simp [ht])) ys]
        by_cases e : cmpT x y = 0
        · simp [e]
        · rw [if_pos (by omega), if_pos e]
  by_cases e : headI f g = 0
  · rw [if_neg (by simp [e]), if_neg (by simp [e]), key xs ih ys]
  · rw [if_pos (by omega), if_pos e]

theorem cmp_zero (t : Tm) : ∀ u, cmpT t u = 0 → t = u := by
  refine Tm.ind (P := fun t => ∀ u, cmpT t u = 0 → t = u) (fun f xs ih u h => ?_) t
  obtain ⟨g, ys⟩ := u
  rw [cmpT_x] at h
  have key : ∀ xs : List Tm, (∀ t ∈ xs, ∀ u, cmpT t u = 0 → t = u) → ∀ ys, cmpX xs ys = 0 → xs = ys := by
    intro xs
    induction xs with
    | nil => intro _ ys h; cases ys <;> simp [cmpX] at h ⊢
    | cons x xs ihx =>
      intro hh ys h
      cases ys with
      | nil => simp [cmpX] at h
      | cons y ys =>
        simp only [cmpX] at h
        by_cases e : cmpT x y = 0
        · rw [if_neg (by simp [e])] at h
          rw [hh x (by simp) y e, ihx (fun t ht => hh t (by simp [ht])) ys h]
        · rw [if_pos e] at h; exact absurd h e
  by_cases e : headI f g = 0
  · rw [if_neg (by simp [e])] at h
    rw [head_zero e, key xs ih ys h]
  · rw [if_pos e] at h; exact absurd h e

theorem cmp_refl (t : Tm) : cmpT t t = 0 := by have := cmp_anti t t; omega

theorem cmp_zero_iff {t u : Tm} : cmpT t u = 0 ↔ t = u := ⟨cmp_zero t u, fun h => by subst h; exact cmp_refl t⟩

theorem cmp_trans (t : Tm) : ∀ u v, cmpT t u < 0 → cmpT u v < 0 → cmpT t v < 0 := by
  refine Tm.ind (P := fun t => ∀ u v, cmpT t u < 0 → cmpT u v < 0 → cmpT t v < 0) (fun f xs ih u v h1 h2 => ?_) t
  obtain ⟨g, ys⟩ := u
  obtain ⟨k, zs⟩ := v
  rw [cmpT_x] at h1 h2 ⊢
  have key : ∀ xs : List Tm, (∀ t ∈ xs, ∀ u v, cmpT t u < 0 → cmpT u v < 0 → cmpT t v < 0) → ∀ ys zs, cmpX xs ys < 0 → cmpX ys zs < 0 → cmpX xs zs < 0 := by
    intro xs
    induction xs with
    | nil =>
      intro _ ys zs a b
      cases zs with
      | nil => cases ys <;> simp [cmpX] at a b
      | cons => simp [cmpX]
    | cons x xs ihx =>
      intro hh ys zs a b
      cases ys with
      | nil => simp [cmpX] at a
      | cons y ys =>
        cases zs with
        | nil => simp [cmpX] at b
        | cons z zs =>
          simp only [cmpX] at a b ⊢
          by_cases e1 : cmpT x y = 0
          · rw [if_neg (by simp [e1])] at a
            have := cmp_zero x y e1
            subst this
            by_cases e2 : cmpT x z = 0
            · rw [if_neg (by simp [e2])] at b ⊢
              exact ihx (fun t ht => hh t (by simp [ht])) ys zs a b
            · rw [if_pos e2] at b ⊢; exact b
          · rw [if_pos e1] at a
            by_cases e2 : cmpT y z = 0
            · have := cmp_zero y z e2
              subst this
              rw [if_pos e1]; exact a
            · rw [if_pos e2] at b
              have h3 := hh x (by simp) y z a b
              rw [if_pos (by omega)]; exact h3
  by_cases e1 : headI f g = 0
  · rw [if_neg (by simp [e1])] at h1
    have := head_zero e1
    subst this
    by_cases e2 : headI f k = 0
    · rw [if_neg (by simp [e2])] at h2 ⊢
      exact key xs ih ys zs h1 h2
    · rw [if_pos e2] at h2 ⊢; exact h2
  · rw [if_pos e1] at h1
    by_cases e2 : headI g k = 0
    · have := head_zero e2
      subst this
      rw [if_pos e1]; exact h1
    · rw [if_pos e2] at h2
      have h3 := head_trans h1 h2
      rw [if_pos (by omega)]; exact h3

theorem cmp_range (t : Tm) : ∀ u, -1 ≤ cmpT t u ∧ cmpT t u ≤ 1 := by
  refine Tm.ind (P := fun t => ∀ u, -1 ≤ cmpT t u ∧ cmpT t u ≤ 1) (fun f xs ih u => ?_) t
  obtain ⟨g, ys⟩ := u
  rw [cmpT_x]
  have key : ∀ xs : List Tm, (∀ t ∈ xs, ∀ u, -1 ≤ cmpT t u ∧ cmpT t u ≤ 1) → ∀ ys, -1 ≤ cmpX xs ys ∧ cmpX xs ys ≤ 1 := by
    intro xs
    induction xs with
    | nil => intro _ ys; cases ys <;> simp [cmpX]
    | cons x xs ihx =>
      intro hh ys
      cases ys with
      | nil => simp [cmpX]
      | cons y ys =>
        simp only [cmpX]
        split
        · exact hh x (by simp) y
        · exact ihx (fun t ht => hh t (by simp [ht])) ys
  split
  · exact head_range f g
  · exact key xs ih ys

theorem cmp_law {a b c : Tm} (hx : cmpT a b ≤ 0) (hy : cmpT b c ≤ 0) : cmpT a c ≤ 0 ∧ (cmpT a b < 0 → cmpT a c < 0) := by
  by_cases e1 : cmpT a b = 0
  · have := cmp_zero a b e1
    subst this
    exact ⟨hy, fun h => by omega⟩
  · by_cases e2 : cmpT b c = 0
    · have := cmp_zero b c e2
      subst this
      exact ⟨hx, fun h => h⟩
    · have := cmp_trans a b c (by omega) (by omega)
      exact ⟨by omega, fun _ => this⟩

end Go.Proofs.Ytkpkhnaflohjpaa

/- lpo: the lexicographic path order, plain: what it says, that it is transitive, above nothing itself, above each part: of any ranks, of terms whose variables have no arguments. -/

namespace Go.Proofs.Ytkpkhnaflohjpaa

open Go.RowKit
set_option maxRecDepth 20000

/-- Of two rows: behind what is the same at their beginning, is a member of the first above that of the second, or is there one more? -/
def lexB (A : Tm → Tm → Bool) : List Tm → List Tm → Bool
  | [], _ => false
  | _ :: _, [] => true
  | x :: xs, y :: ys => A x y || (decide (cmpT x y = 0) && lexB A xs ys)

def rkI (p : List Int) (f : Int) : Int := p.getD f.toNat 0

def lpN (p : List Int) : Nat → Tm → Tm → Bool
  | 0, _, _ => false
  | n + 1, .node f xs, t => !decide (f < 0) && ((decide (t.fn < 0) && decide (0 < ofT t.fn (.node f xs))) || (xs.any fun x => decide (cmpT x t = 0) || lpN p n x t) ||
      (!decide (t.fn < 0) && ((t.args.all fun y => lpN p n (.node f xs) y) && (decide (rkI p t.fn < rkI p f) || (decide (f = t.fn) && lexB (lpN p n) xs t.args)))))

def lpT (p : List Int) (s t : Tm) : Bool := lpN p (s.size + t.size) s t

theorem lexB_congr {A B : Tm → Tm → Bool} : ∀ (xs ys : List Tm), (∀ x ∈ xs, ∀ y ∈ ys, A x y = B x y) → lexB A xs ys = lexB B xs ys
  | [], _, _ => rfl
  | _ :: _, [], _ => rfl
  | x :: xs, y :: ys, h => by
    rw [lexB, lexB, lexB_congr xs ys fun a ha b hb => h a (by simp [ha]) b (by simp [hb]), h x (by simp) y (by simp)]

theorem size_arg {f : Int} {xs : List Tm} {x : Tm} (h : x ∈ xs) : x.size < (Tm.node f xs).size := by
  have := size_mem h
  rw [Tm.size]; omega

theorem size_args {t y : Tm} (h : y ∈ t.args) : y.size < t.size := by
  obtain ⟨f, xs⟩ := t
  exact size_arg h

theorem all_congr' {A B : Tm → Bool} : ∀ (xs : List Tm), (∀ x ∈ xs, A x = B x) → xs.all A = xs.all B
  | [], _ => rfl
  | x :: xs, h => by rw [List.all_cons, List.all_cons, h x (by simp), all_congr' xs fun y hy => h y (by simp [hy])]

theorem any_congr' {A B : Tm → Bool} : ∀ (xs : List Tm), (∀ x ∈ xs, A x = B x) → xs.any A = xs.any B
  | [], _ => rfl
  | x :: xs, h => by rw [List.any_cons, List.any_cons, h x (by simp), any_congr' xs fun y hy => h y (by simp [hy])]

theorem lpN_more (p : List Int) : ∀ (n m : Nat) (s t : Tm), s.size + t.size ≤ n → n ≤ m → lpN p n s t = lpN p m s t
  | 0, m, s, t, h, _ => by have := size_pos s; omega
  | n + 1, 0, s, t, _, h => by omega
  | n + 1, m + 1, .node f xs, t, h, hm => by
    rw [lpN, lpN]
    rw [any_congr' xs (B := fun x => decide (cmpT x t = 0) || lpN p m x t) fun x hx => by rw [lpN_more p n m x t (by have := size_arg (f := f) hx; omega) (by omega)],
      all_congr' t.args (B := fun y => lpN p m (.node f xs) y) fun y hy => lpN_more p n m _ y (by have := size_args hy; omega) (by omega),
      lexB_congr (B := lpN p m) xs t.args fun x hx y hy => lpN_more p n m x y (by have := size_arg (f := f) hx; have := size_args hy; omega) (by omega)]

theorem lpT_of (p : List Int) {n : Nat} {s t : Tm} (h : s.size + t.size ≤ n) : lpN p n s t = lpT p s t := (lpN_more p _ n s t (Nat.le_refl _) h).symm

/-- What it says. -/
theorem lpT_eq (p : List Int) (f : Int) (xs : List Tm) (t : Tm) : lpT p (.node f xs) t = (!decide (f < 0) && ((decide (t.fn < 0) && decide (0 < ofT t.fn (.node f xs))) || (xs.any fun x => decide (cmpT x t = 0) || lpT p x t) ||
      (!decide (t.fn < 0) && ((t.args.all fun y => lpT p (.node f xs) y) && (decide (rkI p t.fn < rkI p f) || (decide (f = t.fn) && lexB (lpT p) xs t.args)))))) := by
  have hp := size_pos t
  rw [← lpT_of p (n := (Tm.node f xs).size + t.size - 1 + 1) (by omega), lpN]
  rw [any_congr' xs (B := fun x => decide (cmpT x t = 0) || lpT p x t) fun x hx => by rw [lpT_of p (by have := size_arg (f := f) hx; omega)],
    all_congr' t.args (B := fun y => lpT p (.node f xs) y) fun y hy => lpT_of p (by have := size_args hy; omega),
    lexB_congr (B := lpT p) xs t.args fun x hx y hy => lpT_of p (by have := size_arg (f := f) hx; have := size_args hy; omega)]

section

variable {p : List Int}

/-- Above, reason by reason. -/
inductive LpR (p : List Int) (f : Int) (xs : List Tm) (t : Tm) : Prop
  | var (h : t.fn < 0) (ho : 0 < ofT t.fn (.node f xs))
  | sub (x : Tm) (hx : x ∈ xs) (h : x = t ∨ lpT p x t = true)
  | rank (h : ¬ t.fn < 0) (ha : ∀ y ∈ t.args, lpT p (.node f xs) y = true) (hr : rkI p t.fn < rkI p f)
  | lex (h : ¬ t.fn < 0) (ha : ∀ y ∈ t.args, lpT p (.node f xs) y = true) (he : f = t.fn) (hl : lexB (lpT p) xs t.args = true)

theorem lp_iff {f : Int} {xs : List Tm} {t : Tm} : lpT p (.node f xs) t = true ↔ ¬ f < 0 ∧ LpR p f xs t := by
  rw [lpT_eq]
  simp only [Bool.and_eq_true, Bool.or_eq_true, Bool.not_eq_true', decide_eq_false_iff_not, decide_eq_true_eq, List.any_eq_true, List.all_eq_true]
  constructor
  · rintro ⟨h0, (⟨h1, h2⟩ | ⟨x, hx, h⟩) | ⟨h1, h2, h3⟩⟩
    · exact ⟨h0, .var h1 h2⟩
    · exact ⟨h0, .sub x hx (h.imp (fun e => cmp_zero_iff.1 e) id)⟩
    · rcases h3 with h3 | ⟨h3, h4⟩
      · exact ⟨h0, .rank h1 h2 h3⟩
      · exact ⟨h0, .lex h1 h2 h3 h4⟩
  · rintro ⟨h0, h⟩
    refine ⟨h0, ?_⟩
    cases h with
    | var h ho => exact .inl (.inl ⟨h, ho⟩)
    | sub x hx h => exact .inl (.inr ⟨x, hx, h.imp (fun e => cmp_zero_iff.2 e) id⟩)
    | rank h ha hr => exact .inr ⟨h, ha, .inl hr⟩
    | lex h ha he hl => exact .inr ⟨h, ha, .inr ⟨he, hl⟩⟩

mutual
def vnT : Tm → Bool
  | .node f xs => (!decide (f < 0) || decide (xs.length = 0)) && vnTL xs
def vnTL : List Tm → Bool
  | [] => true
  | t :: ts => vnT t && vnTL ts
end

theorem vnTL_mem : ∀ {xs : List Tm} {t : Tm}, vnTL xs = true → t ∈ xs → vnT t = true
  | [], _, _, h => by simp at h
  | x :: xs, t, h, ht => by
    rw [vnTL, Bool.and_eq_true] at h
    rcases List.mem_cons.1 ht with rfl | ht
    · exact h.1
    · exact vnTL_mem h.2 ht

theorem vn_args {f : Int} {xs : List Tm} {x : Tm} (h : vnT (.node f xs) = true) (hx : x ∈ xs) : vnT x = true := by
  rw [vnT, Bool.and_eq_true] at h
  exact vnTL_mem h.2 hx

theorem vn_arg {t y : Tm} (h : vnT t = true) (hy : y ∈ t.args) : vnT y = true := by
  obtain ⟨f, xs⟩ := t
  exact vn_args h hy

theorem vn_var {t : Tm} (h : vnT t = true) (hf : t.fn < 0) : t = .node t.fn [] := by
  obtain ⟨f, xs⟩ := t
  change f < 0 at hf
  rw [vnT, Bool.and_eq_true, Bool.or_eq_true, Bool.not_eq_true', decide_eq_false_iff_not, decide_eq_true_eq] at h
  rcases h.1 with h1 | h1
  · exact absurd hf h1
  · rw [List.eq_nil_of_length_eq_zero h1]; rfl

theorem of_mem {v : Int} : ∀ {xs : List Tm}, 0 < ofL v xs → ∃ x ∈ xs, 0 < ofT v x
  | [], h => by rw [ofL] at h; omega
  | y :: ys, h => by
    rw [ofL] at h
    by_cases hy : 0 < ofT v y
    · exact ⟨y, by simp, hy⟩
    · obtain ⟨x, hx, h⟩ := of_mem (v := v) (xs := ys) (by omega); exact ⟨x, by simp [hx], h⟩

theorem of_le {v : Int} : ∀ {xs : List Tm} {x : Tm}, x ∈ xs → ofT v x ≤ ofL v xs
  | [], _, h => by simp at h
  | y :: ys, x, h => by
    rw [ofL]
    rcases List.mem_cons.1 h with rfl | h
    · omega
    · have := of_le (v := v) h; omega

/-- A variable of what is below stands in what is above. -/
theorem lp_vars : ∀ (n : Nat) (s t : Tm) (v : Int), s.size + t.size ≤ n → vnT t = true → lpT p s t = true → v < 0 → 0 < ofT v t → 0 < ofT v s
  | 0, s, t, v, hn, _, _, _, _ => by have := size_pos s; omega
  | n + 1, .node f xs, t, v, hn, ht, h, hv, ho => by
    obtain ⟨hf, h⟩ := lp_iff.1 h
    have hargs : ¬ t.fn < 0 → (∀ y ∈ t.args, lpT p (.node f xs) y = true) → 0 < ofT v (.node f xs) := fun htn ha => by
      obtain ⟨g, ys⟩ := t
      rw [ofT] at ho
      change ¬ g < 0 at htn
      rw [if_neg (by omega)] at ho
      obtain ⟨y, hy, hoy⟩ := of_mem (show 0 < ofL v ys from by simpa using ho)
      exact lp_vars n _ y v (by have := size_arg (f := g) hy; omega) (vn_args ht hy) (ha y hy) hv hoy
    cases h with
    | var h1 h2 =>
      rw [vn_var ht h1, ofT, ofL] at ho
      by_cases e : t.fn = v
      · rw [← e]; exact h2
      · rw [if_neg e] at ho; omega
    | sub x hx h =>
      have hxo : 0 < ofT v x := by
        rcases h with rfl | h
        · exact ho
        · exact lp_vars n x t v (by have := size_arg (f := f) hx; omega) ht h hv ho
      rw [ofT]
      have := of_le (v := v) hx
      omega
    | rank h ha _ => exact hargs h ha
    | lex h ha _ _ => exact hargs h ha

theorem lexB_trans {A : Tm → Tm → Bool} : ∀ (xs ys zs : List Tm), (∀ x ∈ xs, ∀ y ∈ ys, ∀ z ∈ zs, A x y = true → A y z = true → A x z = true) → lexB A xs ys = true → lexB A ys zs = true → lexB A xs zs = true
  | [], _, _, _, h, _ => by rw [lexB] at h; cases h
  | _ :: _, [], _, _, _, h => by rw [lexB] at h; cases h
  | _ :: _, _ :: _, [], _, _, _ => by rw [lexB]
  | x :: xs, y :: ys, z :: zs, ht, h1, h2 => by
    rw [lexB, Bool.or_eq_true, Bool.and_eq_true, decide_eq_true_eq, cmp_zero_iff] at h1 h2 ⊢
    rcases h1 with h1 | ⟨rfl, h1⟩
    · rcases h2 with h2 | ⟨rfl, h2⟩
      · exact .inl (ht x (by simp) y (by simp) z (by simp) h1 h2)
      · exact .inl h1
    · rcases h2 with h2 | ⟨rfl, h2⟩
      · exact .inl h2
      · exact .inr ⟨rfl, lexB_trans xs ys zs (fun a ha b hb c hc => ht a (by simp [ha]) b (by simp [hb]) c (by simp [hc])) h1 h2⟩

theorem lexB_self {A : Tm → Tm → Bool} : ∀ xs : List Tm, (∀ x ∈ xs, A x x = false) → lexB A xs xs = false
  | [], _ => rfl
  | x :: xs, h => by rw [lexB, h x (by simp), lexB_self xs fun y hy => h y (by simp [hy])]; simp

/-- Transitive. -/
theorem lp_trans_n : ∀ (n : Nat) (s t u : Tm), s.size + t.size + u.size ≤ n → vnT s = true → vnT t = true → vnT u = true → lpT p s t = true → lpT p t u = true → lpT p s u = true
  | 0, s, _, _, h, _, _, _, _, _ => by have := size_pos s; omega
  | n + 1, s, t, u, hn, hs, ht, hu, h1, h2 => by
    have ihT := lp_trans_n n
    obtain ⟨f, xs⟩ := s
    obtain ⟨g, ys⟩ := t
    have zt := size_pos (Tm.node g ys)
    have zu := size_pos u
    obtain ⟨hf, r1⟩ := lp_iff.1 h1
    have hg : ¬ g < 0 := (lp_iff.1 h2).1
    have deep : (∀ y ∈ ys, lpT p (.node f xs) y = true) → (rkI p g < rkI p f ∨ (f = g ∧ lexB (lpT p) xs ys = true)) → lpT p (.node f xs) u = true := fun ha hr => by
      have hall : (∀ z ∈ u.args, lpT p (.node g ys) z = true) → ∀ z ∈ u.args, lpT p (.node f xs) z = true := fun hz z hzm => ihT _ _ z (by have := size_args hzm; omega) hs ht (vn_arg hu hzm) h1 (hz z hzm)
      cases (lp_iff.1 h2).2 with
      | var h ho => exact lp_iff.2 ⟨hf, .var h (lp_vars _ _ _ _ (Nat.le_refl _) ht h1 h ho)⟩
      | sub y hy h =>
        rcases h with rfl | h
        · exact ha y hy
        · exact ihT _ y u (by have := size_arg (f := g) hy; omega) hs (vn_args ht hy) hu (ha y hy) h
      | rank h hz hr2 =>
        refine lp_iff.2 ⟨hf, .rank h (hall hz) ?_⟩
        rcases hr with hr | ⟨rfl, _⟩
        · omega
        · exact hr2
      | lex h hz he hl =>
        change g = u.fn at he
        rcases hr with hr | ⟨rfl, hl1⟩
        · exact lp_iff.2 ⟨hf, .rank h (hall hz) (by rw [← he]; exact hr)⟩
        · exact lp_iff.2 ⟨hf, .lex h (hall hz) he (lexB_trans xs ys u.args (fun x hx y hy z hz' => ihT x y z (by have := size_arg (f := f) hx; have := size_arg (f := f) hy; have := size_args hz'; omega) (vn_args hs hx) (vn_args ht hy) (vn_arg hu hz')) hl1 hl)⟩
    cases r1 with
    | var h _ => exact absurd h hg
    | sub x hx h =>
      refine lp_iff.2 ⟨hf, .sub x hx (.inr ?_)⟩
      rcases h with rfl | h
      · exact h2
      · exact ihT x _ u (by have := size_arg (f := f) hx; omega) (vn_args hs hx) ht hu h h2
    | rank h ha hr => exact deep ha (.inl hr)
    | lex h ha he hl => exact deep ha (.inr ⟨he, hl⟩)

theorem lp_trans {s t u : Tm} (hs : vnT s = true) (ht : vnT t = true) (hu : vnT u = true) (h1 : lpT p s t = true) (h2 : lpT p t u = true) : lpT p s u = true := lp_trans_n _ s t u (Nat.le_refl _) hs ht hu h1 h2

/-- A term is above each argument; nothing is above itself. -/
theorem lp_arg {f : Int} {xs : List Tm} {x : Tm} (hs : vnT (.node f xs) = true) (hx : x ∈ xs) : lpT p (.node f xs) x = true := by
  refine lp_iff.2 ⟨fun hf => ?_, .sub x hx (.inl rfl)⟩
  have := vn_var hs hf
  injection this with _ h
  rw [h] at hx
  simp at hx

theorem lp_irr : ∀ s : Tm, vnT s = true → lpT p s s = false := by
  refine Tm.ind fun f xs ih hs => ?_
  cases h : lpT p (.node f xs) (.node f xs) with
  | false => rfl
  | true =>
    exfalso
    obtain ⟨hf, r⟩ := lp_iff.1 h
    cases r with
    | var h _ => exact hf h
    | sub x hx h =>
      have hz := size_arg (f := f) hx
      rcases h with rfl | h
      · omega
      · have := lp_trans (vn_args hs hx) hs (vn_args hs hx) h (lp_arg hs hx)
        rw [ih x hx (vn_args hs hx)] at this
        cases this
    | rank _ _ hr => change rkI p f < rkI p f at hr; omega
    | lex _ _ _ hl =>
      change lexB (lpT p) xs xs = true at hl
      rw [lexB_self xs fun x hx => ih x hx (vn_args hs hx)] at hl
      cases hl

theorem lp_asym {s t : Tm} (hs : vnT s = true) (ht : vnT t = true) (h : lpT p s t = true) : lpT p t s = false := by
  cases h2 : lpT p t s with
  | false => rfl
  | true =>
    have := lp_trans hs ht hs h h2
    rw [lp_irr s hs] at this
    cases this

/-- The rows held against each other from the first members that differ on. -/
def lexA (A : Tm → Tm → Bool) : List Tm → List Tm → Bool
  | [], _ => false
  | _ :: _, [] => true
  | x :: xs, y :: ys => if cmpT x y = 0 then lexA A xs ys else A x y

theorem lexA_B : ∀ (xs ys : List Tm), (∀ x ∈ xs, vnT x = true) → lexB (lpT p) xs ys = lexA (lpT p) xs ys
  | [], _, _ => rfl
  | _ :: _, [], _ => rfl
  | x :: xs, y :: ys, h => by
    rw [lexB, lexA, lexA_B xs ys fun a ha => h a (by simp [ha])]
    by_cases e : cmpT x y = 0
    · have e' := cmp_zero_iff.1 e
      subst e'
      rw [lp_irr x (h x (by simp)), if_pos e, decide_eq_true e]; simp
    · rw [if_neg e, decide_eq_false e]; simp

end

end Go.Proofs.Ytkpkhnaflohjpaa

/- which terms may be over symbols with so many arguments; ground terms: plain -/

namespace Go.Proofs.Ytkpkhnaflohjpaa

open Go.RowKit
set_option maxRecDepth 20000
set_option maxRecDepth 20000

section

variable {ar : List Nat}

/-- Which terms may be: variables without arguments, symbols with theirs. -/
def wfTop (ar : List Nat) (f : Int) (n : Nat) : Bool := if f < 0 then decide (n = 0) else decide (f < (ar.length : Int)) && decide (n = ar.getD f.toNat 0)

mutual
def wfT (ar : List Nat) : Tm → Bool
  | .node f xs => wfTop ar f xs.length && wfL ar xs
def wfL (ar : List Nat) : List Tm → Bool
  | [] => true
  | t :: ts => wfT ar t && wfL ar ts
end

theorem wfL_mem {ar : List Nat} : ∀ {xs : List Tm} {t : Tm}, wfL ar xs = true → t ∈ xs → wfT ar t = true
  | [], _, _, h => by simp at h
  | x :: xs, t, h, ht => by
    simp only [wfL, Bool.and_eq_true] at h
    rcases List.mem_cons.1 ht with rfl | ht
    · exact h.1
    · exact wfL_mem h.2 ht

theorem wf_var {ar : List Nat} {f : Int} {xs : List Tm} (h : wfT ar (.node f xs) = true) (hf : f < 0) : xs = [] := by
  rw [wfT, wfTop, if_pos hf, Bool.and_eq_true, decide_eq_true_eq] at h
  exact List.eq_nil_of_length_eq_zero h.1

theorem wf_sym {ar : List Nat} {f : Int} {xs : List Tm} (h : wfT ar (.node f xs) = true) (hf : ¬ f < 0) : f < (ar.length : Int) ∧ xs.length = ar.getD f.toNat 0 := by
  rw [wfT, wfTop, if_neg hf] at h
  simp only [Bool.and_eq_true, decide_eq_true_eq] at h
  exact h.1

theorem wf_args {ar : List Nat} {f : Int} {xs : List Tm} (h : wfT ar (.node f xs) = true) : wfL ar xs = true := by
  rw [wfT, Bool.and_eq_true] at h; exact h.2

/-- Terms that may be, and are not too large for their weights to be cut. -/
structure Gd (ar : List Nat) (t : Tm) : Prop where
  wf : wfT ar t = true
  sz : t.size ≤ 2147483

theorem Gd.arg {f : Int} {xs : List Tm} {x : Tm} (h : Gd ar (.node f xs)) (hx : x ∈ xs) : Gd ar x := by
  refine ⟨wfL_mem (wf_args h.wf) hx, ?_⟩
  have := size_mem hx
  have := h.sz
  rw [Tm.size] at this; omega

theorem of_arg {v f : Int} {xs : List Tm} {x : Tm} (hx : x ∈ xs) : ofT v x ≤ ofT v (.node f xs) := by
  rw [ofT]
  have : ∀ ys : List Tm, x ∈ ys → ofT v x ≤ ofL v ys := by
    intro ys
    induction ys with
    | nil => intro h; simp at h
    | cons y ys ih =>
      intro h
      rw [ofL]
      rcases List.mem_cons.1 h with rfl | h
      · omega
      · have := ih h; omega
  have := this xs hx
  omega

theorem var_of {ar : List Nat} {t : Tm} (hw : wfT ar t = true) (hv : t.fn < 0) : t = .node t.fn [] := by
  obtain ⟨f, xs⟩ := t
  rw [wf_var hw hv]; rfl

theorem of_var {t : Tm} (hw : wfT ar t = true) (hv : t.fn < 0) : ofT t.fn t = 1 := by
  rw [var_of hw hv]
  change ofT t.fn (.node t.fn []) = 1
  rw [ofT, ofL, if_pos rfl]

theorem gd_args {f : Int} {xs : List Tm} (h : Gd ar (.node f xs)) : ∀ x ∈ xs, Gd ar x := fun _ hx => h.arg hx

/-- Terms without variables: one is above the other, or they are the same. -/
def grd (t : Tm) : Prop := ∀ v, v < 0 → ofT v t = 0

theorem grd_arg {f : Int} {xs : List Tm} {x : Tm} (h : grd (.node f xs)) (hx : x ∈ xs) : grd x := fun v hv => by
  have := h v hv; have := of_arg (v := v) (f := f) hx; omega

theorem grd_top {f : Int} {xs : List Tm} (h : grd (.node f xs)) : ¬ f < 0 := fun hf => by
  have := h f hf; rw [ofT, if_pos rfl] at this; omega

theorem ofL_app (v : Int) : ∀ xs ys : List Tm, ofL v (xs ++ ys) = ofL v xs + ofL v ys
  | [], ys => by rw [List.nil_append, ofL]; omega
  | x :: xs, ys => by rw [List.cons_append, ofL, ofL, ofL_app v xs ys]; omega

end

end Go.Proofs.Ytkpkhnaflohjpaa

/- lpo: kept under what is put in and within other terms; total on terms without variables: plain. -/

namespace Go.Proofs.Ytkpkhnaflohjpaa

open Go.RowKit
set_option maxRecDepth 20000

section

variable {p : List Int}

theorem lp_sub {f : Int} {xs : List Tm} {x t : Tm} (hs : vnT (.node f xs) = true) (hx : x ∈ xs) (h : x = t ∨ lpT p x t = true) : lpT p (.node f xs) t = true := by
  refine lp_iff.2 ⟨fun hf => ?_, .sub x hx h⟩
  have := vn_var hs hf
  injection this with _ h
  rw [h] at hx
  simp at hx

theorem lexB_beside {A : Tm → Tm → Bool} {s t : Tm} (hst : A s t = true) : ∀ (l r r' : List Tm), lexB A (l ++ s :: r) (l ++ t :: r') = true
  | [], r, r' => by rw [List.nil_append, List.nil_append, lexB, hst]; rfl
  | x :: l, r, r' => by
    rw [List.cons_append, List.cons_append, lexB, decide_eq_true (cmp_zero_iff.2 rfl), lexB_beside hst l r r']; simp

/-- What is above stays above within a term. -/
theorem lp_within {s t : Tm} {f : Int} {l r : List Tm} (h1 : vnT (.node f (l ++ s :: r)) = true) (hst : lpT p s t = true) : lpT p (.node f (l ++ s :: r)) (.node f (l ++ t :: r)) = true := by
  have hf : ¬ f < 0 := fun hf => by
    have := vn_var h1 hf
    injection this with _ h
    simp at h
  refine lp_iff.2 ⟨hf, .lex hf (fun y hy => ?_) rfl (lexB_beside hst l r r)⟩
  change y ∈ l ++ t :: r at hy
  rcases List.mem_append.1 hy with hy | hy
  · exact lp_arg h1 (by simp [hy])
  · rcases List.mem_cons.1 hy with rfl | hy
    · exact lp_sub h1 (x := s) (by simp) (.inr hst)
    · exact lp_arg h1 (by simp [hy])

theorem lexB_tot {A : Tm → Tm → Bool} : ∀ (xs ys : List Tm), xs.length = ys.length → (∀ x ∈ xs, ∀ y ∈ ys, x = y ∨ A x y = true ∨ A y x = true) → xs = ys ∨ lexB A xs ys = true ∨ lexB A ys xs = true
  | [], [], _, _ => .inl rfl
  | [], _ :: _, h, _ => by simp at h
  | _ :: _, [], h, _ => by simp at h
  | x :: xs, y :: ys, h, ih => by
    rw [lexB, lexB]
    rcases ih x (by simp) y (by simp) with rfl | h1 | h1
    · rcases lexB_tot xs ys (by simpa using h) (fun a ha b hb => ih a (by simp [ha]) b (by simp [hb])) with rfl | h2 | h2
      · exact .inl rfl
      · right; left; rw [h2, decide_eq_true (cmp_zero_iff.2 rfl)]; simp
      · right; right; rw [h2, decide_eq_true (cmp_zero_iff.2 rfl)]; simp
    · right; left; rw [h1]; rfl
    · right; right; rw [h1]; rfl

/-- Which ranks may be. -/
structure AdmL (p : List Int) (ar : List Nat) : Prop where
  np : p.length = ar.length
  inj : ∀ i k : Nat, i < ar.length → k < ar.length → p.getD i 0 = p.getD k 0 → i = k

variable {ar : List Nat}

theorem wf_vn {ar : List Nat} : ∀ t : Tm, wfT ar t = true → vnT t = true := by
  refine Tm.ind fun f xs ih h => ?_
  have hL : ∀ ys : List Tm, (∀ y ∈ ys, y ∈ xs) → vnTL ys = true := by
    intro ys
    induction ys with
    | nil => intro _; rfl
    | cons y ys ih2 =>
      intro hy
      rw [vnTL, Bool.and_eq_true]
      exact ⟨ih y (hy y (by simp)) (wfL_mem (wf_args h) (hy y (by simp))), ih2 fun z hz => hy z (by simp [hz])⟩
  rw [vnT, Bool.and_eq_true]
  refine ⟨?_, hL xs fun _ h => h⟩
  by_cases hf : f < 0
  · rw [wf_var h hf]; simp
  · rw [decide_eq_false hf]; simp

theorem lp_tot (A : AdmL p ar) : ∀ (n : Nat) (s t : Tm), s.size + t.size ≤ n → wfT ar s = true → wfT ar t = true → grd s → grd t → s = t ∨ lpT p s t = true ∨ lpT p t s = true
  | 0, s, _, h, _, _, _, _ => by have := size_pos s; omega
  | n + 1, .node f xs, .node g ys, hn, hs, ht, gs, gt => by
    have hf := grd_top gs
    have hg := grd_top gt
    obtain ⟨hf1, hf2⟩ := wf_sym hs hf
    obtain ⟨hg1, hg2⟩ := wf_sym ht hg
    have vs := wf_vn _ hs
    have vt := wf_vn _ ht
    by_cases c1 : ∃ x ∈ xs, x = .node g ys ∨ lpT p x (.node g ys) = true
    · obtain ⟨x, hx, h⟩ := c1
      exact .inr (.inl (lp_sub vs hx h))
    by_cases c2 : ∃ y ∈ ys, y = .node f xs ∨ lpT p y (.node f xs) = true
    · obtain ⟨y, hy, h⟩ := c2
      exact .inr (.inr (lp_sub vt hy h))
    have a1 : ∀ y ∈ ys, lpT p (.node f xs) y = true := fun y hy => by
      rcases lp_tot A n (.node f xs) y (by have := size_arg (f := g) hy; omega) hs (wfL_mem (wf_args ht) hy) gs (grd_arg gt hy) with h | h | h
      · exact absurd ⟨y, hy, .inl h.symm⟩ c2
      · exact h
      · exact absurd ⟨y, hy, .inr h⟩ c2
    have a2 : ∀ x ∈ xs, lpT p (.node g ys) x = true := fun x hx => by
      rcases lp_tot A n x (.node g ys) (by have := size_arg (f := f) hx; omega) (wfL_mem (wf_args hs) hx) ht (grd_arg gs hx) gt with h | h | h
      · exact absurd ⟨x, hx, .inl h⟩ c1
      · exact absurd ⟨x, hx, .inr h⟩ c1
      · exact h
    by_cases e : f = g
    · subst e
      rcases lexB_tot (A := lpT p) xs ys (by omega) (fun x hx y hy => lp_tot A n x y (by have := size_arg (f := f) hx; have := size_arg (f := f) hy; omega) (wfL_mem (wf_args hs) hx) (wfL_mem (wf_args ht) hy) (grd_arg gs hx) (grd_arg gt hy)) with rfl | h | h
      · exact .inl rfl
      · exact .inr (.inl (lp_iff.2 ⟨hf, .lex hf a1 rfl h⟩))
      · exact .inr (.inr (lp_iff.2 ⟨hf, .lex hf a2 rfl h⟩))
    · have hne : ¬ rkI p f = rkI p g := fun h => e (by
        have := A.inj f.toNat g.toNat (by omega) (by omega) h
        omega)
      by_cases hlt : rkI p f < rkI p g
      · exact .inr (.inr (lp_iff.2 ⟨hg, .rank hf a2 hlt⟩))
      · exact .inr (.inl (lp_iff.2 ⟨hf, .rank hg a1 (show rkI p g < rkI p f by omega)⟩))

end

end Go.Proofs.Ytkpkhnaflohjpaa


/- lpo: what the document's own asks (ref09.ask), reason by reason, is above: plain. -/

namespace Go.Proofs.Ytkpkhnaflohjpaa

open Go.RowKit
set_option maxRecDepth 20000

def askB (p : List Int) (s t : Tm) : Bool := !decide (s.fn < 0) && (if t.fn < 0 then decide (0 < ofT t.fn s) else
  ((s.args.any fun x => decide (cmpT x t = 0) || lpT p x t) || (if s.fn = t.fn then (t.args.all fun y => lpT p s y) && lexA (lpT p) s.args t.args else decide (rkI p t.fn < rkI p s.fn) && t.args.all fun y => lpT p s y)))

theorem ask_eq {p : List Int} {s t : Tm} (hs : vnT s = true) (ht : vnT t = true) : askB p s t = lpT p s t := by
  obtain ⟨f, xs⟩ := s
  have hlex : lexB (lpT p) xs t.args = lexA (lpT p) xs t.args := lexA_B xs t.args fun x hx => vn_args hs hx
  rw [Bool.eq_iff_iff, lp_iff]
  unfold askB
  rw [Bool.and_eq_true, Bool.not_eq_true', decide_eq_false_iff_not]
  change ¬ f < 0 ∧ _ ↔ ¬ f < 0 ∧ _
  refine and_congr_right fun hf => ?_
  change (if t.fn < 0 then decide (0 < ofT t.fn (.node f xs)) else ((xs.any fun x => decide (cmpT x t = 0) || lpT p x t) || (if f = t.fn then (t.args.all fun y => lpT p (.node f xs) y) && lexA (lpT p) xs t.args else decide (rkI p t.fn < rkI p f) && t.args.all fun y => lpT p (.node f xs) y))) = true ↔ _
  by_cases htv : t.fn < 0
  · rw [if_pos htv, decide_eq_true_eq]
    constructor
    · intro h; exact .var htv h
    · intro r
      cases r with
      | var _ ho => exact ho
      | sub x hx hxt =>
        have h0 : 0 < ofT t.fn x := by
          rcases hxt with rfl | hxt
          · rw [vn_var (vn_args hs hx) htv, ofT]
            change 0 < (if x.fn = x.fn then 1 else 0) + ofL x.fn []
            rw [if_pos rfl]; omega
          · refine lp_vars _ x t t.fn (Nat.le_refl _) ht hxt htv ?_
            rw [vn_var ht htv]
            change 0 < ofT t.fn (.node t.fn [])
            rw [ofT, if_pos rfl]; omega
        have h1 := of_le (v := t.fn) hx
        rw [ofT]; omega
      | rank h _ _ => exact absurd htv h
      | lex h _ _ _ => exact absurd htv h
  · rw [if_neg htv, Bool.or_eq_true, List.any_eq_true]
    constructor
    · rintro (⟨x, hx, h⟩ | h)
      · rw [Bool.or_eq_true, decide_eq_true_eq, cmp_zero_iff] at h
        exact .sub x hx h
      · by_cases hfg : f = t.fn
        · rw [if_pos hfg, Bool.and_eq_true, List.all_eq_true] at h
          exact .lex htv h.1 hfg (by rw [hlex]; exact h.2)
        · rw [if_neg hfg, Bool.and_eq_true, List.all_eq_true, decide_eq_true_eq] at h
          exact .rank htv h.2 h.1
    · intro r
      cases r with
      | var h _ => exact absurd h htv
      | sub x hx h => exact .inl ⟨x, hx, by rw [Bool.or_eq_true, decide_eq_true_eq, cmp_zero_iff]; exact h⟩
      | rank _ ha hr =>
        have hfg : ¬ f = t.fn := fun e => by rw [e] at hr; omega
        exact .inr (by rw [if_neg hfg, Bool.and_eq_true, List.all_eq_true, decide_eq_true_eq]; exact ⟨hr, ha⟩)
      | lex _ ha he hl => exact .inr (by rw [if_pos he, Bool.and_eq_true, List.all_eq_true]; exact ⟨ha, by rw [← hlex]; exact hl⟩)

end Go.Proofs.Ytkpkhnaflohjpaa

/- lpo: the program's four reasons (contains, outranks, leads, covers) tell just what the document's words tell: plain. -/

namespace Go.Proofs.Ytkpkhnaflohjpaa

open Go.RowKit
set_option maxRecDepth 20000

/-- Both rows without what is the same at their beginning. -/
def difL : List Tm → List Tm → List Tm × List Tm
  | x :: xs, y :: ys => if cmpT x y = 0 then difL xs ys else (x :: xs, y :: ys)
  | xs, ys => (xs, ys)

theorem difL_spec : ∀ (xs ys : List Tm), ∃ pre, xs = pre ++ (difL xs ys).1 ∧ ys = pre ++ (difL xs ys).2 ∧ ∀ a l b m, (difL xs ys).1 = a :: l → (difL xs ys).2 = b :: m → ¬ a = b
  | [], ys => ⟨[], by simp [difL], by simp [difL], fun a l b m h => by simp [difL] at h⟩
  | x :: xs, [] => ⟨[], by simp [difL], by simp [difL], fun a l b m _ h => by simp [difL] at h⟩
  | x :: xs, y :: ys => by
    by_cases e : cmpT x y = 0
    · have e' := cmp_zero_iff.1 e
      subst e'
      obtain ⟨pre, h1, h2, h3⟩ := difL_spec xs ys
      have hd : difL (x :: xs) (x :: ys) = difL xs ys := by rw [difL, if_pos e]
      rw [hd]
      exact ⟨x :: pre, by rw [List.cons_append, ← h1], by rw [List.cons_append, ← h2], h3⟩
    · have hd : difL (x :: xs) (y :: ys) = (x :: xs, y :: ys) := by rw [difL, if_neg e]
      rw [hd]
      refine ⟨[], rfl, rfl, fun a l b m h1 h2 => ?_⟩
      injection h1 with h1 _
      injection h2 with h2 _
      rw [← h1, ← h2]
      exact fun h => e (cmp_zero_iff.2 h)

section

variable {p : List Int}

theorem lexB_pre {A : Tm → Tm → Bool} : ∀ (pre l m : List Tm), (∀ x ∈ pre, A x x = false) → lexB A (pre ++ l) (pre ++ m) = lexB A l m
  | [], l, m, _ => rfl
  | x :: pre, l, m, h => by
    rw [List.cons_append, List.cons_append, lexB, h x (by simp), decide_eq_true (cmp_zero_iff.2 rfl), lexB_pre pre l m fun y hy => h y (by simp [hy])]; simp

def contB (s t : Tm) : Bool := decide (t.fn < 0) && (!decide (s.fn < 0) && decide (0 < ofT t.fn s))

def higB (p : List Int) (s t : Tm) : Bool := !decide (s.fn < 0) && (!decide (t.fn < 0) && decide (rkI p t.fn < rkI p s.fn))

def outB (p : List Int) (s t : Tm) : Bool := higB p s t && t.args.all fun y => lpT p s y

def leadB (p : List Int) (s t : Tm) : Bool := decide (s.fn = t.fn) && (match difL s.args t.args with
  | ([], _) => false
  | (_ :: _, []) => true
  | (a :: _, b :: m) => lpT p a b && m.all fun y => lpT p s y)

def covRow (s t : Tm) : List Tm := if s.fn = t.fn then (difL s.args t.args).1.tail else s.args

def covB (p : List Int) (s t : Tm) : Bool := !decide (t.fn < 0) && (!higB p s t && (covRow s t).any fun x => decide (cmpT x t = 0) || lpT p x t)

def fndB (p : List Int) (s t : Tm) : Bool := contB s t || (outB p s t || (leadB p s t || covB p s t))

theorem find_eq {s t : Tm} (hs : vnT s = true) (ht : vnT t = true) : fndB p s t = lpT p s t := by
  obtain ⟨f, xs⟩ := s
  rw [Bool.eq_iff_iff]
  obtain ⟨pre, e1, e2, e3⟩ := difL_spec xs t.args
  have below : ∀ y, lpT p (.node f xs) t = true → y ∈ t.args → lpT p (.node f xs) y = true := fun y h hy => lp_trans hs ht (vn_arg ht hy) h (by
    obtain ⟨g, ys⟩ := t
    exact lp_arg ht hy)
  constructor
  · intro h
    unfold fndB at h
    simp only [Bool.or_eq_true] at h
    rcases h with h | h | h | h
    · unfold contB at h
      simp only [Bool.and_eq_true, Bool.not_eq_true', decide_eq_false_iff_not, decide_eq_true_eq] at h
      exact lp_iff.2 ⟨h.2.1, .var h.1 h.2.2⟩
    · unfold outB higB at h
      simp only [Bool.and_eq_true, Bool.not_eq_true', decide_eq_false_iff_not, decide_eq_true_eq, List.all_eq_true] at h
      exact lp_iff.2 ⟨h.1.1, .rank h.1.2.1 h.2 h.1.2.2⟩
    · unfold leadB at h
      rw [Bool.and_eq_true, decide_eq_true_eq] at h
      obtain ⟨hfg, h⟩ := h
      change f = t.fn at hfg
      change (match difL xs t.args with | ([], _) => false | (_ :: _, []) => true | (a :: _, b :: m) => lpT p a b && m.all fun y => lpT p (.node f xs) y) = true at h
      have hirr : ∀ x ∈ pre, lpT p x x = false := fun x hx => lp_irr x (vn_args hs (by rw [e1]; simp [hx]))
      match hd : difL xs t.args with
      | ([], m) => rw [hd] at h; simp at h
      | (a :: l, m) =>
        rw [hd] at h e1 e2 e3
        simp only at h e1 e2 e3
        have hf : ¬ f < 0 := fun hf => by
          have := vn_var hs hf
          injection this with _ h'
          rw [h'] at e1
          simp at e1
        have hpre : ∀ y ∈ pre, lpT p (.node f xs) y = true := fun y hy => lp_arg hs (by rw [e1]; simp [hy])
        match m, h, e2 with
        | [], h, e2 =>
          refine lp_iff.2 ⟨hf, .lex (by rw [← hfg]; exact hf) (fun y hy => hpre y (by rw [e2] at hy; simpa using hy)) hfg ?_⟩
          rw [e1, e2, lexB_pre pre _ _ hirr, lexB]
        | b :: m, h, e2 =>
          rw [Bool.and_eq_true, List.all_eq_true] at h
          refine lp_iff.2 ⟨hf, .lex (by rw [← hfg]; exact hf) (fun y hy => ?_) hfg ?_⟩
          · rw [e2] at hy
            rcases List.mem_append.1 hy with hy | hy
            · exact hpre y hy
            · rcases List.mem_cons.1 hy with rfl | hy
              · exact lp_sub hs (x := a) (by rw [e1]; simp) (.inr h.1)
              · exact h.2 y hy
          · rw [e1, e2, lexB_pre pre _ _ hirr, lexB, h.1]; rfl
    · unfold covB at h
      simp only [Bool.and_eq_true, Bool.not_eq_true', List.any_eq_true, Bool.or_eq_true, decide_eq_true_eq] at h
      obtain ⟨_, _, x, hx, h⟩ := h
      refine lp_sub hs (x := x) ?_ (h.imp cmp_zero_iff.1 id)
      unfold covRow at hx
      by_cases hfg : (Tm.node f xs).fn = t.fn
      · rw [if_pos hfg] at hx
        rw [e1]
        exact List.mem_append_right _ (List.mem_of_mem_tail hx)
      · rw [if_neg hfg] at hx
        exact hx
  · intro h
    obtain ⟨hf, r⟩ := lp_iff.1 h
    have hcont : t.fn < 0 → 0 < ofT t.fn (.node f xs) → fndB p (.node f xs) t = true := fun h1 h2 => by
      unfold fndB contB
      rw [decide_eq_true h1, decide_eq_false (show ¬ (Tm.node f xs).fn < 0 from hf), decide_eq_true h2]; rfl
    have hout : ¬ t.fn < 0 → rkI p t.fn < rkI p f → fndB p (.node f xs) t = true := fun h1 h2 => by
      have hh : outB p (.node f xs) t = true := by
        unfold outB higB
        rw [decide_eq_false (show ¬ (Tm.node f xs).fn < 0 from hf), decide_eq_false h1, decide_eq_true (show rkI p t.fn < rkI p (Tm.node f xs).fn from h2), Bool.and_eq_true, List.all_eq_true]
        exact ⟨rfl, fun y hy => below y h hy⟩
      unfold fndB; rw [hh]; simp
    have hlead : f = t.fn → (∀ a l b m, difL xs t.args = (a :: l, b :: m) → lpT p a b = true) → (∀ m, difL xs t.args ≠ ([], m)) → fndB p (.node f xs) t = true := fun h1 h2 h3 => by
      have hh : leadB p (.node f xs) t = true := by
        unfold leadB
        rw [decide_eq_true (show (Tm.node f xs).fn = t.fn from h1), Bool.true_and]
        change (match difL xs t.args with | ([], _) => false | (_ :: _, []) => true | (a :: _, b :: m) => lpT p a b && m.all fun y => lpT p (.node f xs) y) = true
        match hd : difL xs t.args with
        | ([], m) => exact absurd hd (h3 m)
        | (a :: l, []) => rfl
        | (a :: l, b :: m) =>
          rw [hd] at e2
          simp only at e2
          simp only [Bool.and_eq_true, List.all_eq_true]
          exact ⟨h2 a l b m hd, fun y hy => below y h (by rw [e2]; simp [hy])⟩
      unfold fndB; rw [hh]; simp
    cases r with
    | var h1 h2 => exact hcont h1 h2
    | sub x hx hxt =>
      by_cases htv : t.fn < 0
      · refine hcont htv ?_
        have h0 : 0 < ofT t.fn x := by
          rcases hxt with rfl | hxt
          · rw [vn_var (vn_args hs hx) htv, ofT]
            change 0 < (if x.fn = x.fn then 1 else 0) + ofL x.fn []
            rw [if_pos rfl]; omega
          · refine lp_vars _ x t t.fn (Nat.le_refl _) ht hxt htv ?_
            rw [vn_var ht htv]
            change 0 < ofT t.fn (.node t.fn [])
            rw [ofT, if_pos rfl]; omega
        have h1 := of_le (v := t.fn) hx
        rw [ofT]; omega
      · by_cases hr : rkI p t.fn < rkI p f
        · exact hout htv hr
        · have hhig : higB p (.node f xs) t = false := by
            unfold higB
            rw [decide_eq_false (show ¬ rkI p t.fn < rkI p (Tm.node f xs).fn from hr)]; simp
          have hcov : x ∈ covRow (.node f xs) t → fndB p (.node f xs) t = true := fun hm => by
            have hh : covB p (.node f xs) t = true := by
              unfold covB
              rw [decide_eq_false htv, hhig]
              simp only [Bool.not_false, Bool.true_and, List.any_eq_true, Bool.or_eq_true, decide_eq_true_eq]
              exact ⟨x, hm, hxt.imp cmp_zero_iff.2 id⟩
            unfold fndB; rw [hh]; simp
          by_cases hfg : f = t.fn
          · rw [e1] at hx
            have targ : ∀ y ∈ t.args, lpT p t y = true := fun y hy => by
              obtain ⟨g, ys⟩ := t
              exact lp_arg ht hy
            have hxs : ∀ y, y ∈ (difL xs t.args).1 → y ∈ xs := fun y hy => by rw [e1]; exact List.mem_append_right _ hy
            rcases List.mem_append.1 hx with hx | hx
            · exfalso
              have hxy : x ∈ t.args := by rw [e2]; simp [hx]
              have hvx := vn_arg ht hxy
              have h1 := targ x hxy
              rcases hxt with rfl | hxt
              · rw [lp_irr x hvx] at h1; cases h1
              · have := lp_trans hvx ht hvx hxt h1
                rw [lp_irr x hvx] at this; cases this
            · match hd : (difL xs t.args).1, hx with
              | a :: l, hx =>
                rcases List.mem_cons.1 hx with rfl | hx
                · refine hlead hfg (fun a' l' b m hdd => ?_) (fun m hdd => ?_)
                  · rw [hdd] at hd
                    injection hd with hd _
                    subst hd
                    have hb : b ∈ t.args := by rw [e2, hdd]; simp
                    have h1 := targ b hb
                    rcases hxt with rfl | hxt
                    · exact h1
                    · exact lp_trans (vn_args hs (hxs _ (by rw [hdd]; simp))) ht (vn_arg ht hb) hxt h1
                  · rw [hdd] at hd; cases hd
                · refine hcov ?_
                  unfold covRow
                  rw [if_pos (show (Tm.node f xs).fn = t.fn from hfg)]
                  change x ∈ (difL xs t.args).1.tail
                  rw [hd]; exact hx
          · refine hcov ?_
            unfold covRow
            rw [if_neg (show ¬ (Tm.node f xs).fn = t.fn from hfg)]; exact hx
    | rank h1 ha hr => exact hout h1 hr
    | lex h1 ha he hl =>
      have hirr : ∀ x ∈ pre, lpT p x x = false := fun x hx => lp_irr x (vn_args hs (by rw [e1]; simp [hx]))
      rw [(congr (congrArg (lexB (lpT p)) e1) e2).trans (lexB_pre pre _ _ hirr)] at hl
      refine hlead he (fun a l b m hdd => ?_) (fun m hdd => ?_)
      · rw [hdd] at hl e1 e2
        simp only at hl e1 e2
        rw [lexB, Bool.or_eq_true, Bool.and_eq_true, decide_eq_true_eq, cmp_zero_iff] at hl
        rcases hl with hl | ⟨hl, _⟩
        · exact hl
        · exact absurd hl (e3 a l b m (by rw [hdd]) (by rw [hdd]))
      · rw [hdd] at hl
        simp only at hl
        rw [lexB] at hl; cases hl

end

end Go.Proofs.Ytkpkhnaflohjpaa

/- lpo: numbers that only what is the same has: plain. A number below the ranks' many is a symbol or a variable by itself; the others are links, a part and its next argument. -/

namespace Go.Proofs.Ytkpkhnaflohjpaa

open Go.RowKit
set_option maxRecDepth 20000

/-- The number of a link: the old one, or the next one. -/
def lkN (R : Nat) (L : List (Int × Int)) (b l : Int) : Int × List (Int × Int) :=
  if (b, l) ∈ L then ((R : Int) + (L.idxOf (b, l) : Nat), L) else ((R : Int) + (L.length : Nat), L ++ [(b, l)])

mutual
def nmT (R : Nat) : List (Int × Int) → Tm → Int × List (Int × Int)
  | L, .node f xs => nmL R L f xs
def nmL (R : Nat) : List (Int × Int) → Int → List Tm → Int × List (Int × Int)
  | L, n, [] => (n, L)
  | L, n, x :: xs => nmL R (lkN R (nmT R L x).2 n (nmT R L x).1).2 (lkN R (nmT R L x).2 n (nmT R L x).1).1 xs
end

/-- What a number stands for. -/
inductive Dec (R : Nat) (L : List (Int × Int)) : Int → Int → List Tm → Prop
  | sym (n : Int) (h : n < (R : Int)) : Dec R L n n []
  | lk (k : Nat) (b l f g : Int) (xs ys : List Tm) (h : L[k]? = some (b, l)) (h1 : Dec R L b f xs) (h2 : Dec R L l g ys) : Dec R L ((R : Int) + (k : Int)) f (xs ++ [.node g ys])

section

variable {R : Nat} {L L' : List (Int × Int)}

theorem Dec.mono {n f : Int} {xs : List Tm} (h : Dec R L n f xs) (hp : L <+: L') : Dec R L' n f xs := by
  induction h with
  | sym n h => exact .sym n h
  | lk k b l f g xs ys h _ _ ih1 ih2 =>
    refine .lk k b l f g xs ys ?_ ih1 ih2
    obtain ⟨r, rfl⟩ := hp
    rw [List.getElem?_append_left (List.getElem?_eq_some_iff.1 h).1]; exact h

/-- A number stands for one thing. -/
theorem Dec.fun {n f : Int} {xs : List Tm} (h : Dec R L n f xs) : ∀ (f' : Int) (xs' : List Tm), Dec R L n f' xs' → f = f' ∧ xs = xs' := by
  induction h with
  | sym n h =>
    intro f' xs' h'
    cases h' with
    | sym _ _ => exact ⟨rfl, rfl⟩
    | lk k b l f g xs ys _ _ _ => omega
  | lk k b l f g xs ys h _ _ ih1 ih2 =>
    intro f' xs' h'
    generalize hn : (R : Int) + (k : Int) = n at h'
    cases h' with
    | sym _ h0 => omega
    | lk k' b' l' f' g' xs' ys' h' h1' h2' =>
      have hk : k = k' := by omega
      subst hk
      rw [h] at h'
      injection h' with h'
      injection h' with e1 e2
      subst e1 e2
      obtain ⟨rfl, rfl⟩ := ih1 _ _ h1'
      obtain ⟨rfl, rfl⟩ := ih2 _ _ h2'
      exact ⟨rfl, rfl⟩

/-- What is the same has one number. -/
theorem Dec.inj (hL : L.Nodup) {n f : Int} {xs : List Tm} (h : Dec R L n f xs) : ∀ m : Int, Dec R L m f xs → n = m := by
  induction h with
  | sym n h =>
    intro m h'
    generalize hx : ([] : List Tm) = xs at h'
    cases h' with
    | sym _ _ => rfl
    | lk k b l f g xs ys _ _ _ => simp at hx
  | lk k b l f g xs ys h _ _ ih1 ih2 =>
    intro m h'
    generalize hx : xs ++ [Tm.node g ys] = zs at h'
    cases h' with
    | sym _ _ => simp at hx
    | lk k' b' l' f' g' xs' ys' h' h1' h2' =>
      obtain ⟨e1, e2⟩ := List.append_inj' hx rfl
      subst e1
      injection e2 with e2 _
      injection e2 with e3 e4
      subst e3 e4
      have hb := ih1 _ h1'
      have hl := ih2 _ h2'
      subst hb hl
      have hk : k = k' := (List.getElem?_inj (List.getElem?_eq_some_iff.1 h).1 hL).1 (h.trans h'.symm)
      rw [hk]

theorem idx_get {a : Int × Int} : ∀ {L : List (Int × Int)}, a ∈ L → L[L.idxOf a]? = some a
  | [], h => by simp at h
  | b :: L, h => by
    by_cases e : b = a
    · subst e; simp
    · have h' : a ∈ L := by
        rcases List.mem_cons.1 h with h | h
        · exact absurd h.symm e
        · exact h
      have hbe : (b == a) = false := by simpa using e
      rw [List.idxOf_cons, hbe, cond_false, List.getElem?_cons_succ]
      exact idx_get h'

theorem lk_spec (hL : L.Nodup) (b l : Int) : (lkN R L b l).2.Nodup ∧ L <+: (lkN R L b l).2 ∧ ∃ k : Nat, (lkN R L b l).1 = (R : Int) + (k : Int) ∧ (lkN R L b l).2[k]? = some (b, l) := by
  unfold lkN
  by_cases h : (b, l) ∈ L
  · rw [if_pos h]
    exact ⟨hL, List.prefix_rfl, _, rfl, idx_get h⟩
  · rw [if_neg h]
    refine ⟨?_, List.prefix_append _ _, L.length, rfl, by simp⟩
    rw [List.nodup_append]
    exact ⟨hL, by simp, fun x hx y hy => by simp at hy; subst hy; exact fun e => h (e ▸ hx)⟩

mutual
def rkT (R : Nat) : Tm → Bool
  | .node f xs => decide (f < (R : Int)) && rkL R xs
def rkL (R : Nat) : List Tm → Bool
  | [] => true
  | t :: ts => rkT R t && rkL R ts
end

mutual
theorem nm_spec : ∀ (t : Tm) (L : List (Int × Int)), L.Nodup → rkT R t = true → (nmT R L t).2.Nodup ∧ L <+: (nmT R L t).2 ∧ Dec R (nmT R L t).2 (nmT R L t).1 t.fn t.args
  | .node f xs, L, hL, hr => by
    rw [rkT, Bool.and_eq_true, decide_eq_true_eq] at hr
    rw [nmT]
    have h := nmL_spec xs L f f [] hL (.sym f hr.1) hr.2
    rw [List.nil_append] at h
    exact h
theorem nmL_spec : ∀ (xs : List Tm) (L : List (Int × Int)) (n f : Int) (pre : List Tm), L.Nodup → Dec R L n f pre → rkL R xs = true → (nmL R L n xs).2.Nodup ∧ L <+: (nmL R L n xs).2 ∧ Dec R (nmL R L n xs).2 (nmL R L n xs).1 f (pre ++ xs)
  | [], L, n, f, pre, hL, hD, _ => by
    rw [nmL, List.append_nil]
    exact ⟨hL, List.prefix_rfl, hD⟩
  | x :: xs, L, n, f, pre, hL, hD, hr => by
    rw [rkL, Bool.and_eq_true] at hr
    rw [nmL]
    obtain ⟨h1, h2, h3⟩ := nm_spec x L hL hr.1
    obtain ⟨h4, h5, k, h6, h7⟩ := lk_spec (R := R) h1 n (nmT R L x).1
    have hx : Dec R (lkN R (nmT R L x).2 n (nmT R L x).1).2 (lkN R (nmT R L x).2 n (nmT R L x).1).1 f (pre ++ [x]) := by
      have e : pre ++ [x] = pre ++ [.node x.fn x.args] := by cases x; rfl
      rw [h6, e]
      exact .lk k _ _ f x.fn pre x.args h7 ((hD.mono h2).mono h5) (h3.mono h5)
    obtain ⟨h8, h9, h10⟩ := nmL_spec xs _ _ f (pre ++ [x]) h4 hx hr.2
    exact ⟨h8, (h2.trans h5).trans h9, by rw [List.append_assoc] at h10; exact h10⟩
end

/-- The number of a term, once all are laid. -/
noncomputable def numO (R : Nat) (L : List (Int × Int)) (t : Tm) : Int := open Classical in if h : ∃ n, Dec R L n t.fn t.args then h.choose else 0

theorem num_of (hL : L.Nodup) {n : Int} {t : Tm} (h : Dec R L n t.fn t.args) : numO R L t = n := by
  unfold numO
  have hx : ∃ n, Dec R L n t.fn t.args := ⟨n, h⟩
  rw [dif_pos hx]
  exact Dec.inj hL hx.choose_spec n h

theorem num_inj (hL : L.Nodup) {n m : Int} {s t : Tm} (hs : Dec R L n s.fn s.args) (ht : Dec R L m t.fn t.args) (h : numO R L s = numO R L t) : s = t := by
  rw [num_of hL hs, num_of hL ht] at h
  subst h
  obtain ⟨e1, e2⟩ := hs.fun _ _ ht
  cases s; cases t
  simp only [Tm.fn, Tm.args] at e1 e2
  rw [e1, e2]

end

end Go.Proofs.Ytkpkhnaflohjpaa

/- A range over a function whose iterator keeps cells of its own: what the body speaks of (C) and what the iterator owns lie apart. -/

namespace Go.Proofs.Ytkpkhnaflohjpaa

open Go Go.RowKit

variable {F : Fence} {n : Nat} {P : Program} {α : Type}

/-- The blocks of S lie as they lay. -/
structure Keeps (S : Nat → Prop) (W W' : World) : Prop where
  os : W'.os = W.os
  tape : W'.tape = W.tape
  output : W'.output = W.output
  size : W.heap.size ≤ W'.heap.size
  block : ∀ g, S g → W'.heap[g]? = W.heap[g]?

theorem Keeps.refl (S : Nat → Prop) (W : World) : Keeps S W W := ⟨rfl, rfl, rfl, Nat.le_refl _, fun _ _ => rfl⟩

theorem Keeps.trans {S : Nat → Prop} {A B C : World} (h : Keeps S A B) (k : Keeps S B C) : Keeps S A C :=
  ⟨k.os.trans h.os, k.tape.trans h.tape, k.output.trans h.output, Nat.le_trans h.size k.size, fun g hg => (k.block g hg).trans (h.block g hg)⟩

theorem Keeps.mono {S T : Nat → Prop} {A B : World} (h : Keeps S A B) (hs : ∀ g, T g → S g) : Keeps T A B := ⟨h.os, h.tape, h.output, h.size, fun g hg => h.block g (hs g hg)⟩

theorem Keeps.below {S : Nat → Prop} {b : Nat} {A B : World} (h : Keeps S A B) (hs : ∀ g, g < b → S g) : Below b A B := ⟨h.os, h.tape, h.output, h.size, fun g hg => h.block g (hs g hg)⟩

theorem Keeps.of_below {b : Nat} {A B : World} (h : Below b A B) : Keeps (· < b) A B := ⟨h.os, h.tape, h.output, h.size, h.block⟩

theorem Keeps.of_grown {A B : World} {row : Option Nat} (h : A.grownBy B row) : Keeps (fun g => g < A.heap.size ∧ some g ≠ row) A B := ⟨h.os, h.tape, h.output, h.size, fun g hg => h.block g hg.1 hg.2⟩

theorem Keeps.put (W : World) (l : Nat) (o : Obj) : Keeps (· ≠ l) W (W.putObj l o) :=
  ⟨rfl, rfl, rfl, by simp, fun _ hk => World.putObj_heap_other (fun e => hk e)⟩

theorem Keeps.alloc (W : World) (o : Obj) : Keeps (· < W.heap.size) W (W.alloc o) := Keeps.of_below ((Below.refl _ _).alloc (Nat.le_refl _) _)

theorem Keeps.set (W : World) (p : Addr) (v : Value) : Keeps (· ≠ p.block) W (W.setCell p v) := ⟨rfl, rfl, rfl, by simp, fun g hg => Below.heap_setCell W p v g hg⟩

theorem Keeps.drewN (S : Nat → Prop) (W : World) (k : Nat) : Keeps S W (W.drewN k) := ⟨rfl, rfl, rfl, Nat.le_refl _, fun _ _ => rfl⟩

/-- A step of the body's side: N's blocks, and the old ones that it does not speak of, lie as they lay; it speaks of no old ones more. -/
structure Stp (N : Nat → Prop) (C : World → Nat → Prop) (A B : World) : Prop where
  keeps : Keeps (fun g => N g ∨ (g < A.heap.size ∧ ¬ C A g)) A B
  grows : ∀ g, C B g → C A g ∨ A.heap.size ≤ g

theorem Stp.refl (N : Nat → Prop) (C : World → Nat → Prop) (A : World) : Stp N C A A := ⟨Keeps.refl _ _, fun _ h => .inl h⟩

theorem Stp.trans {N : Nat → Prop} {C : World → Nat → Prop} {A B D : World} (h : Stp N C A B) (k : Stp N C B D) : Stp N C A D := by
  refine ⟨h.keeps.trans (k.keeps.mono fun g hg => ?_), fun g hg => ?_⟩
  · rcases hg with hg | ⟨h1, h2⟩
    · exact .inl hg
    · exact .inr ⟨Nat.lt_of_lt_of_le h1 h.keeps.size, fun e => (h.grows g e).elim h2 (fun e => by omega)⟩
  · rcases k.grows g hg with h1 | h1
    · exact h.grows g h1
    · exact .inr (Nat.le_trans h.keeps.size h1)

/-- What is said of a state abides whatever turns none of C's blocks; and C gains nothing by that. -/
def FrameC {β : Type} (C : World → Nat → Prop) (J : β → World → Prop) : Prop := ∀ s W W', J s W → Keeps (C W) W W' → J s W' ∧ ∀ g, C W' g → C W g

def BoundC {β : Type} (C : World → Nat → Prop) (J : β → World → Prop) : Prop := ∀ s W, J s W → ∀ g, C W g → g < W.heap.size

/-- An iterator's contract: whatever the rounds speak of, as long as they keep to it. -/
def SeqC (F : Fence) (n : Nat) (P : Program) (gf : Nat) (lb : Array Value) (encs : α → Array Value) (Fx : α → World → Prop) (N : Nat → Prop) (S Sp : List α → Prop) (w : World) : Prop :=
  ∀ (l : Nat) (C : World → Nat → Prop) (J Jx : List α → World → Prop) (W : World), Below w.heap.size w W → FrameC C J → BoundC C J →
    (∀ m pre x W1, J pre W1 → Sp (pre ++ [x]) → Fx x W1 → YieldAt F m P l (encs x) W1 fun e W' =>
      (e = .returned (.bool true) ∧ J (pre ++ [x]) W' ∧ Stp N C W1 W') ∨ (e = .returned (.bool false) ∧ Jx (pre ++ [x]) W')) →
    J [] W →
    CallsIn F n P gf (#[.func (.yield l) #[] #[]] ++ lb) W fun e W' => (∃ v, e = .returned v) ∧ ((∃ xs, S xs ∧ J xs W') ∨ (∃ pre, Sp pre ∧ Jx pre W'))

/-- How a round's body may be left. -/
def bodyC (N : Nat → Prop) (C : World → Nat → Prop) (I : List α → World → Prop) (Ix : Code → List α → World → Prop) (xs : List α) (W : World) : Exit → Act → World → Prop
  | .normal, _, W' => I xs W' ∧ Stp N C W W'
  | .ret, _, W' => Ix .ret xs W' ∧ Stp N C W W'
  | .exit id, _, W' => Ix (.exit id) xs W' ∧ Stp N C W W'
  | .goto t, _, W' => Ix (.goto t) xs W' ∧ Stp N C W W'
  | .panic _, _, _ => False
  | .outgrown, _, _ => False

theorem range_law {g : Operand} {ps : Array Tmp} {assign body : Code} {Q : Exit → Act → World → Prop} {a : Act} {w : World}
    (hro : F.round = none) (hd : F.depth = none) {gf : Nat} {lb : Array Value} (hg : a.eval g = .func (.func gf) #[] lb) (hFg : F.fn gf) (eg : ∀ args w, (callFunc gf args).run P w = .ok (.enter gf args) w)
    {encs : α → Array Value} {Fx : α → World → Prop} {N : Nat → Prop} {S Sp : List α → Prop} {w0 : World} (hseq : ∀ m, SeqC F m P gf lb encs Fx N S Sp w0) (hb0 : Below w0.heap.size w0 w) (hps : ∀ x, (encs x).size = ps.size) (hN : ∀ g, N g → g < w.heap.size)
    (C : World → Nat → Prop) (I : List α → World → Prop) (Ix : Code → List α → World → Prop) (hI : FrameC C I) (hbd : BoundC C I) (hIx : ∀ c, FrameC C (Ix c))
    (h0 : I [] w) (Ax : List α → α → Act → World → Prop)
    (hAx : ∀ pre x a' W l r o, Ax pre x a' W → w.heap.size ≤ l → W.heap[l]? = some (.loop r) → ¬ C W l → (∀ g, C (W.putObj l o) g → C W g) ∧ Ax pre x a' (W.putObj l o))
    (hassign : ∀ (l m : Nat) (pre : List α) (x : α) (W : World) (K : Act → World → Prop), I pre W → Sp (pre ++ [x]) → Fx x W → (∀ a' W', Stp N C W W' → Ax pre x a' W' → K a' W') →
      assign.wpIn (F.inRound l) m P (Exit.then K (fun _ _ _ => False)) { tmps := (ps.zip (encs x)).foldl (fun t (p, v) => t.setIfInBounds p v) a.tmps, defers := [] } W)
    (hbody : ∀ (l m : Nat) (pre : List α) (x : α) (a' : Act) (W : World), Sp (pre ++ [x]) → Ax pre x a' W → body.wpIn (F.inRound l) m P (bodyC N C I Ix (pre ++ [x]) W) a' W)
    (hdone : ∀ (D : Nat) (xs : List α) (W : World), w.heap.size ≤ D → S xs → I xs W → W.heap[D]? = some (.deferred (some [])) → Q .normal { a with defers := { target := .collected D, args := #[] } :: a.defers } W)
    (hstop : ∀ (D : Nat) (c : Code) (pre : List α) (W : World), w.heap.size ≤ D → Sp pre → Ix c pre W → W.heap[D]? = some (.deferred (some [])) → c.wpIn F n P Q { a with defers := { target := .collected D, args := #[] } :: a.defers } W) :
    (Code.rangeFunc g ps assign body).wpIn F n P Q a w := by
  refine wpIn_rangeFunc fun fn hfn => ?_
  rw [hro]
  have hdd : ∀ k : Nat, F.depth.isSome = true → 1 ≤ k := fun k h => by rw [hd] at h; cases h
  -- the two blocks that the statement lays: for the rounds' deferred calls (d); the loop's record (l)
  obtain ⟨d, hd0⟩ : ∃ d, d = w.heap.size := ⟨_, rfl⟩
  obtain ⟨rec, hrec⟩ : ∃ rec : LoopState → Option Code → Loop, rec = fun st pe => { state := st, pending := pe, fn, tmps := a.tmps, params := ps, assign, body, defers := w.heap.size } := ⟨_, rfl⟩
  obtain ⟨W1, hW1⟩ : ∃ W1, (w.alloc (.deferred (some []))).alloc (.loop (rec .ready none)) = W1 := ⟨_, rfl⟩
  have hl1 : W1.heap[d + 1]? = some (.loop (rec .ready none)) := by
    rw [← hW1, hd0, show w.heap.size + 1 = (w.alloc (.deferred (some []))).heap.size by simp]; exact World.alloc_heap_new _ _
  have hk1 : W1.heap[d]? = some (.deferred (some [])) := by rw [← hW1, hd0]; exact (Below.heap_alloc _ _ _ (by simp)).trans (World.alloc_heap_new w _)
  have hBw : Below w.heap.size w W1 := by rw [← hW1]; exact ((Below.refl _ w).alloc (Nat.le_refl _) _).alloc (by simp) _
  have hIw := hI [] w W1 h0 ((Keeps.of_below hBw).mono fun g e => hbd [] w h0 g e)
  have hbw : ∀ g, C W1 g → g < w.heap.size := fun g e => hbd [] w h0 g (hIw.2 g e)
  have hNd : ∀ g, N g → g < d := fun g e => by rw [hd0]; exact hN g e
  -- what the rounds speak of, with the two blocks
  let CJ : World → Nat → Prop := fun W g => C W g ∨ g = d + 1 ∨ g = d
  let J : List α → World → Prop := fun pre W => I pre W ∧ (W.heap[d + 1]? = some (.loop (rec .ready none)) ∧ W.heap[d]? = some (.deferred (some []))) ∧ ¬ C W (d + 1) ∧ ¬ C W d
  let Jx : List α → World → Prop := fun pre W => ∃ c, Ix c pre W ∧ (W.heap[d + 1]? = some (.loop (rec .done (some c))) ∧ W.heap[d]? = some (.deferred (some []))) ∧ ¬ C W (d + 1)
  have hJF : FrameC CJ J := by
    rintro s A B ⟨h1, ⟨h2, h3⟩, h4, h5⟩ hk
    have hi := hI s A B h1 (hk.mono fun g e => .inl e)
    exact ⟨⟨hi.1, ⟨(hk.block _ (.inr (.inl rfl))).trans h2, (hk.block _ (.inr (.inr rfl))).trans h3⟩, fun e => h4 (hi.2 _ e), fun e => h5 (hi.2 _ e)⟩, fun g e => e.elim (fun e => .inl (hi.2 g e)) .inr⟩
  have hJB : BoundC CJ J := by
    rintro s A ⟨h1, ⟨h2, h3⟩, _, _⟩ g (e | rfl | rfl)
    · exact hbd s A h1 g e
    · exact (Array.getElem?_eq_some_iff.1 h2).1
    · exact (Array.getElem?_eq_some_iff.1 h3).1
  refine ⟨d + 1, [{ target := .collected d, args := #[] }], W1, { target := .fn (.func gf) lb, args := #[.func (.yield (d + 1)) #[] #[]] }, W1, gf, #[.func (.yield (d + 1)) #[] #[]] ++ lb, W1, ?_, ?_, ?_, ?_, fun h => hdd _ h, ?_⟩
  · rw [← hW1, hrec, hd0]; exact run_enterLoop_outer _ _ _ _ _
  · simp only [resolve, hg]
    simp [go_sem]
  · intro f' hf'; simp [Target.leads] at hf'; subst hf'; exact hFg
  · simp [invoke, go_sem, eg]
  · refine (hseq _ (d + 1) CJ J Jx W1 (hb0.trans (hBw.mono hb0.size)) hJF hJB ?_ ⟨hIw.1, ⟨hl1, hk1⟩, fun e => ?_, fun e => ?_⟩).mono ?_
    · -- one round
      rintro m pre x W ⟨hi, ⟨hl, hk⟩, hnl, hnd⟩ hsp hfx
      have hy := run_yield (P := P) (args := encs x) hl (by rw [hrec]; exact hps x)
      rw [hrec] at hy
      refine ⟨fn, _, assign, body, hy, roundIn_of_wpIn hfn (hassign _ m pre x W _ hi hsp hfx ?_)⟩
      clear hy
      intro a' Wa hst hax
      have hlW : d + 1 < W.heap.size := (Array.getElem?_eq_some_iff.1 hl).1
      have hla : Wa.heap[d + 1]? = some (.loop (rec .ready none)) := (hst.keeps.block _ (.inr ⟨hlW, hnl⟩)).trans hl
      have hka : Wa.heap[d]? = some (.deferred (some [])) := (hst.keeps.block _ (.inr ⟨by omega, hnd⟩)).trans hk
      have hnla : ¬ C Wa (d + 1) := fun e => (hst.grows _ e).elim hnl (fun e => by omega)
      have hnda : ¬ C Wa d := fun e => (hst.grows _ e).elim hnd (fun e => by omega)
      have hla1 : d + 1 < Wa.heap.size := (Array.getElem?_eq_some_iff.1 hla).1
      refine ⟨_, run_beginRound hla (by rw [hrec]), ?_⟩
      obtain ⟨hgr, hax2⟩ := hAx pre x a' Wa (d + 1) _ (.loop { rec .ready none with state := .busy }) hax (by omega) hla hnla
      obtain ⟨Wb, hWb⟩ : ∃ Wb, Wa.putObj (d + 1) (.loop { rec .ready none with state := .busy }) = Wb := ⟨_, rfl⟩
      have hlb : Wb.heap[d + 1]? = some (.loop { rec .ready none with state := .busy }) := by rw [← hWb]; exact World.putObj_heap_same hla1
      have hkb : Wb.heap[d]? = some (.deferred (some [])) := by rw [← hWb]; exact (World.putObj_heap_other (by omega)).trans hka
      have hKab : Keeps (· ≠ d + 1) Wa Wb := by rw [← hWb]; exact Keeps.put _ _ _
      rw [hWb] at hgr hax2 ⊢
      have hnlb : ¬ C Wb (d + 1) := fun e => hnla (hgr _ e)
      have hndb : ¬ C Wb d := fun e => hnda (hgr _ e)
      refine wpIn_mono (hbody _ m pre x a' Wb hsp hax2) ?_
      have hszb : Wa.heap.size ≤ Wb.heap.size := hKab.size
      have fin : ∀ (jump : Option Code) (W3 : World), Stp N C Wb W3 →
          (Instr.endRound (d + 1) jump).run P W3 = .ok (.bool jump.isNone) (W3.putObj (d + 1) (.loop (rec (if jump.isNone then .ready else .done) jump))) ∧
          (W3.putObj (d + 1) (.loop (rec (if jump.isNone then .ready else .done) jump))).heap[d + 1]? = some (.loop (rec (if jump.isNone then .ready else .done) jump)) ∧
          (W3.putObj (d + 1) (.loop (rec (if jump.isNone then .ready else .done) jump))).heap[d]? = some (.deferred (some [])) ∧ ¬ C W3 (d + 1) ∧ ¬ C W3 d := fun jump W3 h3 => by
        have hl3 : W3.heap[d + 1]? = some (.loop { rec .ready none with state := .busy }) := (h3.keeps.block _ (.inr ⟨by omega, hnlb⟩)).trans hlb
        have hk3 : W3.heap[d]? = some (.deferred (some [])) := (h3.keeps.block _ (.inr ⟨by omega, hndb⟩)).trans hkb
        have := run_endRound (P := P) jump hl3
        rw [hrec] at this ⊢
        exact ⟨this, World.putObj_heap_same (Array.getElem?_eq_some_iff.1 hl3).1, (World.putObj_heap_other (by omega)).trans hk3, fun e => (h3.grows _ e).elim hnlb (fun e => by omega), fun e => (h3.grows _ e).elim hndb (fun e => by omega)⟩
      rintro e a3 W3 hp
      cases e with
      | normal =>
        obtain ⟨hi3, h3⟩ := hp
        obtain ⟨hr, hl4, hk4, hn4, hm4⟩ := fin none W3 h3
        obtain ⟨hi4, hg4⟩ := hI _ W3 _ hi3 ((Keeps.put W3 (d + 1) (.loop (rec (if (none : Option Code).isNone then .ready else .done) none))).mono fun g e he => hn4 (he ▸ e))
        refine ⟨_, _, hr, .inl ⟨rfl, ⟨hi4, ⟨hl4, hk4⟩, fun e => hn4 (hg4 _ e), fun e => hm4 (hg4 _ e)⟩, ⟨?_, ?_⟩⟩⟩
        · refine (hst.keeps.mono fun g hg => ?_).trans ((hKab.mono fun g hg => ?_).trans ((h3.keeps.mono fun g hg => ?_).trans ((Keeps.put W3 (d + 1) _).mono fun g hg => ?_)))
          · exact hg.elim .inl fun hg => .inr ⟨hg.1, fun e => hg.2 (.inl e)⟩
          · exact hg.elim (fun e => by have := hNd _ e; omega) fun hg e => hg.2 (.inr (.inl e))
          · exact hg.elim .inl fun hg => .inr ⟨by have := hst.keeps.size; omega, fun e => (hst.grows g (hgr g e)).elim (fun e => hg.2 (.inl e)) (fun e => by omega)⟩
          · exact hg.elim (fun e => by have := hNd _ e; omega) fun hg e => hg.2 (.inr (.inl e))
        · rintro g (e | e)
          · rcases h3.grows g (hg4 g e) with e | e
            · rcases hst.grows g (hgr g e) with e | e
              · exact .inl (.inl e)
              · exact .inr e
            · exact .inr (Nat.le_trans hst.keeps.size (Nat.le_trans hszb e))
          · exact .inl (.inr e)
      | ret =>
        obtain ⟨hi3, h3⟩ := hp
        obtain ⟨hr, hl4, hk4, hn4, hm4⟩ := fin (some .ret) W3 h3
        have hK4 := (Keeps.put W3 (d + 1) (.loop (rec (if (some Code.ret).isNone then .ready else .done) (some .ret)))).mono (T := C W3) fun g e he => hn4 (he ▸ e)
        exact ⟨_, _, hr, .inr ⟨rfl, .ret, (hIx _ _ W3 _ hi3 hK4).1, ⟨hl4, hk4⟩, fun e => hn4 ((hIx _ _ W3 _ hi3 hK4).2 _ e)⟩⟩
      | exit id =>
        obtain ⟨hi3, h3⟩ := hp
        obtain ⟨hr, hl4, hk4, hn4, hm4⟩ := fin (some (.exit id)) W3 h3
        have hK4 := (Keeps.put W3 (d + 1) (.loop (rec (if (some (Code.exit id)).isNone then .ready else .done) (some (.exit id))))).mono (T := C W3) fun g e he => hn4 (he ▸ e)
        exact ⟨_, _, hr, .inr ⟨rfl, .exit id, (hIx _ _ W3 _ hi3 hK4).1, ⟨hl4, hk4⟩, fun e => hn4 ((hIx _ _ W3 _ hi3 hK4).2 _ e)⟩⟩
      | goto t =>
        obtain ⟨hi3, h3⟩ := hp
        obtain ⟨hr, hl4, hk4, hn4, hm4⟩ := fin (some (.goto t)) W3 h3
        have hK4 := (Keeps.put W3 (d + 1) (.loop (rec (if (some (Code.goto t)).isNone then .ready else .done) (some (.goto t))))).mono (T := C W3) fun g e he => hn4 (he ▸ e)
        exact ⟨_, _, hr, .inr ⟨rfl, .goto t, (hIx _ _ W3 _ hi3 hK4).1, ⟨hl4, hk4⟩, fun e => hn4 ((hIx _ _ W3 _ hi3 hK4).2 _ e)⟩⟩
      | panic ch => exact hp.elim
      | outgrown => exact hp.elim
    · have := hbw _ e; omega
    · have := hbw _ e; omega
    · -- behind the iterator
      rintro e W2 ⟨⟨v, rfl⟩, (⟨xs, hS, hi, ⟨hl, hk⟩, hnl, _⟩ | ⟨pre, hSp, c, hi, ⟨hl, hk⟩, hnl⟩)⟩
      · refine ⟨none, _, by have := run_endLoop (P := P) hl (by rw [hrec]; simp); rw [hrec] at this; exact this, hdone d xs _ (by omega) hS ?_ ((World.putObj_heap_other (by omega)).trans hk)⟩
        exact (hI xs W2 _ hi ((Keeps.put W2 (d + 1) _).mono fun g e he => hnl (he ▸ e))).1
      · refine ⟨some c, _, by have := run_endLoop (P := P) hl (by rw [hrec]; simp); rw [hrec] at this; exact this, hstop d c pre _ (by omega) hSp ?_ ((World.putObj_heap_other (by omega)).trans hk)⟩
        exact (hIx c pre W2 _ hi ((Keeps.put W2 (d + 1) _).mono fun g e he => hnl (he ▸ e))).1

end Go.Proofs.Ytkpkhnaflohjpaa

/- walk: what it goes over, in plain words; its memory. -/

namespace Go.Proofs.Ytkpkhnaflohjpaa

open Go.RowKit
set_option maxRecDepth 100000

mutual
/-- The places of a term from place p on, and what stands there, in order. -/
def vis : List Int → Tm → List (List Int × Tm)
  | p, .node f xs => (p, .node f xs) :: visL p 0 xs
def visL : List Int → Nat → List Tm → List (List Int × Tm)
  | _, _, [] => []
  | p, i, t :: ts => vis (p ++ [(i : Int)]) t ++ visL p (i + 1) ts
end

theorem vis_eq (p : List Int) (t : Tm) : vis p t = (p, t) :: visL p 0 t.args := by cases t; simp only [vis, Tm.args]

theorem visL_snoc : ∀ (p : List Int) (i : Nat) (xs : List Tm) (t : Tm), visL p i (xs ++ [t]) = visL p i xs ++ vis (p ++ [((i + xs.length : Nat) : Int)]) t
  | p, i, [], t => by simp [visL]
  | p, i, x :: xs, t => by
    simp only [List.cons_append, visL, List.append_assoc, List.length_cons]
    rw [visL_snoc p (i + 1) xs t, show i + 1 + xs.length = i + (xs.length + 1) by omega]

theorem visL_take {p : List Int} {xs : List Tm} {k : Nat} {t : Tm} (h : xs[k]? = some t) : visL p 0 (xs.take (k + 1)) = visL p 0 (xs.take k) ++ vis (p ++ [(k : Int)]) t := by
  have hlt := (List.getElem?_eq_some_iff.1 h).1
  rw [List.take_add_one, h]
  simp only [Option.toList]
  rw [visL_snoc]
  simp [Nat.min_eq_left (Nat.le_of_lt hlt)]

theorem visL_pre (p : List Int) (xs : List Tm) (k : Nat) : visL p 0 (xs.take k) <+: visL p 0 xs := by
  have key : ∀ (ys : List Tm) (i : Nat) (zs : List Tm), visL p i zs <+: visL p i (zs ++ ys) := by
    intro ys i zs
    induction zs generalizing i with
    | nil => simp [visL]
    | cons z zs ih => simp only [List.cons_append, visL]; exact List.prefix_append_right_inj _ |>.2 (ih (i + 1))
  have := key (xs.drop k) 0 (xs.take k)
  rwa [List.take_append_drop] at this

/-- The slice at A holds the terms; their cells lie in N's blocks. -/
inductive ArgsN (w : World) (N : Nat → Prop) : Option Addr → List Tm → Prop
  | nil (A : Option Addr) : ArgsN w N A []
  | row (b off : Nat) (xs : List Tm) (A' : Nat → Option Addr) (c' : Nat → Nat) (hb : N b) (hlen : xs.length ≤ 9223372036854775807) (hi : ∀ (i : Nat) (t : Tm), xs[i]? = some t → I64 t.fn)
      (h0 : ∀ (i : Nat) (t : Tm), xs[i]? = some t → w.cell? ⟨b, off + i * 2, none⟩ = some (.int .i64 t.fn))
      (h1 : ∀ (i : Nat) (t : Tm), xs[i]? = some t → w.cell? ⟨b, off + i * 2 + 1, none⟩ = some (.slice (A' i) t.args.length (c' i)))
      (hs : ∀ (i : Nat) (t : Tm), xs[i]? = some t → ArgsN w N (A' i) t.args) : ArgsN w N (some ⟨b, off, none⟩) xs

theorem cell_of_heap {w w' : World} {b o : Nat} (h : w'.heap[b]? = w.heap[b]?) : w'.cell? ⟨b, o, none⟩ = w.cell? ⟨b, o, none⟩ := World.cell?_of_block h

section

variable {w w' : World} {N : Nat → Prop} {B : Nat} {A : Option Addr} {xs : List Tm}

theorem Args.toN (h : Args w B A xs) : ArgsN w (· < B) A xs := by
  induction h with
  | nil A => exact .nil A
  | row b off xs A' c' hb hlen hi h0 h1 _ ih => exact .row b off xs A' c' hb hlen hi h0 h1 ih

theorem ArgsN.args (h : ArgsN w N A xs) (hN : ∀ g, N g → g < B) : Args w B A xs := by
  induction h with
  | nil A => exact .nil A
  | row b off xs A' c' hb hlen hi h0 h1 _ ih => exact .row b off xs A' c' (hN b hb) hlen hi h0 h1 ih

theorem ArgsN.keep (h : ArgsN w N A xs) (hk : ∀ g, N g → w'.heap[g]? = w.heap[g]?) : ArgsN w' N A xs := by
  induction h with
  | nil A => exact .nil A
  | row b off xs A' c' hb hlen hi h0 h1 _ ih => exact .row b off xs A' c' hb hlen hi (fun i t e => (cell_of_heap (hk b hb)).trans (h0 i t e)) (fun i t e => (cell_of_heap (hk b hb)).trans (h1 i t e)) ih

theorem ArgsN.wide {M : Nat → Prop} (h : ArgsN w N A xs) (hk : ∀ g, N g → M g) : ArgsN w M A xs := by
  induction h with
  | nil A => exact .nil A
  | row b off xs A' c' hb hlen hi h0 h1 _ ih => exact .row b off xs A' c' (hk b hb) hlen hi h0 h1 ih

theorem ArgsN.len (h : ArgsN w N A xs) : xs.length ≤ 9223372036854775807 := by
  cases h with
  | nil => simp
  | row => assumption

structure ArgAtN (w : World) (N : Nat → Prop) (b off i : Nat) (t : Tm) (A' : Option Addr) (c' : Nat) : Prop where
  hb : N b
  hi : I64 t.fn
  c0 : w.cell? ⟨b, off + i * 2, none⟩ = some (.int .i64 t.fn)
  c1 : w.cell? ⟨b, off + i * 2 + 1, none⟩ = some (.slice A' t.args.length c')
  sub : ArgsN w N A' t.args

theorem ArgsN.get (h : ArgsN w N A xs) {i : Nat} {t : Tm} (hi : xs[i]? = some t) : ∃ b off A' c', A = some ⟨b, off, none⟩ ∧ ArgAtN w N b off i t A' c' := by
  cases h with
  | nil => simp at hi
  | row b off _ A' c' hb hlen hi' h0 h1 hs => exact ⟨b, off, A' i, c' i, rfl, hb, hi' i t hi, h0 i t hi, h1 i t hi, hs i t hi⟩

theorem OwnT.argsN {lo hi : Nat} (h : OwnT w lo hi A xs) : ArgsN w (fun g => lo ≤ g ∧ g < hi) A xs := by
  induction h with
  | nil lo hi A => exact .nil A
  | row lo hi b cap xs vs A' c' m hlo hpos hlen hrow hm0 hmn hm hi64 h0 h1 _ ih =>
    have hbm : b < hi := by have := mono_to hm (Nat.zero_le xs.length) (Nat.le_refl _); omega
    have hvs : vs.length = xs.length * 2 := hrow.1
    refine .row b 0 xs A' c' ⟨hlo, hbm⟩ hlen hi64 (fun i t e => ?_) (fun i t e => ?_) fun i t hit => (ih i t hit).wide fun g hg => ?_
    · have hil := (List.getElem?_eq_some_iff.1 e).1
      rw [Nat.zero_add, hrow.cellAt (i * 2) (by omega)]
      exact h0 i t e
    · have hil := (List.getElem?_eq_some_iff.1 e).1
      rw [Nat.zero_add, hrow.cellAt (i * 2 + 1) (by omega)]
      exact h1 i t e
    · have hil := (List.getElem?_eq_some_iff.1 hit).1
      have e1 := mono_to hm (show i + 1 ≤ xs.length by omega) (Nat.le_refl _)
      have e2 := mono_to hm (Nat.zero_le i) (by omega)
      omega

end

/-- What is handed to a round: a place and what stands there, where they lie. -/
structure Vis where
  pos : List Int
  t : Tm
  A : Option Addr
  c : Nat
  A' : Option Addr
  c' : Nat

def Vis.key (x : Vis) : List Int × Tm := (x.pos, x.t)

def visEnc (x : Vis) : Array Value := #[.slice x.A x.pos.length x.c, .agg #[.int .i64 x.t.fn, .slice x.A' x.t.args.length x.c']]

structure VisFx (x : Vis) (W : World) : Prop where
  pos : Ints W W.heap.size x.A x.pos
  i64 : I64 x.t.fn
  args : Args W W.heap.size x.A' x.t.args

theorem row_lt {W : World} {base n : Nat} {e : TypeId} {size : Nat} {v : Value} {vs : List Value} (h : W.ownsRow base e size v n vs) : ∀ g, v.ownBlock = some g → base ≤ g ∧ g < W.heap.size := by
  intro g hg
  rcases h.2 with ⟨rfl, _⟩ | ⟨g', cap, cur, rfl, hb, hgc, _⟩
  · cases hg
  · simp [Value.ownBlock] at hg
    subst hg
    exact ⟨hb, (Array.getElem?_eq_some_iff.1 hgc).1⟩

theorem row_keep {W W' : World} {base n : Nat} {e : TypeId} {size : Nat} {v : Value} {vs : List Value} (h : W.ownsRow base e size v n vs) (hk : ∀ g, v.ownBlock = some g → W'.heap[g]? = W.heap[g]?) : W'.ownsRow base e size v n vs := by
  refine ⟨h.1, ?_⟩
  rcases h.2 with h0 | ⟨g', cap, cur, rfl, hb, hgc, hrest⟩
  · exact .inl h0
  · exact .inr ⟨g', cap, cur, rfl, hb, (hk g' rfl).trans hgc, hrest⟩

section

variable {W W' : World} {C : World → Nat → Prop} {N : Nat → Prop} {l b : Nat} {pos : List Int}

end

end Go.Proofs.Ytkpkhnaflohjpaa

/- Terms with their variables renamed, in plain words; a row of terms that is made member by member. each, at terms: a row of its own of what becomes of the members. -/

namespace Go.Proofs.Ytkpkhnaflohjpaa

open Go.RowKit
set_option maxRecDepth 100000

section

variable {σ : Type} (nx : σ → Int → σ × Int)

/-- A symbol's number, or a variable's renamed: what is asked in turn keeps a state. -/
def renF (s : σ) (f : Int) : σ × Int := if f < 0 then ((nx s (-1 - f)).1, -1 - (nx s (-1 - f)).2) else (s, f)

mutual
def renT : σ → Tm → σ × Tm
  | s, .node f xs => ((renL (renF nx s f).1 xs).1, .node (renF nx s f).2 (renL (renF nx s f).1 xs).2)
def renL : σ → List Tm → σ × List Tm
  | s, [] => (s, [])
  | s, t :: ts => ((renL (renT s t).1 ts).1, (renT s t).2 :: (renL (renT s t).1 ts).2)
end

theorem renL_len : ∀ (s : σ) (xs : List Tm), (renL nx s xs).2.length = xs.length
  | _, [] => by simp [renL]
  | s, t :: ts => by simp [renL, renL_len]

theorem renL_get : ∀ (s : σ) (xs : List Tm) (i : Nat) (t : Tm), xs[i]? = some t → (renL nx s xs).2[i]? = some (renT nx (renL nx s (xs.take i)).1 t).2 ∧ (renL nx s (xs.take (i + 1))).1 = (renT nx (renL nx s (xs.take i)).1 t).1
  | _, [], i, t, h => by simp at h
  | s, x :: xs, 0, t, h => by
    simp at h
    subst h
    simp [renL]
  | s, x :: xs, i + 1, t, h => by
    have ih := renL_get (renT nx s x).1 xs i t (by simpa using h)
    simp only [List.take_succ_cons, renL, List.getElem?_cons_succ]
    exact ih

end

/-- All blocks that were there lie as they lay, but for C's. -/
def KeepsC (C : Nat → Prop) (w w' : World) : Prop := Keeps (fun g => g < w.heap.size ∧ ¬ C g) w w'

section

variable {C : Nat → Prop} {a b c : World}

theorem KeepsC.k (h : KeepsC C a b) : Keeps (fun g => g < a.heap.size ∧ ¬ C g) a b := h

theorem KeepsC.refl (C : Nat → Prop) (a : World) : KeepsC C a a := Keeps.refl _ _

theorem KeepsC.size (h : KeepsC C a b) : a.heap.size ≤ b.heap.size := Keeps.size h

theorem KeepsC.trans (h : KeepsC C a b) (k : KeepsC C b c) : KeepsC C a c := Keeps.trans h (Keeps.mono k fun _ e => ⟨Nat.lt_of_lt_of_le e.1 h.size, e.2⟩)

theorem KeepsC.of_below (h : Below a.heap.size a b) : KeepsC C a b := (Keeps.of_below h).mono fun _ e => e.1

theorem KeepsC.alloc (h : KeepsC C a b) (o : Obj) : KeepsC C a (b.alloc o) := h.trans (Keeps.alloc b o |>.mono fun _ e => e.1)

theorem KeepsC.set (h : KeepsC C a b) {p : Addr} (hp : a.heap.size ≤ p.block) (v : Value) : KeepsC C a (b.setCell p v) :=
  Keeps.trans h ((Keeps.set b p v).mono fun g e => by show g ≠ p.block; have := e.1; omega)

theorem KeepsC.block (h : KeepsC C a b) {g : Nat} (hg : g < a.heap.size) (hc : ¬ C g) : b.heap[g]? = a.heap[g]? := Keeps.block h g ⟨hg, hc⟩

theorem KeepsC.below (h : KeepsC C a b) {n : Nat} (hn : n ≤ a.heap.size) (hc : ∀ g, g < n → ¬ C g) : Below n a b := Keeps.below h fun g e => ⟨by omega, hc g e⟩

theorem KeepsC.none (h : KeepsC (fun _ => False) a b) : Below a.heap.size a b := h.below (Nat.le_refl _) fun _ _ e => e

theorem KeepsC.mono {D : Nat → Prop} (h : KeepsC C a b) (hd : ∀ g, C g → D g) : KeepsC D a b := Keeps.mono h fun _ e => ⟨e.1, fun k => e.2 (hd _ k)⟩

end

theorem RowK.onK {w w' : World} {xs : List Tm} {b cap k : Nat} {vs : List Value} {A' : Nat → Option Addr} {c' m : Nat → Nat} (h : RowK w b cap xs k vs A' c' m) (hbs : b < w.heap.size) (hs : w.heap.size ≤ w'.heap.size) (hk : ∀ g, b ≤ g → g < w.heap.size → w'.heap[g]? = w.heap[g]?) : RowK w' b cap xs k vs A' c' m :=
  ⟨ownsRow_keep h.row (fun g' e => by simp [Value.ownBlock] at e; exact e.symm) (hk b (Nat.le_refl _) hbs), h.m0, Nat.le_trans h.mke hs, h.mono, h.i64, h.v0, h.v1, fun i t hik e => (h.sub i t hik e).keep fun g h1 h2 => hk g (by have := mono_to h.mono (Nat.zero_le i) (by omega); have := h.m0; omega) (by have := mono_to h.mono (show i + 1 ≤ k by omega) (Nat.le_refl _); have := h.mke; omega)⟩

end Go.Proofs.Ytkpkhnaflohjpaa

namespace Go.Proofs.Ytkpkhnaflohjpaa

open Go.RowKit
set_option maxRecDepth 100000

theorem argsN_upK {w w' : World} {C N : Nat → Prop} {A : Option Addr} {xs : List Tm} (h : ArgsN w N A xs) (hk : KeepsC C w w') (hb : ∀ g, N g → g < w.heap.size) (hc : ∀ g, N g → ¬ C g) : ArgsN w' N A xs :=
  h.keep fun g e => hk.block (hb g e) (hc g e)

end Go.Proofs.Ytkpkhnaflohjpaa

/- walk's closure that calls itself. -/

namespace Go.Proofs.Ytkpkhnaflohjpaa

open Go.RowKit Go.Shelf
attribute [local go_sem] Oper.semAt_some
set_option maxRecDepth 100000

theorem infoInt : (Try.prog.info? 3).map (fun i => (i.zero, i.size, i.bytes)) = some (some (.int .i64 0), 1, 8) := by kernel_rfl

/-- 'append' in a fence; and the row lies where it lay, or in a new block. -/
theorem wpListIn_append_at {F : Fence} {n : Nat} {P : Program} (w : World) {ops : Array Oper} {rest : List Oper} {o : Oper} {a : Act} {Q : Exit → Act → World → Prop}
    (hg : o.guard = none) (s x : Operand) (t : TypeId) (hop : o.op = Op.call { callee := Callee.builtin Builtin.append, args := #[s, x], argTypes := #[t, t] })
    (base : Nat) (e : TypeId) (i : TypeInfo) (z : Value) (size bytes : Nat) (h1 : P.underlying t = some (.slice e)) (h2 : P.info? e = some i) (h3 : i.zero = some z) (h4 : i.size = size) (h5 : i.bytes = bytes) (h6 : z.cells.size = size) (h7 : 0 < size)
    (v : Value) (k : Nat) (xs : List Value) (hs : a.eval s = v) (hown : w.ownsRow base e size v k xs) (ad : Addr) (m c : Nat) (news : List Value) (hx : a.eval x = .slice (some ad) m c) (hn : news.length = m * size)
    (hc : ∀ j u, news[j]? = some u → w.cell? (ad.add j) = some u) (h1c : ∀ u ∈ news, u.oneCell' = true) (b1 : k + m ≤ maxLen) (b2 : (k + m) * bytes ≤ 140737488355328) (b3 : base ≤ w.heap.size)
    (hK : ∀ v' w', w'.ownsRow base e size v' (k + m) (xs ++ news) → w.grownBy w' v.ownBlock → (v'.ownBlock = v.ownBlock ∨ v'.ownBlock = some w.heap.size) → wpListIn F n P ops Q rest (a.put o.dst v') w') :
    wpListIn F n P ops Q (o :: rest) a w := by
  obtain ⟨v', w', hrun, r1, r2, _, r4⟩ := run_append_own_at (P := P) w base t o.type e i z size bytes h1 h2 h3 h4 h5 h6 h7 v k xs hown ad m c news hn hc h1c b1 b2 b3
  refine wpListIn_plain hg fun K hK' => ⟨?_, ?_⟩
  · simp [Oper.about, hop, resolve, Target.leads, Sem.run_pure]
  · rw [Oper.semAt_plain F _ _ (by rw [hop]; intro c hc'; cases hc')]
    simp [execOp, hop, resolve, invoke, builtin, hs, hx, hrun, Result.andThen]
    exact hK' _ _ (hK v' w' r1 r2 r4)

theorem room_of_none {F : Fence} (hd : F.depth = none) (k : Nat) : F.room k := fun d h => by rw [hd] at h; cases h

theorem row_pop {W : World} {base n g cap : Nat} {e : TypeId} {vs : List Value} {x : Value} (h : W.ownsRow base e 1 (.slice (some ⟨g, 0, none⟩) (n + 1) cap) (n + 1) (vs ++ [x])) : W.ownsRow base e 1 (.slice (some ⟨g, 0, none⟩) n cap) n vs := by
  have hl : vs.length = n := by have := h.1; simp at this; omega
  refine ⟨by simpa using hl, .inr ?_⟩
  rcases h.2 with ⟨h0, _⟩ | ⟨g', cap', cur, hv, hb, hg, h1, h2, h3, h4⟩
  · cases h0
  · injection hv with e1 e2 e3
    injection e1 with e1
    injection e1 with e1 _ _
    subst e1; subst e3
    refine ⟨g, cap, cur, rfl, hb, hg, by omega, h2, h3, ?_⟩
    have h5 := congrArg (List.take n) h4
    rw [List.take_take, Nat.min_eq_left (by omega)] at h5
    rw [Nat.mul_one, h5]
    exact List.take_left' hl

end Go.Proofs.Ytkpkhnaflohjpaa

/- Compare, Same: the order of terms as such. -/

namespace Go.Proofs.Ytkpkhnaflohjpaa

open Go.RowKit
set_option maxRecDepth 100000

abbrev tmV (t : Tm) (A : Option Addr) (c : Nat) : Value := .agg #[.int .i64 t.fn, .slice A t.args.length c]

theorem numI_lt {a b : Int} (h : a < b) : numI a b = -1 := by simp [numI, h]

theorem numI_gt {a b : Int} (h : b < a) : numI a b = 1 := by simp [numI, h]; omega

theorem numI_eq {a b : Int} (h1 : b ≤ a) (h2 : a ≤ b) : numI a b = 0 := by
  have : a = b := by omega
  subst this
  simp [numI]

theorem headI_vv {f g : Int} (hf : f < 0) (hg : g < 0) : headI f g = numI (-1 - f) (-1 - g) := by
  unfold headI numI
  by_cases h : f = g
  · subst h; simp
  · rw [if_neg h, if_pos ⟨hf, hg⟩]
    by_cases h1 : g < f
    · rw [if_pos h1, if_pos (by omega)]
    · rw [if_neg h1, if_neg (by omega), if_pos (by omega)]

theorem headI_ss {f g : Int} (h : ¬ (f < 0 ∧ g < 0)) : headI f g = numI f g := by
  unfold headI numI
  by_cases e : f = g
  · subst e; simp
  · rw [if_neg e, if_neg h]
    by_cases h1 : f < g
    · rw [if_pos h1, if_pos h1]
    · rw [if_neg h1, if_neg h1, if_pos (by omega)]

end Go.Proofs.Ytkpkhnaflohjpaa

/- fits: which terms may be over a signature. -/

namespace Go.Proofs.Ytkpkhnaflohjpaa

open Go.RowKit
set_option maxRecDepth 100000

mutual
/-- May the term be, and how much room is left? -/
def fitT (l : List Sm) : Tm → Int → Int → Bool × Int
  | .node f xs, d, r =>
    if r - 1 < 0 ∨ 30 < d then (false, r - 1)
    else if f < 0 then (decide (-1 - f < 48 ∧ xs.length = 0), r - 1)
    else match l[f.toNat]? with
      | none => (false, r - 1)
      | some s => if s.arity ≠ xs.length ∨ (s.pred = true ∧ 1 < d) then (false, r - 1) else fitL l xs (d + 1) (r - 1)
def fitL (l : List Sm) : List Tm → Int → Int → Bool × Int
  | [], _, r => (true, r)
  | t :: ts, d, r => if (fitT l t d r).1 = true then fitL l ts d (fitT l t d r).2 else (false, (fitT l t d r).2)
end

section

variable {l : List Sm} {f d r : Int} {xs : List Tm} {s : Sm} {t : Tm}

theorem fit_room (h : r - 1 < 0 ∨ 30 < d) : fitT l (.node f xs) d r = (false, r - 1) := by simp only [fitT, if_pos h]

theorem fit_var (h : ¬ (r - 1 < 0 ∨ 30 < d)) (hf : f < 0) : fitT l (.node f xs) d r = (decide (-1 - f < 48 ∧ xs.length = 0), r - 1) := by simp only [fitT, if_neg h, if_pos hf]

theorem fit_out (h : ¬ (r - 1 < 0 ∨ 30 < d)) (hf : ¬ f < 0) (ho : (l.length : Int) ≤ f) : fitT l (.node f xs) d r = (false, r - 1) := by
  simp only [fitT, if_neg h, if_neg hf, List.getElem?_eq_none (show l.length ≤ f.toNat by omega)]

theorem fit_bad (h : ¬ (r - 1 < 0 ∨ 30 < d)) (hf : ¬ f < 0) (hs : l[f.toNat]? = some s) (hb : s.arity ≠ xs.length ∨ (s.pred = true ∧ 1 < d)) : fitT l (.node f xs) d r = (false, r - 1) := by
  simp only [fitT, if_neg h, if_neg hf, hs, if_pos hb]

theorem fit_in (h : ¬ (r - 1 < 0 ∨ 30 < d)) (hf : ¬ f < 0) (hs : l[f.toNat]? = some s) (hb : ¬ (s.arity ≠ xs.length ∨ (s.pred = true ∧ 1 < d))) : fitT l (.node f xs) d r = fitL l xs (d + 1) (r - 1) := by
  simp only [fitT, if_neg h, if_neg hf, hs, if_neg hb]

theorem fitL_yes (h : (fitT l t d r).1 = true) : fitL l (t :: xs) d r = fitL l xs d (fitT l t d r).2 := by simp only [fitL, if_pos h]

theorem fitL_no (h : (fitT l t d r).1 = false) : fitL l (t :: xs) d r = (false, (fitT l t d r).2) := by simp [fitL, h]

end

/-- The room shrinks, and not below -1 where it was 0 at least. -/
theorem fit_le (l : List Sm) (t : Tm) : ∀ d r, 0 ≤ r → (fitT l t d r).2 ≤ r - 1 ∧ -1 ≤ (fitT l t d r).2 ∧ ((fitT l t d r).1 = true → 0 ≤ (fitT l t d r).2) := by
  refine Tm.ind (P := fun t => ∀ d r, 0 ≤ r → (fitT l t d r).2 ≤ r - 1 ∧ -1 ≤ (fitT l t d r).2 ∧ ((fitT l t d r).1 = true → 0 ≤ (fitT l t d r).2)) (fun f xs ih d r hr => ?_) t
  have key : ∀ ys : List Tm, (∀ t ∈ ys, ∀ d r, 0 ≤ r → (fitT l t d r).2 ≤ r - 1 ∧ -1 ≤ (fitT l t d r).2 ∧ ((fitT l t d r).1 = true → 0 ≤ (fitT l t d r).2)) → ∀ d r, 0 ≤ r → (fitL l ys d r).2 ≤ r ∧ -1 ≤ (fitL l ys d r).2 ∧ ((fitL l ys d r).1 = true → 0 ≤ (fitL l ys d r).2) := by
    intro ys
    induction ys with
    | nil => intro _ d r hr; simp only [fitL]; exact ⟨Int.le_refl _, by omega, fun _ => hr⟩
    | cons y ys ihy =>
      intro h d r hr
      have h1 := h y (by simp) d r hr
      cases hb : (fitT l y d r).1 with
      | true =>
        rw [fitL_yes hb]
        have h2 := ihy (fun t ht => h t (by simp [ht])) d _ (h1.2.2 hb)
        exact ⟨by omega, h2.2.1, h2.2.2⟩
      | false => rw [fitL_no hb]; exact ⟨by show _ ≤ r; omega, h1.2.1, fun h => by cases h⟩
  by_cases h1 : r - 1 < 0 ∨ 30 < d
  · rw [fit_room h1]; exact ⟨Int.le_refl _, by show -1 ≤ r - 1; omega, fun h => by cases h⟩
  · by_cases hf : f < 0
    · rw [fit_var h1 hf]; exact ⟨Int.le_refl _, by show -1 ≤ r - 1; omega, fun _ => by show 0 ≤ r - 1; omega⟩
    · cases hs : l[f.toNat]? with
      | none => rw [fit_out h1 hf (by have := List.getElem?_eq_none_iff.1 hs; omega)]; exact ⟨Int.le_refl _, by show -1 ≤ r - 1; omega, fun h => by cases h⟩
      | some s =>
        by_cases hb : s.arity ≠ xs.length ∨ (s.pred = true ∧ 1 < d)
        · rw [fit_bad h1 hf hs hb]; exact ⟨Int.le_refl _, by show -1 ≤ r - 1; omega, fun h => by cases h⟩
        · rw [fit_in h1 hf hs hb]; exact key xs ih (d + 1) (r - 1) (by omega)

def FitPost (l : List Sm) (t : Tm) (d r : Int) (rb : Nat) (w : World) (e : Ending) (w' : World) : Prop :=
  e = .returned (.bool (fitT l t d r).1) ∧ Keeps (fun g => g < w.heap.size ∧ g ≠ rb) w w' ∧ w'.heap[rb]? = some (.cells #[.int .i64 (fitT l t d r).2] 3)

theorem heap2 (w : World) (o1 o2 : Obj) : ((w.alloc o1).alloc o2).heap[w.heap.size]? = some o1 ∧ ((w.alloc o1).alloc o2).heap[w.heap.size + 1]? = some o2 := by
  have e1 : (w.alloc o1).heap.size = w.heap.size + 1 := by simp
  refine ⟨?_, ?_⟩
  · rw [Below.heap_alloc _ _ _ (by omega)]
    exact heap_alloc_new w o1
  · rw [← e1]
    exact heap_alloc_new _ o2

theorem cells_one {W : World} {b : Nat} {x : Value} {t : TypeId} (h : W.heap[b]? = some (.cells #[x] t)) : W.cell? ⟨b, 0, none⟩ = some x ∧ W.frozen? ⟨b, 0, none⟩ = false := by
  refine ⟨?_, ?_⟩ <;> simp [World.cell?, World.frozen?, h]

end Go.Proofs.Ytkpkhnaflohjpaa

/- rename: whatever function tells the numbers, and whatever state it keeps. -/

namespace Go.Proofs.Ytkpkhnaflohjpaa

open Go.RowKit Go.Shelf
set_option maxRecDepth 100000

/-- What is asked of the function that tells the numbers. -/
structure NumC {σ : Type} (nx : σ → Int → σ × Int) (kn : FuncId) (nc : Array Value) (C D N : Nat → Prop) (I : σ → World → Prop) (B0 : Nat) : Prop where
  ent : ∀ (args : Array Value) (w : World), (callFunc kn args).run Try.prog w = .ok (.enter kn args) w
  call : ∀ (s : σ) (v : Int) (W : World), B0 ≤ W.heap.size → I s W → 0 ≤ v → v ≤ 9223372036854775807 → Calls Try.prog kn (#[.int .i64 v] ++ nc) W fun e W' => e = .returned (.int .i64 (nx s v).2) ∧ I64 (nx s v).2 ∧ I (nx s v).1 W' ∧ KeepsC C W W'
  stay : ∀ s W W', I s W → Keeps D W W' → I s W'
  cb : ∀ g, C g → g < B0
  db : ∀ g, D g → g < B0
  nb : ∀ g, N g → g < B0
  nc : ∀ g, N g → ¬ C g

/-- The term renamed, in new memory. -/
def RenPost {σ : Type} (C : Nat → Prop) (I : σ → World → Prop) (r : σ × Tm) (w : World) (e : Ending) (w' : World) : Prop :=
  ∃ A' c', e = .returned (.agg #[.int .i64 r.2.fn, .slice A' r.2.args.length c']) ∧ I64 r.2.fn ∧ OwnT w' w.heap.size w'.heap.size A' r.2.args ∧ I r.1 w' ∧ KeepsC C w w'

section

variable {σ : Type} {nx : σ → Int → σ × Int} {kn : FuncId} {nc : Array Value} {C D N : Nat → Prop} {I : σ → World → Prop} {B0 : Nat}

theorem ren_fin (hN : NumC nx kn nc C D N I B0) {s s1 : σ} {f f' : Int} {xs : List Tm} {A3 : Option Addr} {c3 : Nat} {w W w1 w3 : World} (hB0 : B0 ≤ w.heap.size) (hB : Below w.heap.size w W) (hk1 : KeepsC C W w1) (hk3 : KeepsC C w1 w3)
    (hO3 : OwnT w3 w1.heap.size w3.heap.size A3 (renL nx s1 xs).2) (hI3 : I (renL nx s1 xs).1 w3) (hF : renF nx s f = (s1, f')) (h64 : I64 f') (hW : w.heap.size + 2 < W.heap.size) :
    RenPost C I (renT nx s (.node f xs)) w (.returned (.agg #[.int .i64 f', .slice A3 (renL nx s1 xs).2.length c3])) ((w3.setCell ⟨w.heap.size + 1 + 1, 0, none⟩ (.int .i64 f')).setCell ⟨w.heap.size + 1 + 1, 1, none⟩ (.slice A3 (renL nx s1 xs).2.length c3)) := by
  have hr : renT nx s (.node f xs) = ((renL nx s1 xs).1, .node f' (renL nx s1 xs).2) := by simp only [renT, hF]
  have hz1 := hk1.size
  have hoth : ∀ g, g ≠ w.heap.size + 1 + 1 → ((w3.setCell ⟨w.heap.size + 1 + 1, 0, none⟩ (.int .i64 f')).setCell ⟨w.heap.size + 1 + 1, 1, none⟩ (.slice A3 (renL nx s1 xs).2.length c3)).heap[g]? = w3.heap[g]? := fun g e => (heap_setCell_other _ _ _ _ e).trans (heap_setCell_other _ _ _ _ e)
  rw [hr]
  refine ⟨A3, c3, rfl, h64, ?_, ?_, ?_⟩
  · exact OwnT.wide (lo := w1.heap.size) (hi := w3.heap.size) (hO3.keep fun g h1 _ => hoth g (by omega)) (by omega) (by simp)
  · exact hN.stay _ _ _ hI3 ⟨rfl, rfl, rfl, by simp, fun g e => hoth g (by have := hN.db g e; omega)⟩
  · exact ((((KeepsC.of_below hB).trans hk1).trans hk3).set (by show _ ≤ w.heap.size + 1 + 1; omega) _).set (by show _ ≤ w.heap.size + 1 + 1; omega) _

end

end Go.Proofs.Ytkpkhnaflohjpaa

