/- Plain words on memory, symbols and signatures; '==' of two symbols. -/
import Derived.Test.YtdeegdndfblnkaaProg
import Derived.WalkKit
import Derived.WalkSpells
import Derived.WalkLawsBesides
import Derived.Lib.Hide
import Derived.Below
import Derived.Laws.OwnMore
import Derived.Deep.AppendLies
import Derived.Deep.Draws
import Derived.Laws.StructEq
import Derived.BigQuiet
import Derived.Deep.QuietTactic
namespace Go.Proofs.Ytdeegdndfblnkaa
open Go.RowKit

theorem ret_int {k : IntKind} {a b : Int} (h : a = b) : Ending.returned (.int k a) = .returned (.int k b) := by rw [h]
theorem ret_bool {a b : Bool} (h : a = b) : Ending.returned (.bool a) = .returned (.bool b) := by rw [h]
theorem bl_drewN {B : Nat} {a w : World} (h : Below B a w) (n : Nat) : Below B a (w.drewN n) := ⟨h.os, h.tape, h.output, h.size, h.block⟩
theorem bl_drewN' {B : Nat} {a w : World} {n : Nat} (h : Below B a (w.drewN n)) : Below B a w := ⟨h.os, h.tape, h.output, h.size, h.block⟩
/-- A call's new memory lies above what the caller keeps. -/
theorem bl_step {w w1 w2 : World} (h : Below w.heap.size w w1) (h' : Below w1.heap.size w1 w2) : Below w.heap.size w w2 := h.trans (h'.mono h.size)

/-- A symbol. -/
structure Sm where
  name : ByteArray
  arity : Int
  pred : Bool
  deriving DecidableEq

instance : Inhabited Sm := ⟨⟨ByteArray.empty, 0, false⟩⟩
def Sm.cells (x : Sm) : List Value := [.string x.name, .int .i64 x.arity, .bool x.pred]
structure Sm.Ok (x : Sm) : Prop where
  size : x.name.size ≤ maxLen
  lo : -9223372036854775808 ≤ x.arity
  hi : x.arity ≤ 9223372036854775807

theorem sm_ext {x y : Sm} (h : x.name = y.name ∧ x.arity = y.arity ∧ x.pred = y.pred) : x = y := by
  obtain ⟨a, b, c⟩ := x
  obtain ⟨a', b', c'⟩ := y
  obtain ⟨rfl, rfl, rfl⟩ := h
  rfl
theorem sm_ne {x y : Sm} (h : ¬x.name = y.name ∨ ¬x.arity = y.arity ∨ ¬x.pred = y.pred) : x ≠ y := by
  rintro rfl
  rcases h with h | h | h <;> exact h rfl

theorem flat_get (l : List Sm) (i r : Nat) (hr : r < 3) : (l.flatMap Sm.cells)[i * 3 + r]? = (l[i]?).bind fun x => x.cells[r]? := by
  induction l generalizing i with
  | nil => simp
  | cons x l ih =>
    have hlen : x.cells.length = 3 := rfl
    rw [List.flatMap_cons]
    cases i with
    | zero => rw [List.getElem?_append_left (by omega)]; simp
    | succ i =>
      rw [List.getElem?_append_right (by omega), hlen, show (i + 1) * 3 + r - 3 = i * 3 + r from by omega, ih]
      simp
theorem flat_len (l : List Sm) : (l.flatMap Sm.cells).length = l.length * 3 := by
  induction l with
  | nil => rfl
  | cons x l ih =>
    have hlen : x.cells.length = 3 := rfl
    rw [List.flatMap_cons, List.length_append, ih, hlen, List.length_cons]
    omega
theorem flat_one (l : List Sm) : ∀ u ∈ l.flatMap Sm.cells, u.oneCell' = true := by
  intro u hu
  obtain ⟨x, _, hx⟩ := List.mem_flatMap.1 hu
  simp only [Sm.cells, List.mem_cons, List.not_mem_nil, or_false] at hx
  rcases hx with rfl | rfl | rfl <;> rfl

/-- The slice value (A, n) holds the symbols l; its cells lie below block B. -/
structure Syms (w : World) (B : Nat) (A : Option Addr) (n : Nat) (l : List Sm) : Prop where
  len : l.length = n
  ok : ∀ x ∈ l, x.Ok
  ad : 0 < n → ∃ b off, A = some ⟨b, off, none⟩ ∧ b < B ∧ ∀ i x, l[i]? = some x →
    w.cell? ⟨b, off + i * 3, none⟩ = some (.string x.name) ∧ w.cell? ⟨b, off + i * 3 + 1, none⟩ = some (.int .i64 x.arity) ∧ w.cell? ⟨b, off + i * 3 + 2, none⟩ = some (.bool x.pred)

section
variable {w w' : World} {B B' n : Nat} {A : Option Addr} {l : List Sm}
theorem Syms.keep (h : Syms w B A n l) (hk : ∀ p : Addr, p.block < B → w'.cell? p = w.cell? p) : Syms w' B A n l :=
  ⟨h.len, h.ok, fun hn => by
    obtain ⟨b, off, hA, hlt, hc⟩ := h.ad hn
    refine ⟨b, off, hA, hlt, fun i x hi => ?_⟩
    obtain ⟨h1, h2, h3⟩ := hc i x hi
    exact ⟨(hk ⟨b, _, none⟩ hlt).trans h1, (hk ⟨b, _, none⟩ hlt).trans h2, (hk ⟨b, _, none⟩ hlt).trans h3⟩⟩
theorem Syms.below (h : Syms w B A n l) (hb : Below B w w') : Syms w' B A n l := h.keep fun _ hp => hb.cell hp
theorem Syms.drewN (h : Syms w B A n l) (k : Nat) : Syms (w.drewN k) B A n l := h.keep fun _ _ => rfl
theorem Syms.more (h : Syms w B A n l) (hB : B ≤ B') : Syms w B' A n l :=
  ⟨h.len, h.ok, fun hn => by
    obtain ⟨b, off, hA, hlt, hc⟩ := h.ad hn
    exact ⟨b, off, hA, by omega, hc⟩⟩
theorem Syms.nil_ (w : World) (B : Nat) (A : Option Addr) : Syms w B A 0 [] := ⟨rfl, fun x hx => by simp at hx, fun h => absurd h (by omega)⟩
/-- A later world of a call: its memory is kept, and reaches further. -/
theorem Syms.on (h : Syms w w.heap.size A n l) (hb : Below w.heap.size w w') : Syms w' w'.heap.size A n l := (h.below hb).more hb.size
theorem Syms.flat (h : Syms w B A n l) (hn : 0 < n) : ∃ b off, A = some ⟨b, off, none⟩ ∧ b < B ∧ ∀ j u, (l.flatMap Sm.cells)[j]? = some u → w.cell? ⟨b, off + j, none⟩ = some u := by
  obtain ⟨b, off, hA, hlt, hc⟩ := h.ad hn
  refine ⟨b, off, hA, hlt, fun j u hu => ?_⟩
  have hj : j = j / 3 * 3 + j % 3 := by omega
  have hr : j % 3 < 3 := Nat.mod_lt _ (by omega)
  generalize j / 3 = i at hj
  generalize j % 3 = r at hj hr
  subst hj
  rw [flat_get _ _ _ hr] at hu
  cases hx : l[i]? with
  | none => rw [hx] at hu; simp at hu
  | some x =>
    rw [hx] at hu
    obtain ⟨h1, h2, h3⟩ := hc i x hx
    match r, hr with
    | 0, _ => simp [Sm.cells] at hu; rw [← hu]; exact h1
    | 1, _ => simp [Sm.cells] at hu; rw [← hu]; exact h2
    | 2, _ => simp [Sm.cells] at hu; rw [← hu]; exact h3
theorem Syms.of_flat (hl : l.length = n) (hok : ∀ x ∈ l, x.Ok) (h : 0 < n → ∃ b off, A = some ⟨b, off, none⟩ ∧ b < B ∧ ∀ j u, (l.flatMap Sm.cells)[j]? = some u → w.cell? ⟨b, off + j, none⟩ = some u) : Syms w B A n l :=
  ⟨hl, hok, fun hn => by
    obtain ⟨b, off, hA, hlt, hc⟩ := h hn
    refine ⟨b, off, hA, hlt, fun i x hx => ⟨?_, ?_, ?_⟩⟩
    · exact hc (i * 3) _ (by have := flat_get l i 0 (by omega); rw [Nat.add_zero] at this; rw [this, hx]; rfl)
    · exact (congrArg w.cell? (by simp)).trans (hc (i * 3 + 1) _ (by rw [flat_get _ _ _ (by omega), hx]; rfl))
    · exact (congrArg w.cell? (by simp)).trans (hc (i * 3 + 2) _ (by rw [flat_get _ _ _ (by omega), hx]; rfl))⟩
end

/-- Are two symbols the same? (A plain definition: the walk does not open it.) -/
def smB (a : ByteArray) (b : Int) (c : Bool) (a' : ByteArray) (b' : Int) (c' : Bool) : Bool := decide ((⟨a, b, c⟩ : Sm) = ⟨a', b', c'⟩)
theorem smB_true {x y : Sm} (h : x = y) : smB x.name x.arity x.pred y.name y.arity y.pred = true := by subst h; simp [smB]
theorem smB_false {x y : Sm} (h : x ≠ y) : smB x.name x.arity x.pred y.name y.arity y.pred = false := by
  simp only [smB, decide_eq_false_iff_not]; exact h
theorem run_eql_sym (a a' : ByteArray) (b b' : Int) (c c' : Bool) (w : World) : Sem.run Try.prog (binOp .eql 139 (.agg #[.string a, .int .i64 b, .bool c]) (.agg #[.string a', .int .i64 b', .bool c'])) w =
    .ok (.bool (smB a b c a' b' c')) w := by
  have hS : Try.prog.underlying 139 = some (.struct (Try.prog.fieldsOf 139)) := by kernel_rfl
  have hp : Try.prog.stoodInHeld 139 = false := by kernel_rfl
  rw [run_eql_struct, show (10000 : Nat) = 9999 + 1 from rfl, run_equalIn_agg w 9999 139 _ _ hS hp]
  simp only [Program.fieldsOf, Try.underlying139]
  go_simp
  by_cases h1 : a = a'
  · by_cases h2 : b = b' <;> by_cases h3 : c = c' <;> simp [smB, h1, h2, h3]
  · have h1' : ¬ a.toList = a'.toList := fun e => h1 (by
      rw [ByteArray.toList_eq, ByteArray.toList_eq] at e
      exact ByteArray.ext (Array.toList_inj.1 e))
    simp [smB, h1, h1']
theorem run_neq_sym (a a' : ByteArray) (b b' : Int) (c c' : Bool) (w : World) : Sem.run Try.prog (binOp .neq 139 (.agg #[.string a, .int .i64 b, .bool c]) (.agg #[.string a', .int .i64 b', .bool c'])) w =
    .ok (.bool (!smB a b c a' b' c')) w := by
  have h := run_eql_sym a a' b b' c c' w
  simp only [binOp] at h ⊢
  rw [Sem.run_bind] at h ⊢
  revert h
  generalize Sem.run Try.prog (Op.equal 139 (.agg #[.string a, .int .i64 b, .bool c]) (.agg #[.string a', .int .i64 b', .bool c'])) w = r
  intro h
  cases r with
  | ok v w' =>
    simp only [Result.andThen_ok, Sem.run_pure] at h ⊢
    injection h with h1 h2
    injection h1 with h1
    rw [h1, h2]
  | halt x w' => simp [Result.andThen] at h
end Go.Proofs.Ytdeegdndfblnkaa
