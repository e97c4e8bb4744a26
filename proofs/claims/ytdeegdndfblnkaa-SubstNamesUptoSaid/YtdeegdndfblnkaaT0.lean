/- Plain words on terms: trees, their sizes, their order; how they lie in memory. -/
import Derived.Test.YtdeegdndfblnkaaL0
namespace Go.Proofs.Ytdeegdndfblnkaa
open Go.RowKit

/-- A term, in plain words. -/
inductive Tm where
  | node (f : Int) (xs : List Tm)

def Tm.fn : Tm → Int
  | .node f _ => f
def Tm.args : Tm → List Tm
  | .node _ xs => xs
theorem Tm.eta (t : Tm) : Tm.node t.fn t.args = t := by cases t; rfl
theorem Tm.ind {P : Tm → Prop} (h : ∀ f xs, (∀ t ∈ xs, P t) → P (.node f xs)) (t : Tm) : P t :=
  Tm.rec (motive_1 := P) (motive_2 := fun xs => ∀ t ∈ xs, P t) (fun f xs ih => h f xs ih) (by simp) (fun t ts h1 h2 => by simp only [List.mem_cons]; rintro u (rfl | hu); exact h1; exact h2 _ hu) t

mutual
def Tm.size : Tm → Nat
  | .node _ xs => sizes xs + 1
def sizes : List Tm → Nat
  | [] => 0
  | t :: ts => t.size + sizes ts
end
mutual
def Tm.depth : Tm → Nat
  | .node _ xs => depths xs + 1
def depths : List Tm → Nat
  | [] => 0
  | t :: ts => max t.depth (depths ts)
end
theorem size_mem {t : Tm} {xs : List Tm} (h : t ∈ xs) : t.size ≤ sizes xs := by
  induction xs with
  | nil => simp at h
  | cons a xs ih =>
    simp only [List.mem_cons] at h
    simp only [sizes]
    rcases h with rfl | h
    · omega
    · have := ih h; omega
theorem depth_mem {t : Tm} {xs : List Tm} (h : t ∈ xs) : t.depth ≤ depths xs := by
  induction xs with
  | nil => simp at h
  | cons a xs ih =>
    simp only [List.mem_cons] at h
    simp only [depths]
    rcases h with rfl | h
    · omega
    · have := ih h; omega
theorem size_pos (t : Tm) : 1 ≤ t.size := by cases t; simp only [Tm.size]; omega
theorem depth_pos (t : Tm) : 1 ≤ t.depth := by cases t; simp only [Tm.depth]; omega
theorem sizes_len (xs : List Tm) : xs.length ≤ sizes xs := by
  induction xs with
  | nil => simp [sizes]
  | cons a xs ih => have := size_pos a; simp only [List.length_cons, sizes]; omega

/-- Which of two numbers of symbols or variables is ahead. -/
def headI (f g : Int) : Int := if f = g then 0 else if f < 0 ∧ g < 0 then (if g < f then -1 else 1) else if f < g then -1 else 1
def numI (a b : Int) : Int := if a < b then -1 else if b < a then 1 else 0
mutual
def cmpT : Tm → Tm → Int
  | .node f xs, u => if headI f u.fn ≠ 0 then headI f u.fn else if cmpL xs u.args ≠ 0 then cmpL xs u.args else numI xs.length u.args.length
def cmpL : List Tm → List Tm → Int
  | [], _ => 0
  | a :: xs, bs => match bs with
    | [] => 0
    | b :: bs => if cmpT a b ≠ 0 then cmpT a b else cmpL xs bs
end
theorem cmpT_eq (t u : Tm) : cmpT t u = if headI t.fn u.fn ≠ 0 then headI t.fn u.fn else if cmpL t.args u.args ≠ 0 then cmpL t.args u.args else numI t.args.length u.args.length := by
  cases t; simp only [cmpT, Tm.fn, Tm.args]; rfl

/-- The first place k whose answer is not 0 decides. -/
theorem cmpL_hit : ∀ {xs bs : List Tm} {k : Nat} {a b : Tm}, xs[k]? = some a → bs[k]? = some b → (∀ j x y, j < k → xs[j]? = some x → bs[j]? = some y → cmpT x y = 0) → cmpT a b ≠ 0 → cmpL xs bs = cmpT a b
  | [], _, _, _, _, h, _, _, _ => by simp at h
  | x :: xs, [], _, _, _, _, h, _, _ => by simp at h
  | x :: xs, y :: bs, 0, a, b, h1, h2, _, hne => by
    simp at h1 h2
    subst h1; subst h2
    simp only [cmpL, if_pos hne]
  | x :: xs, y :: bs, k + 1, a, b, h1, h2, h, hne => by
    have h0 := h 0 x y (by omega) rfl rfl
    simp only [cmpL, h0, ne_eq, not_true_eq_false, if_false]
    exact cmpL_hit (by simpa using h1) (by simpa using h2) (fun j x' y' hj hx hy => h (j + 1) x' y' (by omega) (by simpa using hx) (by simpa using hy)) hne
theorem cmpL_miss : ∀ {xs bs : List Tm}, (∀ (j : Nat) (x y : Tm), xs[j]? = some x → bs[j]? = some y → cmpT x y = 0) → cmpL xs bs = 0
  | [], _, _ => by simp only [cmpL]
  | x :: xs, [], _ => by simp only [cmpL]
  | x :: xs, y :: bs, h => by
    have h0 := h 0 x y rfl rfl
    simp only [cmpL, h0, ne_eq, not_true_eq_false, if_false]
    exact cmpL_miss fun j x' y' hx hy => h (j + 1) x' y' (by simpa using hx) (by simpa using hy)

def I64 (i : Int) : Prop := -9223372036854775808 ≤ i ∧ i ≤ 9223372036854775807
theorem I64.lo {i : Int} (h : I64 i) : -9223372036854775808 ≤ i := h.1
theorem I64.hi {i : Int} (h : I64 i) : i ≤ 9223372036854775807 := h.2

/-- The slice at A holds the terms; their cells lie below block B. -/
inductive Args (w : World) (B : Nat) : Option Addr → List Tm → Prop
  | nil (A : Option Addr) : Args w B A []
  | row (b off : Nat) (xs : List Tm) (A' : Nat → Option Addr) (c' : Nat → Nat) (hb : b < B) (hlen : xs.length ≤ 9223372036854775807) (hi : ∀ (i : Nat) (t : Tm), xs[i]? = some t → I64 t.fn)
      (h0 : ∀ (i : Nat) (t : Tm), xs[i]? = some t → w.cell? ⟨b, off + i * 2, none⟩ = some (.int .i64 t.fn))
      (h1 : ∀ (i : Nat) (t : Tm), xs[i]? = some t → w.cell? ⟨b, off + i * 2 + 1, none⟩ = some (.slice (A' i) t.args.length (c' i)))
      (hs : ∀ (i : Nat) (t : Tm), xs[i]? = some t → Args w B (A' i) t.args) : Args w B (some ⟨b, off, none⟩) xs

section
variable {w w' : World} {B B' : Nat} {A : Option Addr} {xs : List Tm}
theorem Args.keep (h : Args w B A xs) (hk : ∀ p : Addr, p.block < B → w'.cell? p = w.cell? p) : Args w' B A xs := by
  induction h with
  | nil A => exact .nil A
  | row b off xs A' c' hb hlen hi h0 h1 _ ih => exact .row b off xs A' c' hb hlen hi (fun i t e => (hk ⟨b, _, none⟩ hb).trans (h0 i t e)) (fun i t e => (hk ⟨b, _, none⟩ hb).trans (h1 i t e)) ih
theorem Args.blw (h : Args w B A xs) (hb : Below B w w') : Args w' B A xs := h.keep fun _ hp => hb.cell hp
theorem Args.more (h : Args w B A xs) (hB : B ≤ B') : Args w B' A xs := by
  induction h with
  | nil A => exact .nil A
  | row b off xs A' c' hb hlen hi h0 h1 _ ih => exact .row b off xs A' c' (by omega) hlen hi h0 h1 ih
theorem Args.on (h : Args w w.heap.size A xs) (hb : Below w.heap.size w w') : Args w' w'.heap.size A xs := (h.blw hb).more hb.size
theorem Args.drewN (h : Args w B A xs) (k : Nat) : Args (w.drewN k) B A xs := h.keep fun _ _ => rfl
theorem Args.len (h : Args w B A xs) : xs.length ≤ 9223372036854775807 := by
  cases h with
  | nil => simp
  | row => assumption
/-- One of the terms. -/
structure ArgAt (w : World) (B b off i : Nat) (t : Tm) (A' : Option Addr) (c' : Nat) : Prop where
  hb : b < B
  hi : I64 t.fn
  c0 : w.cell? ⟨b, off + i * 2, none⟩ = some (.int .i64 t.fn)
  c1 : w.cell? ⟨b, off + i * 2 + 1, none⟩ = some (.slice A' t.args.length c')
  sub : Args w B A' t.args
theorem Args.get (h : Args w B A xs) {i : Nat} {t : Tm} (hi : xs[i]? = some t) : ∃ b off A' c', A = some ⟨b, off, none⟩ ∧ ArgAt w B b off i t A' c' := by
  cases h with
  | nil => simp at hi
  | row b off _ A' c' hb hlen hi' h0 h1 hs => exact ⟨b, off, A' i, c' i, rfl, hb, hi' i t hi, h0 i t hi, h1 i t hi, hs i t hi⟩
end
end Go.Proofs.Ytdeegdndfblnkaa
