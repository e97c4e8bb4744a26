/- walk: what it goes over, in plain words; its memory. -/
import Derived.Test.YtdeegdndfblnkaaR1
import Derived.Test.YtdeegdndfblnkaaT6
namespace Go.Proofs.Ytdeegdndfblnkaa
open Go.RowKit
set_option maxRecDepth 100000

mutual
/-- The places of a term from place p on, and what stands there, in order. -/
def vis : List Int → Tm → List (List Int × Tm)
  | p, .node f xs => (p, .node f xs) :: visL p 0 xs
def visL : List Int → Nat → List Tm → List (List Int × Tm)
  | _, _, [] => []
  | p, i, t :: ts => vis (p ++ [(i : Int)]) t ++ visL p (i + 1) ts
end
theorem vis_eq (p : List Int) (t : Tm) : vis p t = (p, t) :: visL p 0 t.args := by cases t; simp only [vis, Tm.args]
theorem visL_snoc : ∀ (p : List Int) (i : Nat) (xs : List Tm) (t : Tm), visL p i (xs ++ [t]) = visL p i xs ++ vis (p ++ [((i + xs.length : Nat) : Int)]) t
  | p, i, [], t => by simp [visL]
  | p, i, x :: xs, t => by
    simp only [List.cons_append, visL, List.append_assoc, List.length_cons]
    rw [visL_snoc p (i + 1) xs t, show i + 1 + xs.length = i + (xs.length + 1) by omega]
theorem visL_take {p : List Int} {xs : List Tm} {k : Nat} {t : Tm} (h : xs[k]? = some t) : visL p 0 (xs.take (k + 1)) = visL p 0 (xs.take k) ++ vis (p ++ [(k : Int)]) t := by
  have hlt := (List.getElem?_eq_some_iff.1 h).1
  rw [List.take_add_one, h]
  simp only [Option.toList]
  rw [visL_snoc]
  simp [Nat.min_eq_left (Nat.le_of_lt hlt)]
theorem visL_pre (p : List Int) (xs : List Tm) (k : Nat) : visL p 0 (xs.take k) <+: visL p 0 xs := by
  have key : ∀ (ys : List Tm) (i : Nat) (zs : List Tm), visL p i zs <+: visL p i (zs ++ ys) := by
    intro ys i zs
    induction zs generalizing i with
    | nil => simp [visL]
    | cons z zs ih => simp only [List.cons_append, visL]; exact List.prefix_append_right_inj _ |>.2 (ih (i + 1))
  have := key (xs.drop k) 0 (xs.take k)
  rwa [List.take_append_drop] at this

/-- The slice at A holds the terms; their cells lie in N's blocks. -/
inductive ArgsN (w : World) (N : Nat → Prop) : Option Addr → List Tm → Prop
  | nil (A : Option Addr) : ArgsN w N A []
  | row (b off : Nat) (xs : List Tm) (A' : Nat → Option Addr) (c' : Nat → Nat) (hb : N b) (hlen : xs.length ≤ 9223372036854775807) (hi : ∀ (i : Nat) (t : Tm), xs[i]? = some t → I64 t.fn)
      (h0 : ∀ (i : Nat) (t : Tm), xs[i]? = some t → w.cell? ⟨b, off + i * 2, none⟩ = some (.int .i64 t.fn))
      (h1 : ∀ (i : Nat) (t : Tm), xs[i]? = some t → w.cell? ⟨b, off + i * 2 + 1, none⟩ = some (.slice (A' i) t.args.length (c' i)))
      (hs : ∀ (i : Nat) (t : Tm), xs[i]? = some t → ArgsN w N (A' i) t.args) : ArgsN w N (some ⟨b, off, none⟩) xs

theorem cell_of_heap {w w' : World} {b o : Nat} (h : w'.heap[b]? = w.heap[b]?) : w'.cell? ⟨b, o, none⟩ = w.cell? ⟨b, o, none⟩ := World.cell?_of_block h
section
variable {w w' : World} {N : Nat → Prop} {B : Nat} {A : Option Addr} {xs : List Tm}
theorem Args.toN (h : Args w B A xs) : ArgsN w (· < B) A xs := by
  induction h with
  | nil A => exact .nil A
  | row b off xs A' c' hb hlen hi h0 h1 _ ih => exact .row b off xs A' c' hb hlen hi h0 h1 ih
theorem ArgsN.args (h : ArgsN w N A xs) (hN : ∀ g, N g → g < B) : Args w B A xs := by
  induction h with
  | nil A => exact .nil A
  | row b off xs A' c' hb hlen hi h0 h1 _ ih => exact .row b off xs A' c' (hN b hb) hlen hi h0 h1 ih
theorem ArgsN.keep (h : ArgsN w N A xs) (hk : ∀ g, N g → w'.heap[g]? = w.heap[g]?) : ArgsN w' N A xs := by
  induction h with
  | nil A => exact .nil A
  | row b off xs A' c' hb hlen hi h0 h1 _ ih => exact .row b off xs A' c' hb hlen hi (fun i t e => (cell_of_heap (hk b hb)).trans (h0 i t e)) (fun i t e => (cell_of_heap (hk b hb)).trans (h1 i t e)) ih
theorem ArgsN.wide {M : Nat → Prop} (h : ArgsN w N A xs) (hk : ∀ g, N g → M g) : ArgsN w M A xs := by
  induction h with
  | nil A => exact .nil A
  | row b off xs A' c' hb hlen hi h0 h1 _ ih => exact .row b off xs A' c' (hk b hb) hlen hi h0 h1 ih
theorem ArgsN.len (h : ArgsN w N A xs) : xs.length ≤ 9223372036854775807 := by
  cases h with
  | nil => simp
  | row => assumption
structure ArgAtN (w : World) (N : Nat → Prop) (b off i : Nat) (t : Tm) (A' : Option Addr) (c' : Nat) : Prop where
  hb : N b
  hi : I64 t.fn
  c0 : w.cell? ⟨b, off + i * 2, none⟩ = some (.int .i64 t.fn)
  c1 : w.cell? ⟨b, off + i * 2 + 1, none⟩ = some (.slice A' t.args.length c')
  sub : ArgsN w N A' t.args
theorem ArgsN.get (h : ArgsN w N A xs) {i : Nat} {t : Tm} (hi : xs[i]? = some t) : ∃ b off A' c', A = some ⟨b, off, none⟩ ∧ ArgAtN w N b off i t A' c' := by
  cases h with
  | nil => simp at hi
  | row b off _ A' c' hb hlen hi' h0 h1 hs => exact ⟨b, off, A' i, c' i, rfl, hb, hi' i t hi, h0 i t hi, h1 i t hi, hs i t hi⟩
theorem OwnT.argsN {lo hi : Nat} (h : OwnT w lo hi A xs) : ArgsN w (fun g => lo ≤ g ∧ g < hi) A xs := by
  induction h with
  | nil lo hi A => exact .nil A
  | row lo hi b cap xs vs A' c' m hlo hpos hlen hrow hm0 hmn hm hi64 h0 h1 _ ih =>
    have hbm : b < hi := by have := mono_to hm (Nat.zero_le xs.length) (Nat.le_refl _); omega
    have hvs : vs.length = xs.length * 2 := hrow.1
    refine .row b 0 xs A' c' ⟨hlo, hbm⟩ hlen hi64 (fun i t e => ?_) (fun i t e => ?_) fun i t hit => (ih i t hit).wide fun g hg => ?_
    · have hil := (List.getElem?_eq_some_iff.1 e).1
      rw [Nat.zero_add, hrow.cellAt (i * 2) (by omega)]
      exact h0 i t e
    · have hil := (List.getElem?_eq_some_iff.1 e).1
      rw [Nat.zero_add, hrow.cellAt (i * 2 + 1) (by omega)]
      exact h1 i t e
    · have hil := (List.getElem?_eq_some_iff.1 hit).1
      have e1 := mono_to hm (show i + 1 ≤ xs.length by omega) (Nat.le_refl _)
      have e2 := mono_to hm (Nat.zero_le i) (by omega)
      omega
end

/-- What is handed to a round: a place and what stands there, where they lie. -/
structure Vis where
  pos : List Int
  t : Tm
  A : Option Addr
  c : Nat
  A' : Option Addr
  c' : Nat
def Vis.key (x : Vis) : List Int × Tm := (x.pos, x.t)
def visEnc (x : Vis) : Array Value := #[.slice x.A x.pos.length x.c, .agg #[.int .i64 x.t.fn, .slice x.A' x.t.args.length x.c']]
structure VisFx (x : Vis) (W : World) : Prop where
  pos : Ints W W.heap.size x.A x.pos
  i64 : I64 x.t.fn
  args : Args W W.heap.size x.A' x.t.args

theorem row_lt {W : World} {base n : Nat} {e : TypeId} {size : Nat} {v : Value} {vs : List Value} (h : W.ownsRow base e size v n vs) : ∀ g, v.ownBlock = some g → base ≤ g ∧ g < W.heap.size := by
  intro g hg
  rcases h.2 with ⟨rfl, _⟩ | ⟨g', cap, cur, rfl, hb, hgc, _⟩
  · cases hg
  · simp [Value.ownBlock] at hg
    subst hg
    exact ⟨hb, (Array.getElem?_eq_some_iff.1 hgc).1⟩
theorem row_keep {W W' : World} {base n : Nat} {e : TypeId} {size : Nat} {v : Value} {vs : List Value} (h : W.ownsRow base e size v n vs) (hk : ∀ g, v.ownBlock = some g → W'.heap[g]? = W.heap[g]?) : W'.ownsRow base e size v n vs := by
  refine ⟨h.1, ?_⟩
  rcases h.2 with h0 | ⟨g', cap, cur, rfl, hb, hgc, hrest⟩
  · exact .inl h0
  · exact .inr ⟨g', cap, cur, rfl, hb, (hk g' rfl).trans hgc, hrest⟩