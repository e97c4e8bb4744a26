/- Terms with their variables renamed, in plain words; a row of terms that is made member by member. -/
import Derived.Test.YtfkefogmpmcfeaaR2
import Derived.Test.YtfkefogmpmcfeaaT5
namespace Go.Proofs.Ytfkefogmpmcfeaa
open Go.RowKit
set_option maxRecDepth 100000

section
variable {σ : Type} (nx : σ → Int → σ × Int)
/-- A symbol's number, or a variable's renamed: what is asked in turn keeps a state. -/
def renF (s : σ) (f : Int) : σ × Int := if f < 0 then ((nx s (-1 - f)).1, -1 - (nx s (-1 - f)).2) else (s, f)
mutual
def renT : σ → Tm → σ × Tm
  | s, .node f xs => ((renL (renF nx s f).1 xs).1, .node (renF nx s f).2 (renL (renF nx s f).1 xs).2)
def renL : σ → List Tm → σ × List Tm
  | s, [] => (s, [])
  | s, t :: ts => ((renL (renT s t).1 ts).1, (renT s t).2 :: (renL (renT s t).1 ts).2)
end
theorem renL_len : ∀ (s : σ) (xs : List Tm), (renL nx s xs).2.length = xs.length
  | _, [] => by simp [renL]
  | s, t :: ts => by simp [renL, renL_len]
theorem renL_get : ∀ (s : σ) (xs : List Tm) (i : Nat) (t : Tm), xs[i]? = some t → (renL nx s xs).2[i]? = some (renT nx (renL nx s (xs.take i)).1 t).2 ∧ (renL nx s (xs.take (i + 1))).1 = (renT nx (renL nx s (xs.take i)).1 t).1
  | _, [], i, t, h => by simp at h
  | s, x :: xs, 0, t, h => by
    simp at h
    subst h
    simp [renL]
  | s, x :: xs, i + 1, t, h => by
    have ih := renL_get (renT nx s x).1 xs i t (by simpa using h)
    simp only [List.take_succ_cons, renL, List.getElem?_cons_succ]
    exact ih
end

/-- All blocks that were there lie as they lay, but for C's. -/
def KeepsC (C : Nat → Prop) (w w' : World) : Prop := Keeps (fun g => g < w.heap.size ∧ ¬ C g) w w'
section
variable {C : Nat → Prop} {a b c : World}
theorem KeepsC.k (h : KeepsC C a b) : Keeps (fun g => g < a.heap.size ∧ ¬ C g) a b := h
theorem KeepsC.refl (C : Nat → Prop) (a : World) : KeepsC C a a := Keeps.refl _ _
theorem KeepsC.size (h : KeepsC C a b) : a.heap.size ≤ b.heap.size := Keeps.size h
theorem KeepsC.trans (h : KeepsC C a b) (k : KeepsC C b c) : KeepsC C a c := Keeps.trans h (Keeps.mono k fun _ e => ⟨Nat.lt_of_lt_of_le e.1 h.size, e.2⟩)
theorem KeepsC.of_below (h : Below a.heap.size a b) : KeepsC C a b := (Keeps.of_below h).mono fun _ e => e.1
theorem KeepsC.alloc (h : KeepsC C a b) (o : Obj) : KeepsC C a (b.alloc o) := h.trans (Keeps.alloc b o |>.mono fun _ e => e.1)
theorem KeepsC.set (h : KeepsC C a b) {p : Addr} (hp : a.heap.size ≤ p.block) (v : Value) : KeepsC C a (b.setCell p v) :=
  Keeps.trans h ((Keeps.set b p v).mono fun g e => by show g ≠ p.block; have := e.1; omega)
theorem KeepsC.block (h : KeepsC C a b) {g : Nat} (hg : g < a.heap.size) (hc : ¬ C g) : b.heap[g]? = a.heap[g]? := Keeps.block h g ⟨hg, hc⟩
theorem KeepsC.below (h : KeepsC C a b) {n : Nat} (hn : n ≤ a.heap.size) (hc : ∀ g, g < n → ¬ C g) : Below n a b := Keeps.below h fun g e => ⟨by omega, hc g e⟩
theorem KeepsC.none (h : KeepsC (fun _ => False) a b) : Below a.heap.size a b := h.below (Nat.le_refl _) fun _ _ e => e
theorem KeepsC.mono {D : Nat → Prop} (h : KeepsC C a b) (hd : ∀ g, C g → D g) : KeepsC D a b := Keeps.mono h fun _ e => ⟨e.1, fun k => e.2 (hd _ k)⟩
end

theorem RowK.onK {w w' : World} {xs : List Tm} {b cap k : Nat} {vs : List Value} {A' : Nat → Option Addr} {c' m : Nat → Nat} (h : RowK w b cap xs k vs A' c' m) (hbs : b < w.heap.size) (hs : w.heap.size ≤ w'.heap.size) (hk : ∀ g, b ≤ g → g < w.heap.size → w'.heap[g]? = w.heap[g]?) : RowK w' b cap xs k vs A' c' m :=
  ⟨ownsRow_keep h.row (fun g' e => by simp [Value.ownBlock] at e; exact e.symm) (hk b (Nat.le_refl _) hbs), h.m0, Nat.le_trans h.mke hs, h.mono, h.i64, h.v0, h.v1, fun i t hik e => (h.sub i t hik e).keep fun g h1 h2 => hk g (by have := mono_to h.mono (Nat.zero_le i) (by omega); have := h.m0; omega) (by have := mono_to h.mono (show i + 1 ≤ k by omega) (Nat.le_refl _); have := h.mke; omega)⟩
end Go.Proofs.Ytfkefogmpmcfeaa
