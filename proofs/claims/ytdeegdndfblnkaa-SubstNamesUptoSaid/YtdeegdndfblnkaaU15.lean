/- Compose: both rows of binds, one behind the other. -/
import Derived.Test.YtdeegdndfblnkaaU14
import Derived.Deep.RegionLaw
namespace Go.Proofs.Ytdeegdndfblnkaa
open Go.RowKit Go.Shelf
set_option maxRecDepth 100000

theorem chkFrom_all : ∀ (l : List Bd) (lo : Int), chkFrom lo l = true → ∀ x ∈ l, lo < x.v ∧ ¬ selfB x
  | [], _, _, x, hx => by simp at hx
  | y :: ys, lo, h, x, hx => by
    simp only [chkFrom, Bool.and_eq_true, decide_eq_true_eq, Bool.not_eq_true', decide_eq_false_iff_not] at h
    obtain ⟨h1, h2, h3⟩ := h
    rcases List.mem_cons.1 hx with rfl | hx
    · exact ⟨h1, h2⟩
    · have := chkFrom_all ys y.v h3 x hx
      exact ⟨by omega, this.2⟩
theorem chkFrom_rise : ∀ (l : List Bd) (lo : Int), chkFrom lo l = true → l.Pairwise fun x y => x.v < y.v
  | [], _, _ => .nil
  | y :: ys, lo, h => by
    simp only [chkFrom, Bool.and_eq_true, decide_eq_true_eq, Bool.not_eq_true', decide_eq_false_iff_not] at h
    exact .cons (fun x hx => (chkFrom_all ys y.v h.2.2 x hx).1) (chkFrom_rise ys y.v h.2.2)
theorem pairwise_rise {l : List Bd} (h : l.Pairwise fun x y => x.v < y.v) : Rise l := by
  intro i j x y hij hx hy
  obtain ⟨hi, rfl⟩ := List.getElem?_eq_some_iff.1 hx
  obtain ⟨hj, rfl⟩ := List.getElem?_eq_some_iff.1 hy
  rcases Nat.lt_or_eq_of_le hij with e | e
  · exact Int.le_of_lt (List.pairwise_iff_getElem.1 h i j hi hj e)
  · subst e; exact Int.le_refl _
theorem chkB_rise {l : List Bd} (h : chkB l = true) : Rise l := pairwise_rise (chkFrom_rise l (-1) h)

theorem subCheck_yes (l : List Bd) (A : Option Addr) (c : Nat) (w : World) (hl : l.length ≤ 9223372036854775806) (hA : Binds w (· < w.heap.size) A l) (h : chkB l = true) :
    Calls Try.prog 16 #[.slice A l.length c] w fun e w' => e = .returned (.int .i64 0) ∧ Below w.heap.size w w' :=
  (subCheck_any l A c w hl hA).mono fun e w' ⟨he, hb⟩ => ⟨by rw [he, chkN_yes h], hb⟩
theorem subCheck_no (l : List Bd) (A : Option Addr) (c : Nat) (w : World) (hl : l.length ≤ 9223372036854775806) (hA : Binds w (· < w.heap.size) A l) (h : chkB l = false) :
    Calls Try.prog 16 #[.slice A l.length c] w fun e w' => e = .returned (.int .i64 2) ∧ Below w.heap.size w w' :=
  (subCheck_any l A c w hl hA).mono fun e w' ⟨he, hb⟩ => ⟨by rw [he, chkN_no h], hb⟩

/-- What the two loops have laid: a row of its own, which begins at n0 or behind. -/
structure CmpI (n0 : Nat) (wr : World) (L : List Bd) (v : Value) (l : List Bi) : Prop where
  key : l.map Bi.bd = L
  row : RowB wr n0 v l (Apart n0 v wr)
theorem CmpI.len {n0 : Nat} {wr : World} {L : List Bd} {v : Value} {l : List Bi} (h : CmpI n0 wr L v l) : l.length = L.length := by
  rw [← h.key, List.length_map]
/-- One more: its box, the new term, the bind's box, the row that has grown. -/
theorem CmpI.next {n0 k : Nat} {wr w4 w5 : World} {L : List Bd} {v v5 : Value} {l : List Bi} {x : Bd} {A4 : Option Addr} {c4 : Nat} {o : Obj} (h : CmpI n0 wr L v l) (hk : L.length = k) (hn : n0 ≤ wr.heap.size) (hv : I64 x.v) (hi : I64 x.t.fn)
    (hO : OwnT w4 wr.heap.size w4.heap.size A4 x.t.args) (hb4 : Below wr.heap.size wr w4) (hown : w5.ownsRow n0 77 3 v5 (k + 1) (l.flatMap Bi.cells ++ (⟨x.v, x.t, A4, c4⟩ : Bi).cells))
    (hgr : (w4.alloc o).grownBy w5 v.ownBlock) (hat : v5.ownBlock = v.ownBlock ∨ v5.ownBlock = some (w4.alloc o).heap.size) : CmpI n0 w5 (L ++ [x]) v5 (l ++ [⟨x.v, x.t, A4, c4⟩]) := by
  have hlt := row_lt h.row.row
  have hs4 := hb4.size
  have hs5 := hgr.size
  have hK : ∀ g, g < wr.heap.size → v.ownBlock ≠ some g → w5.heap[g]? = wr.heap[g]? := fun g h1 h2 => (hgr.block g (by simp; omega) (fun e => h2 e.symm)).trans ((Below.heap_alloc w4 o g (by omega)).trans (hb4.block g h1))
  have hK4 : ∀ g, g < w4.heap.size → v.ownBlock ≠ some g → w5.heap[g]? = w4.heap[g]? := fun g h1 h2 => (hgr.block g (by simp; omega) (fun e => h2 e.symm)).trans (Below.heap_alloc w4 o g h1)
  have hv5 : ∀ g, g < wr.heap.size → v.ownBlock ≠ some g → v5.ownBlock ≠ some g := fun g h1 h2 e => by
    rcases hat with h3 | h3
    · rw [h3] at e; exact h2 e
    · rw [h3] at e; injection e with e; simp at e; omega
  have hv54 : ∀ g, wr.heap.size ≤ g → g < w4.heap.size → v5.ownBlock ≠ some g := fun g h1 h2 e => by
    rcases hat with h3 | h3
    · rw [h3] at e; have := (hlt _ e).2; omega
    · rw [h3] at e; injection e with e; simp at e; omega
  have hsz5 : w4.heap.size + 1 ≤ w5.heap.size := by simpa using hs5
  refine ⟨?_, ?_⟩
  · rw [List.map_append, h.key]; rfl
  · refine RowB.push (w := wr) (N := Apart n0 v wr) h.row ?_ ⟨hv, hi, ?_⟩ (fun g hg => hK g hg.2.1 hg.2.2) (fun g hg => ⟨hg.1, by have := hg.2.1; omega, hv5 g hg.2.1 hg.2.2⟩)
    · rw [h.len, hk]; exact hown
    · refine (hO.argsN.keep fun g hg => ?_).wide fun g hg => ⟨by omega, by omega, hv54 g hg.1 hg.2⟩
      exact hK4 g hg.2 fun e => by have := (hlt _ e).2; omega

/-- The bounds on two substitutions. -/
structure CmpC (l l' : List Bd) : Prop where
  len : l.length ≤ 1048576
  len' : l'.length ≤ 1048576
  small : ∀ x ∈ l, x.t.size ≤ 4398046511104
  small' : ∀ x ∈ l', x.t.size ≤ 4398046511104
end Go.Proofs.Ytdeegdndfblnkaa
