/- find, At. -/
import Derived.Test.YtdeegdndfblnkaaT5
namespace Go.Proofs.Ytdeegdndfblnkaa
open Go.RowKit
set_option maxRecDepth 100000

/-- What stands at a place. -/
def subT : Tm → List Int → Option Tm
  | t, [] => some t
  | t, i :: p => if 0 ≤ i ∧ i < t.args.length then (t.args[i.toNat]?).bind (subT · p) else none

/-- The slice at A holds the numbers. -/
structure Ints (w : World) (B : Nat) (A : Option Addr) (l : List Int) : Prop where
  len : l.length ≤ 9223372036854775807
  i64 : ∀ x ∈ l, I64 x
  ad : 0 < l.length → ∃ b off, A = some ⟨b, off, none⟩ ∧ b < B ∧ ∀ (i : Nat) (x : Int), l[i]? = some x → w.cell? ⟨b, off + i, none⟩ = some (.int .i64 x)
section
variable {w w' : World} {B B' : Nat} {A : Option Addr} {l : List Int}
theorem Ints.keep (h : Ints w B A l) (hk : ∀ p : Addr, p.block < B → w'.cell? p = w.cell? p) : Ints w' B A l :=
  ⟨h.len, h.i64, fun hn => by
    obtain ⟨b, off, hA, hlt, hc⟩ := h.ad hn
    exact ⟨b, off, hA, hlt, fun i x hi => (hk ⟨b, _, none⟩ hlt).trans (hc i x hi)⟩⟩
theorem Ints.blw (h : Ints w B A l) (hb : Below B w w') : Ints w' B A l := h.keep fun _ hp => hb.cell hp
theorem Ints.more (h : Ints w B A l) (hB : B ≤ B') : Ints w B' A l :=
  ⟨h.len, h.i64, fun hn => by
    obtain ⟨b, off, hA, hlt, hc⟩ := h.ad hn
    exact ⟨b, off, hA, by omega, hc⟩⟩
theorem Ints.on (h : Ints w w.heap.size A l) (hb : Below w.heap.size w w') : Ints w' w'.heap.size A l := (h.blw hb).more hb.size
end

/-- The two cells from off on in block b are the term's. -/
structure PtrT (w : World) (B b off : Nat) (t : Tm) : Prop where
  hb : b < B
  i64 : I64 t.fn
  c0 : w.cell? ⟨b, off, none⟩ = some (.int .i64 t.fn)
  rest : ∃ A c, w.cell? ⟨b, off + 1, none⟩ = some (.slice A t.args.length c) ∧ Args w B A t.args

/-- The place of what is found, if it is there. -/
def FindPost (t : Tm) (p : List Int) (w : World) (B : Nat) (e : Ending) (w' : World) : Prop := w' = w ∧
  match subT t p with
  | none => e = .returned (.pointer none)
  | some s => ∃ b off, e = .returned (.pointer (some ⟨b, off, none⟩)) ∧ PtrT w B b off s

theorem sub_step {t u : Tm} {i : Int} {p : List Int} (h0 : 0 ≤ i) (h1 : i < t.args.length) (hu : t.args[i.toNat]? = some u) : subT t (i :: p) = subT u p := by
  simp only [subT, if_pos (And.intro h0 h1), hu, Option.bind_some]
theorem sub_none {t : Tm} {i : Int} {p : List Int} (h : i < 0 ∨ ↑t.args.length ≤ i) : subT t (i :: p) = none := by
  simp only [subT]
  rw [if_neg (by omega)]

def atT (t : Tm) (p : List Int) : Tm := (subT t p).getD (.node 0 [])
/-- What stands at the place, in new memory; the zero term, if there is none. -/
def AtPost (t : Tm) (p : List Int) (w : World) (e : Ending) (w' : World) : Prop := ∃ A' c', e = .returned (.tuple #[.agg #[.int .i64 (atT t p).fn, .slice A' (atT t p).args.length c'], .bool (subT t p).isSome]) ∧ I64 (atT t p).fn ∧ OwnT w' w.heap.size w'.heap.size A' (atT t p).args ∧ Below w.heap.size w w'
theorem sub_size : ∀ {t s : Tm} {p : List Int}, subT t p = some s → s.size ≤ t.size
  | t, s, [], h => by simp only [subT] at h; cases h; exact Nat.le_refl _
  | t, s, i :: p, h => by
    simp only [subT] at h
    split at h
    · cases hu : t.args[i.toNat]? with
      | none => rw [hu] at h; cases h
      | some u =>
        rw [hu] at h
        have h1 := sub_size (p := p) h
        have h2 := size_mem (List.mem_of_getElem? hu)
        cases t with
        | node f xs => simp only [Tm.size, Tm.args] at h2 ⊢; omega
    · cases h
theorem set2_two {W : World} {b : Nat} {x y u v : Value} {t : TypeId} (h : W.heap[b]? = some (.cells #[x, y] t)) : (W.setCell ⟨b, 0, none⟩ u).heap[b]? = some (.cells #[u, y] t) ∧ ((W.setCell ⟨b, 0, none⟩ u).setCell ⟨b, 1, none⟩ v).heap[b]? = some (.cells #[u, v] t) :=
  have h1 : (W.setCell ⟨b, 0, none⟩ u).heap[b]? = some (.cells #[u, y] t) := heap_setCell_same W _ 0 _ _ _ h
  ⟨h1, heap_setCell_same _ _ 1 _ _ _ h1⟩