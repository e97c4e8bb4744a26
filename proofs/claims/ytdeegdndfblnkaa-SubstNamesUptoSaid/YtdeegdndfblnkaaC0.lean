/- A row of numbers, read; a call's contract in a round of a range. -/
import Derived.Test.YtdeegdndfblnkaaR3
namespace Go.Proofs.Ytdeegdndfblnkaa
open Go.RowKit Go.Shelf
set_option maxRecDepth 100000

/-- A slice that holds the numbers. -/
def IntsV (w : World) (v : Value) (l : List Int) : Prop := ∃ A c, v = .slice A l.length c ∧ Ints w w.heap.size A l
/-- A row of the call's own, read. -/
theorem row_ints {w : World} {base : Nat} {v : Value} {l : List Int} (h : w.ownsRow base 3 1 v l.length (l.map (Value.int .i64))) (hl : l.length ≤ 9223372036854775807) (hi : ∀ x ∈ l, I64 x) : IntsV w v l := by
  rcases h.2 with ⟨rfl, h0⟩ | ⟨g, cap, cur, rfl, hb, hg, _⟩
  · exact ⟨none, 0, by rw [h0], hl, hi, fun hn => by omega⟩
  · refine ⟨_, _, rfl, hl, hi, fun hn => ⟨g, 0, rfl, (Array.getElem?_eq_some_iff.1 hg).1, fun i x hx => ?_⟩⟩
    have hlt := (List.getElem?_eq_some_iff.1 hx).1
    rw [Nat.zero_add, h.cellAt i (by simpa using hlt)]
    simp [hx]

/-- A call's contract, in a round of a range. -/
theorem calls_round {P : Program} {f : FuncId} {args : Array Value} {w : World} {R : Ending → World → Prop} (l m : Nat) (h : Calls P f args w R) : CallsIn (Fence.wide.inRound l) m P f args w R := (callsIn_wide (n := m)).2 h
end Go.Proofs.Ytdeegdndfblnkaa
