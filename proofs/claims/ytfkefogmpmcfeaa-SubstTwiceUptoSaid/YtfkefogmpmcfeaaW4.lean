/- Copies; the plain check of a signature. -/
import Derived.Test.YtfkefogmpmcfeaaL1
import Derived.Test.YtfkefogmpmcfeaaW3
namespace Go.Proofs.Ytfkefogmpmcfeaa
open Go.RowKit

/-- The value v is the signature l. -/
def IsSig (w : World) (l : List Sm) (v : Value) : Prop := ∃ A c, v = .agg #[.slice A l.length c] ∧ Syms w w.heap.size A l.length l
def SigPost (l : List Sm) (w : World) (e : Ending) (w' : World) : Prop := ∃ v, e = .returned v ∧ IsSig w' l v ∧ Below w.heap.size w w'

/-- What a cell beneath the first B blocks holds behind more of them. -/
theorem cell_on {B : Nat} {W w1 : World} (hb : Below B W w1) {b o : Nat} {v : Value} (hlt : b < B) (h : W.cell? ⟨b, o, none⟩ = some v) : w1.cell? ⟨b, o, none⟩ = some v := (hb.cell (p := ⟨b, o, none⟩) hlt).trans h
theorem frozen_on {B : Nat} {W w1 : World} (hb : Below B W w1) {b o : Nat} {x : Bool} (hlt : b < B) (h : W.frozen? ⟨b, o, none⟩ = x) : w1.frozen? ⟨b, o, none⟩ = x := (hb.frozen (p := ⟨b, o, none⟩) hlt).trans h