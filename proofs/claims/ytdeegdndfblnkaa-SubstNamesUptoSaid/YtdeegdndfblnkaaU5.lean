/- The document's own answer: Move. -/
import Derived.Test.YtdeegdndfblnkaaU4
import Derived.Test.YtdeegdndfblnkaaE3
import Derived.Deep.DeepCutAuto
namespace Go.Proofs.Ytdeegdndfblnkaa
open Go.RowKit Go.Shelf
set_option maxRecDepth 100000

theorem renL_unit (g : Int → Int) : ∀ xs : List Tm, renL (fun (s : Unit) v => (s, g v)) () xs = ((), xs.map fun t => (renT (fun (s : Unit) v => (s, g v)) () t).2)
  | [] => by simp only [renL, List.map_nil]
  | t :: ts => by simp only [renL, renL_unit g ts, List.map_cons]
def movF (b f : Int) : Int := if f < 0 then -1 - movI b (-1 - f) else f
theorem movT_eq (b f : Int) (xs : List Tm) : movT b (.node f xs) = .node (movF b f) (xs.map (movT b)) := by
  unfold movT
  simp only [renT]
  rw [renL_unit]
  unfold renF movF
  split <;> rfl
theorem movT_len (b : Int) (t : Tm) : (movT b t).args.length = t.args.length := by
  obtain ⟨f, xs⟩ := t
  rw [movT_eq]
  simp [Tm.args]
theorem movF_i64 {b f : Int} (hb : I64 b) (hf : I64 f) : I64 (movF b f) := by
  have h1 := hf.1
  unfold movF
  split
  · have := movI_i64 (v := -1 - f) hb (by omega) (by omega)
    exact ⟨by have := this.2; omega, by have := this.1; omega⟩
  · exact hf
theorem movT_i64 {b : Int} {t : Tm} (hb : I64 b) (hf : I64 t.fn) : I64 (movT b t).fn := by
  obtain ⟨f, xs⟩ := t
  rw [movT_eq]
  exact movF_i64 hb hf