/- Laid variables further down a row's list; a symbol that is an argument. -/
import Derived.Test.YtimgomoafeaoiaaDoorL4
namespace Go.Proofs.YtimgomoafeaoiaaDoor
open Go.ChangeShapes Go.WideShapes Go.ChangeAt Go.RowKit
set_option maxRecDepth 20000

theorem laid_tail {P : Program} {nd : String × DataW Unit} {rest : List (String × DataW Unit)} {W : World} (h : laidMet P (nd :: rest) W) : laidMet P rest W := by
  obtain ⟨ps, ⟨g, t, cs, fuel, p, q, _, _, _, _, hq, rfl⟩, hnd, hall⟩ := h
  exact ⟨q, hq, (List.nodup_append.1 hnd).2.1, fun b off hm => hall b off (List.mem_append.2 (.inr hm))⟩

variable {H : Type} {enc : TypeId × Value → H} {W : World} {base : Nat} {held : Bool}
/-- A symbol that is an argument. -/
theorem open_sym {r : Reach} {b0 : Nat} {v : Value} {d : DataW H} {ps : List MemPlace} (hv : Value.okWide Tryd.prog W r b0 59 v) (h : DataW.Trod enc Tryd.prog W base (fun _ => true) held 59 v d ps) :
    ∃ s : Sm, v = .agg #[.string s.name, .int .i64 s.arity, .bool s.pred] ∧ s.Ok := by
  obtain ⟨cs, rfl, _⟩ := okWide_struct Tryd.underlying59 hv
  obtain ⟨fuel, hf⟩ := h
  obtain ⟨s, hcs, hok, _⟩ := trod_sym hf
  refine ⟨s, ?_, hok⟩
  have hcs' : cs.toList = [.string s.name, .int .i64 s.arity, .bool s.pred] := hcs
  rw [show cs = #[.string s.name, .int .i64 s.arity, .bool s.pred] from Array.toList_inj.1 (by rw [hcs'])]
end Go.Proofs.YtimgomoafeaoiaaDoor
