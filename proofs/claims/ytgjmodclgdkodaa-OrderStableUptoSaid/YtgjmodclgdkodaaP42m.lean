/- What is put in for variables leaves a literal above another one, and the same as another one, whatever the signature, the order, the literals and the substitution. Its second form: the arguments hold at most 1048576 values together. -/
import Derived.Test.YtgjmodclgdkodaaP42Z2
import Derived.Test.YtgjmodclgdkodaaP40Z20
import Derived.Test.YtgjmodclgdkodaaRows
import Derived.ProofKit
import Derived.OpenShut
import Derived.JoinedCond

namespace Go.Proofs.Ytgjmodclgdkodaa.orderStable

open Go.ChangeShapes Go.WideShapes Go.ChangeAt Go.RowKit

theorem own : ownKnob Try.prog.godebug = none := by kernel_rfl

theorem laidOut : laidOutB Try.prog = true := by kernel_rfl

set_option maxRecDepth 100000 in
/-- What the walk gives, for every argument that the bound lets in. -/
theorem contract (H : Type) (enc : TypeId × Value → H) (W : World) (base : Nat) (args : Array Value) (ds gs : List (DataW H)) (before : List MemPlace)
    (hval : ∀ (j : Nat) t v, Try.f4.params[j]? = some t → args[j]? = some v → Value.okWide Try.prog W .any base t v)
    (hW : DataW.Whole enc Try.prog Try.f4.params.toList Rows.orderStableSpec.vars false W args.toList ds gs before) (hk : Rows.uptoBulkAll (ds ++ gs) ≤ 1048576) :
    Calls Try.prog 4 args W fun e W' => ∃ v, e = .returned v ∧ Rows.orderStableSpec.post enc Try.prog Try.f4 false true false false W args v W' := by
  have hW' := hW
  obtain ⟨p, q, hA0, hV, rfl, hfz, hnd⟩ := hW
  have hA : DataW.TrodAll enc Try.prog W 0 (fun _ => true) true Try.f4.params.toList args.toList ds p := hA0
  rw [Try.params4] at hA hval
  obtain ⟨v0, v1, v2, v3, v4, d0, d1, d2, d3, d4, p0, p1, p2, p3, p4, rfl, rfl, rfl, h0, h1, h2, h3, h4⟩ := trodAll_five hA
  obtain ⟨rfl, rfl⟩ := trodVars_none hV
  simp only [List.append_nil, Rows.uptoBulkAll] at hk
  obtain ⟨As, n, cs, l, rfl, hS, hd⟩ := open_sig (hval 0 24 v0 rfl rfl) h0
  have hbn := sig_bulk hd
  obtain ⟨o, P, Q, pc, qc, rfl, hM, hbo⟩ := open_orderL (hval 1 27 v1 rfl rfl) h1
  obtain ⟨a, A1, a1, A2, a2, rfl, ia1, ia2, ka1, ka2, hza⟩ := openk_lit (hval 2 41 v2 rfl rfl) h2
  obtain ⟨b, B1, b1, B2, b2, rfl, ib1, ib2, kb1, kb2, hzb⟩ := openk_lit (hval 3 41 v3 rfl rfl) h3
  obtain ⟨s, C, cc, rfl, hC, hzc, hlc⟩ := open_substN (hval 4 43 v4 rfl rfl) h4
  refine (orderStable_of l o a b s As P Q A1 A2 B1 B2 C n cs pc qc a1 a2 b1 b2 cc W hS (by omega) hM (by omega) ⟨ia1, ia2, ka1, ka2, by omega, by omega⟩ ⟨ib1, ib2, kb1, kb2, by omega, by omega⟩ (by omega) (by omega) hC (fun x hx => by have := hzc x hx; omega) (by omega)).mono fun e W' ⟨he, hb⟩ => ?_
  subst he
  exact ⟨_, rfl, law_post laidOut rfl (by kernel_rfl) Try.underlying4 (by kernel_rfl) hW' rfl hb⟩

set_option maxRecDepth 100000 in
theorem lifted (os : Os) (started : os.Started) (H : Type) (enc : TypeId × Value → H) (F : Stop.Interp) :
    ReturnsInHanded {} Try.checked os 4 .any ((Rows.OpenSpec.upto Rows.orderStableSpec).pre6 enc Try.prog Try.f4 Rows.orderStableUptoRow.domain false) (((Rows.OpenSpec.upto Rows.orderStableSpec).at F).post enc Try.prog Try.f4 false true false false) := by
  refine returnsInHanded_of_cond (C := Try.checked) (s := Rows.OpenSpec.upto Rows.orderStableSpec) (k := Rows.uptoSmall) rfl own started (by kernel_rfl) Try.func4
    (OpenSpec.witness (enc := enc) (C := Try.checked) (s := Rows.OpenSpec.upto Rows.orderStableSpec) (k := Rows.uptoSmall) rfl false ⟨#[], #[.agg #[.slice none 0 0], .agg #[.bool false, .slice none 0 0, .slice none 0 0, .int .i64 0], .agg #[.bool false, .int .i64 0, .slice none 0 0, .int .i64 0, .slice none 0 0], .agg #[.bool false, .int .i64 0, .slice none 0 0, .int .i64 0, .slice none 0 0], .slice none 0 0], []⟩ 8 (by kernel_rfl) (by kernel_rfl) (by kernel_rfl)
      (x := ([.agg [.nil], .agg [.lit (.bool false), .nil, .nil, .lit (.int .i64 0)], .agg [.lit (.bool false), .agg [.lit (.int .i64 0), .nil], .agg [.lit (.int .i64 0), .nil]], .agg [.lit (.bool false), .agg [.lit (.int .i64 0), .nil], .agg [.lit (.int .i64 0), .nil]], .nil], [], [])) (by kernel_rfl) rfl (by kernel_rfl)) ?_
  intro W base args ds gs before hval hW _ hk _
  exact contract H enc W base args ds gs before hval hW (of_decide_eq_true hk)

theorem said : Rows.OrderStableUptoSaid :=
  OpenClaim.holds_of_cond 4 Try.f4 rfl rfl rfl rfl rfl rfl rfl ⟨rfl, rfl, rfl, rfl, rfl⟩ rfl rfl rfl rfl rfl (by kernel_rfl) Try.func4 (by kernel_rfl)
    (of_decide_eq_true (by kernel_rfl)) (by unfold Func.isWrapper; first | (rw [if_pos (by decide +kernel)]; kernel_rfl) | (rw [if_neg (by decide +kernel)]; exact ⟨rfl, rfl⟩))
    (fun os started H enc _ F => lifted os started H enc F)
#print axioms said

end Go.Proofs.Ytgjmodclgdkodaa.orderStable
