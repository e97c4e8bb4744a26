/- Every order that is made for a problem orders its terms: nothing is above itself, what is above what is above is above, what is put in, and what stands around, changes nothing, parts are below, and of two terms without variables one is above. The card: its second form: its row lists what package sign keeps of $true, tied to the program's text. -/
import Derived.Test.YthgglobfkkcdgaaGreatDoorCards
import Derived.Test.YthgglobfkkcdgaaGreatDoorTie
import Derived.Test.YthgglobfkkcdgaaGreatDoorP48S26
import Derived.Test.YthgglobfkkcdgaaGreatDoorP48S27
import Derived.Test.YthgglobfkkcdgaaGreatDoorP48S2
import Derived.LaidMore

namespace Go.Proofs.YthgglobfkkcdgaaGreatDoor.topOrders

open Go.ChangeShapes Go.WideShapes Go.ChangeAt Go.RowKit

set_option maxRecDepth 100000 in
/-- What the walk gives, for every argument that the bound lets in. -/
theorem contract (H : Type) (enc : TypeId × Value → H) (W : World) (base : Nat) (args : Array Value) (ds gs : List (DataW H)) (before : List MemPlace)
    (hval : ∀ (j : Nat) t v, Tryz.f3.params[j]? = some t → args[j]? = some v → Value.okWide Tryz.prog W .any base t v)
    (hW : DataW.Whole enc Tryz.prog Tryz.f3.params.toList Rows.topOrdersSpec.vars false W args.toList ds gs before)
    (hsz : (DataW.weightsEach Tryz.prog (Tryz.f3.params.toList ++ (Rows.OpenSpec.upto Rows.topOrdersSpec).bare.plain.varTypes Tryz.prog) (ds ++ gs)).all (· ≤ reachBytes) = true) (ht : tru W) (hk : Rows.uptoBulkAll (ds ++ gs) ≤ 1048576) :
    Calls Tryz.prog 3 args W fun e W' => ∃ v, e = .returned v ∧ Rows.topOrdersSpec.post enc Tryz.prog Tryz.f3 false true false false W args v W' := by
  have hW' := hW
  obtain ⟨p, q, hA0, hV, rfl, hfz, hnd⟩ := hW
  have hA : DataW.TrodAll enc Tryz.prog W 0 (fun _ => true) true Tryz.f3.params.toList args.toList ds p := hA0
  rw [Tryz.params3] at hA hval hsz
  obtain ⟨v0, v1, v2, v3, v4, v5, v6, d0, d1, d2, d3, d4, d5, d6, p0, p1, p2, p3, p4, p5, p6, rfl, rfl, rfl, h0, h1, h2, h3, h4, h5, h6⟩ := trodAll_seven hA
  obtain ⟨rfl, rfl⟩ := trodVars_none hV
  simp only [List.append_nil, Rows.uptoBulkAll] at hk
  obtain ⟨As, n, cs, sy, rfl, hS, hd⟩ := open_sig (hval 0 24 v0 rfl rfl) h0
  have hbn := sig_bulk hd
  obtain ⟨cl, Aq, cq, rfl, hC, hzc⟩ := open_clauses (hval 1 25 v1 rfl rfl) h1
  obtain ⟨lpo, top, b, wb, rfl⟩ := open_way (hval 2 29 v2 rfl rfl) h2
  obtain ⟨x, A, c, rfl, ix, kx, zx⟩ := openk_term (hval 3 32 v3 rfl rfl) h3
  obtain ⟨y, A2, c2, rfl, iy, ky, zy⟩ := openk_term (hval 4 32 v4 rfl rfl) h4
  obtain ⟨z, A3, c3, rfl, iz, kz, zz⟩ := openk_term (hval 5 32 v5 rfl rfl) h5
  obtain ⟨l, C, cc, rfl, hP, hzp, hlp⟩ := open_substN (hval 6 34 v6 rfl rfl) h6
  obtain rfl := hS.len
  refine (topOrders_of sy cl b wb lpo top x y z l As Aq A A2 A3 C cs cq c c2 c3 cc W hS (by omega) ht hC (by omega) ⟨ix, kx⟩ ⟨iy, ky⟩ ⟨iz, kz⟩ (by omega) (by omega) (by omega) hP (fun u hu => by have := hzp u hu; omega) (by omega)).mono fun e W' ⟨he, hb⟩ => ?_
  subst he
  exact ⟨_, rfl, law_post laidOut rfl (by kernel_rfl) Tryz.underlying4 (by kernel_rfl) hW' rfl hb⟩

theorem laid_met (os : Os) : laidMet Tryz.prog Rows.topOrdersUptoRow.laid ((World.doorLaid Tryz.prog 400 os).forCall (fun _ _ => 0) ⟨#[], #[.agg #[.slice none 0 0], .slice none 0 0, .agg #[.bool false, .int .i64 0, .int .i64 0, .bool false], .agg #[.int .i64 0, .slice none 0 0], .agg #[.int .i64 0, .slice none 0 0], .agg #[.int .i64 0, .slice none 0 0], .slice none 0 0], []⟩).memory :=
  laidMet_of_run' 8 (by kernel_rfl) (by kernel_rfl)

theorem reads (os : Os) {H : Type} (enc : TypeId × Value → H) : ∃ places, DataW.whole enc Tryz.prog ((World.doorLaid Tryz.prog 400 os).forCall (fun _ _ => 0) ⟨#[], #[.agg #[.slice none 0 0], .slice none 0 0, .agg #[.bool false, .int .i64 0, .int .i64 0, .bool false], .agg #[.int .i64 0, .slice none 0 0], .agg #[.int .i64 0, .slice none 0 0], .agg #[.int .i64 0, .slice none 0 0], .slice none 0 0], []⟩).memory Tryz.f3.params.toList Rows.topOrdersSpec.vars false #[Value.agg #[.slice none 0 0], .slice none 0 0, .agg #[.bool false, .int .i64 0, .int .i64 0, .bool false], .agg #[.int .i64 0, .slice none 0 0], .agg #[.int .i64 0, .slice none 0 0], .agg #[.int .i64 0, .slice none 0 0], .slice none 0 0].toList 8 = some ([.agg [.nil], .nil, .agg [.lit (.bool false), .lit (.int .i64 0), .lit (.int .i64 0), .lit (.bool false)], .agg [.lit (.int .i64 0), .nil], .agg [.lit (.int .i64 0), .nil], .agg [.lit (.int .i64 0), .nil], .nil], [], places) :=
  ⟨[], by kernel_rfl⟩

set_option maxRecDepth 100000 in
theorem lifted (os : Os) (started : os.Started) (H : Type) (enc : TypeId × Value → H) (F : Stop.Interp) :
    ReturnsInHanded {} Tryz.checked os 3 .any ((Rows.OpenSpec.upto Rows.topOrdersSpec).preRow enc Tryz.prog Tryz.f3 Rows.topOrdersUptoRow.domain false Rows.topOrdersUptoRow.laid) (((Rows.OpenSpec.upto Rows.topOrdersSpec).at F).post enc Tryz.prog Tryz.f3 false true false false) := by
  obtain ⟨places, hx⟩ := reads os enc
  refine returnsInHanded_of_row (C := Tryz.checked) (s := Rows.OpenSpec.upto Rows.topOrdersSpec) own started (by kernel_rfl) Tryz.func3
    (witness_row_at (enc := enc) (C := Tryz.checked) false (World.doorLaid Tryz.prog 400 os) #[.agg #[.slice none 0 0], .slice none 0 0, .agg #[.bool false, .int .i64 0, .int .i64 0, .bool false], .agg #[.int .i64 0, .slice none 0 0], .agg #[.int .i64 0, .slice none 0 0], .agg #[.int .i64 0, .slice none 0 0], .slice none 0 0] rfl (by kernel_rfl) (by kernel_rfl) (by kernel_rfl)
      (OpenSpec.preRow_of_cond 8 hx (by kernel_rfl) (fun k hk => by cases hk; kernel_rfl) (by kernel_rfl) (laid_met os))) ?_
  intro W base args ds gs before hval hW _ hcond hsz hL _ _
  exact contract H enc W base args ds gs before hval hW hsz (tru_of_laid hL) (of_decide_eq_true (hcond _ rfl))

theorem said : Rows.TopOrdersUptoSaid :=
  OpenClaim.holds_of_cond 3 Tryz.f3 rfl rfl rfl rfl rfl rfl rfl ⟨rfl, rfl, rfl, rfl, rfl⟩ rfl rfl rfl rfl rfl (by kernel_rfl) Tryz.func3 (by kernel_rfl)
    (of_decide_eq_true (by kernel_rfl)) (by unfold Func.isWrapper; first | (rw [if_pos (by decide +kernel)]; kernel_rfl) | (rw [if_neg (by decide +kernel)]; exact ⟨rfl, rfl⟩))
    (fun os started H enc _ F => by rw [OpenClaim.pre_eq_preRow]; exact lifted os started H enc F)

theorem plain (f : FuncId) (fn : Func) (hf : Tryz.pinned.checked.prog.funcNamed "syllogism/syllogismtop.TopOrders" = some f) (hfn : Tryz.pinned.checked.prog.funcs[f]? = some fn) :
    false = Tryz.pinned.checked.prog.looks [] ∧ ∀ (j : Nat) t, fn.params[j]? = some t → Tryz.pinned.checked.prog.wantsStandIn t = false := by
  obtain rfl : f = 3 := Option.some.inj ((show Tryz.prog.funcNamed "syllogism/syllogismtop.TopOrders" = some 3 by kernel_rfl).symm.trans hf) |>.symm
  obtain rfl : fn = Tryz.f3 := (Option.some.inj (Tryz.func3.symm.trans hfn)).symm
  refine ⟨by kernel_rfl, fun j t ht => ?_⟩
  rw [Tryz.params3] at ht
  have hm : t ∈ [24, 25, 29, 32, 32, 32, 34] := by simpa using Array.mem_of_getElem? ht
  have hall : ([24, 25, 29, 32, 32, 32, 34].all fun u => !Tryz.prog.wantsStandIn u) = true := by kernel_rfl
  exact (show Tryz.prog.wantsStandIn t = false by simpa using List.all_eq_true.1 hall t hm)

theorem card : Rows.TopOrdersUptoCardSaid :=
  Claim7.holds_tied_plain_at .later [] _ _ _ _ said (fun _ h => by cases h) (by kernel_rfl) (fun _ h => by cases h) topOrdersUpto_row_tie rfl ⟨rfl, rfl⟩ (by kernel_rfl) rfl plain (by kernel_rfl)
#print axioms card

end Go.Proofs.YthgglobfkkcdgaaGreatDoor.topOrders
