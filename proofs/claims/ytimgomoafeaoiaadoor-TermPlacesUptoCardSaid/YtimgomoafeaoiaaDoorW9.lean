/- Maps from symbols to numbers, of the call's own. -/
import Derived.Test.YtimgomoafeaoiaaDoorW6
import Derived.Maps.OwnIn
import Derived.DeepKeys5
namespace Go.Proofs.YtimgomoafeaoiaaDoor
open Go.RowKit Go.Maps
set_option maxRecDepth 20000

theorem laidOut : laidOutB Tryd.prog = true := by kernel_rfl
theorem symLaw : Keyed Tryd.prog 59 := Keyed.of_law (deep_law_gate laidOut (by decide +kernel) (by decide +kernel) (by kernel_rfl) (by kernel_rfl))
def Sm.val (x : Sm) : Value := .agg #[.string x.name, .int .i64 x.arity, .bool x.pred]
theorem keyOf_sym {x : Sm} (hx : x.Ok) : ∃ kl, keyOf Tryd.prog 59 x.val = some kl := by
  have hT : Tryd.prog.keyType 59 = true := by kernel_rfl
  obtain ⟨m, hm⟩ : ∃ m, Tryd.prog.types.size + 1 = m + 1 + 1 := ⟨Tryd.prog.types.size - 1, by
    have : 0 < Tryd.prog.types.size := by decide +kernel
    omega⟩
  have hC : Tryd.prog.cellsOf 59 = 3 := by kernel_rfl
  have hC1 : Tryd.prog.cellsOf 9 = 1 := by kernel_rfl
  have hC2 : Tryd.prog.cellsOf 3 = 1 := by kernel_rfl
  have hC3 : Tryd.prog.cellsOf 4 = 1 := by kernel_rfl
  have hs := hx.size
  have hw : (Lit.int .i64 x.arity).wf = true := WalkArith.wf_i64 ⟨hx.lo, hx.hi⟩
  refine ⟨.string (keyBytes [.string x.name.data.toList, .int .i64 x.arity, .bool x.pred]), ?_⟩
  simp only [keyOf, Tryd.underlying59, hT, hm, Sm.val, Value.formed, hC]
  simp [Program.keyLits, Tryd.underlying59, hC, hC1, hC2, hC3, Value.cells, Tryd.underlying9, Tryd.underlying3, Tryd.underlying4, hs, hw]

/-- Block b of w is a map of at most n entries that holds, at each symbol that may be, what f tells. -/
def SMap (w : World) (b n : Nat) (f : Sm → Option Int) : Prop :=
  ∃ D : DataW Unit, w.ownsMap Tryd.prog 59 (plainElem Tryd.prog 3) b n D ∧ ∀ x kl, keyOf Tryd.prog 59 (Sm.val x) = some kl → ∀ z, D.atKey kl z = match f x with | some i => .lit (.int .i64 i) | none => z
theorem SMap.made (w : World) : SMap (w.alloc (.map #[] 0)) w.heap.size 0 (fun _ => none) :=
  ⟨_, World.ownsMap_made w _ _ _, fun _ _ _ _ => rfl⟩
theorem SMap.lt {w : World} {b n : Nat} {f : Sm → Option Int} (h : SMap w b n f) : b < w.heap.size := h.elim fun _ h => h.1.lt
theorem SMap.kept {w w' : World} {b n : Nat} {f : Sm → Option Int} (h : SMap w b n f) (hk : w'.heap[b]? = w.heap[b]?) : SMap w' b n f := by
  obtain ⟨D, ⟨es, clock, hb, F, hs, hD⟩, hat⟩ := h
  exact ⟨D, ⟨es, clock, hk.trans hb, F, hs, hD⟩, hat⟩
theorem SMap.below {w w' : World} {b n : Nat} {f : Sm → Option Int} (h : SMap w b n f) (hb : Below w.heap.size w w') : SMap w' b n f := h.kept (hb.block b h.lt)

theorem zeroInt (w : World) : (zeroValue 3).run Tryd.prog w = .ok (.int .i64 0) w := by kernel_rfl
theorem SMap.look {w : World} {b n : Nat} {f : Sm → Option Int} (h : SMap w b n f) {x : Sm} (hx : x.Ok) :
    (Instr.lookup 72 (.map (some b)) (.agg #[.string x.name, .int .i64 x.arity, .bool x.pred]) false).run Tryd.prog w = .ok (.int .i64 ((f x).getD 0)) w := by
  obtain ⟨D, hown, hat⟩ := h
  obtain ⟨kl, hk⟩ := keyOf_sym hx
  obtain ⟨c, hrun, hc, _⟩ := hown.lookup_int symLaw Tryd.underlying72 Tryd.underlying3 (zeroInt w) hk
  have := hat x kl hk (.lit (.int .i64 0))
  rw [hc] at this
  cases hf : f x with
  | none => rw [hf] at this; injection this with this; injection this with _ this; subst this; exact hrun
  | some i => rw [hf] at this; injection this with this; injection this with _ this; subst this; exact hrun
theorem SMap.look_ok {w : World} {b n : Nat} {f : Sm → Option Int} (h : SMap w b n f) {x : Sm} (hx : x.Ok) :
    (Instr.lookup 72 (.map (some b)) (.agg #[.string x.name, .int .i64 x.arity, .bool x.pred]) true).run Tryd.prog w = .ok (.tuple #[.int .i64 ((f x).getD 0), .bool (f x).isSome]) w := by
  obtain ⟨D, hown, hat⟩ := h
  obtain ⟨kl, hk⟩ := keyOf_sym hx
  obtain ⟨v, ps, hrun, hv⟩ := hown.look_ok symLaw Tryd.underlying72 (zeroInt w) (plainElem_int Tryd.underlying3 (by decide)) hk
  obtain ⟨c, rfl, hc, _⟩ := plainElem_int_inv Tryd.underlying3 hv
  have e := hat x kl hk
  have e0 := e (.lit (.int .i64 0))
  have hc' := congrArg Prod.fst hc
  simp only at hc'
  rw [hc'] at e0
  cases hf : f x with
  | none =>
    rw [hf] at e0 e
    injection e0 with e0; injection e0 with _ e0; subst e0
    rw [has_false_of_atKey (fun z => e z)] at hrun
    exact hrun
  | some i =>
    rw [hf] at e0 e
    injection e0 with e0; injection e0 with _ e0; subst e0
    rw [has_true_of_atKey (fun z => e z)] at hrun
    exact hrun

def updS (f : Sm → Option Int) (x : Sm) (i : Int) : Sm → Option Int := fun y => if y = x then some i else f y
theorem SMap.of_put {w : World} {b n : Nat} {D : DataW Unit} {f : Sm → Option Int} {x : Sm} {kl : Lit} {i : Int} {w0 : World} {n0 : Nat} (h0 : w0.ownsMap Tryd.prog 59 (plainElem Tryd.prog 3) b n0 D)
    (hat : ∀ x kl, keyOf Tryd.prog 59 (Sm.val x) = some kl → ∀ z, D.atKey kl z = match f x with | some i => .lit (.int .i64 i) | none => z)
    (hk : keyOf Tryd.prog 59 (Sm.val x) = some kl) (h : w.ownsMap Tryd.prog 59 (plainElem Tryd.prog 3) b n (D.put kl (.lit (.int .i64 i)))) : SMap w b n (updS f x i) := by
  refine ⟨_, h, fun y ky hy z => ?_⟩
  by_cases e : y = x
  · subst e
    rw [hk] at hy
    injection hy with hy
    subst hy
    rw [atKey_put_same h0.isMap (symLaw.key hk)]
    simp [updS]
  · have hne : ky ≠ kl := by
      rintro rfl
      have := symLaw.inj hy hk
      simp only [Sm.val, Value.agg.injEq] at this
      simp at this
      exact e (sm_ext this)
    rw [atKey_put_other hne, hat y ky hy z]
    simp [updS, e]

theorem wpListIn_put {F : Fence} {nF : Nat} {w : World} {ops : Array Oper} {rest : List Oper} {o : Oper} {a : Act} {Q : Exit → Act → World → Prop} (hg : o.guard = none) (m x v : Operand) (hop : o.op = Op.mapUpdate 72 m x v)
    (b n : Nat) (f : Sm → Option Int) (hm : a.eval m = .map (some b)) (h : SMap w b n f) (hn : n < maxLen) (y : Sm) (hy : y.Ok) (i : Int) (hi : (Lit.int .i64 i).wf = true)
    (hx : a.eval x = .agg #[.string y.name, .int .i64 y.arity, .bool y.pred]) (hv : a.eval v = .int .i64 i)
    (hK : ∀ w', SMap w' b (n + 1) (updS f y i) → w.grownBy w' (some b) → wpListIn F nF Tryd.prog ops Q rest (a.put o.dst undef) w') : wpListIn F nF Tryd.prog ops Q (o :: rest) a w := by
  obtain ⟨D, hown, hat⟩ := h
  obtain ⟨kl, hk⟩ := keyOf_sym hy
  exact wpListIn_mapUpdate_own w hg m x v 72 hop 59 3 symLaw Tryd.underlying72 _ b n D hm hown hn _ _ kl hx hv hk _ [] (plainElem_int Tryd.underlying3 hi)
    fun w' h1 h2 => hK w' (SMap.of_put hown hat hk h1) h2
theorem wpList_put {w : World} {ops : Array Oper} {rest : List Oper} {o : Oper} {a : Act} {Q : Exit → Act → World → Prop} (hg : o.guard = none) (m x v : Operand) (hop : o.op = Op.mapUpdate 72 m x v)
    (b n : Nat) (f : Sm → Option Int) (hm : a.eval m = .map (some b)) (h : SMap w b n f) (hn : n < maxLen) (y : Sm) (hy : y.Ok) (i : Int) (hi : (Lit.int .i64 i).wf = true)
    (hx : a.eval x = .agg #[.string y.name, .int .i64 y.arity, .bool y.pred]) (hv : a.eval v = .int .i64 i)
    (hK : ∀ w', SMap w' b (n + 1) (updS f y i) → w.grownBy w' (some b) → wpList Tryd.prog ops Q rest (a.put o.dst undef) w') : wpList Tryd.prog ops Q (o :: rest) a w := by
  obtain ⟨D, hown, hat⟩ := h
  obtain ⟨kl, hk⟩ := keyOf_sym hy
  exact wpList_mapUpdate_own w hg m x v 72 hop 59 3 symLaw Tryd.underlying72 _ b n D hm hown hn _ _ kl hx hv hk _ [] (plainElem_int Tryd.underlying3 hi)
    fun w' h1 h2 => hK w' (SMap.of_put hown hat hk h1) h2
end Go.Proofs.YtimgomoafeaoiaaDoor
