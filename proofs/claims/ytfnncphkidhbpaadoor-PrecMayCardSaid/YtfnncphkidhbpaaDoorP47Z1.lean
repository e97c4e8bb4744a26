import Derived.Test.YtfnncphkidhbpaaDoorP43Z5
import Derived.RangeFuncNested
import Derived.RangeFuncBox
import Derived.RangeFuncLeaves
import Derived.Shelf.Abstract
import Derived.OwnWalkIn
import Derived.TacticsInMore
import Derived.LoopNIn
import Derived.LoopIn
import Derived.Maps.OwnIn
import Derived.DeepKeys5
import Derived.Test.YtfnncphkidhbpaaDoorP43Z2
import Derived.Test.YtfnncphkidhbpaaDoorP43Z1
import Derived.Test.YtfnncphkidhbpaaDoorP43Z4
import Derived.Sort.CutIn
import Derived.ProofKit
import Derived.SizedLaws
import Derived.Deep.Slices
import Derived.Carry
import Derived.Test.YtfnncphkidhbpaaDoorRows
/- slices.Backward at symbols: the iterator's contract. -/

namespace Go.Proofs.YtfnncphkidhbpaaDoor

open Go.RowKit Go.Shelf
attribute [local go_sem] Oper.semAt_some

/-- A place and a symbol, both as they may be. -/
abbrev IxSm := { p : Nat × Sm // p.2.Ok ∧ p.1 ≤ 9223372036854775807 }

def ixV (x : IxSm) : Array Value := #[.int .i64 (x.1.1 : Int), .agg #[.string x.1.2.name, .int .i64 x.1.2.arity, .bool x.1.2.pred]]

/-- All cells that are there stay as they are. -/
def CK (A B : World) : Prop := ∀ p v, A.cell? p = some v → B.cell? p = some v

theorem CK.refl (A : World) : CK A A := fun _ _ h => h

theorem CK.trans {A B C : World} (h : CK A B) (k : CK B C) : CK A C := fun p v e => k p v (h p v e)

theorem ck_put {w : World} (W : World) (l : Nat) (o o' : Obj) (_ : w.heap.size ≤ l) (h : W.heap[l]? = some o) (hc : o.isCells = false) (_ : o.isWalk = false) : CK W (W.putObj l o') := by
  intro p v e
  by_cases hp : p.block = l
  · exfalso
    unfold World.cell? at e
    rw [hp, h] at e
    cases o <;> simp [Obj.isCells] at hc e
  · rw [← e]
    exact World.cell?_of_block ((grownBy_putObj' W l o').block p.block (by
      unfold World.cell? at e
      rcases Nat.lt_or_ge p.block W.heap.size with h1 | h1
      · exact h1
      · rw [Array.getElem?_eq_none h1] at e; cases e) (by simpa using hp))

/-- The places of l from the last one on. -/
structure Backs (l : List Sm) (zs : List IxSm) : Prop where
  len : zs.length = l.length
  at_ : ∀ j (x : IxSm), zs[j]? = some x → x.1.1 = l.length - 1 - j ∧ l[l.length - 1 - j]? = some x.1.2

theorem backs_of (l : List Sm) (hok : ∀ x ∈ l, x.Ok) (hl : l.length ≤ 9223372036854775807) : ∃ zs, Backs l zs := by
  refine ⟨List.ofFn fun j : Fin l.length => ⟨(l.length - 1 - j, l[l.length - 1 - j]'(by omega)), ⟨hok _ (List.getElem_mem _), by simp; omega⟩⟩, by simp, fun j x hx => ?_⟩
  rw [List.getElem?_ofFn] at hx
  split at hx
  · rename_i hj
    injection hx with hx
    subst hx
    exact ⟨rfl, List.getElem?_eq_getElem _⟩
  · cases hx

set_option maxRecDepth 100000 in
set_option maxHeartbeats 2000000 in
theorem back1_in (F : Fence) (n : Nat) (hf : F.fn 78) (hro : F.round = none) (hn : 1 ≤ n) (l Bs : Nat) (A : Option Addr) (c B : Nat) (L : List Sm) (hL : L.length * 32 ≤ 140737488351232) (zs : List IxSm) (hz : Backs L zs) (J Jx : List IxSm → World → Prop)
    (hY : ∀ pre x W, J pre W → pre.length < zs.length → YieldAt F (n - 1) Tryd.prog l (ixV x) W fun e W' =>
      (e = .returned (.bool true) ∧ J (pre ++ [x]) W' ∧ CK W W') ∨ (e = .returned (.bool false) ∧ Jx (pre ++ [x]) W'))
    (W : World) (hBs : W.cell? ⟨Bs, 0, none⟩ = some (.slice A L.length c)) (hS : Syms W B A L.length L) (h0 : J [] W) :
    CallsIn F n Tryd.prog 78 #[.func (.yield l) #[] #[], .pointer (some ⟨Bs, 0, none⟩)] W fun e W' => (∃ v, e = .returned v) ∧
      ((∃ ys, ys = zs ∧ J ys W') ∨ (∃ pre, pre <+: zs ∧ Jx pre W')) := by
  refine callsIn_of_wp Tryd.func78 rfl hf ?_ hro
  simp only [Tryd.ntmps78, List.size_toArray, List.length_cons, List.length_nil, Nat.reduceAdd, Nat.reduceSub, Array.replicate_succ, Array.replicate_zero, List.push_toArray, List.append_toArray, List.nil_append, List.cons_append]
  have hz1 := hz.len
  gi_wp2
  gi_loopw [3] (fun i wr => ∃ k : Nat, k ≤ L.length ∧ i = .int .i64 ((L.length : Int) - 1 - k) ∧ J (zs.take k) wr ∧ CK W wr)
    (fun i _ => (intOf i + 1).toNat)
  case atStart => exact ⟨0, Nat.zero_le _, by simp, by simpa using h0, CK.refl _⟩
  case round =>
    obtain ⟨k, hk, rfl, hJs, hck⟩ := hrel
    have hb1 := hck _ _ hBs
    by_cases hlt : k < L.length
    · obtain ⟨x, hx⟩ : ∃ x, zs[k]? = some x := ⟨_, List.getElem?_eq_getElem (by omega)⟩
      obtain ⟨hx1, hx2⟩ := hz.at_ k x hx
      obtain ⟨b, off, rfl, hb, hc⟩ := hS.ad (by omega)
      obtain ⟨c1, c2, c3⟩ := hc _ _ hx2
      rw [← hx1] at c1 c2 c3
      have d1 := hck _ _ c1
      have d2 := hck _ _ c2
      have d3 := hck _ _ c3
      have hts : zs.take (k + 1) = zs.take k ++ [x] := by rw [List.take_add_one, hx]; rfl
      obtain ⟨fn, tmps, assign, body, hy, hR⟩ := hY _ x wr hJs (by rw [List.length_take]; omega)
      have hlo : (0 : Int) ≤ (L.length : Int) - 1 - k := by omega
      have hidx : (L.length : Int) - 1 - k = (x.1.1 : Int) := by omega
      have hxl : x.1.1 < L.length := by omega
      simp only [ixV] at hy
      have Hts := Lib.hid hts
      have Hx := Lib.hid (And.intro hx1 hx2)
      have Hz := Lib.hid hz1
      clear hts hx1 hx2 hx hc c1 c2 c3 hz1 hz hS hY
      rw [hidx]
      have Hi := Lib.hid hidx
      clear hidx hlo
      gi_wp2
      refine hR.mono ?_
      rintro e W3 (⟨rfl, hJ3, hk3⟩ | ⟨rfl, hJx3⟩)
      · gi_wp2
        go_roundw
        case rel => exact ⟨k + 1, by omega, by rw [show (L.length : Int) - 1 - ((k + 1 : Nat) : Int) = (x.1.1 : Int) - 1 from by have := Hi.out; omega], by rw [Hts.out]; exact hJ3, hck.trans hk3⟩
        case measure => simp [intOf]
      · gi_wp2
        refine bodyPost_ret (results_none rfl _ _ _) rfl ?_
        exact ⟨⟨_, rfl⟩, .inr ⟨_, ⟨zs.drop (k + 1), by rw [← Hts.out, List.take_append_drop]⟩, hJx3⟩⟩
    · have : k = L.length := by omega
      subst this
      gi_wp2
      go_end0
      exact ⟨⟨_, rfl⟩, .inl ⟨_, by rw [List.take_of_length_le (by omega)], hJs⟩⟩

set_option maxHeartbeats 1000000 in
theorem back_in (F : Fence) (n : Nat) (hf : F.fn 56) (hro : F.round = none) (a : Option Addr) (len cap : Nat) (w : World) :
    CallsIn F n Tryd.prog 56 #[.slice a len cap] w fun e w' => e = .returned (.func (.func 78) #[] #[.pointer (some ⟨w.heap.size, 0, none⟩)]) ∧ w' = w.alloc (.cells #[.slice a len cap] 27) := by
  refine callsIn_of_wp Tryd.func56 rfl hf ?_ hro
  simp only [Tryd.ntmps56, List.size_toArray, List.length_cons, List.length_nil, Nat.reduceAdd, Nat.reduceSub, Array.replicate_succ, Array.replicate_zero, List.push_toArray, List.append_toArray, List.nil_append, List.cons_append]
  gi_wp2
  go_ret
  exact ⟨rfl, rfl⟩

theorem back_stops (F : Fence) (n : Nat) (hf : F.fn 78) (hro : F.round = none) (hn : 1 ≤ n) (Bs : Nat) (A : Option Addr) (c B : Nat) (L : List Sm) (hL : L.length * 32 ≤ 140737488351232) (zs : List IxSm) (hz : Backs L zs) (w : World) (hlt : Bs < w.heap.size) (hB : B ≤ w.heap.size)
    (hBs : w.cell? ⟨Bs, 0, none⟩ = some (.slice A L.length c)) (hS : Syms w B A L.length L) :
    SeqStopsK F n Tryd.prog 78 #[.pointer (some ⟨Bs, 0, none⟩)] ixV CK (fun ys => ys = zs) (fun pre => pre <+: zs) zs.length w := fun l J Jx W hW _ _ hY h0 =>
  back1_in F n hf hro hn l Bs A c B L hL zs hz J Jx hY W ((hW.cell (p := ⟨Bs, 0, none⟩) hlt).trans hBs) (hS.below (hW.mono hB)) h0

end Go.Proofs.YtfnncphkidhbpaaDoor

/- Maps from symbols to numbers, of the call's own. -/

namespace Go.Proofs.YtfnncphkidhbpaaDoor

open Go.RowKit Go.Maps
set_option maxRecDepth 20000

theorem laidOut : laidOutB Tryd.prog = true := by kernel_rfl

theorem symLaw : Keyed Tryd.prog 62 := Keyed.of_law (deep_law_gate laidOut (by decide +kernel) (by decide +kernel) (by kernel_rfl) (by kernel_rfl))

def Sm.val (x : Sm) : Value := .agg #[.string x.name, .int .i64 x.arity, .bool x.pred]

theorem keyOf_sym {x : Sm} (hx : x.Ok) : ∃ kl, keyOf Tryd.prog 62 x.val = some kl := by
  have hT : Tryd.prog.keyType 62 = true := by kernel_rfl
  obtain ⟨m, hm⟩ : ∃ m, Tryd.prog.types.size + 1 = m + 1 + 1 := ⟨Tryd.prog.types.size - 1, by
    have : 0 < Tryd.prog.types.size := by decide +kernel
    omega⟩
  have hC : Tryd.prog.cellsOf 62 = 3 := by kernel_rfl
  have hC1 : Tryd.prog.cellsOf 9 = 1 := by kernel_rfl
  have hC2 : Tryd.prog.cellsOf 3 = 1 := by kernel_rfl
  have hC3 : Tryd.prog.cellsOf 4 = 1 := by kernel_rfl
  have hs := hx.size
  have hw : (Lit.int .i64 x.arity).wf = true := WalkArith.wf_i64 ⟨hx.lo, hx.hi⟩
  refine ⟨.string (keyBytes [.string x.name.data.toList, .int .i64 x.arity, .bool x.pred]), ?_⟩
  simp only [keyOf, Tryd.underlying62, hT, hm, Sm.val, Value.formed, hC]
  simp [Program.keyLits, Tryd.underlying62, hC, hC1, hC2, hC3, Value.cells, Tryd.underlying9, Tryd.underlying3, Tryd.underlying4, hs, hw]

/-- Block b of w is a map of at most n entries that holds, at each symbol that may be, what f tells. -/
def SMap (w : World) (b n : Nat) (f : Sm → Option Int) : Prop :=
  ∃ D : DataW Unit, w.ownsMap Tryd.prog 62 (plainElem Tryd.prog 3) b n D ∧ ∀ x kl, keyOf Tryd.prog 62 (Sm.val x) = some kl → ∀ z, D.atKey kl z = match f x with | some i => .lit (.int .i64 i) | none => z

theorem SMap.made (w : World) : SMap (w.alloc (.map #[] 0)) w.heap.size 0 (fun _ => none) :=
  ⟨_, World.ownsMap_made w _ _ _, fun _ _ _ _ => rfl⟩

theorem SMap.lt {w : World} {b n : Nat} {f : Sm → Option Int} (h : SMap w b n f) : b < w.heap.size := h.elim fun _ h => h.1.lt

theorem SMap.kept {w w' : World} {b n : Nat} {f : Sm → Option Int} (h : SMap w b n f) (hk : w'.heap[b]? = w.heap[b]?) : SMap w' b n f := by
  obtain ⟨D, ⟨es, clock, hb, F, hs, hD⟩, hat⟩ := h
  exact ⟨D, ⟨es, clock, hk.trans hb, F, hs, hD⟩, hat⟩

theorem SMap.below {w w' : World} {b n : Nat} {f : Sm → Option Int} (h : SMap w b n f) (hb : Below w.heap.size w w') : SMap w' b n f := h.kept (hb.block b h.lt)

theorem zeroInt (w : World) : (zeroValue 3).run Tryd.prog w = .ok (.int .i64 0) w := by kernel_rfl

theorem SMap.look {w : World} {b n : Nat} {f : Sm → Option Int} (h : SMap w b n f) {x : Sm} (hx : x.Ok) :
    (Instr.lookup 79 (.map (some b)) (.agg #[.string x.name, .int .i64 x.arity, .bool x.pred]) false).run Tryd.prog w = .ok (.int .i64 ((f x).getD 0)) w := by
  obtain ⟨D, hown, hat⟩ := h
  obtain ⟨kl, hk⟩ := keyOf_sym hx
  obtain ⟨c, hrun, hc, _⟩ := hown.lookup_int symLaw Tryd.underlying79 Tryd.underlying3 (zeroInt w) hk
  have := hat x kl hk (.lit (.int .i64 0))
  rw [hc] at this
  cases hf : f x with
  | none => rw [hf] at this; injection this with this; injection this with _ this; subst this; exact hrun
  | some i => rw [hf] at this; injection this with this; injection this with _ this; subst this; exact hrun

theorem SMap.look_ok {w : World} {b n : Nat} {f : Sm → Option Int} (h : SMap w b n f) {x : Sm} (hx : x.Ok) :
    (Instr.lookup 79 (.map (some b)) (.agg #[.string x.name, .int .i64 x.arity, .bool x.pred]) true).run Tryd.prog w = .ok (.tuple #[.int .i64 ((f x).getD 0), .bool (f x).isSome]) w := by
  obtain ⟨D, hown, hat⟩ := h
  obtain ⟨kl, hk⟩ := keyOf_sym hx
  obtain ⟨v, ps, hrun, hv⟩ := hown.look_ok symLaw Tryd.underlying79 (zeroInt w) (plainElem_int Tryd.underlying3 (by decide)) hk
  obtain ⟨c, rfl, hc, _⟩ := plainElem_int_inv Tryd.underlying3 hv
  have e := hat x kl hk
  have e0 := e (.lit (.int .i64 0))
  have hc' := congrArg Prod.fst hc
  simp only at hc'
  rw [hc'] at e0
  cases hf : f x with
  | none =>
    rw [hf] at e0 e
    injection e0 with e0; injection e0 with _ e0; subst e0
    rw [has_false_of_atKey (fun z => e z)] at hrun
    exact hrun
  | some i =>
    rw [hf] at e0 e
    injection e0 with e0; injection e0 with _ e0; subst e0
    rw [has_true_of_atKey (fun z => e z)] at hrun
    exact hrun

def updS (f : Sm → Option Int) (x : Sm) (i : Int) : Sm → Option Int := fun y => if y = x then some i else f y

theorem SMap.of_put {w : World} {b n : Nat} {D : DataW Unit} {f : Sm → Option Int} {x : Sm} {kl : Lit} {i : Int} {w0 : World} {n0 : Nat} (h0 : w0.ownsMap Tryd.prog 62 (plainElem Tryd.prog 3) b n0 D)
    (hat : ∀ x kl, keyOf Tryd.prog 62 (Sm.val x) = some kl → ∀ z, D.atKey kl z = match f x with | some i => .lit (.int .i64 i) | none => z)
    (hk : keyOf Tryd.prog 62 (Sm.val x) = some kl) (h : w.ownsMap Tryd.prog 62 (plainElem Tryd.prog 3) b n (D.put kl (.lit (.int .i64 i)))) : SMap w b n (updS f x i) := by
  refine ⟨_, h, fun y ky hy z => ?_⟩
  by_cases e : y = x
  · subst e
    rw [hk] at hy
    injection hy with hy
    subst hy
    rw [atKey_put_same h0.isMap (symLaw.key hk)]
    simp [updS]
  · have hne : ky ≠ kl := by
      rintro rfl
      have := symLaw.inj hy hk
      simp only [Sm.val, Value.agg.injEq] at this
      simp at this
      exact e (sm_ext this)
    rw [atKey_put_other hne, hat y ky hy z]
    simp [updS, e]

theorem wpListIn_put {F : Fence} {nF : Nat} {w : World} {ops : Array Oper} {rest : List Oper} {o : Oper} {a : Act} {Q : Exit → Act → World → Prop} (hg : o.guard = none) (m x v : Operand) (hop : o.op = Op.mapUpdate 79 m x v)
    (b n : Nat) (f : Sm → Option Int) (hm : a.eval m = .map (some b)) (h : SMap w b n f) (hn : n < maxLen) (y : Sm) (hy : y.Ok) (i : Int) (hi : (Lit.int .i64 i).wf = true)
    (hx : a.eval x = .agg #[.string y.name, .int .i64 y.arity, .bool y.pred]) (hv : a.eval v = .int .i64 i)
    (hK : ∀ w', SMap w' b (n + 1) (updS f y i) → w.grownBy w' (some b) → wpListIn F nF Tryd.prog ops Q rest (a.put o.dst undef) w') : wpListIn F nF Tryd.prog ops Q (o :: rest) a w := by
  obtain ⟨D, hown, hat⟩ := h
  obtain ⟨kl, hk⟩ := keyOf_sym hy
  exact wpListIn_mapUpdate_own w hg m x v 79 hop 62 3 symLaw Tryd.underlying79 _ b n D hm hown hn _ _ kl hx hv hk _ [] (plainElem_int Tryd.underlying3 hi)
    fun w' h1 h2 => hK w' (SMap.of_put hown hat hk h1) h2

theorem wpList_put {w : World} {ops : Array Oper} {rest : List Oper} {o : Oper} {a : Act} {Q : Exit → Act → World → Prop} (hg : o.guard = none) (m x v : Operand) (hop : o.op = Op.mapUpdate 79 m x v)
    (b n : Nat) (f : Sm → Option Int) (hm : a.eval m = .map (some b)) (h : SMap w b n f) (hn : n < maxLen) (y : Sm) (hy : y.Ok) (i : Int) (hi : (Lit.int .i64 i).wf = true)
    (hx : a.eval x = .agg #[.string y.name, .int .i64 y.arity, .bool y.pred]) (hv : a.eval v = .int .i64 i)
    (hK : ∀ w', SMap w' b (n + 1) (updS f y i) → w.grownBy w' (some b) → wpList Tryd.prog ops Q rest (a.put o.dst undef) w') : wpList Tryd.prog ops Q (o :: rest) a w := by
  obtain ⟨D, hown, hat⟩ := h
  obtain ⟨kl, hk⟩ := keyOf_sym hy
  exact wpList_mapUpdate_own w hg m x v 79 hop 62 3 symLaw Tryd.underlying79 _ b n D hm hown hn _ _ kl hx hv hk _ [] (plainElem_int Tryd.underlying3 hi)
    fun w' h1 h2 => hK w' (SMap.of_put hown hat hk h1) h2

end Go.Proofs.YtfnncphkidhbpaaDoor

/- The numbers of symbols, as a map. -/

namespace Go.Proofs.YtfnncphkidhbpaaDoor

open Go.RowKit Go.Shelf
set_option maxRecDepth 20000
attribute [local go_sem] Oper.semAt_some

/-- What the map holds when pre has come. -/
def backF (pre : List IxSm) : Sm → Option Int := pre.foldl (fun f x => updS f x.1.2 x.1.1) (fun _ => none)

theorem backF_snoc (pre : List IxSm) (x : IxSm) : backF (pre ++ [x]) = updS (backF pre) x.1.2 x.1.1 := by simp [backF]

def firstF (l : List Sm) (y : Sm) : Option Int := if atI l y < 0 then none else some (atI l y)

theorem backF_at {l : List Sm} {zs : List IxSm} (h : Backs l zs) (y : Sm) : ∀ k, k ≤ l.length →
    (backF (zs.take k) y = none ∧ ∀ j, l.length - k ≤ j → l[j]? ≠ some y) ∨ (∃ i : Nat, backF (zs.take k) y = some (i : Int) ∧ l[i]? = some y ∧ ∀ j, l.length - k ≤ j → j < i → l[j]? ≠ some y)
  | 0, _ => .inl ⟨rfl, fun j hj => by rw [List.getElem?_eq_none (by omega)]; simp⟩
  | k + 1, hk => by
    obtain ⟨x, hx⟩ : ∃ x, zs[k]? = some x := ⟨_, List.getElem?_eq_getElem (by rw [h.len]; omega)⟩
    obtain ⟨h1, h2⟩ := h.at_ k x hx
    have hts : zs.take (k + 1) = zs.take k ++ [x] := by rw [List.take_add_one, hx]; rfl
    rw [hts, backF_snoc]
    by_cases e : y = x.1.2
    · subst e
      refine .inr ⟨x.1.1, by simp [updS], by rw [h1]; exact h2, fun j hj hlt => by omega⟩
    · have e1 : updS (backF (zs.take k)) x.1.2 x.1.1 y = backF (zs.take k) y := by simp [updS, e]
      rw [e1]
      have hnot : ∀ j, l.length - (k + 1) ≤ j → ¬ l.length - k ≤ j → l[j]? ≠ some y := fun j ha hb => by
        obtain rfl : j = l.length - 1 - k := by omega
        rw [h2]; intro he; injection he with he; exact e he.symm
      rcases backF_at h y k (by omega) with ⟨g1, g2⟩ | ⟨i, g1, g2, g3⟩
      · refine .inl ⟨g1, fun j hj => ?_⟩
        by_cases hj' : l.length - k ≤ j
        · exact g2 j hj'
        · exact hnot j hj hj'
      · refine .inr ⟨i, g1, g2, fun j hj hlt => ?_⟩
        by_cases hj' : l.length - k ≤ j
        · exact g3 j hj' hlt
        · exact hnot j hj hj'

theorem backF_all {l : List Sm} {zs : List IxSm} (h : Backs l zs) : backF zs = firstF l := by
  funext y
  have := backF_at h y l.length (Nat.le_refl _)
  rw [List.take_of_length_le (by rw [h.len]; exact Nat.le_refl _)] at this
  rcases this with ⟨h1, h2⟩ | ⟨i, h1, h2, h3⟩
  · rw [h1, firstF, atI_miss l y (fun j _ => h2 j (by omega))]
    simp
  · rw [h1, firstF, atI_hit l y i h2 (fun j hj => h3 j (by omega) hj)]
    rw [if_neg (by omega)]

/-- Block B is the symbol x. -/
def Blk3 (W : World) (B : Nat) (x : Sm) : Prop := W.heap[B]? = some (.cells #[.string x.name, .int .i64 x.arity, .bool x.pred] 62 (0, 0))

/-- make of a map with a hint of its size. -/
theorem run_makeMap_hint (k : Nat) (w : World) : (Instr.makeMap 79 (some (.int .i64 (k : Int)))).run Tryd.prog w = .ok (.map (some w.heap.size)) (w.alloc (.map #[] 0)) := by
  simp [Instr.makeMap, run_underlying Tryd.underlying79, go_sem]

theorem blk3_own {β : Type} (B : Nat) (Bx : Nat) (x : Sm) : OwnFrom (β := β) B (fun _ W => Blk3 W Bx x) := fun s W W' row hs hg hr => by
  unfold Blk3 at hs ⊢
  refine (hg.block Bx (Array.getElem?_eq_some_iff.1 hs).1 (fun e => ?_)).trans hs
  obtain ⟨_, o, ho, hc⟩ := hr _ e.symm
  rw [hs] at ho
  injection ho with ho
  subst ho
  simp [Obj.isCells] at hc

theorem smap_own (B b : Nat) (hb : b < B) : OwnFrom B (fun (pre : List IxSm) W => SMap W b pre.length (backF pre)) := fun s W W' row hs hg hr =>
  hs.kept (hg.block b hs.lt (fun e => by have := (hr _ e.symm).1; omega))

theorem Blk3.c1 {W : World} {B : Nat} {x : Sm} (h : Blk3 W B x) : W.cell? ⟨B, 0, none⟩ = some (.string x.name) := by simp [World.cell?, show W.heap[B]? = _ from h]

theorem Blk3.c2 {W : World} {B : Nat} {x : Sm} (h : Blk3 W B x) : W.cell? ⟨B, 1, none⟩ = some (.int .i64 x.arity) := by simp [World.cell?, show W.heap[B]? = _ from h]

theorem Blk3.c3 {W : World} {B : Nat} {x : Sm} (h : Blk3 W B x) : W.cell? ⟨B, 2, none⟩ = some (.bool x.pred) := by simp [World.cell?, show W.heap[B]? = _ from h]

theorem cell_lt {W : World} {p : Addr} {v : Value} (h : W.cell? p = some v) : p.block < W.heap.size := by
  unfold World.cell? at h
  rcases Nat.lt_or_ge p.block W.heap.size with h1 | h1
  · exact h1
  · rw [Array.getElem?_eq_none h1] at h; cases h

theorem ck_alloc (W : World) (o : Obj) : CK W (W.alloc o) := fun p _ h => (World.cell?_of_block (Below.heap_alloc W o p.block (cell_lt h))).trans h

theorem ck_map {W w1 : World} {b n : Nat} {f : Sm → Option Int} (h : SMap W b n f) (hg : W.grownBy w1 (some b)) : CK W w1 := fun p v hp => by
  refine (World.cell?_of_block (hg.block p.block (cell_lt hp) (fun e => ?_))).trans hp
  injection e with e
  obtain ⟨D, ⟨es, ck, hb, _⟩, _⟩ := h
  unfold World.cell? at hp
  rw [e, hb] at hp
  cases hp

set_option maxRecDepth 100000 in
set_option maxHeartbeats 2000000 in
theorem numbers_in (F : Fence) (n : Nat) (h23 : F.fn 30) (h34 : F.fn 56) (h40 : F.fn 78) (hro : F.round = none) (hn : 3 ≤ n) (A : Option Addr) (c : Nat) (L : List Sm) (hL : L.length * 32 ≤ 140737488351232) (w : World) (hS : Syms w w.heap.size A L.length L) :
    CallsIn F n Tryd.prog 30 #[.slice A L.length c] w fun e W' => e = .returned (.map (some w.heap.size)) ∧ SMap W' w.heap.size L.length (firstF L) ∧ Below w.heap.size w W' := by
  have h1 : 1 ≤ n := by omega
  have hmm := run_makeMap_hint
  obtain ⟨zs, hz⟩ := backs_of L hS.ok (by omega)
  refine callsIn_of_wp_marks Tryd.func30 rfl h23 ?_ hro
  simp only [Tryd.ntmps30, List.size_toArray, List.length_cons, List.length_nil, Nat.reduceAdd, Nat.reduceSub, Array.replicate_succ, Array.replicate_zero, List.push_toArray, List.append_toArray, List.nil_append, List.cons_append]
  gi_wp2_with (gi_at_call 56; refine (back_in F (n - 1) h34 hro _ _ _ _).mono ?_; rintro e w' ⟨rfl, rfl⟩)
  have hm0 := SMap.made w
  have bM := (Boxed.new (w.alloc (.map #[] 0)) 79 (.map (some w.heap.size))).alloc (.cells #[.slice A L.length c] 27)
  have bS := Boxed.new ((w.alloc (.map #[] 0)).alloc (.cells #[.map (some w.heap.size)] 79)) 27 (.slice A L.length c)
  simp only [World.size_alloc] at bM bS
  have hB0 : Below w.heap.size w (((w.alloc (.map #[] 0)).alloc (.cells #[.map (some w.heap.size)] 79)).alloc (.cells #[.slice A L.length c] 27)) := (((Below.refl _ w).alloc (Nat.le_refl _) _).alloc (by simp) _).alloc (by simp; omega) _
  have hsz : (((w.alloc (.map #[] 0)).alloc (.cells #[.map (some w.heap.size)] 79)).alloc (.cells #[.slice A L.length c] 27)).heap.size = w.heap.size + 3 := by simp
  have hm1 : SMap (((w.alloc (.map #[] 0)).alloc (.cells #[.map (some w.heap.size)] 79)).alloc (.cells #[.slice A L.length c] 27)) w.heap.size 0 (fun _ => none) :=
    (hm0.kept (Below.heap_alloc _ _ _ (by simp))).kept (Below.heap_alloc _ _ _ (by simp; omega))
  obtain ⟨W0, hW0⟩ : ∃ W0, ((w.alloc (.map #[] 0)).alloc (.cells #[.map (some w.heap.size)] 79)).alloc (.cells #[.slice A L.length c] 27) = W0 := ⟨_, rfl⟩
  rw [hW0] at bM bS hB0 hsz hm1 ⊢
  clear hW0 hm0
  refine wpIn_rangeFunc_ownH hro h1 (gf := 78) (lb := #[.pointer (some ⟨w.heap.size + 1 + 1, 0, none⟩)]) rfl h40 (enters_of Tryd.func78 (by kernel_rfl) rfl)
    (back_stops F (n - 1) h40 hro (by omega) (w.heap.size + 1 + 1) A c w.heap.size L hL zs hz W0 (by omega) (by omega) bS.cell (hS.below hB0)) CK.trans (fun W l o o' h1 h2 h3 h4 => ck_put (w := W0) W l o o' h1 h2 h3 h4) (Below.refl _ _) (fun _ => rfl)
    (fun pre W => (Boxed W (w.heap.size + 1) 79 (.map (some w.heap.size)) ∧ SMap W w.heap.size pre.length (backF pre)) ∧ Below w.heap.size w W)
    (fun _ _ _ => False)
    (OwnFrom.and (OwnFrom.and ((boxed_own (w.heap.size + 1) 79 (fun _ => .map (some w.heap.size))).from _) (smap_own _ _ (by omega))) (ownFrom_below (Nat.le_refl _) (by omega)))
    (fun _ _ _ _ _ hs _ _ => hs)
    ⟨⟨bM, hm1⟩, hB0⟩
    (fun x a' W => ∃ Bx, Blk3 W Bx x.1.2 ∧ a' = { tmps := #[.slice A L.length c, undef, .map none, .pointer (some ⟨w.heap.size + 1, 0, none⟩), .int .i64 (x.1.1 : Int), .pointer (some ⟨Bx, 0, none⟩), .slice A L.length c, .int .i64 (L.length : Int), .map (some w.heap.size), .slice A L.length c, .func (.func 78) #[] #[.pointer (some ⟨w.heap.size + 1 + 1, 0, none⟩)], .int .i64 (x.1.1 : Int), .agg #[.string x.1.2.name, .int .i64 x.1.2.arity, .bool x.1.2.pred], undef, undef, undef, undef], defers := [] }) ?hAx ?assign ?body ?done ?stop
  case hAx =>
    rintro x a' s W W' row ⟨Bx, hk, rfl⟩ hg hr
    exact ⟨Bx, blk3_own (β := Unit) _ Bx x.1.2 () W W' row hk hg hr, rfl⟩
  case assign =>
    rintro l pre x W K ⟨⟨hbox, hmap⟩, hB⟩ hK
    simp only [ixV]
    gi_wp2
    exact hK _ _ ((KeepsOthers.alloc _ _).from _) (ck_alloc W _) ⟨⟨hbox.alloc _, hmap.kept (Below.heap_alloc _ _ _ hmap.lt)⟩, hB.alloc hB.size _⟩ ⟨W.heap.size, World.alloc_heap_new W _, rfl⟩
  case body =>
    rintro l pre x a' W hl _ ⟨⟨hbox, hmap⟩, hB⟩ ⟨Bx, hk, rfl⟩ hlt
    have hc := hbox.cell
    have k1 := hk.c1
    have k2 := hk.c2
    have k3 := hk.c3
    have hm' : pre.length < maxLen := by unfold maxLen; have := hz.len; omega
    have Hm := Lib.hid hm'
    clear hm'
    gi_wp2_with (gi_at_mapUpdate; refine wpListIn_put rfl _ _ _ rfl w.heap.size pre.length (backF pre) rfl hmap Hm.out x.1.2 x.2.1 (x.1.1 : Int) (WalkArith.wf_i64 ⟨by omega, by have := x.2.2; omega⟩) rfl rfl ?_; intro w1 hmap1 hgrow1)
    exact ⟨KeepsFrom.of_grownBy hgrow1 (fun j e => by cases e; omega), ck_map hmap hgrow1, ⟨hbox.kept hgrow1 (fun e => by injection e with e; omega), by rw [backF_snoc, List.length_append]; exact hmap1⟩,
      hB.grown hgrow1 hB.size (fun k e => by cases e; exact Nat.le_refl _)⟩
  case done =>
    rintro D ys W hD rfl ⟨⟨hbox, hmap⟩, hB⟩ hK
    have hc := hbox.cell
    gi_wp2
    refine ⟨by simp, .inl ⟨_, _, rfl, run_takeDeferred hK, ?_⟩⟩
    refine ⟨_, results_tmp rfl _ _ _, rfl, ?_, hB.trans (belowK_b (w := w) (Nat.le_refl _) W D _ _ (by omega) hK rfl rfl)⟩
    rw [backF_all hz, hz.len] at hmap
    exact hmap.kept ((grownBy_putObj' W D _).block _ hmap.lt (fun e => by injection e with e; omega))
  case stop =>
    rintro D c pre W _ _ h _
    exact h.elim

theorem numbers_any (A : Option Addr) (n c : Nat) (l : List Sm) (hn : n * 32 ≤ 140737488351232) (w : World) (h : Syms w w.heap.size A n l) :
    Calls Tryd.prog 30 #[.slice A n c] w fun e W' => e = .returned (.map (some w.heap.size)) ∧ SMap W' w.heap.size n (firstF l) ∧ Below w.heap.size w W' := by
  obtain rfl := h.len
  exact (callsIn_wide (n := 3)).1 (numbers_in Fence.wide 3 trivial trivial trivial rfl (by omega) A c l hn w h)

end Go.Proofs.YtfnncphkidhbpaaDoor

/- Check. -/

namespace Go.Proofs.YtfnncphkidhbpaaDoor

open Go.RowKit
set_option maxRecDepth 20000

theorem firstF_at {l : List Sm} {k : Nat} {y : Sm} (hy : l[k]? = some y) : (firstF l y).getD 0 = atI l y := by
  have : ¬ atI l y < 0 := by
    intro hlt
    have h1 : l.findIdx? (· == y) = none := by
      cases hf : l.findIdx? (· == y) with
      | none => rfl
      | some i => simp [atI, hf] at hlt; omega
    rw [List.findIdx?_eq_none_iff] at h1
    have := h1 y (List.mem_of_getElem? hy)
    simp at this
  simp [firstF, this]

set_option maxHeartbeats 800000 in
theorem Check_any (A : Option Addr) (n c : Nat) (l : List Sm) (w : World) (h : Syms w w.heap.size A n l) (hn : n * 32 ≤ 140737488351232) (ht : tru w) :
    Calls Tryd.prog 18 #[.agg #[.slice A n c]] w fun e w' => e = .returned (.int .i64 (checkI l)) ∧ Below w.heap.size w w' := by
  have hneq := run_neq_sym
  by_cases h96 : 96 < n
  · have hf := Lib.hid (show checkI l = 3 by simp only [checkI]; rw [if_pos (by rw [h.len]; exact h96)])
    go_enter Tryd.func18, Tryd.ntmps18
    go_wp2
    go_ret
    exact ⟨ret_int hf.out.symm, (Below.refl _ _).alloc (Nat.le_refl _) _⟩
  · rcases Nat.eq_zero_or_pos n with h0 | h0
    · have hf := Lib.hid (show checkI l = 110 by
        have : l = [] := List.eq_nil_of_length_eq_zero (h.len.trans h0)
        subst this; rfl)
      subst h0
      go_enter Tryd.func18, Tryd.ntmps18
      go_wp2
      go_quiet (fail)
      go_wp2
      go_ret
      exact ⟨ret_int hf.out.symm, bl_drewN ((Below.refl _ _).alloc (Nat.le_refl _) _) _⟩
    · have h0' : (((n : Nat) : Int) == 0) = false := beq_eq_false_iff_ne.2 (by omega)
      go_enter Tryd.func18, Tryd.ntmps18
      go_wp2
      obtain ⟨W, hW⟩ : ∃ W, w.alloc (.cells #[.slice A n c] 29) = W := ⟨_, rfl⟩
      have hWB : Below w.heap.size w W := by rw [← hW]; exact (Below.refl _ _).alloc (Nat.le_refl _) _
      have hz : w.heap.size + 1 = W.heap.size := by rw [← hW]; clear hW; simp
      have x1 : W.cell? ⟨w.heap.size, 0, none⟩ = some (.slice A n c) := by rw [← hW]; clear hW; go_simp
      rw [hW]
      have g := h.below hWB
      have hok := Lib.hid h.ok
      obtain ⟨t1, t2, t3, _⟩ := tru_below ht hWB
      clear hW h ht
      have hlt0 : w.heap.size < W.heap.size := by omega
      clear hz
      obtain ⟨b, off, rfl, hb0, hc⟩ := g.ad h0
      have hb : b < W.heap.size := Nat.lt_trans hb0 hlt0
      obtain ⟨y, hy⟩ : ∃ y, l[0]? = some y := ⟨_, List.getElem?_eq_getElem (by rw [g.len]; exact h0)⟩
      obtain ⟨c1, c2, c3⟩ := hc 0 y hy
      simp only [Nat.zero_mul, Nat.add_zero] at c1 c2 c3
      have Hy := Lib.hid hy
      clear hy
      have Hc := Lib.hid hc
      clear hc
      by_cases hyt : y = truthSm
      · have hs := smB_true hyt
        have hf := Lib.hid (show checkI l = scanI l by
          simp only [checkI]; rw [if_neg (by rw [g.len]; exact h96), if_neg (by rw [Hy.out, hyt]; simp)])
        clear hyt
        go_quiet (fail)
        clear t1 t2 t3 hs c1 c2 c3
        go_wp2_with (first | (go_at_call 30; refine (numbers_any _ _ _ l hn _ (((g.drewN _).more (Nat.le_of_lt hlt0)))).mono ?_; rintro e w1 ⟨rfl, hmap, hb1⟩; have hB1 : Below W.heap.size W w1 := ⟨hb1.os, hb1.tape, hb1.output, hb1.size, hb1.block⟩; have z1 := cell_on hB1 hlt0 x1) | fail)
        clear hb1 z1
        have hmap' : SMap w1 W.heap.size n (firstF l) := hmap
        clear hmap
        go_loopw [29] (fun i wr => ∃ k : Nat, k ≤ n ∧ i = .int .i64 k ∧ Below w1.heap.size w1 wr ∧ Hid (∀ j, 1 ≤ j → j < k → errAt l j = 0)) (fun i _ => n - (intOf i).toNat)
        case atStart => exact ⟨0, Nat.zero_le _, rfl, Below.refl _ _, fun j h1 h2 => by omega⟩
        case round =>
          obtain ⟨k, hk, rfl, hBr0, HA⟩ := hrel
          have hBr : Below W.heap.size W wr := hB1.trans (hBr0.mono hB1.size)
          have z1 := cell_on hBr hlt0 x1
          have hmr := hmap'.below hBr0
          by_cases hlt : k < n
          · obtain ⟨y, hy⟩ : ∃ y, l[k]? = some y := ⟨_, List.getElem?_eq_getElem (by rw [g.len]; exact hlt)⟩
            obtain ⟨c1, c2, c3⟩ := Hc.out k y hy
            have d1 := cell_on hBr hb c1
            have d2 := cell_on hBr hb c2
            have d3 := cell_on hBr hb c3
            have hyok : y.Ok := hok.out y (List.mem_of_getElem? hy)
            have hys := hyok.size
            have hbox : Below wr.heap.size wr (wr.alloc (.cells #[.string y.name, .int .i64 y.arity, .bool y.pred] 62)) := (Below.refl _ _).alloc (Nat.le_refl _) _
            have hlk := (hmr.below hbox).look hyok
            rw [firstF_at hy] at hlk
            have Hy := Lib.hid hy
            clear hy hyok hmr
            by_cases hk0 : k = 0
            · have hk0' : (((k : Nat) : Int) == 0) = true := by simp [hk0]
              have Hk0 := Lib.hid hk0
              clear hk0 hlk
              go_wp2
              go_roundw
              case rel => exact ⟨k + 1, by omega, by go_num, hBr0.trans (hbox.mono hBr0.size), fun j h1 h2 => by have := Hk0.out; omega⟩
              case measure => simp [intOf]; omega
            · have hk0' : (((k : Nat) : Int) == 0) = false := by simpa using hk0
              by_cases he : oneI y.name y.arity = 0
              · have he' : (oneI y.name y.arity != 0) = false := by simp [he]
                have He := Lib.hid he
                clear he
                by_cases ha : atI l y < k
                · go_wp2_with (first | (go_at_call 31; refine (fits_any _ _ _ hys).mono ?_; rintro e w2 ⟨rfl, rfl⟩) | fail)
                  go_ret
                  exact ⟨ret_int (hf.out.trans (scan_at (by omega) HA.out (err_same Hy.out He.out ha) (by decide))).symm, hWB.trans ((hBr.trans (hbox.mono hBr.size)).mono (Nat.le_of_lt hlt0))⟩
                · go_wp2_with (first | (go_at_call 31; refine (fits_any _ _ _ hys).mono ?_; rintro e w2 ⟨rfl, rfl⟩) | fail)
                  go_roundw
                  case rel => exact ⟨k + 1, by omega, by go_num, hBr0.trans (hbox.mono hBr0.size), err_before HA.out (err_ok Hy.out He.out (by omega))⟩
                  case measure => simp [intOf]; omega
              · have he' : (oneI y.name y.arity != 0) = true := by simp [he]
                have He := Lib.hid he
                clear he hlk
                go_wp2_with (first | (go_at_call 31; refine (fits_any _ _ _ hys).mono ?_; rintro e w2 ⟨rfl, rfl⟩) | fail)
                go_ret
                exact ⟨ret_int (hf.out.trans (scan_at (by omega) HA.out (err_one Hy.out He.out) He.out)).symm, hWB.trans ((hBr.trans (hbox.mono hBr.size)).mono (Nat.le_of_lt hlt0))⟩
          · have : k = n := by omega
            subst this
            go_wp2
            go_ret
            exact ⟨ret_int (hf.out.trans (scan_miss (fun j h1 h2 => HA.out j h1 (by rw [← g.len]; exact h2)))).symm, hWB.trans (hBr.mono (by omega))⟩
      · have hs := smB_false hyt
        have hf := Lib.hid (show checkI l = 110 by
          simp only [checkI]; rw [if_neg (by rw [g.len]; exact h96), if_pos (by rw [Hy.out]; simpa using hyt)])
        clear hyt
        go_quiet (fail)
        go_wp2
        go_ret
        exact ⟨ret_int hf.out.symm, bl_drewN hWB _⟩

end Go.Proofs.YtfnncphkidhbpaaDoor

/- term.Check. -/

namespace Go.Proofs.YtfnncphkidhbpaaDoor

open Go.RowKit
set_option maxRecDepth 100000

/-- What term.Check answers. -/
def chkT (l : List Sm) (t : Tm) : Int := if checkI l ≠ 0 then 2 else if (fitT l t 1 300).1 = true then 0 else 2

theorem chk_sig {l : List Sm} {t : Tm} (h : ¬ checkI l = 0) : chkT l t = 2 := if_pos h

theorem chk_yes {l : List Sm} {t : Tm} (h : checkI l = 0) (h1 : (fitT l t 1 300).1 = true) : chkT l t = 0 := (if_neg (fun e => e h)).trans (if_pos h1)

theorem chk_no {l : List Sm} {t : Tm} (h : checkI l = 0) (h1 : (fitT l t 1 300).1 = false) : chkT l t = 2 := (if_neg (fun e => e h)).trans (if_neg (by simp [h1]))

set_option maxHeartbeats 2000000 in
theorem termCheck_any (l : List Sm) (t : Tm) (As A : Option Addr) (n cs c : Nat) (w : World) (hS : Syms w w.heap.size As n l) (hn : n * 32 ≤ 140737488351232) (ht : tru w) (hf : I64 t.fn) (hA : Args w w.heap.size A t.args) :
    Calls Tryd.prog 23 #[.agg #[.slice As n cs], .agg #[.int .i64 t.fn, .slice A t.args.length c]] w fun e w' => e = .returned (.int .i64 (chkT l t)) ∧ Below w.heap.size w w' := by
  obtain rfl := hS.len
  have hl64 : l.length ≤ 9223372036854775807 := by omega
  obtain ⟨p0, p1, p2⟩ := heap3 w (.cells #[.slice As l.length cs] 29) (.cells #[.int .i64 t.fn, .slice A t.args.length c] 47) (.cells #[.int .i64 300] 3)
  obtain ⟨W, hW⟩ : ∃ W, (((w.alloc (.cells #[.slice As l.length cs] 29)).alloc (.cells #[.int .i64 t.fn, .slice A t.args.length c] 47)).alloc (.cells #[.int .i64 300] 3)) = W := ⟨_, rfl⟩
  have hB : Below w.heap.size w W := by rw [← hW]; exact (((Below.refl _ _).alloc (Nat.le_refl _) _).alloc (by simp) _).alloc (by simp; omega) _
  rw [hW] at p0 p1 p2
  have hWs : w.heap.size + 1 + 1 < W.heap.size := (Array.getElem?_eq_some_iff.1 p2).1
  have hS' := Lib.hid (hS.on hB)
  have ht' := Lib.hid (tru_below ht hB)
  have HW := Lib.hid hW
  have hA2 := Lib.hid (hA.blw hB)
  have hS2 := Lib.hid (hS.below hB)
  clear hW hS ht hA
  have fin : ∀ {w' : World}, Below W.heap.size W w' → Below w.heap.size w w' := fun h => hB.trans (h.mono hB.size)
  have fin2 : ∀ {w1 w' : World}, Below W.heap.size W w1 → Keeps (fun g => g < w1.heap.size ∧ g ≠ w.heap.size + 1 + 1) w1 w' → Below w.heap.size w w' := fun h k => (fin h).trans (k.below fun g e => ⟨by have := h.size; omega, by omega⟩)
  by_cases h0 : checkI l = 0
  · cases h1 : (fitT l t 1 300).1 with
    | true =>
      have hc := Lib.hid (chk_yes h0 h1)
      have h1' := Lib.hid h1
      clear h1
      go_enter Tryd.func23, Tryd.ntmps23
      go_wp2_with (first
        | (go_at_call 18
           rw [HW.out]
           refine (Check_any As l.length cs l W hS'.out hn ht'.out).mono ?_
           rintro e w1 ⟨rfl, hb1⟩
           rw [h0]
           have x0 := (cells_one ((hb1.block _ (by omega)).trans p0)).1
           obtain ⟨x1, x2, _, _⟩ := cells_two ((hb1.block _ (by omega)).trans p1)
           have x3 := Lib.hid ((hb1.block _ hWs).trans p2))
        | (go_at_call 39
           refine (termFits_any l t As A cs c 1 300 (w.heap.size + 1 + 1) w1 hf ((hS2.out.below (hb1.mono (by omega))).more (by omega)) hl64 ((hA2.out.blw (hb1.mono (by omega))).more (by omega)) x3.out (by decide) (by decide) (by decide) (by decide)).mono ?_
           rintro e w2 ⟨rfl, hk2, _⟩
           rw [h1'.out])
        | fail)
      go_ret
      exact ⟨ret_int hc.out.symm, fin2 hb1 hk2⟩
    | false =>
      have hc := Lib.hid (chk_no h0 h1)
      have h1' := Lib.hid h1
      clear h1
      go_enter Tryd.func23, Tryd.ntmps23
      go_wp2_with (first
        | (go_at_call 18
           rw [HW.out]
           refine (Check_any As l.length cs l W hS'.out hn ht'.out).mono ?_
           rintro e w1 ⟨rfl, hb1⟩
           rw [h0]
           have x0 := (cells_one ((hb1.block _ (by omega)).trans p0)).1
           obtain ⟨x1, x2, _, _⟩ := cells_two ((hb1.block _ (by omega)).trans p1)
           have x3 := Lib.hid ((hb1.block _ hWs).trans p2))
        | (go_at_call 39
           refine (termFits_any l t As A cs c 1 300 (w.heap.size + 1 + 1) w1 hf ((hS2.out.below (hb1.mono (by omega))).more (by omega)) hl64 ((hA2.out.blw (hb1.mono (by omega))).more (by omega)) x3.out (by decide) (by decide) (by decide) (by decide)).mono ?_
           rintro e w2 ⟨rfl, hk2, _⟩
           rw [h1'.out])
        | fail)
      go_ret
      exact ⟨ret_int hc.out.symm, fin2 hb1 hk2⟩
  · have hc := Lib.hid (chk_sig (t := t) h0)
    go_enter Tryd.func23, Tryd.ntmps23
    go_wp2_with (first
      | (go_at_call 18
         rw [HW.out]
         refine (Check_any As l.length cs l W hS'.out hn ht'.out).mono ?_
         rintro e w1 ⟨rfl, hb1⟩)
      | fail)
    go_ret
    exact ⟨ret_int hc.out.symm, fin hb1⟩

end Go.Proofs.YtfnncphkidhbpaaDoor

/- How often symbols stand in clauses, in plain words. -/

namespace Go.Proofs.YtfnncphkidhbpaaDoor

open Go Go.RowKit
set_option maxRecDepth 100000

mutual
/-- The symbols of a term over a signature are the signature's. -/
theorem over_hds (l : List Sm) : ∀ (t : Tm) (top : Bool), lowT t = true → overT l t top = true → ∀ f ∈ hdsT t, f < (l.length : Int)
  | .node f xs, top, h1, h2, g, hg => by
    rw [hdsT] at hg
    by_cases hf : f < 0
    · simp only [lowT, if_pos hf, decide_eq_true_eq] at h1
      have hx : xs = [] := List.eq_nil_of_length_eq_zero h1.2
      subst hx
      simp only [hdsL, List.mem_cons, List.not_mem_nil, or_false] at hg
      omega
    · simp only [lowT, if_neg hf] at h1
      cases hs : l[f.toNat]? with
      | none => rw [over_out hf (by have := List.getElem?_eq_none_iff.1 hs; omega)] at h2; cases h2
      | some s =>
        have hlt := (List.getElem?_eq_some_iff.1 hs).1
        by_cases hb : s.arity ≠ xs.length ∨ (s.pred = true ∧ top = false)
        · rw [over_bad hf hs hb] at h2; cases h2
        · rw [over_in hf hs hb] at h2
          rcases List.mem_cons.1 hg with rfl | hg
          · omega
          · exact overL_hds l xs h1 h2 g hg
theorem overL_hds (l : List Sm) : ∀ (xs : List Tm), lowL xs = true → overL l xs = true → ∀ f ∈ hdsL xs, f < (l.length : Int)
  | [], _, _, g, hg => by simp only [hdsL, List.not_mem_nil] at hg
  | t :: ts, h1, h2, g, hg => by
    simp only [lowL, overL, Bool.and_eq_true] at h1 h2
    rw [hdsL] at hg
    rcases List.mem_append.1 hg with hg | hg
    · exact over_hds l t false h1.1 h2.1 g hg
    · exact overL_hds l ts h1.2 h2.2 g hg
end

theorem chk_zero' {l : List Sm} {t : Tm} (h : chkT l t = 0) : checkI l = 0 ∧ (fitT l t 1 300).1 = true := by
  unfold chkT at h
  by_cases h0 : checkI l = 0
  · rw [if_neg (by omega)] at h
    refine ⟨h0, ?_⟩
    cases hb : (fitT l t 1 300).1 with
    | true => rfl
    | false => rw [hb] at h; simp at h
  · rw [if_pos h0] at h; cases h

/-- What a term that may be is like. -/
theorem chk_like {l : List Sm} {t : Tm} (h : chkT l t = 0) : t.size ≤ 300 ∧ t.depth ≤ 30 ∧ (∀ f ∈ hdsT t, f < (l.length : Int)) := by
  obtain ⟨_, h1⟩ := chk_zero' h
  obtain ⟨a, b, c, d⟩ := (fitp_iff l t 1 300 (by decide)).1 h1
  exact ⟨by omega, by omega, over_hds l t true c (by simpa using d)⟩

theorem chk_same {l : List Sm} {t : Tm} : chkT l t = chkP l t := by
  unfold chkT chkP
  by_cases h0 : checkI l = 0
  · rw [if_neg (by omega), if_pos h0]
    have := fitp_iff l t 1 300 (by decide)
    unfold smallT
    by_cases hb : (fitT l t 1 300).1 = true
    · rw [if_pos hb]
      obtain ⟨a, b, c, d⟩ := this.1 hb
      rw [if_pos (by simp [c]; omega), if_pos (by simpa using d)]
    · rw [if_neg hb]
      split
      · rename_i hs
        split
        · rename_i ho
          refine absurd (this.2 ?_) hb
          simp at hs
          exact ⟨by omega, by omega, hs.2, by simpa using ho⟩
        · rfl
      · rfl
  · rw [if_pos h0, if_neg h0]

/-- May all terms be? -/
def okI (l : List Sm) (ts : List Tm) : Bool := ts.all fun t => decide (chkT l t = 0)

theorem okI_mem {l : List Sm} {ts : List Tm} (h : okI l ts = true) {t : Tm} (ht : t ∈ ts) : chkT l t = 0 := of_decide_eq_true (List.all_eq_true.1 h t ht)

theorem okI_append (l : List Sm) (xs ys : List Tm) : okI l (xs ++ ys) = (okI l xs && okI l ys) := List.all_append

theorem okI_snoc {l : List Sm} {xs : List Tm} {t : Tm} (h : okI l xs = true) (ht : chkT l t = 0) : okI l (xs ++ [t]) = true := by
  rw [okI_append, h]; simp [okI, ht]

theorem okI_pre {l : List Sm} {xs ys : List Tm} (h : xs <+: ys) (hn : okI l xs = false) : okI l ys = false := by
  obtain ⟨zs, rfl⟩ := h
  rw [okI_append, hn]; rfl

theorem okI_bad {l : List Sm} {xs : List Tm} {t : Tm} (ht : chkT l t ≠ 0) : okI l (xs ++ [t]) = false := by
  rw [okI_append]; simp [okI, ht]

/-- Are there none to be told? -/
def cntNo (l : List Sm) (cs : List (List Lp)) : Bool := !(decide (checkI l = 0) && okI l (itms cs))

/-- How often the symbols stand in the clauses. -/
def cntN (l : List Sm) (cs : List (List Lp)) : List Int := cntC (List.replicate l.length 0) (hdsL (itms cs))

theorem cntN_len (l : List Sm) (cs : List (List Lp)) : (cntN l cs).length = l.length := by unfold cntN; rw [cntC_len]; simp

theorem hdsL_snoc (xs : List Tm) (t : Tm) : hdsL (xs ++ [t]) = hdsL xs ++ hdsT t := by rw [hdsL_append]; simp [hdsL]

/-- All are small, so no count is great. -/
theorem hdsL_small {l : List Sm} : ∀ {ts : List Tm}, okI l ts = true → (hdsL ts).length ≤ 300 * ts.length
  | [], _ => by simp [hdsL]
  | t :: ts, h => by
    have h1 := okI_mem h (List.mem_cons_self ..)
    have h2 : okI l ts = true := by unfold okI at h ⊢; rw [List.all_cons, Bool.and_eq_true] at h; exact h.2
    have := hdsL_small h2
    have hs := (chk_like h1).1
    rw [hdsL, List.length_append, hdsT_len, List.length_cons]
    omega

theorem zeros_ok (m : Nat) : ∀ x ∈ List.replicate m (0 : Int), 0 ≤ x ∧ x ≤ 0 := by
  intro x hx
  have := List.eq_of_mem_replicate hx
  omega

theorem cnt_small {l : List Sm} {ts : List Tm} (h : okI l ts = true) (m : Nat) (hs : List Int) : ∀ x ∈ cntC (List.replicate m 0) (hdsL ts ++ hs), 0 ≤ x ∧ x ≤ 300 * ts.length + hs.length := by
  intro x hx
  have := cntC_le (hdsL ts ++ hs) (zeros_ok m) (Int.le_refl 0) x hx
  have := hdsL_small h
  rw [List.length_append] at *
  omega

end Go.Proofs.YtfnncphkidhbpaaDoor

/- A signature that may be: what its check tells. -/

namespace Go.Proofs.YtfnncphkidhbpaaDoor

open Go.RowKit

theorem chk_scan {l : List Sm} (h : scanI l = 0) : ∀ j, 1 ≤ j → j < l.length → errAt l j = 0 := by
  unfold scanI at h
  split at h
  · rename_i j hj
    have := List.find?_some hj
    simp [h] at this
  · rename_i hn
    rw [List.find?_eq_none] at hn
    intro j h1 h2
    have := hn j (List.mem_range.2 h2)
    simpa [h1] using this

theorem chk_one {l : List Sm} (h : checkI l = 0) : l.length ≤ 96 ∧ l[0]? = some truthSm ∧ ∀ i x, 1 ≤ i → l[i]? = some x → namedB x.name = true ∧ 0 ≤ x.arity ∧ x.arity ≤ 6 := by
  unfold checkI at h
  split at h
  · cases h
  · rename_i h96
    split at h
    · cases h
    · rename_i h0
      have hs := chk_scan h
      refine ⟨by omega, Classical.not_not.1 h0, fun i x h1 hx => ?_⟩
      have := hs i h1 (List.getElem?_eq_some_iff.1 hx).1
      unfold errAt at this
      rw [hx] at this
      simp only at this
      have h1 : oneI x.name x.arity = 0 := by
        split at this
        · assumption
        · rename_i hz; simpa using hz
      unfold oneI at h1
      split at h1
      · cases h1
      · rename_i hn
        split at h1
        · cases h1
        · rename_i hr
          exact ⟨by simpa using hn, by omega, by omega⟩

theorem chk_names {l : List Sm} (h : checkI l = 0) : ∀ s ∈ l, s.name.size ≤ 40 := by
  obtain ⟨_, h0, h1⟩ := chk_one h
  intro s hs
  obtain ⟨i, hi⟩ := List.mem_iff_getElem?.1 hs
  cases i with
  | zero =>
    rw [h0] at hi
    cases hi
    decide
  | succ i =>
    have := (h1 (i + 1) s (by omega) hi).1
    simp [namedB] at this
    exact this.1.2

end Go.Proofs.YtfnncphkidhbpaaDoor

/- prec: ranked, Check. -/

namespace Go.Proofs.YtfnncphkidhbpaaDoor

open Go Go.RowKit Go.Shelf
set_option maxRecDepth 100000

theorem compact_first {r : List Int} {z : Int} (hz : r[0]? = some z) : (Lib.compact r)[0]? = some z := by
  have hl := (List.getElem?_eq_some_iff.1 hz).1
  unfold Lib.compact Lib.compactUpTo
  obtain ⟨m, hm⟩ : ∃ m, r.length = m + 1 := ⟨r.length - 1, by omega⟩
  rw [hm, List.range_succ_eq_map, List.filter_cons, if_pos (by simp [Lib.keeps]), List.map_cons, List.getElem?_cons_zero, getB_eq hl]
  rw [List.getElem?_eq_getElem hl] at hz
  exact hz

set_option maxHeartbeats 4000000 in
theorem ranked_any (l : List Sm) (p : List Int) (As P : Option Addr) (cs pc : Nat) (w : World) (hI : Ints w w.heap.size P p) (h1 : 0 < l.length) (h96 : l.length ≤ 1000) :
    Calls Tryd.prog 19 #[.agg #[.slice As l.length cs], .slice P p.length pc] w fun e w' => e = .returned (.bool (rankB p l.length)) ∧ Below w.heap.size w w' := by
  obtain ⟨W, hW⟩ : ∃ W, w.alloc (.cells #[.slice As l.length cs] 29) = W := ⟨_, rfl⟩
  have q0 := heap_alloc_new w (.cells #[.slice As l.length cs] 29)
  have hB : Below w.heap.size w W := by rw [← hW]; exact (Below.refl _ _).alloc (Nat.le_refl _) _
  rw [hW] at q0
  have hpl := hI.len
  have HW := Lib.hid hW
  have HB := Lib.hid hB
  have HI := Lib.hid (hI.on hB)
  obtain ⟨a0, _⟩ := cells_one q0
  clear hW hB hI
  by_cases hl : p.length = l.length
  · have g1 : ((p.length : Int) != (l.length : Int)) = false := by simp; omega
    have g2 : (p.length != l.length) = false := by simp; omega
    have HL := Lib.hid hl
    have hp0 : 0 < p.length := by omega
    have hp9 : p.length ≤ 1000 := by omega
    clear hl
    -- the row sorted
    obtain ⟨W2, hW2⟩ : ∃ W2, W.alloc (.cells #[.slice P p.length pc] 22) = W2 := ⟨_, rfl⟩
    have p0 : W2.heap[W.heap.size]? = some (.cells #[.slice P p.length pc] 22) := by rw [← hW2]; exact heap_alloc_new _ _
    have hB2 : Below W.heap.size W W2 := by rw [← hW2]; exact (Below.refl _ _).alloc (Nat.le_refl _) _
    have HW2 := Lib.hid hW2
    have HSo := Lib.hid (sortedP_any W.heap.size p P pc W2 p0 (HI.out.on hB2) (by omega))
    obtain ⟨r, hr⟩ : ∃ r, r = p.mergeSort fun x y => decide (x ≤ y) := ⟨_, rfl⟩
    rw [← hr] at HSo
    have hperm : r.Perm p := by rw [hr]; exact List.mergeSort_perm _ _
    have hrl : r.length = p.length := hperm.length_eq
    have hpw : r.Pairwise (· ≤ ·) := by
      rw [hr]
      have := List.pairwise_mergeSort (le := fun x y : Int => decide (x ≤ y)) (fun a b c h1 h2 => by simp at *; omega) (fun a b => by simp; omega) p
      exact this.imp fun h => by simpa using h
    have hre := ranked_eq hperm hpw hp0
    obtain ⟨z, hz⟩ : ∃ z, p[0]? = some z := ⟨_, List.getElem?_eq_getElem hp0⟩
    obtain ⟨y, hy⟩ : ∃ y, r[0]? = some y := ⟨_, List.getElem?_eq_getElem (by omega)⟩
    rw [getD_of hz, getD_of hy] at hre
    obtain ⟨b, off, rfl, hb, hc⟩ := HI.out.ad hp0
    have cz := hc 0 z hz
    rw [Nat.add_zero] at cz
    have HRe := Lib.hid hre
    have HRl := Lib.hid hrl
    have Hy := Lib.hid hy
    clear hW2 p0 hr hperm hpw hre hz hc hrl hy
    go_enter Tryd.func19, Tryd.ntmps19
    go_upto_region 1 with fail
    rw [HW.out]
    go_upto_region 4 with (first
      | (go_at_call 33; (with_reducible refine (valuesP_any _ _ _ _).mono ?_); go_must (rintro e w2 ⟨rfl, rfl⟩; rw [HW2.out]))
      | ((with_reducible refine HSo.out.mono ?_); go_must (rintro e w3 ⟨v3, rfl, hI3, hb3⟩; obtain ⟨A3, c3, hv3⟩ := row_slice hI3.row; subst hv3))
      | fail)
    rcases hI3.row.2 with ⟨h0, hl0⟩ | ⟨g, cap, cur, hv, hbg, hg, hcap, hcm, hcur, htk⟩
    · have := HRl.out; omega
    · injection hv with e1 _ e3
      subst e1
      subst e3
      have c0 : w3.cell? ⟨g, 0, none⟩ = some (.int .i64 y) := by
        obtain ⟨g', c', h2, _, h4⟩ := hI3.get Hy.out
        injection h2 with h2 _ _
        injection h2 with h2
        injection h2 with h2 _ _
        rw [h2]; exact h4
      have hgl := (Array.getElem?_eq_some_iff.1 hg).1
      have hgb : W2.heap.size ≤ g := hbg
      rw [Nat.mul_one] at htk
      have HCm : Hid (∀ w4 : World, w4.heap[g]? = w3.heap[g]? → w4.heap.size = w3.heap.size → Calls Tryd.prog 34 #[.slice (some ⟨g, 0, none⟩) r.length c3] w4 fun e w5 => e = .returned (.slice (some ⟨g, 0, none⟩) (Lib.compact r).length c3) ∧ w4.grownBy w5 (some g) ∧ w5.cell? ⟨g, 0, none⟩ = some (.int .i64 y)) := Lib.hid fun w4 h4 hs4 => by
        have hg4 := h4.trans hg
        have hcm2 := Tryd.slices_Compact_int g 0 c3 r w4 (holds_of_blockI hg4 htk) (by have := HRl.out; omega) (by omega)
        refine hcm2.mono ?_
        rintro e w5 ⟨rfl, q, rfl⟩
        have hcl := Lib.compact_length_le r
        refine ⟨rfl, ?_, ?_⟩
        · have := grownBy_sortedI (w := w4) (g := g) (n := q) (os := #[]) (Lib.compact r ++ List.replicate (r.length - (Lib.compact r).length) 0).toArray
          rwa [Sort.grow_empty] at this
        · have hhp2 := heap_sortedI (n := q) (os := #[]) (Lib.compact r ++ List.replicate (r.length - (Lib.compact r).length) 0).toArray hg4
          rw [Sort.grow_empty] at hhp2
          have htk3 := take_putCellsI cur (Lib.compact r ++ List.replicate (r.length - (Lib.compact r).length) 0) (by simp; omega)
          have hh := holds_of_blockI hhp2 htk3
          have hf := compact_first Hy.out
          have hfl := (List.getElem?_eq_some_iff.1 hf).1
          have := (hh 0 (by simp; omega)).1
          rw [getElem!_pos _ 0 (by simp; omega)] at this
          simp only [Nat.zero_add] at this
          rw [this]
          simp [List.getElem_append_left hfl, (List.getElem?_eq_some_iff.1 hf).2]
      have cz3 : w3.cell? ⟨b, off, none⟩ = some (.int .i64 z) := (cell_of_heap ((hb3.block b (Nat.lt_of_lt_of_le hb hB2.size)).trans (hB2.block b hb))).trans cz
      have hgne : b ≠ g := by have := hB2.size; omega
      have hB3 := hB2.trans (hb3.mono hB2.size)
      clear hI3 hcap hcm hcur htk cz
      have hr0 : 0 < r.length := by have := HRl.out; omega
      have hr9 : r.length ≤ 1000 := by have := HRl.out; omega
      by_cases hyz : y = z
      · have g4 : (y == z) = true := by simpa using hyz
        obtain ⟨cl, hcl⟩ : ∃ cl, (Lib.compact r).length = cl := ⟨_, rfl⟩
        rw [hcl] at HCm HRe
        have hcl9 : cl ≤ 1000 := by have := Lib.compact_length_le r; omega
        have hS5 : ∀ (w4 w5 : World), w4.heap[b]? = w3.heap[b]? → b < w4.heap.size → w4.grownBy w5 (some g) → w5.cell? ⟨g, 0, none⟩ = some (.int .i64 y) → w5.cell? ⟨g, 0, none⟩ = some (.int .i64 y) ∧ w5.cell? ⟨b, off, none⟩ = some (.int .i64 z) := fun w4 w5 h4 hbs h5 h6 => ⟨h6, (cell_of_heap ((h5.block b hbs (fun e => hgne (by injection e))).trans h4)).trans cz3⟩
        have hb3l : b < w3.heap.size := World.block_lt_of_cell? w3 _ cz3
        have HCd := Lib.hid (HCm.out w3.drew rfl rfl)
        by_cases hcp : cl = p.length
        · have hfin := Lib.hid (show rankB p l.length = true by rw [← HL.out, ← HRe.out, decide_eq_true hyz, decide_eq_true hcp]; rfl)
          have g5 : ((cl : Int) == (p.length : Int)) = true := by simp; omega
          have g6 : (cl == p.length) = true := by simpa using hcp
          clear hyz hcl hcp
          go_region_held3 (fun w' => w'.cell? ⟨g, 0, none⟩ = some (.int .i64 y) ∧ w'.cell? ⟨b, off, none⟩ = some (.int .i64 z))
            (first | exact ⟨c0, cz3⟩ | exact hS5 w3.drew _ rfl hb3l hg5 hy5 | fail)
            (first
              | (go_at_call 34; (with_reducible refine HCd.out.mono ?_); go_must (rintro e w5 ⟨rfl, hg5, hy5⟩))
              | fail)
          go_wp2
          go_ret
          exact ⟨ret_bool hfin.out.symm, HB.out.trans (((Below.drew hB3).grown hg5 hB3.size (fun k e => by injection e with e; have := hB2.size; omega)).mono HB.out.size)⟩
        · have hfin := Lib.hid (show rankB p l.length = false by rw [← HL.out, ← HRe.out, decide_eq_false hcp, Bool.and_false])
          have g5 : ((cl : Int) == (p.length : Int)) = false := by simp; omega
          have g6 : (cl == p.length) = false := by simpa using hcp
          clear hyz hcl hcp
          go_region_held3 (fun w' => w'.cell? ⟨g, 0, none⟩ = some (.int .i64 y) ∧ w'.cell? ⟨b, off, none⟩ = some (.int .i64 z))
            (first | exact ⟨c0, cz3⟩ | exact hS5 w3.drew _ rfl hb3l hg5 hy5 | fail)
            (first
              | (go_at_call 34; (with_reducible refine HCd.out.mono ?_); go_must (rintro e w5 ⟨rfl, hg5, hy5⟩))
              | fail)
          go_wp2
          go_ret
          exact ⟨ret_bool hfin.out.symm, HB.out.trans (((Below.drew hB3).grown hg5 hB3.size (fun k e => by injection e with e; have := hB2.size; omega)).mono HB.out.size)⟩
      · have g4 : (y == z) = false := by simpa using hyz
        have hfin := Lib.hid (show rankB p l.length = false by rw [← HL.out, ← HRe.out, decide_eq_false hyz]; rfl)
        clear hyz
        go_quiet (fail)
        go_wp2
        go_ret
        exact ⟨ret_bool hfin.out.symm, HB.out.trans ((hB3.trans ((bl_drewN (Below.refl _ _) _).mono hB3.size)).mono HB.out.size)⟩
  · have g1 : ((p.length : Int) != (l.length : Int)) = true := by simp; omega
    have g2 : (p.length != l.length) = true := by simpa using hl
    have hfin := Lib.hid (show rankB p l.length = false by unfold rankB; rw [decide_eq_false hl]; rfl)
    clear hl
    go_enter Tryd.func19, Tryd.ntmps19
    go_upto_region 1 with fail
    rw [HW.out]
    go_wp2
    go_ret
    exact ⟨ret_bool hfin.out.symm, HB.out⟩

/-- What the program's Check asks is what the document asks. -/
theorem chkO_eq (l : List Sm) (o : Odr) : chkO l o = if checkI l = 0 ∧ rankB o.prec l.length = true ∧ (o.lpo = true ∨ wghB l o = true) then 0 else 2 := by
  unfold chkO wghB
  by_cases h : checkI l = 0 ∧ rankB o.prec l.length = true ∧ (o.lpo = true ∨ (o.wts.length = l.length ∧ 1 ≤ o.var ∧ o.var ≤ 1000 ∧ o.wts.getD 0 0 = o.var ∧ chkW l o = true))
  · rw [if_pos h, if_pos ⟨h.1, h.2.1, h.2.2.imp id decide_eq_true⟩]
  · rw [if_neg h, if_neg (fun e => h ⟨e.1, e.2.1, e.2.2.imp id of_decide_eq_true⟩)]

theorem chkO_sig {l : List Sm} {o : Odr} (h : ¬ checkI l = 0) : chkO l o = 2 := by rw [chkO_eq, if_neg (fun e => h e.1)]

theorem rankB_len {p : List Int} {n : Nat} (h : rankB p n = true) : p.length = n := by
  unfold rankB at h
  rw [Bool.and_eq_true, decide_eq_true_iff] at h
  exact h.1

set_option maxHeartbeats 4000000 in
theorem check_any (l : List Sm) (o : Odr) (As P Q : Option Addr) (cs pc qc : Nat) (w : World) (hS : Syms w w.heap.size As l.length l) (hn : l.length * 32 ≤ 140737488351232) (ht : tru w) (hM : OdrM w w.heap.size o P Q) :
    Calls Tryd.prog 10 #[.agg #[.slice As l.length cs], .agg #[.bool o.lpo, .slice P o.prec.length pc, .slice Q o.wts.length qc, .int .i64 o.var]] w fun e w' => e = .returned (.int .i64 (chkO l o)) ∧ Below w.heap.size w w' := by
  obtain ⟨W, hW⟩ : ∃ W, (w.alloc (.cells #[.slice As l.length cs] 29)).alloc (.cells #[.bool o.lpo, .slice P o.prec.length pc, .slice Q o.wts.length qc, .int .i64 o.var] 24) = W := ⟨_, rfl⟩
  obtain ⟨q0, q1⟩ := heap2p w (.cells #[.slice As l.length cs] 29) (.cells #[.bool o.lpo, .slice P o.prec.length pc, .slice Q o.wts.length qc, .int .i64 o.var] 24)
  have hB : Below w.heap.size w W := by rw [← hW]; exact ((Below.refl _ _).alloc (Nat.le_refl _) _).alloc (by simp) _
  have hz : W.heap.size = w.heap.size + 2 := by rw [← hW]; simp
  rw [hW] at q0 q1
  have HW := Lib.hid hW
  have HB := Lib.hid hB
  have HS := Lib.hid (hS.on hB)
  have HM := Lib.hid (hM.on hB)
  have HT := Lib.hid (tru_below ht hB)
  have HQ : Hid (∀ w', Below W.heap.size W w' → w'.cell? ⟨w.heap.size, 0, none⟩ = some (.slice As l.length cs) ∧ w'.cell? ⟨w.heap.size + 1, 0, none⟩ = some (.bool o.lpo) ∧ w'.cell? ⟨w.heap.size + 1, 1, none⟩ = some (.slice P o.prec.length pc) ∧ w'.cell? ⟨w.heap.size + 1, 2, none⟩ = some (.slice Q o.wts.length qc) ∧ w'.cell? ⟨w.heap.size + 1, 3, none⟩ = some (.int .i64 o.var)) := Lib.hid fun w' h => by
    obtain ⟨⟨b0, b1, b2, b3⟩, _⟩ := four_cells ((h.block _ (by omega)).trans q1)
    exact ⟨(cells_one ((h.block _ (by omega)).trans q0)).1, b0, b1, b2, b3⟩
  obtain ⟨a0, _⟩ := cells_one q0
  clear hW hB hS hM ht q0 q1 hz
  by_cases h0 : checkI l = 0
  · have hl0 := chk_some h0
    have h96 := (chk_one h0).1
    have HR := Lib.hid (fun (w' : World) (hb : Below W.heap.size W w') => ranked_any l o.prec As P cs pc w' (HM.out.p.on hb) hl0 (by omega))
    cases hr : rankB o.prec l.length with
    | true =>
      have hplen := rankB_len hr
      have HR := Lib.hid (fun (w' : World) (hb : Below W.heap.size W w') => by have := HR.out w' hb; rwa [hr] at this)
      cases hlp : o.lpo with
      | true =>
        have hfin := Lib.hid (show chkO l o = 0 by rw [chkO_eq, if_pos ⟨h0, hr, .inl hlp⟩])
        rw [hlp] at HW HQ
        clear hr hplen
        go_enter Tryd.func10, Tryd.ntmps10
        go_upto_region 1 with fail
        rw [HW.out]
        go_wp2_with (first
          | (go_at_call 18; (with_reducible refine (Check_any As l.length cs l W HS.out hn HT.out).mono ?_); go_must (rintro e w1 ⟨rfl, hb1⟩; rw [h0]; obtain ⟨c0, c1, c2, c3, c4⟩ := HQ.out w1 hb1; have HR1 := Lib.hid (HR.out w1 hb1)))
          | (go_at_call 19; (with_reducible refine HR1.out.mono ?_); go_must (rintro e w2 ⟨rfl, hb2⟩; have hB2 := bl_step hb1 hb2; have HB2 := Lib.hid hB2; clear c0 c1 c2 c3 c4; obtain ⟨c0, c1, c2, c3, c4⟩ := HQ.out w2 hB2; clear hB2 hb1 hb2))
          | fail)
        go_ret
        exact ⟨ret_int hfin.out.symm, HB.out.trans (HB2.out.mono HB.out.size)⟩
      | false =>
        have HG := Lib.hid (fun (w' : World) (hb : Below W.heap.size W w') => weighed_any l o As P Q cs pc qc w' (HS.out.on hb) (HM.out.on hb) hplen hl0 (by omega))
        rw [hlp] at HW HQ HG
        cases hg : wghB l o with
        | true =>
          have hfin := Lib.hid (show chkO l o = 0 by rw [chkO_eq, if_pos ⟨h0, hr, .inr hg⟩])
          rw [hg] at HG
          clear hr hg hplen
          go_enter Tryd.func10, Tryd.ntmps10
          go_upto_region 1 with fail
          rw [HW.out]
          go_wp2_with (first
            | (go_at_call 18; (with_reducible refine (Check_any As l.length cs l W HS.out hn HT.out).mono ?_); go_must (rintro e w1 ⟨rfl, hb1⟩; rw [h0]; obtain ⟨c0, c1, c2, c3, c4⟩ := HQ.out w1 hb1; have HR1 := Lib.hid (HR.out w1 hb1)))
            | (go_at_call 19; (with_reducible refine HR1.out.mono ?_); go_must (rintro e w2 ⟨rfl, hb2⟩; have hB2 := bl_step hb1 hb2; have HB2 := Lib.hid hB2; clear c0 c1 c2 c3 c4; obtain ⟨c0, c1, c2, c3, c4⟩ := HQ.out w2 hB2; have HG2 := Lib.hid (HG.out w2 hB2); clear hB2 hb1 hb2))
            | (go_at_call 20; (with_reducible refine HG2.out.mono ?_); go_must (rintro e w3 ⟨rfl, hb3⟩; have HB3 := Lib.hid (bl_step HB2.out hb3)))
            | fail)
          go_ret
          exact ⟨ret_int hfin.out.symm, HB.out.trans (HB3.out.mono HB.out.size)⟩
        | false =>
          have hfin := Lib.hid (show chkO l o = 2 by rw [chkO_eq, if_neg (fun e => by rcases e.2.2 with h | h; (rw [hlp] at h; cases h); (rw [hg] at h; cases h))])
          rw [hg] at HG
          clear hr hg hplen
          go_enter Tryd.func10, Tryd.ntmps10
          go_upto_region 1 with fail
          rw [HW.out]
          go_wp2_with (first
            | (go_at_call 18; (with_reducible refine (Check_any As l.length cs l W HS.out hn HT.out).mono ?_); go_must (rintro e w1 ⟨rfl, hb1⟩; rw [h0]; obtain ⟨c0, c1, c2, c3, c4⟩ := HQ.out w1 hb1; have HR1 := Lib.hid (HR.out w1 hb1)))
            | (go_at_call 19; (with_reducible refine HR1.out.mono ?_); go_must (rintro e w2 ⟨rfl, hb2⟩; have hB2 := bl_step hb1 hb2; have HB2 := Lib.hid hB2; clear c0 c1 c2 c3 c4; obtain ⟨c0, c1, c2, c3, c4⟩ := HQ.out w2 hB2; have HG2 := Lib.hid (HG.out w2 hB2); clear hB2 hb1 hb2))
            | (go_at_call 20; (with_reducible refine HG2.out.mono ?_); go_must (rintro e w3 ⟨rfl, hb3⟩; have HB3 := Lib.hid (bl_step HB2.out hb3)))
            | fail)
          go_ret
          exact ⟨ret_int hfin.out.symm, HB.out.trans (HB3.out.mono HB.out.size)⟩
    | false =>
      have HR := Lib.hid (fun (w' : World) (hb : Below W.heap.size W w') => by have := HR.out w' hb; rwa [hr] at this)
      have hfin := Lib.hid (show chkO l o = 2 by rw [chkO_eq, if_neg (fun e => by rw [hr] at e; exact absurd e.2.1 (by decide))])
      clear hr
      go_enter Tryd.func10, Tryd.ntmps10
      go_upto_region 1 with fail
      rw [HW.out]
      go_wp2_with (first
        | (go_at_call 18; (with_reducible refine (Check_any As l.length cs l W HS.out hn HT.out).mono ?_); go_must (rintro e w1 ⟨rfl, hb1⟩; rw [h0]; obtain ⟨c0, c1, c2, c3, c4⟩ := HQ.out w1 hb1; have HR1 := Lib.hid (HR.out w1 hb1)))
        | (go_at_call 19; (with_reducible refine HR1.out.mono ?_); go_must (rintro e w2 ⟨rfl, hb2⟩; have HB2 := Lib.hid (bl_step hb1 hb2)))
        | fail)
      go_ret
      exact ⟨ret_int hfin.out.symm, HB.out.trans (HB2.out.mono HB.out.size)⟩
  · have hfin := Lib.hid (chkO_sig (o := o) h0)
    have hne : (checkI l != 0) = true := by simpa using h0
    go_enter Tryd.func10, Tryd.ntmps10
    go_upto_region 1 with fail
    rw [HW.out]
    go_wp2_with (first
      | (go_at_call 18; (with_reducible refine (Check_any As l.length cs l W HS.out hn HT.out).mono ?_); go_must (rintro e w1 ⟨rfl, hb1⟩; have HB1 := Lib.hid hb1))
      | fail)
    go_ret
    exact ⟨ret_int hfin.out.symm, HB.out.trans (HB1.out.mono HB.out.size)⟩

end Go.Proofs.YtfnncphkidhbpaaDoor

/- prec: the terms that are counted, handed over one by one. -/

namespace Go.Proofs.YtfnncphkidhbpaaDoor

open Go Go.RowKit Go.Shelf
attribute [local go_sem] Oper.semAt_some
set_option maxRecDepth 100000

theorem truthN (f : Int) (n c : Nat) (A : Option Addr) (w : World) :
    Calls Tryd.prog 38 #[.agg #[.int .i64 f, .slice A n c]] w fun e w' => e = .returned (.bool (decide (f = 0 ∧ n = 0))) ∧ Below w.heap.size w w' := by
  have hB : Below w.heap.size w (w.alloc (.cells #[.int .i64 f, .slice A n c] 47)) := (Below.refl _ _).alloc (Nat.le_refl _) _
  by_cases h0 : f = 0
  · subst h0
    by_cases h1 : n = 0
    · subst h1
      go_enter Tryd.func38, Tryd.ntmps38
      go_wp2
      go_ret
      exact ⟨ret_bool (by simp), hB⟩
    · have g1 : ((n : Int) == 0) = false := by simp; omega
      have g2 : (n == 0) = false := by simpa using h1
      have hf := Lib.hid h1
      clear h1
      go_enter Tryd.func38, Tryd.ntmps38
      go_wp2
      go_ret
      exact ⟨ret_bool (by simp [hf.out]), hB⟩
  · have g1 : (f == 0) = false := by simpa using h0
    have hf := Lib.hid h0
    clear h0
    go_enter Tryd.func38, Tryd.ntmps38
    go_wp2
    go_ret
    exact ⟨ret_bool (by simp [hf.out]), hB⟩

theorem truth_yes {t : Tm} (h : trueB t = true) (A : Option Addr) (c : Nat) (w : World) : Calls Tryd.prog 38 #[.agg #[.int .i64 t.fn, .slice A t.args.length c]] w fun e w' => e = .returned (.bool true) ∧ Below w.heap.size w w' := by
  have := truthN t.fn t.args.length c A w
  rwa [show decide (t.fn = 0 ∧ t.args.length = 0) = true from h] at this

theorem truth_no {t : Tm} (h : trueB t = false) (A : Option Addr) (c : Nat) (w : World) : Calls Tryd.prog 38 #[.agg #[.int .i64 t.fn, .slice A t.args.length c]] w fun e w' => e = .returned (.bool false) ∧ Below w.heap.size w w' := by
  have := truthN t.fn t.args.length c A w
  rwa [show decide (t.fn = 0 ∧ t.args.length = 0) = false from h] at this

theorem counted_any (A : Option Addr) (n c : Nat) (w : World) : Calls Tryd.prog 22 #[.slice A n c] w fun e w' => e = .returned (.func (.func 37) #[] #[.pointer (some ⟨w.heap.size, 0, none⟩)]) ∧ w' = w.alloc (.cells #[.slice A n c] 30) := by
  go_enter Tryd.func22, Tryd.ntmps22
  go_wp2
  go_ret
  exact ⟨rfl, rfl⟩

theorem cells5s {W : World} {b : Nat} {x y z u v : Value} {t : TypeId} (h : W.heap[b]? = some (.cells #[x, y, z, u, v] t)) : W.cell? ⟨b, 0, none⟩ = some x ∧ W.cell? ⟨b, 1, none⟩ = some y ∧ W.cell? ⟨b, 2, none⟩ = some z ∧ W.cell? ⟨b, 3, none⟩ = some u ∧ W.cell? ⟨b, 4, none⟩ = some v := by
  refine ⟨?_, ?_, ?_, ?_, ?_⟩ <;> simp [World.cell?, h]

theorem undef_no (b : Bool) (h : some undef = some (Value.bool b)) : False := by
  simp [undef] at h

set_option maxHeartbeats 4000000 in
theorem counted1_seq (m B : Nat) (cs : List (List Lp)) (A : Option Addr) (c : Nat) (N : Nat → Prop) (w0 : World) (hb : w0.heap[B]? = some (.cells #[.slice A cs.length c] 30)) (hC : ClRow w0 N A cs) (hN : ∀ g, N g → g < w0.heap.size) :
    SeqC Fence.wide m Tryd.prog 37 #[.pointer (some ⟨B, 0, none⟩)] tmEnc (TmFx N) N (fun xs => xs.map TmA.t = itms cs) (fun pre => pre.map TmA.t <+: itms cs) w0 := by
  intro lp C J Jx W hW hJ hB hY h0
  have hBl : B < w0.heap.size := (Array.getElem?_eq_some_iff.1 hb).1
  have hbW : W.cell? ⟨B, 0, none⟩ = some (.slice A cs.length c) := (cells_one ((hW.block B hBl).trans hb)).1
  have hNW : ∀ g, N g → g < W.heap.size := fun g e => Nat.lt_of_lt_of_le (hN g e) hW.size
  have HC := Lib.hid (hC.to (w' := W) (M := N) (fun g e => hW.block g (hN g e)) fun _ e => e)
  have hcl := hC.len
  clear hb hC
  refine callsIn_of_wp Tryd.func37 rfl trivial ?_ rfl
  simp only [Tryd.ntmps37, List.size_toArray, List.length_cons, List.length_nil, Nat.reduceAdd, Nat.reduceSub, Array.replicate_succ, Array.replicate_zero, List.push_toArray, List.append_toArray, List.nil_append, List.cons_append]
  gi_wp2
  clear hbW
  gi_loopw [9] (fun i wr => ∃ (k : Nat) (pre : List TmA), k ≤ cs.length ∧ i = .int .i64 (k : Int) ∧ Hid (pre.map TmA.t = itms (cs.take k)) ∧ J pre wr ∧ Hid (Keeps N W wr)) (fun i _ => cs.length - (intOf i).toNat)
  case atStart => exact ⟨0, [], Nat.zero_le _, rfl, Lib.hid rfl, h0, Lib.hid (Keeps.refl _ _)⟩
  case round =>
    obtain ⟨k, pre, hk, rfl, HP, hJr, HK⟩ := hrel
    by_cases hlt : k < cs.length
    · obtain ⟨l, hl⟩ : ∃ l, cs[k]? = some l := ⟨_, List.getElem?_eq_getElem hlt⟩
      obtain ⟨b, off, A1, c1, rfl, hNb, e0, hRow⟩ := HC.out.get hl
      have e1 := (cell_of_heap (HK.out.block b hNb)).trans e0
      have HL := Lib.hid hl
      have HRow := Lib.hid hRow
      have hll := hRow.len
      clear e0 hl hRow
      gi_wp2
      clear e1
      gi_loopw [15] (fun i wx => ∃ (j : Nat) (p2 : List TmA), j ≤ l.length ∧ i = .int .i64 (j : Int) ∧ Hid (p2.map TmA.t = itms (cs.take k) ++ itmL (l.take j)) ∧ J p2 wx ∧ Hid (Keeps N W wx)) (fun i _ => l.length - (intOf i).toNat)
      case atStart => exact ⟨0, pre, Nat.zero_le _, rfl, Lib.hid (by rw [HP.out]; simp [itmL]), hJr, HK⟩
      case round =>
        obtain ⟨j, p2, hj, rfl, HP2, hJ2, HK2⟩ := hrel
        by_cases hjl : j < l.length
        · obtain ⟨x, hx⟩ : ∃ x, l[j]? = some x := ⟨_, List.getElem?_eq_getElem hjl⟩
          obtain ⟨b2, off2, B1, d1, B2, d2, rfl, hNb2, hAt⟩ := HRow.out.get hx
          have kk := fun o v (h : W.cell? ⟨b2, o, none⟩ = some v) => (cell_of_heap (HK2.out.block b2 hNb2)).trans h
          have a0 := kk _ _ hAt.v0
          have a1 := kk _ _ hAt.v1
          have a2 := kk _ _ hAt.v2
          have a3 := kk _ _ hAt.v3
          have a4 := kk _ _ hAt.v4
          obtain ⟨W1, hW1⟩ : ∃ W1, wr.alloc (.cells #[.bool x.neg, .int .i64 x.l.fn, .slice B1 x.l.args.length d1, .int .i64 x.r.fn, .slice B2 x.r.args.length d2] 49) = W1 := ⟨_, rfl⟩
          have q0 : W1.heap[wr.heap.size]? = some (.cells #[.bool x.neg, .int .i64 x.l.fn, .slice B1 x.l.args.length d1, .int .i64 x.r.fn, .slice B2 x.r.args.length d2] 49) := by rw [← hW1]; exact heap_alloc_new _ _
          have hB1 : Below wr.heap.size wr W1 := by rw [← hW1]; exact (Below.refl _ _).alloc (Nat.le_refl _) _
          have hq := (Array.getElem?_eq_some_iff.1 q0).1
          have HW1 := Lib.hid hW1
          obtain ⟨hJ1, hC1⟩ := hJ p2 wr W1 hJ2 ((Keeps.of_below hB1).mono fun g e => hB p2 wr hJ2 g e)
          have hnC : ¬ C W1 wr.heap.size := fun e => Nat.lt_irrefl _ (hB p2 wr hJ2 _ (hC1 _ e))
          have hsw := HK2.out.size
          have hK1 : Keeps N W W1 := HK2.out.trans ((Keeps.of_below hB1).mono fun g e => Nat.lt_of_lt_of_le (hNW g e) hsw)
          have hmid := itms_mid HL.out hx
          have hnx := itmL_take hx
          have HX := Lib.hid (And.intro hmid hnx)
          have HAt := Lib.hid hAt
          have hsp1 : (p2 ++ [(⟨x.l, B1, d1⟩ : TmA)]).map TmA.t <+: itms cs := by
            rw [List.map_append, HP2.out]
            refine List.IsPrefix.trans ?_ hmid
            refine (List.prefix_append_right_inj _).2 ?_
            unfold itm
            split
            · exact List.prefix_refl _
            · exact ⟨[x.r], rfl⟩
          obtain ⟨fn, tmps, assign, body, hy, hR⟩ := hY (m - 1) p2 ⟨x.l, B1, d1⟩ W1 hJ1 hsp1 ⟨hAt.il, hAt.sl.keep fun g e => hK1.block g e⟩
          simp only [tmEnc] at hy
          obtain ⟨f0, f1, f2, f3, f4⟩ := cells5s q0
          have Hsp := Lib.hid hsp1
          have Q0 := Lib.hid q0
          have HKN := Lib.hid hK1
          clear hW1 hmid hnx hAt hsp1 hx q0 hK1 kk hJ1
          gi_upto_region 6 with fail
          rw [HW1.out]
          clear a0 a1 a2 a3 a4
          gi_wp2
          refine ⟨(fun h => by cases h), hR.mono ?_⟩
          clear hR hy
          rintro e W3 (⟨rfl, hJ3, hst⟩ | ⟨rfl, hJx3⟩)
          · have q3 := (hst.keeps.block _ (.inr ⟨hq, hnC⟩)).trans Q0.out
            obtain ⟨g0, g1, g2, g3, g4⟩ := cells5s q3
            have hK3 : Keeps N W W3 := HKN.out.trans (hst.keeps.mono fun g e => .inl e)
            have HJ3 := Lib.hid hJ3
            have HK3 := Lib.hid hK3
            clear f0 f1 f2 f3 f4 hst hJ3 hK3
            have hq3 : wr.heap.size < W3.heap.size := (Array.getElem?_eq_some_iff.1 q3).1
            have Q3 := Lib.hid q3
            clear q3
            cases hT : trueB x.r with
            | true =>
              have HT := Lib.hid (truth_yes hT B2 d2)
              have HE := Lib.hid (itm_yes hT)
              clear hT
              gi_wp2_with (first
                | ((refine ⟨trivial, (fun h => by cases h), ?_⟩); (with_reducible refine (callsIn_wide.2 (HT.out _)).mono ?_); go_must (rintro e w5 ⟨rfl, hb5⟩; have HB5 := Lib.hid hb5; clear hb5))
                | fail)
              refine ⟨(by simp), ?_⟩
              gi_wp2
              go_roundw
              case rel =>
                refine ⟨j + 1, _, by omega, by go_num, Lib.hid ?_, (hJ _ W3 w5 HJ3.out ((Keeps.of_below HB5.out).mono fun g e => hB _ W3 HJ3.out g e)).1, Lib.hid (HK3.out.trans ((Keeps.of_below HB5.out).mono fun g e => Nat.lt_of_lt_of_le (hNW g e) HK3.out.size))⟩
                rw [List.map_append, HP2.out, HX.out.2, HE.out, List.append_assoc]; rfl
              case measure => simp [intOf]; omega
            | false =>
              have HT := Lib.hid (truth_no hT B2 d2)
              have HE := Lib.hid (itm_no hT)
              clear hT
              have hnx : ∀ w5, Below W3.heap.size W3 w5 → Keeps N W w5 ∧ (p2 ++ [(⟨x.l, B1, d1⟩ : TmA)] ++ [(⟨x.r, B2, d2⟩ : TmA)]).map TmA.t <+: itms cs ∧ J (p2 ++ [(⟨x.l, B1, d1⟩ : TmA)]) w5 ∧ TmFx N ⟨x.r, B2, d2⟩ w5 := fun w5 hb5 => by
                have hK5 : Keeps N W w5 := HK3.out.trans ((Keeps.of_below hb5).mono fun g e => Nat.lt_of_lt_of_le (hNW g e) HK3.out.size)
                refine ⟨hK5, ?_, (hJ _ W3 w5 HJ3.out ((Keeps.of_below hb5).mono fun g e => hB _ W3 HJ3.out g e)).1, HAt.out.ir, HAt.out.sr.keep fun g e => hK5.block g e⟩
                rw [List.append_assoc, List.map_append, HP2.out]
                have h := HX.out.1
                rw [HE.out] at h
                exact h
              have HNX := Lib.hid hnx
              clear hnx
              gi_wp2_with (first
                | ((refine ⟨trivial, (fun h => by cases h), ?_⟩); (with_reducible refine (callsIn_wide.2 (HT.out _)).mono ?_); go_must (rintro e w5 ⟨rfl, hb5⟩; obtain ⟨i0, i1, i2, i3, i4⟩ := cells5s ((hb5.block _ hq3).trans Q3.out); obtain ⟨hK5, hsp2, hJ5, hF5⟩ := HNX.out w5 hb5; obtain ⟨fn, tmps, assign, body, hy, hR⟩ := hY (m - 1) _ ⟨x.r, B2, d2⟩ w5 hJ5 hsp2 hF5; simp only [tmEnc] at hy; have HK5 := Lib.hid hK5; have Hsp2 := Lib.hid hsp2; clear hK5 hsp2 hb5 g0 g1 g2 g3 g4 hJ5 hF5))
                | fail)
              refine ⟨(fun h => by cases h), hR.mono ?_⟩
              clear hR hy
              rintro e W6 (⟨rfl, hJ6, hst⟩ | ⟨rfl, hJx6⟩)
              · have HJ6 := Lib.hid hJ6
                have HK6 := Lib.hid (HK5.out.trans (hst.keeps.mono fun g e => .inl e))
                clear hst hJ6 i0 i1 i2 i3 i4
                gi_wp2
                go_roundw
                case rel =>
                  refine ⟨j + 1, _, by omega, by go_num, Lib.hid ?_, HJ6.out, HK6⟩
                  rw [List.append_assoc, List.map_append, HP2.out, HX.out.2, HE.out, List.append_assoc]; rfl
                case measure => simp [intOf]; omega
              · clear i0 i1 i2 i3 i4
                gi_wp2
                refine bodyPost_ret (results_none rfl _ _ _) rfl ?_
                exact ⟨⟨_, rfl⟩, .inr ⟨_, Hsp2.out, hJx6⟩⟩
          · clear f0 f1 f2 f3 f4
            gi_wp2
            refine ⟨trivial, ?_⟩
            gi_wp2
            all_goals first
              | exact (undef_no _ (by assumption)).elim
              | (refine ⟨(by simp), ?_⟩
                 gi_wp2
                 refine bodyPost_ret (results_none rfl _ _ _) rfl ?_
                 exact ⟨⟨_, rfl⟩, .inr ⟨_, Hsp.out, hJx3⟩⟩)
        · obtain rfl : j = l.length := by omega
          rw [List.take_length, ← itms_take HL.out] at HP2
          gi_wp2
          go_roundw
          case rel => exact ⟨k + 1, p2, by omega, by go_num, HP2, hJ2, HK2⟩
          case measure => simp [intOf]; omega
    · obtain rfl : k = cs.length := by omega
      gi_wp2
      go_end0
      exact ⟨⟨_, rfl⟩, .inl ⟨pre, by rw [HP.out, List.take_length], hJr⟩⟩

end Go.Proofs.YtfnncphkidhbpaaDoor

/- A range over a function whose body is told of its loop's record; a range over a function within a round of another one. -/

namespace Go.Proofs.YtfnncphkidhbpaaDoor

open Go Go.RowKit Go.Shelf
attribute [local go_sem] Oper.semAt_some
set_option maxRecDepth 100000

section

variable {F : Fence} {n : Nat} {P : Program} {α : Type}

theorem range_lawH {g : Operand} {ps : Array Tmp} {assign body : Code} {Q : Exit → Act → World → Prop} {a : Act} {w : World}
    (hro : F.round = none) (hd : F.depth = none) {gf : Nat} {lb : Array Value} (hg : a.eval g = .func (.func gf) #[] lb) (hFg : F.fn gf) (eg : ∀ args w, (callFunc gf args).run P w = .ok (.enter gf args) w)
    {encs : α → Array Value} {Fx : α → World → Prop} {N : Nat → Prop} {S Sp : List α → Prop} {w0 : World} (hseq : ∀ m, SeqD F m P gf lb encs Fx N S Sp w0) (hb0 : Below w0.heap.size w0 w) (hps : ∀ x, (encs x).size = ps.size) (hN : ∀ g, N g → g < w.heap.size)
    (C : World → Nat → Prop) (I : List α → World → Prop) (Ix : Code → List α → World → Prop) (hI : FrameC C I) (hbd : BoundC C I) (hIx : ∀ c, FrameC C (Ix c))
    (h0 : I [] w) (Ax : List α → α → Act → World → Prop)
    (hAx : ∀ pre x a' W l r o, Ax pre x a' W → w.heap.size ≤ l → W.heap[l]? = some (.loop r) → ¬ C W l → (∀ g, C (W.putObj l o) g → C W g) ∧ Ax pre x a' (W.putObj l o))
    (hassign : ∀ (l m : Nat) (pre : List α) (x : α) (W : World) (K : Act → World → Prop), I pre W → Sp (pre ++ [x]) → Fx x W → (∀ a' W', Stp N C W W' → Ax pre x a' W' → K a' W') →
      assign.wpIn (F.inRound l) m P (Exit.then K (fun _ _ _ => False)) { tmps := (ps.zip (encs x)).foldl (fun t (p, v) => t.setIfInBounds p v) a.tmps, defers := [] } W)
    (hbody : ∀ (l m : Nat) (pre : List α) (x : α) (a' : Act) (W : World), w.heap.size ≤ l → (∃ r, W.heap[l]? = some (.loop r)) → ¬ C W l → Sp (pre ++ [x]) → Ax pre x a' W → body.wpIn (F.inRound l) m P (bodyC N C I Ix (pre ++ [x]) W) a' W)
    (hdone : ∀ (D : Nat) (xs : List α) (W : World), w.heap.size ≤ D → S xs → I xs W → ¬ C W D → W.heap[D]? = some (.deferred (some [])) → Q .normal { a with defers := { target := .collected D, args := #[] } :: a.defers } W)
    (hstop : ∀ (D : Nat) (c : Code) (pre : List α) (W : World), w.heap.size ≤ D → Sp pre → Ix c pre W → ¬ C W D → W.heap[D]? = some (.deferred (some [])) → c.wpIn F n P Q { a with defers := { target := .collected D, args := #[] } :: a.defers } W) :
    (Code.rangeFunc g ps assign body).wpIn F n P Q a w := by
  refine wpIn_rangeFunc fun fn hfn => ?_
  rw [hro]
  have hdd : ∀ k : Nat, F.depth.isSome = true → 1 ≤ k := fun k h => by rw [hd] at h; cases h
  -- the two blocks that the statement lays: for the rounds' deferred calls (d); the loop's record (l)
  obtain ⟨d, hd0⟩ : ∃ d, d = w.heap.size := ⟨_, rfl⟩
  obtain ⟨rec, hrec⟩ : ∃ rec : LoopState → Option Code → Loop, rec = fun st pe => { state := st, pending := pe, fn, tmps := a.tmps, params := ps, assign, body, defers := w.heap.size } := ⟨_, rfl⟩
  obtain ⟨W1, hW1⟩ : ∃ W1, (w.alloc (.deferred (some []))).alloc (.loop (rec .ready none)) = W1 := ⟨_, rfl⟩
  have hl1 : W1.heap[d + 1]? = some (.loop (rec .ready none)) := by
    rw [← hW1, hd0, show w.heap.size + 1 = (w.alloc (.deferred (some []))).heap.size by simp]; exact World.alloc_heap_new _ _
  have hk1 : W1.heap[d]? = some (.deferred (some [])) := by rw [← hW1, hd0]; exact (Below.heap_alloc _ _ _ (by simp)).trans (World.alloc_heap_new w _)
  have hBw : Below w.heap.size w W1 := by rw [← hW1]; exact ((Below.refl _ w).alloc (Nat.le_refl _) _).alloc (by simp) _
  have hIw := hI [] w W1 h0 ((Keeps.of_below hBw).mono fun g e => hbd [] w h0 g e)
  have hbw : ∀ g, C W1 g → g < w.heap.size := fun g e => hbd [] w h0 g (hIw.2 g e)
  have hNd : ∀ g, N g → g < d := fun g e => by rw [hd0]; exact hN g e
  -- what the rounds speak of, with the two blocks
  let CJ : World → Nat → Prop := fun W g => C W g ∨ g = d + 1 ∨ g = d
  let J : List α → World → Prop := fun pre W => I pre W ∧ (W.heap[d + 1]? = some (.loop (rec .ready none)) ∧ W.heap[d]? = some (.deferred (some []))) ∧ ¬ C W (d + 1) ∧ ¬ C W d
  let Jx : List α → World → Prop := fun pre W => ∃ c, Ix c pre W ∧ (W.heap[d + 1]? = some (.loop (rec .done (some c))) ∧ W.heap[d]? = some (.deferred (some []))) ∧ ¬ C W (d + 1) ∧ ¬ C W d
  have hJF : FrameC CJ J := by
    rintro s A B ⟨h1, ⟨h2, h3⟩, h4, h5⟩ hk
    have hi := hI s A B h1 (hk.mono fun g e => .inl e)
    exact ⟨⟨hi.1, ⟨(hk.block _ (.inr (.inl rfl))).trans h2, (hk.block _ (.inr (.inr rfl))).trans h3⟩, fun e => h4 (hi.2 _ e), fun e => h5 (hi.2 _ e)⟩, fun g e => e.elim (fun e => .inl (hi.2 g e)) .inr⟩
  have hJxF : FrameC CJ Jx := by
    rintro s A B ⟨cd, h1, ⟨h2, h3⟩, h4, h5⟩ hk
    have hi := hIx cd s A B h1 (hk.mono fun g e => .inl e)
    exact ⟨⟨cd, hi.1, ⟨(hk.block _ (.inr (.inl rfl))).trans h2, (hk.block _ (.inr (.inr rfl))).trans h3⟩, fun e => h4 (hi.2 _ e), fun e => h5 (hi.2 _ e)⟩, fun g e => e.elim (fun e => .inl (hi.2 g e)) .inr⟩
  have hJB : BoundC CJ J := by
    rintro s A ⟨h1, ⟨h2, h3⟩, _, _⟩ g (e | rfl | rfl)
    · exact hbd s A h1 g e
    · exact (Array.getElem?_eq_some_iff.1 h2).1
    · exact (Array.getElem?_eq_some_iff.1 h3).1
  refine ⟨d + 1, [{ target := .collected d, args := #[] }], W1, { target := .fn (.func gf) lb, args := #[.func (.yield (d + 1)) #[] #[]] }, W1, gf, #[.func (.yield (d + 1)) #[] #[]] ++ lb, W1, ?_, ?_, ?_, ?_, fun h => hdd _ h, ?_⟩
  · rw [← hW1, hrec, hd0]; exact run_enterLoop_outer _ _ _ _ _
  · simp only [resolve, hg]
    simp [go_sem]
  · intro f' hf'; simp [Target.leads] at hf'; subst hf'; exact hFg
  · simp [invoke, go_sem, eg]
  · refine (hseq _ (d + 1) CJ J Jx W1 (hb0.trans (hBw.mono hb0.size)) hJF hJB hJxF ?_ ⟨hIw.1, ⟨hl1, hk1⟩, fun e => ?_, fun e => ?_⟩).mono ?_
    · -- one round
      rintro m pre x W ⟨hi, ⟨hl, hk⟩, hnl, hnd⟩ hsp hfx
      have hy := run_yield (P := P) (args := encs x) hl (by rw [hrec]; exact hps x)
      rw [hrec] at hy
      refine ⟨fn, _, assign, body, hy, roundIn_of_wpIn hfn (hassign _ m pre x W _ hi hsp hfx ?_)⟩
      clear hy
      intro a' Wa hst hax
      have hlW : d + 1 < W.heap.size := (Array.getElem?_eq_some_iff.1 hl).1
      have hla : Wa.heap[d + 1]? = some (.loop (rec .ready none)) := (hst.keeps.block _ (.inr ⟨hlW, hnl⟩)).trans hl
      have hka : Wa.heap[d]? = some (.deferred (some [])) := (hst.keeps.block _ (.inr ⟨by omega, hnd⟩)).trans hk
      have hnla : ¬ C Wa (d + 1) := fun e => (hst.grows _ e).elim hnl (fun e => by omega)
      have hnda : ¬ C Wa d := fun e => (hst.grows _ e).elim hnd (fun e => by omega)
      have hla1 : d + 1 < Wa.heap.size := (Array.getElem?_eq_some_iff.1 hla).1
      refine ⟨_, run_beginRound hla (by rw [hrec]), ?_⟩
      obtain ⟨hgr, hax2⟩ := hAx pre x a' Wa (d + 1) _ (.loop { rec .ready none with state := .busy }) hax (by omega) hla hnla
      obtain ⟨Wb, hWb⟩ : ∃ Wb, Wa.putObj (d + 1) (.loop { rec .ready none with state := .busy }) = Wb := ⟨_, rfl⟩
      have hlb : Wb.heap[d + 1]? = some (.loop { rec .ready none with state := .busy }) := by rw [← hWb]; exact World.putObj_heap_same hla1
      have hkb : Wb.heap[d]? = some (.deferred (some [])) := by rw [← hWb]; exact (World.putObj_heap_other (by omega)).trans hka
      have hKab : Keeps (· ≠ d + 1) Wa Wb := by rw [← hWb]; exact Keeps.put _ _ _
      rw [hWb] at hgr hax2 ⊢
      have hnlb : ¬ C Wb (d + 1) := fun e => hnla (hgr _ e)
      have hndb : ¬ C Wb d := fun e => hnda (hgr _ e)
      refine wpIn_mono (hbody _ m pre x a' Wb (by omega) ⟨_, hlb⟩ hnlb hsp hax2) ?_
      have hszb : Wa.heap.size ≤ Wb.heap.size := hKab.size
      have fin : ∀ (jump : Option Code) (W3 : World), Stp N C Wb W3 →
          (Instr.endRound (d + 1) jump).run P W3 = .ok (.bool jump.isNone) (W3.putObj (d + 1) (.loop (rec (if jump.isNone then .ready else .done) jump))) ∧
          (W3.putObj (d + 1) (.loop (rec (if jump.isNone then .ready else .done) jump))).heap[d + 1]? = some (.loop (rec (if jump.isNone then .ready else .done) jump)) ∧
          (W3.putObj (d + 1) (.loop (rec (if jump.isNone then .ready else .done) jump))).heap[d]? = some (.deferred (some [])) ∧ ¬ C W3 (d + 1) ∧ ¬ C W3 d := fun jump W3 h3 => by
        have hl3 : W3.heap[d + 1]? = some (.loop { rec .ready none with state := .busy }) := (h3.keeps.block _ (.inr ⟨by omega, hnlb⟩)).trans hlb
        have hk3 : W3.heap[d]? = some (.deferred (some [])) := (h3.keeps.block _ (.inr ⟨by omega, hndb⟩)).trans hkb
        have := run_endRound (P := P) jump hl3
        rw [hrec] at this ⊢
        exact ⟨this, World.putObj_heap_same (Array.getElem?_eq_some_iff.1 hl3).1, (World.putObj_heap_other (by omega)).trans hk3, fun e => (h3.grows _ e).elim hnlb (fun e => by omega), fun e => (h3.grows _ e).elim hndb (fun e => by omega)⟩
      have stp4 : ∀ (o : Obj) (W3 : World), Stp N C Wb W3 → (∀ g, C (W3.putObj (d + 1) o) g → C W3 g) → Stp N CJ W (W3.putObj (d + 1) o) := fun o W3 h3 hg4 => by
        refine ⟨?_, ?_⟩
        · refine (hst.keeps.mono fun g hg => ?_).trans ((hKab.mono fun g hg => ?_).trans ((h3.keeps.mono fun g hg => ?_).trans ((Keeps.put W3 (d + 1) _).mono fun g hg => ?_)))
          · exact hg.elim .inl fun hg => .inr ⟨hg.1, fun e => hg.2 (.inl e)⟩
          · exact hg.elim (fun e => by have := hNd _ e; omega) fun hg e => hg.2 (.inr (.inl e))
          · exact hg.elim .inl fun hg => .inr ⟨by have := hst.keeps.size; omega, fun e => (hst.grows g (hgr g e)).elim (fun e => hg.2 (.inl e)) (fun e => by omega)⟩
          · exact hg.elim (fun e => by have := hNd _ e; omega) fun hg e => hg.2 (.inr (.inl e))
        · rintro g (e | e)
          · rcases h3.grows g (hg4 g e) with e | e
            · rcases hst.grows g (hgr g e) with e | e
              · exact .inl (.inl e)
              · exact .inr e
            · exact .inr (Nat.le_trans hst.keeps.size (Nat.le_trans hszb e))
          · exact .inl (.inr e)
      rintro e a3 W3 hp
      cases e with
      | normal =>
        obtain ⟨hi3, h3⟩ := hp
        obtain ⟨hr, hl4, hk4, hn4, hm4⟩ := fin none W3 h3
        obtain ⟨hi4, hg4⟩ := hI _ W3 _ hi3 ((Keeps.put W3 (d + 1) (.loop (rec (if (none : Option Code).isNone then .ready else .done) none))).mono fun g e he => hn4 (he ▸ e))
        exact ⟨_, _, hr, .inl ⟨rfl, ⟨hi4, ⟨hl4, hk4⟩, fun e => hn4 (hg4 _ e), fun e => hm4 (hg4 _ e)⟩, stp4 _ W3 h3 hg4⟩⟩
      | ret =>
        obtain ⟨hi3, h3⟩ := hp
        obtain ⟨hr, hl4, hk4, hn4, hm4⟩ := fin (some .ret) W3 h3
        have hK4 := (Keeps.put W3 (d + 1) (.loop (rec (if (some Code.ret).isNone then .ready else .done) (some .ret)))).mono (T := C W3) fun g e he => hn4 (he ▸ e)
        exact ⟨_, _, hr, .inr ⟨rfl, ⟨.ret, (hIx _ _ W3 _ hi3 hK4).1, ⟨hl4, hk4⟩, fun e => hn4 ((hIx _ _ W3 _ hi3 hK4).2 _ e), fun e => hm4 ((hIx _ _ W3 _ hi3 hK4).2 _ e)⟩, stp4 _ W3 h3 (hIx _ _ W3 _ hi3 hK4).2⟩⟩
      | exit id =>
        obtain ⟨hi3, h3⟩ := hp
        obtain ⟨hr, hl4, hk4, hn4, hm4⟩ := fin (some (.exit id)) W3 h3
        have hK4 := (Keeps.put W3 (d + 1) (.loop (rec (if (some (Code.exit id)).isNone then .ready else .done) (some (.exit id))))).mono (T := C W3) fun g e he => hn4 (he ▸ e)
        exact ⟨_, _, hr, .inr ⟨rfl, ⟨.exit id, (hIx _ _ W3 _ hi3 hK4).1, ⟨hl4, hk4⟩, fun e => hn4 ((hIx _ _ W3 _ hi3 hK4).2 _ e), fun e => hm4 ((hIx _ _ W3 _ hi3 hK4).2 _ e)⟩, stp4 _ W3 h3 (hIx _ _ W3 _ hi3 hK4).2⟩⟩
      | goto t =>
        obtain ⟨hi3, h3⟩ := hp
        obtain ⟨hr, hl4, hk4, hn4, hm4⟩ := fin (some (.goto t)) W3 h3
        have hK4 := (Keeps.put W3 (d + 1) (.loop (rec (if (some (Code.goto t)).isNone then .ready else .done) (some (.goto t))))).mono (T := C W3) fun g e he => hn4 (he ▸ e)
        exact ⟨_, _, hr, .inr ⟨rfl, ⟨.goto t, (hIx _ _ W3 _ hi3 hK4).1, ⟨hl4, hk4⟩, fun e => hn4 ((hIx _ _ W3 _ hi3 hK4).2 _ e), fun e => hm4 ((hIx _ _ W3 _ hi3 hK4).2 _ e)⟩, stp4 _ W3 h3 (hIx _ _ W3 _ hi3 hK4).2⟩⟩
      | panic ch => exact hp.elim
      | outgrown => exact hp.elim
    · have := hbw _ e; omega
    · have := hbw _ e; omega
    · -- behind the iterator
      rintro e W2 ⟨⟨v, rfl⟩, (⟨xs, hS, hi, ⟨hl, hk⟩, hnl, hnd⟩ | ⟨pre, hSp, c, hi, ⟨hl, hk⟩, hnl, hnd⟩)⟩
      · refine ⟨none, _, by have := run_endLoop (P := P) hl (by rw [hrec]; simp); rw [hrec] at this; exact this, hdone d xs _ (by omega) hS ?_ (fun e => hnd ((hI xs W2 _ hi ((Keeps.put W2 (d + 1) _).mono fun g e he => hnl (he ▸ e))).2 _ e)) ((World.putObj_heap_other (by omega)).trans hk)⟩
        exact (hI xs W2 _ hi ((Keeps.put W2 (d + 1) _).mono fun g e he => hnl (he ▸ e))).1
      · refine ⟨some c, _, by have := run_endLoop (P := P) hl (by rw [hrec]; simp); rw [hrec] at this; exact this, hstop d c pre _ (by omega) hSp ?_ (fun e => hnd ((hIx c pre W2 _ hi ((Keeps.put W2 (d + 1) _).mono fun g e he => hnl (he ▸ e))).2 _ e)) ((World.putObj_heap_other (by omega)).trans hk)⟩
        exact (hIx c pre W2 _ hi ((Keeps.put W2 (d + 1) _).mono fun g e he => hnl (he ▸ e))).1

theorem range_lawN {g : Operand} {ps : Array Tmp} {assign body : Code} {Q : Exit → Act → World → Prop} {a : Act} {w : World}
    {l₀ : Nat} {r₀ : Loop} (hro : F.round = some l₀) (hl₀ : w.heap[l₀]? = some (.loop r₀)) (hd : F.depth = none) {gf : Nat} {lb : Array Value} (hg : a.eval g = .func (.func gf) #[] lb) (hFg : F.fn gf) (eg : ∀ args w, (callFunc gf args).run P w = .ok (.enter gf args) w)
    {encs : α → Array Value} {Fx : α → World → Prop} {N : Nat → Prop} {S Sp : List α → Prop} {w0 : World} (hseq : ∀ m, SeqD F m P gf lb encs Fx N S Sp w0) (hb0 : Below w0.heap.size w0 w) (hps : ∀ x, (encs x).size = ps.size) (hN : ∀ g, N g → g < w.heap.size)
    (C : World → Nat → Prop) (I : List α → World → Prop) (Ix : Code → List α → World → Prop) (hI : FrameC C I) (hbd : BoundC C I) (hIx : ∀ c, FrameC C (Ix c))
    (h0 : I [] w) (Ax : List α → α → Act → World → Prop)
    (hAx : ∀ pre x a' W l r o, Ax pre x a' W → w.heap.size ≤ l → W.heap[l]? = some (.loop r) → ¬ C W l → (∀ g, C (W.putObj l o) g → C W g) ∧ Ax pre x a' (W.putObj l o))
    (hassign : ∀ (l m : Nat) (pre : List α) (x : α) (W : World) (K : Act → World → Prop), I pre W → Sp (pre ++ [x]) → Fx x W → (∀ a' W', Stp N C W W' → Ax pre x a' W' → K a' W') →
      assign.wpIn (F.inRound l) m P (Exit.then K (fun _ _ _ => False)) { tmps := (ps.zip (encs x)).foldl (fun t (p, v) => t.setIfInBounds p v) a.tmps, defers := [] } W)
    (hbody : ∀ (l m : Nat) (pre : List α) (x : α) (a' : Act) (W : World), w.heap.size ≤ l → (∃ r, W.heap[l]? = some (.loop r)) → ¬ C W l → Sp (pre ++ [x]) → Ax pre x a' W → body.wpIn (F.inRound l) m P (bodyC N C I Ix (pre ++ [x]) W) a' W)
    (hdone : ∀ (xs : List α) (W : World), S xs → I xs W → Q .normal a W)
    (hstop : ∀ (c : Code) (pre : List α) (W : World), Sp pre → Ix c pre W → c.wpIn F n P Q a W) :
    (Code.rangeFunc g ps assign body).wpIn F n P Q a w := by
  refine wpIn_rangeFunc fun fn hfn => ?_
  rw [hro]
  have hdd : ∀ k : Nat, F.depth.isSome = true → 1 ≤ k := fun k h => by rw [hd] at h; cases h
  obtain ⟨d, hd0⟩ : ∃ d, d = w.heap.size := ⟨_, rfl⟩
  obtain ⟨rec, hrec⟩ : ∃ rec : LoopState → Option Code → Loop, rec = fun st pe => { state := st, pending := pe, fn, tmps := a.tmps, params := ps, assign, body, defers := r₀.defers } := ⟨_, rfl⟩
  obtain ⟨W1, hW1⟩ : ∃ W1, w.alloc (.loop (rec .ready none)) = W1 := ⟨_, rfl⟩
  have hl1 : W1.heap[d]? = some (.loop (rec .ready none)) := by
    rw [← hW1, hd0]; exact World.alloc_heap_new _ _
  have hBw : Below w.heap.size w W1 := by rw [← hW1]; exact (Below.refl _ w).alloc (Nat.le_refl _) _
  have hIw := hI [] w W1 h0 ((Keeps.of_below hBw).mono fun g e => hbd [] w h0 g e)
  have hbw : ∀ g, C W1 g → g < w.heap.size := fun g e => hbd [] w h0 g (hIw.2 g e)
  have hNd : ∀ g, N g → g < d := fun g e => by rw [hd0]; exact hN g e
  let CJ : World → Nat → Prop := fun W g => C W g ∨ g = d
  let J : List α → World → Prop := fun pre W => I pre W ∧ W.heap[d]? = some (.loop (rec .ready none)) ∧ ¬ C W d
  let Jx : List α → World → Prop := fun pre W => ∃ c, Ix c pre W ∧ W.heap[d]? = some (.loop (rec .done (some c))) ∧ ¬ C W d
  have hJF : FrameC CJ J := by
    rintro s A B ⟨h1, h2, h4⟩ hk
    have hi := hI s A B h1 (hk.mono fun g e => .inl e)
    exact ⟨⟨hi.1, (hk.block _ (.inr rfl)).trans h2, fun e => h4 (hi.2 _ e)⟩, fun g e => e.elim (fun e => .inl (hi.2 g e)) .inr⟩
  have hJxF : FrameC CJ Jx := by
    rintro s A B ⟨cd, h1, h2, h4⟩ hk
    have hi := hIx cd s A B h1 (hk.mono fun g e => .inl e)
    exact ⟨⟨cd, hi.1, (hk.block _ (.inr rfl)).trans h2, fun e => h4 (hi.2 _ e)⟩, fun g e => e.elim (fun e => .inl (hi.2 g e)) .inr⟩
  have hJB : BoundC CJ J := by
    rintro s A ⟨h1, h2, _⟩ g (e | rfl)
    · exact hbd s A h1 g e
    · exact (Array.getElem?_eq_some_iff.1 h2).1
  refine ⟨d, [], W1, { target := .fn (.func gf) lb, args := #[.func (.yield d) #[] #[]] }, W1, gf, #[.func (.yield d) #[] #[]] ++ lb, W1, ?_, ?_, ?_, ?_, fun h => hdd _ h, ?_⟩
  · rw [← hW1, hrec, hd0]; exact run_enterLoop_inner hl₀ _ _ _ _ _
  · simp only [resolve, hg]
    simp [go_sem]
  · intro f' hf'; simp [Target.leads] at hf'; subst hf'; exact hFg
  · simp [invoke, go_sem, eg]
  · refine (hseq _ d CJ J Jx W1 (hb0.trans (hBw.mono hb0.size)) hJF hJB hJxF ?_ ⟨hIw.1, hl1, fun e => ?_⟩).mono ?_
    · -- one round
      rintro m pre x W ⟨hi, hl, hnl⟩ hsp hfx
      have hy := run_yield (P := P) (args := encs x) hl (by rw [hrec]; exact hps x)
      rw [hrec] at hy
      refine ⟨fn, _, assign, body, hy, roundIn_of_wpIn hfn (hassign _ m pre x W _ hi hsp hfx ?_)⟩
      clear hy
      intro a' Wa hst hax
      have hlW : d < W.heap.size := (Array.getElem?_eq_some_iff.1 hl).1
      have hla : Wa.heap[d]? = some (.loop (rec .ready none)) := (hst.keeps.block _ (.inr ⟨hlW, hnl⟩)).trans hl
      have hnla : ¬ C Wa d := fun e => (hst.grows _ e).elim hnl (fun e => by omega)
      have hla1 : d < Wa.heap.size := (Array.getElem?_eq_some_iff.1 hla).1
      refine ⟨_, run_beginRound hla (by rw [hrec]), ?_⟩
      obtain ⟨hgr, hax2⟩ := hAx pre x a' Wa d _ (.loop { rec .ready none with state := .busy }) hax (by omega) hla hnla
      obtain ⟨Wb, hWb⟩ : ∃ Wb, Wa.putObj d (.loop { rec .ready none with state := .busy }) = Wb := ⟨_, rfl⟩
      have hlb : Wb.heap[d]? = some (.loop { rec .ready none with state := .busy }) := by rw [← hWb]; exact World.putObj_heap_same hla1
      have hKab : Keeps (· ≠ d) Wa Wb := by rw [← hWb]; exact Keeps.put _ _ _
      rw [hWb] at hgr hax2 ⊢
      have hnlb : ¬ C Wb d := fun e => hnla (hgr _ e)
      refine wpIn_mono (hbody _ m pre x a' Wb (by omega) ⟨_, hlb⟩ hnlb hsp hax2) ?_
      have hszb : Wa.heap.size ≤ Wb.heap.size := hKab.size
      have fin : ∀ (jump : Option Code) (W3 : World), Stp N C Wb W3 →
          (Instr.endRound d jump).run P W3 = .ok (.bool jump.isNone) (W3.putObj d (.loop (rec (if jump.isNone then .ready else .done) jump))) ∧
          (W3.putObj d (.loop (rec (if jump.isNone then .ready else .done) jump))).heap[d]? = some (.loop (rec (if jump.isNone then .ready else .done) jump)) ∧ ¬ C W3 d := fun jump W3 h3 => by
        have hl3 : W3.heap[d]? = some (.loop { rec .ready none with state := .busy }) := (h3.keeps.block _ (.inr ⟨by omega, hnlb⟩)).trans hlb
        have := run_endRound (P := P) jump hl3
        rw [hrec] at this ⊢
        exact ⟨this, World.putObj_heap_same (Array.getElem?_eq_some_iff.1 hl3).1, fun e => (h3.grows _ e).elim hnlb (fun e => by omega)⟩
      have stp4 : ∀ (o : Obj) (W3 : World), Stp N C Wb W3 → (∀ g, C (W3.putObj d o) g → C W3 g) → Stp N CJ W (W3.putObj d o) := fun o W3 h3 hg4 => by
        refine ⟨?_, ?_⟩
        · refine (hst.keeps.mono fun g hg => ?_).trans ((hKab.mono fun g hg => ?_).trans ((h3.keeps.mono fun g hg => ?_).trans ((Keeps.put W3 d _).mono fun g hg => ?_)))
          · exact hg.elim .inl fun hg => .inr ⟨hg.1, fun e => hg.2 (.inl e)⟩
          · exact hg.elim (fun e => by have := hNd _ e; omega) fun hg e => hg.2 (.inr e)
          · exact hg.elim .inl fun hg => .inr ⟨by have := hst.keeps.size; omega, fun e => (hst.grows g (hgr g e)).elim (fun e => hg.2 (.inl e)) (fun e => by omega)⟩
          · exact hg.elim (fun e => by have := hNd _ e; omega) fun hg e => hg.2 (.inr e)
        · rintro g (e | e)
          · rcases h3.grows g (hg4 g e) with e | e
            · rcases hst.grows g (hgr g e) with e | e
              · exact .inl (.inl e)
              · exact .inr e
            · exact .inr (Nat.le_trans hst.keeps.size (Nat.le_trans hszb e))
          · exact .inl (.inr e)
      rintro e a3 W3 hp
      cases e with
      | normal =>
        obtain ⟨hi3, h3⟩ := hp
        obtain ⟨hr, hl4, hn4⟩ := fin none W3 h3
        obtain ⟨hi4, hg4⟩ := hI _ W3 _ hi3 ((Keeps.put W3 d (.loop (rec (if (none : Option Code).isNone then .ready else .done) none))).mono fun g e he => hn4 (he ▸ e))
        exact ⟨_, _, hr, .inl ⟨rfl, ⟨hi4, hl4, fun e => hn4 (hg4 _ e)⟩, stp4 _ W3 h3 hg4⟩⟩
      | ret =>
        obtain ⟨hi3, h3⟩ := hp
        obtain ⟨hr, hl4, hn4⟩ := fin (some .ret) W3 h3
        have hK4 := (Keeps.put W3 d (.loop (rec (if (some Code.ret).isNone then .ready else .done) (some .ret)))).mono (T := C W3) fun g e he => hn4 (he ▸ e)
        exact ⟨_, _, hr, .inr ⟨rfl, ⟨.ret, (hIx _ _ W3 _ hi3 hK4).1, hl4, fun e => hn4 ((hIx _ _ W3 _ hi3 hK4).2 _ e)⟩, stp4 _ W3 h3 (hIx _ _ W3 _ hi3 hK4).2⟩⟩
      | exit id =>
        obtain ⟨hi3, h3⟩ := hp
        obtain ⟨hr, hl4, hn4⟩ := fin (some (.exit id)) W3 h3
        have hK4 := (Keeps.put W3 d (.loop (rec (if (some (Code.exit id)).isNone then .ready else .done) (some (.exit id))))).mono (T := C W3) fun g e he => hn4 (he ▸ e)
        exact ⟨_, _, hr, .inr ⟨rfl, ⟨.exit id, (hIx _ _ W3 _ hi3 hK4).1, hl4, fun e => hn4 ((hIx _ _ W3 _ hi3 hK4).2 _ e)⟩, stp4 _ W3 h3 (hIx _ _ W3 _ hi3 hK4).2⟩⟩
      | goto t =>
        obtain ⟨hi3, h3⟩ := hp
        obtain ⟨hr, hl4, hn4⟩ := fin (some (.goto t)) W3 h3
        have hK4 := (Keeps.put W3 d (.loop (rec (if (some (Code.goto t)).isNone then .ready else .done) (some (.goto t))))).mono (T := C W3) fun g e he => hn4 (he ▸ e)
        exact ⟨_, _, hr, .inr ⟨rfl, ⟨.goto t, (hIx _ _ W3 _ hi3 hK4).1, hl4, fun e => hn4 ((hIx _ _ W3 _ hi3 hK4).2 _ e)⟩, stp4 _ W3 h3 (hIx _ _ W3 _ hi3 hK4).2⟩⟩
      | panic ch => exact hp.elim
      | outgrown => exact hp.elim
    · have := hbw _ e; omega
    · -- behind the iterator
      rintro e W2 ⟨⟨v, rfl⟩, (⟨xs, hS, hi, hl, hnl⟩ | ⟨pre, hSp, c, hi, hl, hnl⟩)⟩
      · refine ⟨none, _, by have := run_endLoop (P := P) hl (by rw [hrec]; simp); rw [hrec] at this; exact this, hdone xs _ hS ?_⟩
        exact (hI xs W2 _ hi ((Keeps.put W2 d _).mono fun g e he => hnl (he ▸ e))).1
      · refine ⟨some c, _, by have := run_endLoop (P := P) hl (by rw [hrec]; simp); rw [hrec] at this; exact this, hstop c pre _ hSp ?_⟩
        exact (hIx c pre W2 _ hi ((Keeps.put W2 d _).mono fun g e he => hnl (he ▸ e))).1

/-- An iterator's contract goes into a round as it is. -/
theorem SeqD.inRound {m : Nat} {gf : Nat} {lb : Array Value} {encs : α → Array Value} {Fx : α → World → Prop} {N : Nat → Prop} {S Sp : List α → Prop} {w : World} (l : Nat) (h : SeqD F m P gf lb encs Fx N S Sp w) : SeqD (F.inRound l) m P gf lb encs Fx N S Sp w := h

end

end Go.Proofs.YtfnncphkidhbpaaDoor

/- prec: Counts. -/

namespace Go.Proofs.YtfnncphkidhbpaaDoor

open Go Go.RowKit Go.Shelf
attribute [local go_sem] Oper.semAt_some
set_option maxRecDepth 100000

/-- What Counts keeps through its range. -/
structure CtI (l : List Sm) (w : World) (gc b : Nat) (As : Option Addr) (cs : Nat) (pre : List TmA) (W : World) : Prop where
  sg : W.heap[w.heap.size]? = some (.cells #[.slice As l.length cs] 29)
  r4 : W.heap[w.heap.size + 1]? = some (.cells #[.slice none 0 0] 22)
  r5 : W.heap[w.heap.size + 2]? = some (.cells #[.int .i64 0] 35)
  bx : W.heap[gc + 1]? = some (.cells #[.slice (some ⟨gc, 0, none⟩) l.length l.length] 22)
  ct : W.heap[gc]? = some (.cells (iC (cntC (List.replicate l.length 0) (hdsL (pre.map TmA.t)))) 3)
  ok : okI l (pre.map TmA.t) = true
  blw : Below w.heap.size w W
  big : b ≤ W.heap.size

/-- What it leaves where it returns early. -/
structure CtX (l : List Sm) (w : World) (b : Nat) (pre : List TmA) (W : World) : Prop where
  r4 : W.heap[w.heap.size + 1]? = some (.cells #[.slice none 0 0] 22)
  r5 : W.heap[w.heap.size + 2]? = some (.cells #[.int .i64 2] 35)
  bad : okI l (pre.map TmA.t) = false
  blw : Below w.heap.size w W
  big : b ≤ W.heap.size

section

variable {l : List Sm} {w : World} {gc b : Nat} {As : Option Addr} {cs : Nat}

theorem ct_frame (h1 : gc + 1 < b) (h2 : w.heap.size + 2 < gc) : FrameC (fun _ g => g < b) (CtI l w gc b As cs) := by
  intro s A B h hk
  exact ⟨⟨(hk.block _ (by show _ < _; omega)).trans h.sg, (hk.block _ (by show _ < _; omega)).trans h.r4, (hk.block _ (by show _ < _; omega)).trans h.r5, (hk.block _ (by show _ < _; omega)).trans h.bx, (hk.block _ (by show _ < _; omega)).trans h.ct, h.ok, h.blw.trans (hk.below fun g e => by show g < _; omega), Nat.le_trans h.big hk.size⟩, fun g e => e⟩

theorem ct_bound : BoundC (fun _ g => g < b) (CtI l w gc b As cs) := fun _ _ h _ e => Nat.lt_of_lt_of_le e h.big

theorem cx_frame (h2 : w.heap.size + 2 < b) : FrameC (fun _ g => g < b) (fun pre W => CtX l w b pre W) := by
  intro s A B h hk
  exact ⟨⟨(hk.block _ (by show _ < _; omega)).trans h.r4, (hk.block _ (by show _ < _; omega)).trans h.r5, h.bad, h.blw.trans (hk.below fun g e => by show g < _; omega), Nat.le_trans h.big hk.size⟩, fun g e => e⟩

theorem CtI.put {W : World} {pre : List TmA} {k : Nat} {r : Loop} {o : Obj} (h : CtI l w gc b As cs pre W) (hl : W.heap[k]? = some (.loop r)) (hk : w.heap.size ≤ k) : CtI l w gc b As cs pre (W.putObj k o) :=
  ⟨put_block h.sg hl, put_block h.r4 hl, put_block h.r5 hl, put_block h.bx hl, put_block h.ct hl, h.ok, h.blw.trans ((Keeps.put W k o).below fun g e => by show g ≠ k; omega), by simpa using h.big⟩

theorem CtI.on {W W' : World} {pre : List TmA} (h : CtI l w gc b As cs pre W) (hb : Below W.heap.size W W') : CtI l w gc b As cs pre W' :=
  have k := fun {g : Nat} {o : Obj} (e : W.heap[g]? = some o) => (hb.block g (Array.getElem?_eq_some_iff.1 e).1).trans e
  ⟨k h.sg, k h.r4, k h.r5, k h.bx, k h.ct, h.ok, h.blw.trans (hb.mono h.blw.size), Nat.le_trans h.big hb.size⟩

end

/-- What the inner range keeps. -/
structure InI (W0 : World) (gc : Nat) (n0 : List Int) (pre : List Vis) (W : World) : Prop where
  ct : W.heap[gc]? = some (.cells (iC (cntC n0 (pre.map fun v => v.t.fn))) 3)
  kp : Keeps (fun g => g < W0.heap.size ∧ g ≠ gc) W0 W

theorem in_frame {W0 : World} {gc : Nat} {n0 : List Int} (h : gc < W0.heap.size) : FrameC (fun _ g => g < W0.heap.size) (InI W0 gc n0) := by
  intro s A B h1 hk
  exact ⟨⟨(hk.block _ h).trans h1.ct, h1.kp.trans (hk.mono fun _ e => e.1)⟩, fun _ e => e⟩

theorem in_bound {W0 : World} {gc : Nat} {n0 : List Int} : BoundC (fun _ g => g < W0.heap.size) (InI W0 gc n0) := fun _ _ h _ e => Nat.lt_of_lt_of_le e h.kp.size

theorem InI.put {W0 W : World} {gc k : Nat} {n0 : List Int} {pre : List Vis} {r : Loop} {o : Obj} (h : InI W0 gc n0 pre W) (hl : W.heap[k]? = some (.loop r)) (hk : W0.heap.size ≤ k) : InI W0 gc n0 pre (W.putObj k o) :=
  ⟨put_block h.ct hl, h.kp.trans ((Keeps.put W k o).mono fun g e => by show g ≠ k; omega)⟩

theorem InI.on {W0 W W' : World} {gc : Nat} {n0 : List Int} {pre : List Vis} (h : InI W0 gc n0 pre W) (hb : Below W.heap.size W W') : InI W0 gc n0 pre W' :=
  ⟨(hb.block _ (Array.getElem?_eq_some_iff.1 h.ct).1).trans h.ct, h.kp.trans ((Keeps.of_below hb).mono fun _ e => Nat.lt_of_lt_of_le e.1 h.kp.size)⟩

theorem InI.skip {W0 W : World} {gc : Nat} {n0 : List Int} {pre : List Vis} {x : Vis} (h : InI W0 gc n0 pre W) (hx : x.t.fn < 0) : InI W0 gc n0 (pre ++ [x]) W :=
  ⟨by rw [List.map_append, List.map_cons, List.map_nil, cntC_snoc, show addC (cntC n0 (pre.map fun v => v.t.fn)) x.t.fn = cntC n0 (pre.map fun v => v.t.fn) from if_pos hx]; exact h.ct, h.kp⟩

theorem InI.set {W0 W : World} {gc : Nat} {n0 : List Int} {pre : List Vis} {x : Vis} {k : Nat} {y : Int} (h : InI W0 gc n0 pre W) (hx : x.t.fn = (k : Int)) (hy : (cntC n0 (pre.map fun v => v.t.fn))[k]? = some y) : InI W0 gc n0 (pre ++ [x]) (W.setCell ⟨gc, k, none⟩ (.int .i64 (y + 1))) := by
  refine ⟨?_, h.kp.trans ((Keeps.set W ⟨gc, k, none⟩ _).mono fun g e => e.2)⟩
  rw [List.map_append, List.map_cons, List.map_nil, cntC_snoc, hx]
  unfold addC
  rw [if_neg (by omega), Int.toNat_natCast, List.getD_eq_getElem?_getD, hy]
  exact iC_set h.ct k (y + 1)

theorem chk_two' {l : List Sm} {t : Tm} (h : ¬ chkT l t = 0) : chkT l t = 2 := by
  unfold chkT at h ⊢
  split
  · rfl
  · rename_i h1; rw [if_neg h1] at h
    split
    · rename_i h2; rw [if_pos h2] at h; exact absurd rfl h
    · rfl

theorem termChk_yes {l : List Sm} {t : Tm} (hk : chkT l t = 0) (As A : Option Addr) (cs c : Nat) (w : World) (hS : Syms w w.heap.size As l.length l) (hn : l.length * 32 ≤ 140737488351232) (ht : tru w) (hf : I64 t.fn) (hA : Args w w.heap.size A t.args) :
    Calls Tryd.prog 23 #[.agg #[.slice As l.length cs], .agg #[.int .i64 t.fn, .slice A t.args.length c]] w fun e w' => e = .returned (.int .i64 0) ∧ Below w.heap.size w w' := by
  have h := termCheck_any l t As A l.length cs c w hS hn ht hf hA
  rwa [hk] at h

theorem termChk_no {l : List Sm} {t : Tm} (hk : ¬ chkT l t = 0) (As A : Option Addr) (cs c : Nat) (w : World) (hS : Syms w w.heap.size As l.length l) (hn : l.length * 32 ≤ 140737488351232) (ht : tru w) (hf : I64 t.fn) (hA : Args w w.heap.size A t.args) :
    Calls Tryd.prog 23 #[.agg #[.slice As l.length cs], .agg #[.int .i64 t.fn, .slice A t.args.length c]] w fun e w' => e = .returned (.int .i64 2) ∧ Below w.heap.size w w' := by
  have h := termCheck_any l t As A l.length cs c w hS hn ht hf hA
  rwa [chk_two' hk] at h

theorem TmFx.args {w0 W : World} {x : TmA} (h : TmFx (· < w0.heap.size) x W) (hb : w0.heap.size ≤ W.heap.size) : Args W W.heap.size x.A x.t.args := h.2.args fun _ e => Nat.lt_of_lt_of_le e hb

theorem upTo_zero (m : Nat) : upTo 0 m = List.replicate m 0 := by
  apply List.ext_getElem?
  intro i
  unfold upTo
  rw [List.getElem?_map, List.getElem?_replicate]
  by_cases h : i < m
  · rw [List.getElem?_range h, if_pos h]; rfl
  · rw [List.getElem?_eq_none (by simpa using h), if_neg h]; rfl

set_option maxHeartbeats 4000000 in
theorem counts_any (l : List Sm) (cl : List (List Lp)) (As Aq : Option Addr) (cs cq : Nat) (w : World) (hS : Syms w w.heap.size As l.length l) (hn : l.length * 32 ≤ 140737488351232) (ht : tru w) (hC : ClRow w (· < w.heap.size) Aq cl) (hz : (itms cl).length ≤ 281474976710656) :
    Calls Tryd.prog 14 #[.agg #[.slice As l.length cs], .slice Aq cl.length cq] w (CountsPost l (cntNo l cl) (cntN l cl) w) := by
  obtain ⟨q0, q1, q2⟩ := heap3p w (.cells #[.slice As l.length cs] 29) (.cells #[.slice none 0 0] 22) (.cells #[.int .i64 0] 35)
  obtain ⟨W, hW⟩ : ∃ W, (((w.alloc (.cells #[.slice As l.length cs] 29)).alloc (.cells #[.slice none 0 0] 22)).alloc (.cells #[.int .i64 0] 35)) = W := ⟨_, rfl⟩
  have hB : Below w.heap.size w W := by rw [← hW]; exact (((Below.refl _ _).alloc (Nat.le_refl _) _).alloc (by simp) _).alloc (by simp; omega) _
  rw [hW] at q0 q1 q2
  have hWs : W.heap.size = w.heap.size + 3 := by rw [← hW]; simp
  have HS := Lib.hid (hS.on hB)
  have HT := Lib.hid (tru_below ht hB)
  have HT0 := Lib.hid ht
  have HS0 := Lib.hid hS
  have HC := Lib.hid hC
  have HW := Lib.hid hW
  have hcl := hC.len
  obtain ⟨x0, _⟩ := cells_one q0
  clear hW hS ht hC
  refine (callsIn_wide (n := 3)).1 (callsIn_of_wp_marks Tryd.func14 rfl trivial ?_ rfl)
  simp only [Tryd.ntmps14, List.size_toArray, List.length_cons, List.length_nil, Nat.reduceAdd, Nat.reduceSub, Array.replicate_succ, Array.replicate_zero, List.push_toArray, List.append_toArray, List.nil_append, List.cons_append]
  refine wpIn_wide.2 ?_
  by_cases h0 : checkI l = 0
  · have hno : cntNo l cl = !(okI l (itms cl)) := by unfold cntNo; rw [decide_eq_true h0]; rfl
    have hm : 1 ≤ l.length := by have := chk_some h0; omega
    have HNo := Lib.hid hno
    clear hno
    go_upto_region 1 with fail
    rw [HW.out]
    go_upto_region 3 with (first
      | (go_at_call 18; (with_reducible refine (Check_any As l.length cs l W HS.out hn HT.out).mono ?_); go_must (rintro e w1 ⟨rfl, hb1⟩; rw [h0]; have y0 := (hb1.block _ (by omega)).trans q0; obtain ⟨x1, _⟩ := cells_one y0))
      | fail)
    obtain ⟨i0, hi1, hz0, hz1, hz2⟩ := info_parts infoI
    have hmk : ∀ w : World, (Instr.makeSlice 22 (.int .i64 (l.length : Int)) (.int .i64 (l.length : Int))).run Tryd.prog w = .ok (.slice (some ⟨w.heap.size, 0, none⟩) l.length l.length) (w.alloc (.cells (iC (upTo 0 l.length)) 3)) := fun w => by
      rw [← made_iC]; exact run_make_row _ _ i0 _ Tryd.underlying22 hi1 hz0 hz1 rfl _ _ l.length (by rw [hz2]; omega) (by omega) w
    clear x0 hi1 hz0 hz1 hz2
    go_upto_region 4 with fail
    have hb1s := hb1.size
    obtain ⟨W3, hW3⟩ : ∃ W3, (w1.alloc (.cells (iC (upTo 0 l.length)) 3)).alloc (.cells #[.slice (some ⟨w1.heap.size, 0, none⟩) l.length l.length] 22) = W3 := ⟨_, rfl⟩
    obtain ⟨p0, p1⟩ := heap2p w1 (.cells (iC (upTo 0 l.length)) 3) (.cells #[.slice (some ⟨w1.heap.size, 0, none⟩) l.length l.length] 22)
    have hB3 : Below w1.heap.size w1 W3 := by rw [← hW3]; exact ((Below.refl _ _).alloc (Nat.le_refl _) _).alloc (by simp) _
    have z3 : W3.heap.size = w1.heap.size + 2 := by rw [← hW3]; simp
    rw [hW3] at p0 p1
    obtain ⟨W4, hW4⟩ : ∃ W4, W3.alloc (.cells #[.slice Aq cl.length cq] 30) = W4 := ⟨_, rfl⟩
    have p2 : W4.heap[W3.heap.size]? = some (.cells #[.slice Aq cl.length cq] 30) := by rw [← hW4]; exact heap_alloc_new _ _
    have hB4 : Below W3.heap.size W3 W4 := by rw [← hW4]; exact (Below.refl _ _).alloc (Nat.le_refl _) _
    have z4 : W4.heap.size = w1.heap.size + 3 := by rw [← hW4]; simp; omega
    have hB14 : Below w1.heap.size w1 W4 := hB3.trans (hB4.mono (by omega))
    have hBW4 : Below W.heap.size W W4 := bl_step hb1 hB14
    have hBw4 : Below w.heap.size w W4 := hB.trans (hBW4.mono (by omega))
    have hI4 : CtI l w w1.heap.size W4.heap.size As cs [] W4 := by
      refine ⟨(hBW4.block _ (by omega)).trans q0, (hBW4.block _ (by omega)).trans q1, (hBW4.block _ (by omega)).trans q2, (hB4.block _ (by omega)).trans p1, ?_, rfl, hBw4, Nat.le_refl _⟩
      refine ((hB4.block _ (by omega)).trans p0).trans ?_
      rw [upTo_zero]; rfl
    have HC4 := Lib.hid (HC.out.to (w' := W4) (M := (· < w.heap.size)) (fun g e => hBw4.block g e) fun _ e => e)
    have HW4 := Lib.hid hW4
    have HW3 := Lib.hid hW3
    have Hz := Lib.hid (And.intro z3 z4)
    clear hW3 hW4 z3 z4 y0 x1 hmk
    rw [HW3.out]
    go_wp2_with (first
      | (go_at_call 22; (with_reducible refine (counted_any Aq cl.length cq _).mono ?_); go_must (rintro e w4 ⟨rfl, rfl⟩; rw [HW4.out]))
      | fail)
    have hNs : ∀ g, g < w.heap.size → g < W4.heap.size := fun g e => by have := Hz.out; omega
    refine (wpIn_wide (n := 3)).1 ?_
    refine range_lawH (F := Fence.wide) (n := 3) (w0 := W4) rfl rfl (gf := 37) (lb := #[.pointer (some ⟨W3.heap.size, 0, none⟩)]) rfl trivial (enters_of Tryd.func37 (by kernel_rfl) rfl)
      (fun m => (counted1_seq m W3.heap.size cl Aq cq (· < w.heap.size) W4 p2 HC4.out hNs).toD)
      (Below.refl _ _) (fun _ => rfl) hNs
      (fun _ g => g < W4.heap.size) (CtI l w w1.heap.size W4.heap.size As cs) (fun cd pre Wx => cd = .ret ∧ CtX l w W4.heap.size pre Wx)
      (ct_frame (by have := Hz.out; omega) (by omega)) ct_bound (fun cd s A B h hk => ⟨⟨h.1, (cx_frame (by have := Hz.out; omega) s A B h.2 hk).1⟩, fun g e => e⟩) hI4
      (fun pre x a' Wx => CtI l w w1.heap.size W4.heap.size As cs pre Wx ∧ TmFx (· < w.heap.size) x Wx ∧ ∃ Bx, W4.heap.size ≤ Bx ∧ Wx.heap[Bx]? = some (.cells #[.int .i64 x.t.fn, .slice x.A x.t.args.length x.c] 47) ∧ a' = { tmps := #[.agg #[.slice As l.length cs], .slice Aq cl.length cq, .pointer (some ⟨w.heap.size, 0, none⟩), undef, .pointer (some ⟨w.heap.size + 1, 0, none⟩), .pointer (some ⟨w.heap.size + 1 + 1, 0, none⟩), .pointer (some ⟨w1.heap.size + 1, 0, none⟩), .pointer (some ⟨Bx, 0, none⟩), undef, undef, .agg #[.slice As l.length cs], .int .i64 0, .bool false, .pointer (some ⟨w.heap.size, 0, none⟩), .slice As l.length cs, .int .i64 (l.length : Int), .slice (some ⟨w1.heap.size, 0, none⟩) l.length l.length, .slice Aq cl.length cq, .func (.func 37) #[] #[.pointer (some ⟨W3.heap.size, 0, none⟩)], .agg #[.int .i64 x.t.fn, .slice x.A x.t.args.length x.c], undef, undef, undef, undef, undef, undef, undef, undef, undef, undef, undef, undef, undef, undef, undef, undef, undef, undef, undef], defers := [] }) ?hAx ?assign ?body ?done ?stop
    case hAx =>
      rintro pre x a' Wx k r o ⟨h1, h2, Bx, hBx, hbx', rfl⟩ hl hr hn
      exact ⟨fun g e => e, h1.put hr (by have := Hz.out; omega), ⟨h2.1, argsN_up h2.2 (cell_put hr) fun _ e => e⟩, Bx, hBx, put_block hbx' hr, rfl⟩
    case assign =>
      rintro l2 m2 pre x Wx K h1 _ hfx hK
      simp only [tmEnc]
      gi_wp2
      have hBa : Below Wx.heap.size Wx (Wx.alloc (.cells #[.int .i64 x.t.fn, .slice x.A x.t.args.length x.c] 47)) := (Below.refl _ _).alloc (Nat.le_refl _) _
      have hbg := h1.big
      exact hK _ _ (stp_alloc _ _ fun g e => Nat.lt_of_lt_of_le (hNs g e) hbg) ⟨h1.on hBa, ⟨hfx.1, hfx.2.keep fun g e => hBa.block g (Nat.lt_of_lt_of_le (hNs g e) hbg)⟩, Wx.heap.size, hbg, heap_alloc_new _ _, by simp⟩
    case body =>
      rintro l2 m2 pre x a' Wx hl2 ⟨r2, hr2⟩ hnC2 hsp ⟨h1, h2, Bx, hBx, hbx', rfl⟩
      have hbg := h1.big
      have hzz := Hz.out
      obtain ⟨a0, _⟩ := cells_one h1.sg
      obtain ⟨b0, b1, _, _⟩ := cells_two hbx'
      have HSx := Lib.hid (HS0.out.on h1.blw)
      have HTx := Lib.hid (tru_below HT0.out h1.blw)
      have HAx := Lib.hid (h2.args (by omega))
      have H1 := Lib.hid h1
      have H2 := Lib.hid h2
      have Hbx := Lib.hid hbx'
      have hBxl := (Array.getElem?_eq_some_iff.1 hbx').1
      clear h1 h2 hbx'
      by_cases hk : chkT l x.t = 0
      · have HCk := Lib.hid (termChk_yes hk As x.A cs x.c Wx HSx.out hn HTx.out H2.out.1 HAx.out)
        obtain ⟨hsz, hdp, hhd⟩ := chk_like hk
        have Hk := Lib.hid hk
        have Hhd := Lib.hid hhd
        clear hk hhd
        gi_wp2_with (first
          | ((refine ⟨trivial, (fun h => by cases h), ?_⟩); gi_at_call 23; (with_reducible refine (calls_round l2 _ HCk.out).mono ?_); go_must (rintro e w2 ⟨rfl, hb2⟩; obtain ⟨u0, u1, _, _⟩ := cells_two ((hb2.block _ hBxl).trans Hbx.out); clear a0 b0 b1; have HPl := Lib.hid (termPlaces_any x.t x.A x.c w2 (by omega) H2.out.1 (HAx.out.on hb2))))
          | ((refine ⟨trivial, (fun h => by cases h), ?_⟩); gi_at_call 24; (with_reducible refine (calls_round l2 _ HPl.out).mono ?_); go_must (rintro e w5 ⟨rfl, hb5, A5, c5, hbx5, hO5⟩))
          | fail)
        have hbl5 : Below Wx.heap.size Wx w5 := bl_step hb2 hb5
        have h15 := H1.out.on hbl5
        have hz2 := hb2.size
        have hz5 := (Array.getElem?_eq_some_iff.1 hbx5).1
        have hl2x := (Array.getElem?_eq_some_iff.1 hr2).1
        have hA5 : ArgsN w5 (fun g => w2.heap.size + 1 ≤ g ∧ g < w5.heap.size) A5 x.t.args := hO5.argsN
        clear hO5 u0 u1
        refine range_lawN (F := Fence.wide.inRound l2) (n := m2) (l₀ := l2) (r₀ := r2) (w0 := w5) rfl ((hbl5.block _ hl2x).trans hr2) rfl (gf := 41) (lb := #[.pointer (some ⟨w2.heap.size, 0, none⟩)]) rfl trivial (enters_of Tryd.func41 (by kernel_rfl) rfl)
          (fun m => (places1_seq m w2.heap.size x.t A5 c5 (fun g => w2.heap.size + 1 ≤ g ∧ g < w5.heap.size) w5 hbx5 H2.out.1 hA5 (fun g e => e.2) (by omega) (by omega)).inRound l2)
          (Below.refl _ _) (fun _ => rfl) (fun g e => e.2)
          (fun _ g => g < w5.heap.size) (InI w5 w1.heap.size (cntC (List.replicate l.length 0) (hdsL (pre.map TmA.t)))) (fun _ _ _ => False)
          (in_frame (by omega)) in_bound (fun _ _ _ _ h _ => h.elim) ⟨h15.ct, Keeps.refl _ _⟩
          (fun pr y a'' Wy => InI w5 w1.heap.size (cntC (List.replicate l.length 0) (hdsL (pre.map TmA.t))) pr Wy ∧ I64 y.t.fn ∧ ∃ By, w5.heap.size ≤ By ∧ Wy.heap[By]? = some (.cells #[.int .i64 y.t.fn, .slice y.A' y.t.args.length y.c'] 47) ∧ a'' = { tmps := #[.agg #[.slice As l.length cs], .slice Aq cl.length cq, .pointer (some ⟨w.heap.size, 0, none⟩), undef, .pointer (some ⟨w.heap.size + 1, 0, none⟩), .pointer (some ⟨w.heap.size + 1 + 1, 0, none⟩), .pointer (some ⟨w1.heap.size + 1, 0, none⟩), .pointer (some ⟨Bx, 0, none⟩), undef, .pointer (some ⟨By, 0, none⟩), .agg #[.slice As l.length cs], .int .i64 0, .bool false, .pointer (some ⟨w.heap.size, 0, none⟩), .slice As l.length cs, .int .i64 (l.length : Int), .slice (some ⟨w1.heap.size, 0, none⟩) l.length l.length, .slice Aq cl.length cq, .func (.func 37) #[] #[.pointer (some ⟨w1.heap.size + 2, 0, none⟩)], .agg #[.int .i64 x.t.fn, .slice x.A x.t.args.length x.c], .agg #[.slice As l.length cs], .agg #[.int .i64 x.t.fn, .slice x.A x.t.args.length x.c], .int .i64 0, .bool false, .agg #[.int .i64 x.t.fn, .slice x.A x.t.args.length x.c], .func (.func 41) #[] #[.pointer (some ⟨w2.heap.size, 0, none⟩)], .slice y.A y.pos.length y.c, .agg #[.int .i64 y.t.fn, .slice y.A' y.t.args.length y.c'], undef, undef, undef, undef, undef, undef, undef, undef, undef, undef, undef], defers := [] }) ?hAx2 ?assign2 ?body2 ?done2 ?stop2
        case hAx2 =>
          rintro pr y a'' Wy k r o ⟨i1, i2, By, hBy, hby, rfl⟩ hl hr hn
          exact ⟨fun g e => e, i1.put hr (by omega), i2, By, hBy, put_block hby hr, rfl⟩
        case assign2 =>
          rintro l3 m3 pr y Wy K i1 _ hfy hK
          simp only [visEnc]
          gi_wp2
          have hBa : Below Wy.heap.size Wy (Wy.alloc (.cells #[.int .i64 y.t.fn, .slice y.A' y.t.args.length y.c'] 47)) := (Below.refl _ _).alloc (Nat.le_refl _) _
          have hyb := i1.kp.size
          exact hK _ _ (stp_alloc _ _ fun g e => by omega) ⟨i1.on hBa, hfy.fx.i64, Wy.heap.size, hyb, heap_alloc_new _ _, by simp⟩
        case body2 =>
          rintro l3 m3 pr y a'' Wy hl3 hr3 hnC3 hsp3 ⟨i1, i2, By, hBy, hby, rfl⟩
          obtain ⟨b0, b1, _, _⟩ := cells_two hby
          have hmem : y.t.fn ∈ hdsT x.t := by
            rw [← vis_hds []]
            have : y.key ∈ (pr ++ [y]).map Vis.key := List.mem_map.2 ⟨y, by simp, rfl⟩
            exact List.mem_map.2 ⟨y.key, hsp3.subset this, rfl⟩
          have hlt := Hhd.out _ hmem
          have I1 := Lib.hid i1
          by_cases hneg : y.t.fn < 0
          · have Hneg := Lib.hid hneg
            gi_wp2
            exact ⟨I1.out.skip Hneg.out, Stp.refl _ _ _⟩
          · obtain ⟨k, hk⟩ : ∃ k : Nat, y.t.fn = (k : Int) := ⟨y.t.fn.toNat, by omega⟩
            obtain ⟨z, hz9⟩ : ∃ z, (cntC (cntC (List.replicate l.length 0) (hdsL (pre.map TmA.t))) (pr.map fun v => v.t.fn))[k]? = some z := ⟨_, List.getElem?_eq_getElem (by rw [cntC_len, cntC_len, List.length_replicate]; omega)⟩
            have hzb : 0 ≤ z ∧ z ≤ 4611686018427387904 := by
              have hm9 := List.mem_of_getElem? hz9
              rw [← cntC_append] at hm9
              have h9 := cnt_small H1.out.ok l.length _ z hm9
              have h8 := hsp.length_le
              have h7 := pre_len hsp3
              simp only [List.length_map, List.length_append, List.length_cons, List.length_nil] at h9 h8 h7
              omega
            have hbxy := (i1.kp.block (w1.heap.size + 1) ⟨by omega, by omega⟩).trans h15.bx
            obtain ⟨e0, _⟩ := cells_one hbxy
            obtain ⟨f0, f1⟩ := iC_cell i1.ct hz9
            rw [hk] at b0 hlt
            have Hk9 := Lib.hid hk
            have Hz9 := Lib.hid hz9
            obtain ⟨z0, z1⟩ := hzb
            have hkl : k < l.length := by omega
            clear hk hz9 hbxy hneg i1 hmem hby
            gi_wp2
            refine ⟨I1.out.set Hk9.out Hz9.out, ⟨(Keeps.set Wy ⟨w1.heap.size, k, none⟩ _).mono fun g e => ?_, fun g e => .inl e⟩⟩
            show g ≠ w1.heap.size
            rcases e with e | e
            · omega
            · have e' : ¬ g < w5.heap.size := e.2; omega
        case done2 =>
          intro ys Wy hS i1
          have hh : ys.map (fun v => v.t.fn) = hdsT x.t := by
            rw [← vis_hds [] x.t, ← hS, List.map_map]; rfl
          have hct := i1.ct
          rw [hh, ← cntC_append, ← hdsL_snoc] at hct
          have hkb : ∀ g o, g < w5.heap.size → g ≠ w1.heap.size → w5.heap[g]? = some o → Wy.heap[g]? = some o := fun g o ha hb h => (i1.kp.block g ⟨ha, hb⟩).trans h
          have hky := i1.kp.size
          refine ⟨⟨hkb _ _ (by omega) (by omega) h15.sg, hkb _ _ (by omega) (by omega) h15.r4, hkb _ _ (by omega) (by omega) h15.r5, hkb _ _ (by omega) (by omega) h15.bx, by rw [List.map_append]; exact hct, by rw [List.map_append]; exact okI_snoc h15.ok Hk.out, h15.blw.trans (i1.kp.below fun g e => ⟨by omega, by omega⟩), by omega⟩, ⟨?_, fun g e => .inl e⟩⟩
          refine ((Keeps.of_below hbl5).mono fun g e => ?_).trans (i1.kp.mono fun g e => ?_)
          · rcases e with e | e
            · have := hNs g e; show g < Wx.heap.size; omega
            · exact e.1
          · rcases e with e | e
            · exact ⟨by omega, by omega⟩
            · have e' : ¬ g < W4.heap.size := e.2
              have e'' := e.1
              exact ⟨by omega, by omega⟩
        case stop2 => exact fun _ _ _ _ h => h.elim
      · have HCk := Lib.hid (termChk_no hk As x.A cs x.c Wx HSx.out hn HTx.out H2.out.1 HAx.out)
        have Hbad := Lib.hid (okI_bad (xs := pre.map TmA.t) hk)
        clear hk
        gi_wp2_with (first
          | ((refine ⟨trivial, (fun h => by cases h), ?_⟩); gi_at_call 23; (with_reducible refine (calls_round l2 _ HCk.out).mono ?_); go_must (rintro e w2 ⟨rfl, hb2⟩; have y4 := (H1.out.on hb2).r4; have y5 := (H1.out.on hb2).r5; obtain ⟨z4, g4⟩ := cells_one y4; obtain ⟨z5, g5⟩ := cells_one y5))
          | fail)
        have hzx := hb2.size
        have hon := H1.out.on hb2
        have e45 : w.heap.size + 1 ≠ w.heap.size + 2 := by omega
        refine ⟨⟨rfl, ⟨(heap_setCell_other _ ⟨w.heap.size + 2, 0, none⟩ _ _ e45).trans (Boxed.set (.slice none 0 0) y4), Boxed.set (.int .i64 2) ((heap_setCell_other _ ⟨w.heap.size + 1, 0, none⟩ _ _ (Ne.symm e45)).trans y5), by rw [List.map_append]; exact Hbad.out, (hon.blw.setCell (by show _ ≤ w.heap.size + 1; omega) _).setCell (by show _ ≤ w.heap.size + 2; omega) _, by simpa using hon.big⟩⟩, ⟨?_, fun g e => .inl e⟩⟩
        refine ((Keeps.of_below hb2).mono fun g e => ?_).trans (((Keeps.set _ ⟨w.heap.size + 1, 0, none⟩ _).mono fun g e => ?_).trans ((Keeps.set _ ⟨w.heap.size + 2, 0, none⟩ _).mono fun g e => ?_))
        · rcases e with e | e
          · have := hNs g e; show g < Wx.heap.size; omega
          · exact e.1
        · show g ≠ w.heap.size + 1
          rcases e with e | e
          · omega
          · have e' : ¬ g < W4.heap.size := e.2; omega
        · show g ≠ w.heap.size + 2
          rcases e with e | e
          · omega
          · have e' : ¬ g < W4.heap.size := e.2; omega
    case done =>
      rintro D ys Wd hD hS h1 hnD hK
      have hzz := Hz.out
      have hfin : cntNo l cl = false := by rw [HNo.out, ← hS, h1.ok]; rfl
      have hcn : cntN l cl = cntC (List.replicate l.length 0) (hdsL (ys.map TmA.t)) := by rw [hS]; rfl
      obtain ⟨e0, _⟩ := cells_one h1.bx
      obtain ⟨z4, g4⟩ := cells_one h1.r4
      obtain ⟨z5, g5⟩ := cells_one h1.r5
      have Hfin := Lib.hid hfin
      have Hcn := Lib.hid hcn
      have HK := Lib.hid hK
      have H1 := Lib.hid h1
      clear hfin hcn hK h1
      go_wp2
      have e45 : w.heap.size + 1 ≠ w.heap.size + 2 := by omega
      obtain ⟨Wz, hWz⟩ : ∃ Wz, ((Wd.setCell ⟨w.heap.size + 1, 0, none⟩ (.slice (some ⟨w1.heap.size, 0, none⟩) l.length l.length)).setCell ⟨w.heap.size + 1 + 1, 0, none⟩ (.int .i64 0)) = Wz := ⟨_, rfl⟩
      have hoth : ∀ g, g ≠ w.heap.size + 1 → g ≠ w.heap.size + 2 → Wz.heap[g]? = Wd.heap[g]? := fun g ha hb => by rw [← hWz]; exact (heap_setCell_other _ _ _ _ hb).trans (heap_setCell_other _ _ _ _ ha)
      have r4 : Boxed Wz (w.heap.size + 1) 22 (.slice (some ⟨w1.heap.size, 0, none⟩) l.length l.length) := by rw [← hWz]; exact (heap_setCell_other _ ⟨w.heap.size + 2, 0, none⟩ _ _ e45).trans (Boxed.set _ H1.out.r4)
      have r5 : Boxed Wz (w.heap.size + 2) 35 (.int .i64 0) := by rw [← hWz]; exact Boxed.set (.int .i64 0) ((heap_setCell_other _ ⟨w.heap.size + 1, 0, none⟩ _ _ (Ne.symm e45)).trans H1.out.r5)
      have hbz : Below w.heap.size w Wz := by rw [← hWz]; exact (H1.out.blw.setCell (by show _ ≤ w.heap.size + 1; omega) _).setCell (by show _ ≤ w.heap.size + 2; omega) _
      rw [hWz]
      have hKs := (hoth D (by omega) (by omega)).trans HK.out
      have hr4 := cell_kept r4.cell (grownBy_putObj' _ D (.deferred none)) (fun r e => by cases e; exact ⟨_, hKs, rfl⟩)
      have hr5 := cell_kept r5.cell (grownBy_putObj' _ D (.deferred none)) (fun r e => by cases e; exact ⟨_, hKs, rfl⟩)
      refine ⟨by simp, .inl ⟨_, _, rfl, run_takeDeferred hKs, ?_⟩⟩
      refine ⟨.tuple #[.slice (some ⟨w1.heap.size, 0, none⟩) l.length l.length, .int .i64 0], by simp [results, Tryd.results14, go_sem, hr4, hr5], hbz.trans (belowK_b (w := w) (Nat.le_refl _) _ D _ _ (by omega) hKs rfl rfl), ?_⟩
      rw [Hfin.out, if_neg (by decide)]
      refine ⟨w1.heap.size, rfl, by omega, ?_⟩
      rw [Hcn.out]
      exact (World.putObj_heap_other (by omega)).trans ((hoth _ (by omega) (by omega)).trans H1.out.ct)
    case stop =>
      rintro D cd pr Wd hD hSp ⟨rfl, hx⟩ hnD hK
      have hzz := Hz.out
      have hfin : cntNo l cl = true := by rw [HNo.out, okI_pre hSp hx.bad]; rfl
      have Hfin := Lib.hid hfin
      clear hfin
      gi_wp2
      have hr4 := cell_kept (Boxed.cell (show Boxed Wd (w.heap.size + 1) _ _ from hx.r4)) (grownBy_putObj' _ D (.deferred none)) (fun r e => by cases e; exact ⟨_, hK, rfl⟩)
      have hr5 := cell_kept (Boxed.cell (show Boxed Wd (w.heap.size + 2) _ _ from hx.r5)) (grownBy_putObj' _ D (.deferred none)) (fun r e => by cases e; exact ⟨_, hK, rfl⟩)
      refine ⟨by simp, .inl ⟨_, _, rfl, run_takeDeferred hK, ?_⟩⟩
      refine ⟨.tuple #[.slice none 0 0, .int .i64 2], by simp [results, Tryd.results14, go_sem, hr4, hr5], hx.blw.trans (belowK_b (w := w) (Nat.le_refl _) _ D _ _ (by omega) hK rfl rfl), ?_⟩
      rw [Hfin.out, if_pos rfl]
  · have hno : cntNo l cl = true := by unfold cntNo; rw [decide_eq_false h0]; rfl
    have HNo := Lib.hid hno
    have hne : (checkI l != 0) = true := by simpa using h0
    clear hno
    go_upto_region 1 with fail
    rw [HW.out]
    go_wp2_with (first
      | (go_at_call 18; (with_reducible refine (Check_any As l.length cs l W HS.out hn HT.out).mono ?_); go_must (rintro e w1 ⟨rfl, hb1⟩; have y4 := (hb1.block _ (by omega)).trans q1; have y5 := (hb1.block _ (by omega)).trans q2; obtain ⟨z4, g4⟩ := cells_one y4; obtain ⟨z5, g5⟩ := cells_one y5))
      | fail)
    have e45 : w.heap.size + 1 ≠ w.heap.size + 2 := by omega
    have hr4 := Boxed.cell ((heap_setCell_other (w1.setCell ⟨w.heap.size + 1, 0, none⟩ (.slice none 0 0)) ⟨w.heap.size + 2, 0, none⟩ _ (.int .i64 2) e45).trans (Boxed.set (.slice none 0 0) y4))
    have hr5 := Boxed.cell (Boxed.set (.int .i64 2) ((heap_setCell_other w1 ⟨w.heap.size + 1, 0, none⟩ _ (.slice none 0 0) (Ne.symm e45)).trans y5))
    refine ⟨.tuple #[.slice none 0 0, .int .i64 2], by simp [results, Tryd.results14, go_sem, hr4, hr5], ((hB.trans (hb1.mono (by omega))).setCell (by show _ ≤ w.heap.size + 1; omega) _).setCell (by show _ ≤ w.heap.size + 2; omega) _, ?_⟩
    rw [HNo.out, if_pos rfl]

end Go.Proofs.YtfnncphkidhbpaaDoor

/- prec: Make. -/

namespace Go.Proofs.YtfnncphkidhbpaaDoor

open Go Go.RowKit
set_option maxRecDepth 100000

set_option maxHeartbeats 4000000 in
theorem make_no {w : World} {l : List Sm} {n : List Int} {b wb : Int} {lpo top : Bool} {As Aq : Option Addr} {cs nq cq : Nat}
    (hC : ∀ w1, Below w.heap.size w w1 → Calls Tryd.prog 14 #[.agg #[.slice As l.length cs], .slice Aq nq cq] w1 (CountsPost l true n w1)) :
    Calls Tryd.prog 8 #[.agg #[.slice As l.length cs], .slice Aq nq cq, .agg #[.bool lpo, .int .i64 b, .int .i64 wb, .bool top]] w (MakePost l true lpo top n b wb w) := by
  obtain ⟨W3, hW3⟩ : ∃ W3, ((w.alloc (.cells #[.slice As l.length cs] 29)).alloc (.cells #[.bool lpo, .int .i64 b, .int .i64 wb, .bool top] 34)).alloc (.cells #[.bool false, .slice none 0 0, .slice none 0 0, .int .i64 0] 24) = W3 := ⟨_, rfl⟩
  obtain ⟨q1, q2, q3⟩ := heap3p w (.cells #[.slice As l.length cs] 29) (.cells #[.bool lpo, .int .i64 b, .int .i64 wb, .bool top] 34) (.cells #[.bool false, .slice none 0 0, .slice none 0 0, .int .i64 0] 24)
  rw [hW3] at q1 q2 q3
  have z3 : W3.heap.size = w.heap.size + 3 := by rw [← hW3]; simp
  have hB3 : Below w.heap.size w W3 := by rw [← hW3]; exact (((Below.refl _ _).alloc (Nat.le_refl _) _).alloc (by simp) _).alloc (by simp; omega) _
  have HW3 := Lib.hid hW3
  have HC := Lib.hid (hC W3 hB3)
  have HM : Hid (∀ w4, Below W3.heap.size W3 w4 → Below w.heap.size w w4 ∧ w4.heap[w.heap.size + 2]? = some (.cells #[.bool false, .slice none 0 0, .slice none 0 0, .int .i64 0] 24)) := Lib.hid fun w4 h4 => ⟨hB3.trans (h4.mono hB3.size), (h4.block (w.heap.size + 2) (by omega)).trans q3⟩
  have c0 := (cells_one q1).1
  clear hC hW3 q1 q2 q3 z3 hB3
  go_enter Tryd.func8, Tryd.ntmps8
  go_upto_region 1 with fail
  rw [HW3.out]
  go_wp2_with (first
    | ((with_reducible refine HC.out.mono ?_); go_must (rintro e w4 ⟨hb4, hp⟩; rw [if_pos rfl] at hp; subst hp; obtain ⟨hbw, m3⟩ := HM.out w4 hb4; obtain ⟨⟨x0, x1, x2, x3⟩, y0, y1, y2, y3⟩ := four_cells m3; have HBw := Lib.hid hbw; clear m3 hb4 hbw))
    | fail)
  refine bodyPost_ret (v := .tuple #[.agg #[.bool false, .slice none 0 0, .slice none 0 0, .int .i64 0], .int .i64 2]) (by simp [results, Tryd.results8, go_sem, x0, x1, x2, x3]) rfl ⟨?_, ?_⟩
  · exact (((HBw.out.setCell (by simp; omega) _).setCell (by simp; omega) _).setCell (by simp; omega) _).setCell (by simp; omega) _
  · rw [if_pos (.inl rfl)]

/-- A signature that may be has symbols of few arguments. -/
theorem chk_ar {l : List Sm} (h : checkI l = 0) (f : Nat) : 0 ≤ arP l f ∧ arP l f ≤ 99 := by
  obtain ⟨_, h0, h1⟩ := chk_one h
  unfold arP
  cases hx : l[f]? with
  | none => simp
  | some x =>
    simp only [Option.map_some, Option.getD_some]
    by_cases hf : f = 0
    · subst hf
      rw [h0] at hx
      obtain rfl := Option.some.inj hx
      decide
    · obtain ⟨_, a, b⟩ := h1 f x (by omega) hx
      omega

theorem cntN_le {l : List Sm} {cl : List (List Lp)} (hz : (itms cl).length ≤ 281474976710656) (h : okI l (itms cl) = true) (f : Nat) : 0 ≤ cnP (cntN l cl) f ∧ cnP (cntN l cl) f ≤ 1152921504606846976 := by
  unfold cnP
  rw [List.getD_eq_getElem?_getD]
  cases hx : (cntN l cl)[f]? with
  | none => simp
  | some x =>
    have hm := List.mem_of_getElem? hx
    unfold cntN at hm
    have := cnt_small h l.length [] x (by rw [List.append_nil]; exact hm)
    simp only [List.length_nil, Option.getD_some] at *
    omega

theorem make_any (l : List Sm) (cl : List (List Lp)) (b wb : Int) (lpo top : Bool) (As Aq : Option Addr) (cs cq : Nat) (w : World) (hS : Syms w w.heap.size As l.length l) (hn : l.length * 32 ≤ 140737488351232) (ht : tru w) (hC : ClRow w (· < w.heap.size) Aq cl) (hz : (itms cl).length ≤ 281474976710656) :
    Calls Tryd.prog 8 #[.agg #[.slice As l.length cs], .slice Aq cl.length cq, .agg #[.bool lpo, .int .i64 b, .int .i64 wb, .bool top]] w (MakePost l (cntNo l cl) lpo top (cntN l cl) b wb w) := by
  have hcs : ∀ w1, Below w.heap.size w w1 → Calls Tryd.prog 14 #[.agg #[.slice As l.length cs], .slice Aq cl.length cq] w1 (CountsPost l (cntNo l cl) (cntN l cl) w1) := fun w1 h1 =>
    counts_any l cl As Aq cs cq w1 (hS.on h1) hn (tru_below ht h1) (hC.on h1) (by omega)
  cases hno : cntNo l cl with
  | true => rw [hno] at hcs; exact make_no hcs
  | false =>
    have hb : checkI l = 0 ∧ okI l (itms cl) = true := by
      unfold cntNo at hno
      simpa using hno
    have h96 := (chk_one hb.1).1
    have hl0 := chk_some hb.1
    rw [hno] at hcs
    exact make_of (m := l.length - 1) (by omega) (by omega) (cntN_len l cl) (chk_ar hb.1) (cntN_le hz hb.2) hS hcs

end Go.Proofs.YtfnncphkidhbpaaDoor

/- prec's law: two rows of numbers, held against each other. -/

namespace Go.Proofs.YtfnncphkidhbpaaDoor

open Go.RowKit
set_option maxRecDepth 100000

def rowE (xs ys : List Int) : Bool := decide (xs = ys)

theorem rowE_no {xs ys : List Int} (h : xs ≠ ys) : rowE xs ys = false := decide_eq_false h

theorem rowE_at {xs ys : List Int} {k : Nat} {x y : Int} (hx : xs[k]? = some x) (hy : ys[k]? = some y) (h : x ≠ y) : rowE xs ys = false := rowE_no fun e => by
  rw [e, hy] at hx; exact h (Option.some.inj hx).symm

set_option maxHeartbeats 2000000 in
theorem lawRow_any (xs ys : List Int) (A B : Option Addr) (c d : Nat) (w : World) (hA : Ints w w.heap.size A xs) (hB : Ints w w.heap.size B ys) :
    Calls Tryd.prog 11 #[.slice A xs.length c, .slice B ys.length d] w fun e w' => e = .returned (.bool (rowE xs ys)) ∧ On w w' := by
  have hlx := hA.len
  have hly := hB.len
  by_cases hl : xs.length = ys.length
  · have HA := Lib.hid hA
    have HB := Lib.hid hB
    have HL := Lib.hid hl
    have g1 : ((xs.length : Int) != (ys.length : Int)) = false := by simp; omega
    have g2 : (xs.length != ys.length) = false := by simp; omega
    clear hA hB hl
    go_enter Tryd.func11, Tryd.ntmps11
    go_wp2
    clear g1 g2
    go_loopw [5] (fun i wr => ∃ k q : Nat, k ≤ xs.length ∧ i = .int .i64 (k : Int) ∧ wr = w.drewN q ∧ Hid (xs.take k = ys.take k)) (fun i _ => xs.length - (intOf i).toNat)
    case atStart => exact ⟨0, 0, Nat.zero_le _, rfl, rfl, Lib.hid (by simp)⟩
    case round =>
      obtain ⟨k, q, hk, rfl, rfl, HE⟩ := hrel
      by_cases hlt : k < xs.length
      · have hlt2 : k < ys.length := by have := HL.out; omega
        obtain ⟨x, hx⟩ : ∃ x, xs[k]? = some x := ⟨_, List.getElem?_eq_getElem hlt⟩
        obtain ⟨y, hy⟩ : ∃ y, ys[k]? = some y := ⟨_, List.getElem?_eq_getElem hlt2⟩
        obtain ⟨b, off, rfl, _, hc⟩ := HA.out.ad (by omega)
        obtain ⟨b2, off2, rfl, _, hc2⟩ := HB.out.ad (by omega)
        have cx := hc k x hx
        have cy := hc2 k y hy
        by_cases h0 : x = y
        · have HN := Lib.hid (show xs.take (k + 1) = ys.take (k + 1) by rw [List.take_add_one, List.take_add_one, hx, hy, HE.out, h0])
          subst h0
          clear hc hc2 hx hy
          go_wp2_with fail
          go_quiet (fail)
          clear cx cy
          go_wp2
          go_roundw
          case rel => exact ⟨k + 1, _, by omega, by go_num, rfl, HN⟩
          case measure => simp [intOf]; omega
        · have hfin := Lib.hid (rowE_at hx hy h0)
          clear hc hc2 hx hy
          go_wp2_with fail
          go_quiet (fail)
          clear cx cy
          go_wp2
          go_ret
          exact ⟨ret_bool hfin.out.symm, bl_drewN (bl_drewN (Below.refl _ _) _) _, Nat.le_trans (Nat.le_add_right _ q) (Nat.le_add_right _ _)⟩
      · obtain rfl : k = xs.length := by omega
        have hfin := Lib.hid (show rowE xs ys = true from decide_eq_true (by
          have e := HE.out
          rw [List.take_length, List.take_of_length_le (by have := HL.out; omega)] at e
          exact e))
        go_wp2
        go_ret
        exact ⟨ret_bool hfin.out.symm, bl_drewN (Below.refl _ _) _, Nat.le_add_right _ _⟩
  · have hfin := Lib.hid (rowE_no (fun e => hl (congrArg List.length e)))
    have g1 : ((xs.length : Int) != (ys.length : Int)) = true := by simp; omega
    have g2 : (xs.length != ys.length) = true := by simpa using hl
    clear hA hB
    go_enter Tryd.func11, Tryd.ntmps11
    go_wp2
    go_ret
    exact ⟨ret_bool hfin.out.symm, On.refl _⟩

end Go.Proofs.YtfnncphkidhbpaaDoor

/- prec's law: Same, small, wakes. -/

namespace Go.Proofs.YtfnncphkidhbpaaDoor

open Go Go.RowKit Go.Shelf
set_option maxRecDepth 100000

def pS : List Sm := [truthSm, ⟨⟨#[97]⟩, 0, false⟩, ⟨⟨#[102]⟩, 2, false⟩, ⟨⟨#[103]⟩, 1, false⟩]

def pC : List (List Lp) := [[⟨false, .node 3 [.node 1 []], .node 1 []⟩]]

theorem p_no : cntNo pS pC = false := by decide +kernel

theorem p_n : cntN pS pC = [0, 2, 0, 1] := by decide +kernel

theorem p_r1 : rkL pS [0, 2, 0, 1] 1 4 = [0, 1, 3, 2] := by decide +kernel

theorem p_w1 : wtL pS [0, 2, 0, 1] 1 true [0, 1, 3, 2] = [1, 1, 3, 2] := by decide +kernel

theorem p_r3 : rkL pS [0, 2, 0, 1] 3 4 = [0, 3, 1, 2] := by decide +kernel

theorem p_w3 : wtL pS [0, 2, 0, 1] 3 false [0, 3, 1, 2] = [1, 3, 1, 2] := by decide +kernel

theorem p_chk : chkO pS ⟨false, [], [], 0⟩ = 2 := by decide +kernel

theorem cells_rowP {W : World} {b : Nat} {cs : Array Value} {t : TypeId} (h : W.heap[b]? = some (.cells cs t)) {j : Nat} {u : Value} (hu : cs[j]? = some u) : W.cell? ⟨b, 0 + j, none⟩ = some u := by
  simp only [World.cell?, h, Nat.zero_add]
  simpa using hu

set_option maxHeartbeats 1000000 in
theorem small_any (w : World) :
    Calls Tryd.prog 13 #[] w fun e w' => ∃ b, e = .returned (.agg #[.slice (some ⟨b, 0, none⟩) 4 4]) ∧ Syms w' w'.heap.size (some ⟨b, 0, none⟩) 4 pS ∧ Below w.heap.size w w' := by
  go_enter Tryd.func13, Tryd.ntmps13
  have q0 := heap_alloc_new w (.cells #[.slice none 0 0] 29)
  obtain ⟨W, hW⟩ : ∃ W, w.alloc (.cells #[.slice none 0 0] 29) = W := ⟨_, rfl⟩
  have hB : Below w.heap.size w W := by rw [← hW]; exact (Below.refl _ _).alloc (Nat.le_refl _) _
  rw [hW] at q0
  have hz : W.heap.size = w.heap.size + 1 := by rw [← hW]; simp
  have HW := Lib.hid hW
  have Hz := Lib.hid hz
  clear hW hz
  go_upto_region 1 with fail
  rw [HW.out]
  go_wp2_with (first
    | (go_at_call 21; refine (Truth_any _).mono ?_; rintro e w9 ⟨rfl, hb9⟩; have q9 : ∀ o, (w9.alloc o).heap[w.heap.size]? = some (.cells #[.slice none 0 0] 29) := (fun o => (Below.heap_alloc w9 o _ (by have := hb9.size; have := Hz.out; omega)).trans ((hb9.block _ (by have := Hz.out; omega)).trans q0)); have f0 := fun o => (cells_one (q9 o)).1; have f1 := fun o => (cells_one (q9 o)).2; have HQ9 := Lib.hid q9; clear q9)
    | fail)
  obtain ⟨V, hV⟩ : ∃ V, w9.alloc (.cells #[.string truthSm.name, .int .i64 truthSm.arity, .bool truthSm.pred, .string ⟨#[97]⟩, .int .i64 0, .bool false, .string ⟨#[102]⟩, .int .i64 2, .bool false, .string ⟨#[103]⟩, .int .i64 1, .bool false] 62) = V := ⟨_, rfl⟩
  have v0 : V.heap[w9.heap.size]? = some (.cells #[.string truthSm.name, .int .i64 truthSm.arity, .bool truthSm.pred, .string ⟨#[97]⟩, .int .i64 0, .bool false, .string ⟨#[102]⟩, .int .i64 2, .bool false, .string ⟨#[103]⟩, .int .i64 1, .bool false] 62) := by rw [← hV]; exact heap_alloc_new _ _
  have hBV : Below w9.heap.size w9 V := by rw [← hV]; exact (Below.refl _ _).alloc (Nat.le_refl _) _
  have vq := HQ9.out (.cells #[.string truthSm.name, .int .i64 truthSm.arity, .bool truthSm.pred, .string ⟨#[97]⟩, .int .i64 0, .bool false, .string ⟨#[102]⟩, .int .i64 2, .bool false, .string ⟨#[103]⟩, .int .i64 1, .bool false] 62)
  rw [hV] at vq ⊢
  have hs9 := hb9.size
  have hz9 := Hz.out
  have v1 := (heap_setCell_other V ⟨w.heap.size, 0, none⟩ w9.heap.size (.slice (some ⟨w9.heap.size, 0, none⟩) 4 4) (by show w9.heap.size ≠ w.heap.size; omega)).trans v0
  have vr := (cells_one (show _ = some (Obj.cells #[.slice (some ⟨w9.heap.size, 0, none⟩) 4 4] 29) from Boxed.set (.slice (some ⟨w9.heap.size, 0, none⟩) 4 4) vq)).1
  refine bodyPost_ret (v := .agg #[.slice (some ⟨w9.heap.size, 0, none⟩) 4 4]) (by simp [results, Tryd.results13, go_sem, vr]) rfl ⟨w9.heap.size, rfl, Syms.of_flat rfl ?_ fun _ => ⟨w9.heap.size, 0, rfl, (Array.getElem?_eq_some_iff.1 v1).1, fun j u hu => cells_rowP v1 ?_⟩, (hB.trans ((bl_step hb9 hBV).mono hB.size)).setCell (Nat.le_refl _) _⟩
  · intro x hx
    simp only [pS, List.mem_cons, List.not_mem_nil, or_false] at hx
    rcases hx with rfl | rfl | rfl | rfl <;> exact ⟨by decide, by decide, by decide⟩
  · have e : (pS.flatMap Sm.cells) = [.string truthSm.name, .int .i64 truthSm.arity, .bool truthSm.pred, .string ⟨#[97]⟩, .int .i64 0, .bool false, .string ⟨#[102]⟩, .int .i64 2, .bool false, .string ⟨#[103]⟩, .int .i64 1, .bool false] := rfl
    rw [e] at hu
    simpa using hu

/-- Two rows of the same numbers. -/
theorem rowLit (xs : List Int) (g : Nat) (w : World) (hx : ∀ x ∈ xs, I64 x) (hl : xs.length ≤ 1000) (h : w.heap[g]? = some (.cells (iC xs) 3)) :
    Calls Tryd.prog 11 #[.slice (some ⟨g, 0, none⟩) xs.length xs.length, .slice (some ⟨w.heap.size, 0, none⟩) xs.length xs.length] (w.alloc (.cells (iC xs) 3)) fun e w' => e = .returned (.bool true) ∧ Below w.heap.size w w' := by
  have hB : Below w.heap.size w (w.alloc (.cells (iC xs) 3)) := (Below.refl _ _).alloc (Nat.le_refl _) _
  have hg := (Array.getElem?_eq_some_iff.1 h).1
  have h1 := ints_of (blk_st hB h) (by omega) hx
  have h2 := ints_of (heap_alloc_new w (.cells (iC xs) 3)) (by omega) hx
  refine (lawRow_any xs xs _ _ xs.length xs.length _ (h1.more (by simp; omega)) (h2.more (by simp))).mono ?_
  rintro e w' ⟨rfl, hb⟩
  exact ⟨by rw [show rowE xs xs = true from decide_eq_true rfl], hB.trans (hb.b.mono (by simp))⟩

theorem small64 {xs : List Int} (h : ∀ x ∈ xs, 0 ≤ x ∧ x ≤ 100) : ∀ x ∈ xs, I64 x := fun x hx => by have := h x hx; exact ⟨by omega, by omega⟩

/-- What Make tells of the law's own clause. -/
theorem mkW {b wb : Int} {top : Bool} {xs ys : List Int} {As Aq : Option Addr} {w : World} (hb : nameB b wb = true) (hr : rkL pS [0, 2, 0, 1] b 4 = xs) (hw : wtL pS [0, 2, 0, 1] wb top xs = ys) (hS : Syms w w.heap.size As 4 pS) (ht : tru w) (hC : ClRow w (· < w.heap.size) Aq pC) :
    Calls Tryd.prog 8 #[.agg #[.slice As 4 4], .slice Aq 1 1, .agg #[.bool false, .int .i64 b, .int .i64 wb, .bool top]] w fun e w' => ∃ g h, e = .returned (.tuple #[.agg #[.bool false, .slice (some ⟨g, 0, none⟩) 4 4, .slice (some ⟨h, 0, none⟩) 4 4, .int .i64 1], .int .i64 0]) ∧ Below w.heap.size w w' ∧ w'.heap[g]? = some (.cells (iC xs) 3) ∧ w'.heap[h]? = some (.cells (iC ys) 3) := by
  refine (make_any pS pC b wb false top As Aq 4 1 w hS (by decide) ht hC (by decide)).mono ?_
  rintro e w' ⟨hbl, hp⟩
  rw [p_no, p_n, if_neg (by rw [hb]; decide), if_neg (by decide)] at hp
  obtain ⟨g, h, rfl, _, _, h1, h2⟩ := hp
  rw [show pS.length = 4 from rfl, hr] at h1 h2
  rw [hw] at h2
  exact ⟨g, h, rfl, hbl, h1, h2⟩

end Go.Proofs.YtfnncphkidhbpaaDoor

/- prec's law: wakes. -/

namespace Go.Proofs.YtfnncphkidhbpaaDoor

open Go Go.RowKit Go.Shelf
set_option maxRecDepth 100000

/-- An order in its box, its two rows. -/
structure WkB (V : World) (b g h : Nat) (xs ys : List Int) : Prop where
  box : V.heap[b]? = some (.cells #[.bool false, .slice (some ⟨g, 0, none⟩) 4 4, .slice (some ⟨h, 0, none⟩) 4 4, .int .i64 1] 24)
  r1 : V.heap[g]? = some (.cells (iC xs) 3)
  r2 : V.heap[h]? = some (.cells (iC ys) 3)

theorem WkB.on {V V' : World} {b g h : Nat} {xs ys : List Int} (k : WkB V b g h xs ys) (hb : Below V.heap.size V V') : WkB V' b g h xs ys := ⟨blk_st hb k.box, blk_st hb k.r1, blk_st hb k.r2⟩

theorem WkB.c1 {V : World} {b g h : Nat} {xs ys : List Int} (k : WkB V b g h xs ys) : V.cell? ⟨b, 1, none⟩ = some (.slice (some ⟨g, 0, none⟩) 4 4) := by have := k.box; simp [World.cell?, this]

theorem WkB.c2 {V : World} {b g h : Nat} {xs ys : List Int} (k : WkB V b g h xs ys) : V.cell? ⟨b, 2, none⟩ = some (.slice (some ⟨h, 0, none⟩) 4 4) := by have := k.box; simp [World.cell?, this]

theorem wkL (a b c d : Int) (g : Nat) (w : World) (hx : ∀ x ∈ [a, b, c, d], I64 x) (h : w.heap[g]? = some (.cells (iC [a, b, c, d]) 3)) :
    Calls Tryd.prog 11 #[.slice (some ⟨g, 0, none⟩) 4 4, .slice (some ⟨w.heap.size, 0, none⟩) 4 4] (w.alloc (.cells #[.int .i64 a, .int .i64 b, .int .i64 c, .int .i64 d] 3)) fun e w' => e = .returned (.bool true) ∧ Below w.heap.size w w' :=
  rowLit [a, b, c, d] g w hx (by simp) h

theorem pC_row {W : World} {s : Nat} (q1 : W.heap[s + 1]? = some (.cells #[.int .i64 1, .slice none 0 0] 47)) (q2 : W.heap[s + 2]? = some (.cells #[.bool false, .int .i64 3, .slice (some ⟨s + 1, 0, none⟩) 1 1, .int .i64 1, .slice none 0 0] 49)) (q3 : W.heap[s + 3]? = some (.cells #[.slice (some ⟨s + 2, 0, none⟩) 1 1] 39)) : ClRow W (· < W.heap.size) (some ⟨s + 3, 0, none⟩) pC := by
  have h1 := (Array.getElem?_eq_some_iff.1 q1).1
  have h2 := (Array.getElem?_eq_some_iff.1 q2).1
  have h3 := (Array.getElem?_eq_some_iff.1 q3).1
  have ha : ArgsN W (· < W.heap.size) (some ⟨s + 1, 0, none⟩) [.node 1 []] := by
    refine .row (s + 1) 0 [.node 1 []] (fun _ => none) (fun _ => 0) h1 (by decide) (fun i t e => ?_) (fun i t e => ?_) (fun i t e => ?_) (fun i t e => ?_)
    all_goals
      match i, e with
      | 0, e => simp at e; subst e; first | exact ⟨by decide, by decide⟩ | exact cells_rowP q1 (j := 0) rfl | exact cells_rowP q1 (j := 1) rfl | exact .nil _
      | i + 1, e => simp at e
  refine ⟨by decide, fun _ => ⟨s + 3, 0, rfl, h3, fun i l e => ?_⟩⟩
  match i, e with
  | 0, e =>
    simp [pC] at e
    subst e
    refine ⟨some ⟨s + 2, 0, none⟩, 1, cells_rowP q3 (j := 0) rfl, by decide, fun _ => ⟨s + 2, 0, rfl, h2, fun i x e => ?_⟩⟩
    match i, e with
    | 0, e =>
      simp at e
      subst e
      exact ⟨some ⟨s + 1, 0, none⟩, 1, none, 0, cells_rowP q2 (j := 0) rfl, cells_rowP q2 (j := 1) rfl, cells_rowP q2 (j := 2) rfl, cells_rowP q2 (j := 3) rfl, cells_rowP q2 (j := 4) rfl, ⟨by decide, by decide⟩, ⟨by decide, by decide⟩, ha, .nil _⟩
    | i + 1, e => simp at e
  | i + 1, e => simp [pC] at e

set_option maxHeartbeats 4000000 in
theorem pWakes_any (w : World) (ht : tru w) :
    Calls Tryd.prog 7 #[] w fun e w' => e = .returned (.bool true) ∧ Below w.heap.size w w' := by
  obtain ⟨W, hW⟩ : ∃ W, ((((w.alloc (.cells #[.int .i64 1, .slice none 0 0] 47)).alloc (.cells #[.int .i64 1, .slice none 0 0] 47)).alloc (.cells #[.bool false, .int .i64 3, .slice (some ⟨w.heap.size + 1, 0, none⟩) 1 1, .int .i64 1, .slice none 0 0] 49)).alloc (.cells #[.slice (some ⟨w.heap.size + 1 + 1, 0, none⟩) 1 1] 39)) = W := ⟨_, rfl⟩
  obtain ⟨q0, q1, q2⟩ := heap3p w (.cells #[.int .i64 1, .slice none 0 0] 47) (.cells #[.int .i64 1, .slice none 0 0] 47) (.cells #[.bool false, .int .i64 3, .slice (some ⟨w.heap.size + 1, 0, none⟩) 1 1, .int .i64 1, .slice none 0 0] 49)
  obtain ⟨U, hU⟩ : ∃ U, (((w.alloc (.cells #[.int .i64 1, .slice none 0 0] 47)).alloc (.cells #[.int .i64 1, .slice none 0 0] 47)).alloc (.cells #[.bool false, .int .i64 3, .slice (some ⟨w.heap.size + 1, 0, none⟩) 1 1, .int .i64 1, .slice none 0 0] 49)) = U := ⟨_, rfl⟩
  have hUB : Below w.heap.size w U := by rw [← hU]; exact (((Below.refl _ _).alloc (Nat.le_refl _) _).alloc (by simp) _).alloc (by simp; omega) _
  have hUz : U.heap.size = w.heap.size + 3 := by rw [← hU]; simp
  rw [hU] at q1 q2
  have hUW : U.alloc (.cells #[.slice (some ⟨w.heap.size + 1 + 1, 0, none⟩) 1 1] 39) = W := by rw [← hU, hW]
  have q3 : W.heap[w.heap.size + 3]? = some (.cells #[.slice (some ⟨w.heap.size + 2, 0, none⟩) 1 1] 39) := by rw [← hUW, ← hUz]; exact heap_alloc_new U _
  have hUW2 : Below U.heap.size U W := by rw [← hUW]; exact (Below.refl _ _).alloc (Nat.le_refl _) _
  have hB : Below w.heap.size w W := hUB.trans (hUW2.mono hUB.size)
  have HCl := Lib.hid (pC_row (blk_st hUW2 q1) (blk_st hUW2 q2) q3)
  have HW := Lib.hid hW
  have HB := Lib.hid hB
  have HT := Lib.hid (tru_below ht hB)
  clear hW hU hUB hUz hUW q0 q1 q2 q3 hUW2 hB ht
  go_enter Tryd.func7, Tryd.ntmps7
  go_upto_region 3 with fail
  rw [HW.out]
  go_upto_region 4 with (first
    | (go_at_call 13; (with_reducible refine (small_any _).mono ?_); go_must (rintro e w1 ⟨s1, rfl, hs1, hb1⟩; have HMk := Lib.hid (mkW (b := 1) (wb := 1) (top := true) (by decide) p_r1 p_w1 hs1 (tru_below HT.out hb1) (HCl.out.on hb1)); have HB1 := Lib.hid hb1; clear hs1 hb1))
    | (go_at_call 8; (with_reducible refine HMk.out.mono ?_); go_must (rintro e w2 ⟨g1, h1, rfl, hb2, r1, r2⟩; have HB2 := Lib.hid (bl_step HB1.out hb2)))
    | fail)
  obtain ⟨W3, hW3⟩ : ∃ W3, w2.alloc (.cells #[.bool false, .slice (some ⟨g1, 0, none⟩) 4 4, .slice (some ⟨h1, 0, none⟩) 4 4, .int .i64 1] 24) = W3 := ⟨_, rfl⟩
  have hb23 : Below w2.heap.size w2 W3 := by rw [← hW3]; exact (Below.refl _ _).alloc (Nat.le_refl _) _
  have K1 := Lib.hid (WkB.mk (b := w2.heap.size) (V := W3) (by rw [← hW3]; exact heap_alloc_new _ _) (blk_st hb23 r1) (blk_st hb23 r2))
  have HB3 := Lib.hid (bl_step HB2.out hb23)
  have HW3 := Lib.hid hW3
  clear hW3 hb2 hb23 r1 r2
  rw [HW3.out]
  go_upto_region 5 with (first
    | (go_at_call 13; (with_reducible refine (small_any _).mono ?_); go_must (rintro e w4 ⟨s2, rfl, hs2, hb4⟩; have HMk2 := Lib.hid (mkW (b := 3) (wb := 3) (top := false) (by decide) p_r3 p_w3 hs2 (tru_below HT.out (bl_step HB3.out hb4)) (HCl.out.on (bl_step HB3.out hb4))); have HB4 := Lib.hid (bl_step HB3.out hb4); have K14 := Lib.hid (K1.out.on hb4); clear hs2 hb4))
    | (go_at_call 8; (with_reducible refine HMk2.out.mono ?_); go_must (rintro e w5 ⟨g2, h2, rfl, hb5, r1, r2⟩; have HB5 := Lib.hid (bl_step HB4.out hb5); have K15 := Lib.hid (K14.out.on hb5)))
    | fail)
  obtain ⟨W6, hW6⟩ : ∃ W6, w5.alloc (.cells #[.bool false, .slice (some ⟨g2, 0, none⟩) 4 4, .slice (some ⟨h2, 0, none⟩) 4 4, .int .i64 1] 24) = W6 := ⟨_, rfl⟩
  have hb56 : Below w5.heap.size w5 W6 := by rw [← hW6]; exact (Below.refl _ _).alloc (Nat.le_refl _) _
  have K26 := Lib.hid (WkB.mk (b := w5.heap.size) (V := W6) (by rw [← hW6]; exact heap_alloc_new _ _) (blk_st hb56 r1) (blk_st hb56 r2))
  have K16 := Lib.hid (K15.out.on hb56)
  have HB6 := Lib.hid (bl_step HB5.out hb56)
  have HW6 := Lib.hid hW6
  clear hW6 hb5 hb56 r1 r2
  rw [HW6.out]
  have c1 := K16.out.c1
  go_wp2_with (first
    | (go_at_call 11; (with_reducible refine (wkL 0 1 3 2 g1 W6 (small64 (by decide)) K16.out.r1).mono ?_); go_must (rintro e wA ⟨rfl, hbA⟩; have HA := Lib.hid (bl_step HB6.out hbA); have KA1 := Lib.hid (K16.out.on hbA); have KA2 := Lib.hid (K26.out.on hbA); clear c1 hbA; have c1 := KA1.out.c2))
    | (go_at_call 11; (with_reducible refine (wkL 1 1 3 2 h1 wA (small64 (by decide)) KA1.out.r2).mono ?_); go_must (rintro e wB ⟨rfl, hbB⟩; have HBB := Lib.hid (bl_step HA.out hbB); have KB2 := Lib.hid (KA2.out.on hbB); clear c1 hbB; have c1 := KB2.out.c1))
    | (go_at_call 11; (with_reducible refine (wkL 0 3 1 2 g2 wB (small64 (by decide)) KB2.out.r1).mono ?_); go_must (rintro e wC ⟨rfl, hbC⟩; have HCC := Lib.hid (bl_step HBB.out hbC); have KC2 := Lib.hid (KB2.out.on hbC); clear c1 hbC; have c1 := KC2.out.c2))
    | (go_at_call 11; (with_reducible refine (wkL 1 3 1 2 h2 wC (small64 (by decide)) KC2.out.r2).mono ?_); go_must (rintro e wD ⟨rfl, hbD⟩; have HD := Lib.hid (bl_step HCC.out hbD); clear c1 hbD))
    | (go_at_call 13; (with_reducible refine (small_any _).mono ?_); go_must (rintro e wE ⟨s3, rfl, hs3, hbE⟩; have HE := Lib.hid (bl_step HD.out hbE); have hck := check_any pS ⟨false, [], [], 0⟩ (some ⟨s3, 0, none⟩) none none 4 0 0 wE hs3 (by decide) (tru_below HT.out (bl_step HD.out hbE)) ⟨⟨by decide, by simp, fun h => by simp at h⟩, ⟨by decide, by simp, fun h => by simp at h⟩, ⟨by decide, by decide⟩⟩; rw [p_chk] at hck; have HCk : Hid (Calls Tryd.prog 10 #[.agg #[.slice (some ⟨s3, 0, none⟩) 4 4], .agg #[.bool false, .slice none 0 0, .slice none 0 0, .int .i64 0]] wE fun e w' => e = .returned (.int .i64 2) ∧ Below wE.heap.size wE w') := hck; clear hck hs3 hbE))
    | (go_at_call 10; (with_reducible refine HCk.out.mono ?_); go_must (rintro e wF ⟨rfl, hbF⟩; have HF := Lib.hid (bl_step HE.out hbF)))
    | fail)
  go_ret
  exact ⟨ret_bool rfl, HB.out.trans (HF.out.mono HB.out.size)⟩

end Go.Proofs.YtfnncphkidhbpaaDoor

/- prec: what Make tells, as an order; it may be, and hangs on no order of the clauses. -/

namespace Go.Proofs.YtfnncphkidhbpaaDoor

open Go Go.RowKit Go.Shelf
set_option maxRecDepth 100000

-- the order of the clauses

theorem addC_comm (n : List Int) (f g : Int) : addC (addC n f) g = addC (addC n g) f := by
  unfold addC
  by_cases hf : f < 0
  · simp only [if_pos hf]
  · by_cases hg : g < 0
    · simp only [if_pos hg]
    · simp only [if_neg hf, if_neg hg]
      by_cases he : f.toNat = g.toNat
      · rw [he]
      · have e1 : ∀ (a : Int), (n.set f.toNat a).getD g.toNat 0 = n.getD g.toNat 0 := fun a => by
          rw [List.getD_eq_getElem?_getD, List.getD_eq_getElem?_getD, List.getElem?_set_ne he]
        have e2 : ∀ (a : Int), (n.set g.toNat a).getD f.toNat 0 = n.getD f.toNat 0 := fun a => by
          rw [List.getD_eq_getElem?_getD, List.getD_eq_getElem?_getD, List.getElem?_set_ne (fun e => he e.symm)]
        rw [e1, e2]
        exact List.set_comm _ _ he

theorem cntC_perm {hs ks : List Int} (h : hs.Perm ks) : ∀ n, cntC n hs = cntC n ks := by
  induction h with
  | nil => intro n; rfl
  | cons x _ ih => intro n; exact ih (addC n x)
  | swap x y l => intro n; show cntC (addC (addC n y) x) l = cntC (addC (addC n x) y) l; rw [addC_comm]
  | trans _ _ i1 i2 => intro n; rw [i1, i2]

theorem hdsL_flat : ∀ ts : List Tm, hdsL ts = ts.flatMap hdsT
  | [] => by simp [hdsL]
  | t :: ts => by rw [hdsL, List.flatMap_cons, hdsL_flat ts]

theorem itms_rev (cs : List (List Lp)) : (itms cs.reverse).Perm (itms cs) := (List.reverse_perm cs).flatMap_right itmL

theorem cntN_rev (l : List Sm) (cs : List (List Lp)) : cntN l cs.reverse = cntN l cs := by
  unfold cntN
  refine cntC_perm ?_ _
  rw [hdsL_flat, hdsL_flat]
  exact (itms_rev cs).flatMap_right hdsT

theorem cntNo_rev (l : List Sm) (cs : List (List Lp)) : cntNo l cs.reverse = cntNo l cs := by
  unfold cntNo
  have : okI l (itms cs.reverse) = okI l (itms cs) := by
    unfold okI
    rw [Bool.eq_iff_iff, List.all_eq_true, List.all_eq_true]
    exact ⟨fun h x hx => h x ((itms_rev cs).mem_iff.2 hx), fun h x hx => h x ((itms_rev cs).mem_iff.1 hx)⟩
  rw [this]

/-- What Make makes, as an order. -/
def mkO (l : List Sm) (n : List Int) (lpo top : Bool) (b wb : Int) : Odr :=
  if lpo = true then ⟨true, rkL l n b l.length, [], 0⟩ else ⟨false, rkL l n b l.length, wtL l n wb top (rkL l n b l.length), 1⟩

theorem mkO_prec (l : List Sm) (n : List Int) (lpo top : Bool) (b wb : Int) : (mkO l n lpo top b wb).prec = rkL l n b l.length := by
  unfold mkO; split <;> rfl

theorem rkL_ranked (l : List Sm) (n : List Int) (b : Int) {m : Nat} (hm : 0 < m) : rankB (rkL l n b m) m = true := by
  have h := (rankB_iff (p := rkL l n b m)).2 ⟨fun i h0 hi => ?_, ?_⟩
  · rwa [rkL_len] at h
  · rw [rkL_len] at hi
    rw [rkL_getD hm, rkL_getD hi, show rnkR l n b m 0 = 0 from rfl, rnkR_eq l n b m (by omega)]
    omega
  · unfold List.Nodup
    rw [List.pairwise_iff_getElem]
    intro i j hi hj hij he
    rw [rkL_len] at hi hj
    have e1 := rkL_getD (l := l) (n := n) (b := b) hi
    have e2 := rkL_getD (l := l) (n := n) (b := b) hj
    rw [getD_el (by rw [rkL_len]; exact hi)] at e1
    rw [getD_el (by rw [rkL_len]; exact hj)] at e2
    rw [e1, e2] at he
    have := rnkR_inj hi hj (by omega : rnkR l n b m i = rnkR l n b m j)
    omega

theorem wgX_pos {l : List Sm} {n rk : List Int} {wb : Int} {i : Nat} (ha : 0 ≤ arP l i) (hc : 0 ≤ cnP n i) (hr : 0 ≤ rk.getD i 0) : 1 ≤ wgX l n wb rk i := by
  unfold wgX
  repeat' split
  all_goals omega

theorem mkO_may {l : List Sm} {n : List Int} {lpo top : Bool} {b wb : Int} (h0 : checkI l = 0) (hn : ∀ f, 0 ≤ cnP n f) : chkO l (mkO l n lpo top b wb) = 0 := by
  have hl0 := chk_some h0
  have har := chk_ar h0
  have hrk := rkL_ranked l n b hl0
  have hpos : ∀ i, 0 ≤ (rkL l n b l.length).getD i 0 := fun i => by
    rcases Nat.lt_or_ge i l.length with hi | hi
    · rw [rkL_getD hi]; omega
    · rw [List.getD_eq_getElem?_getD, List.getElem?_eq_none (by rw [rkL_len]; exact hi)]; simp
  rw [chkO_eq]
  refine if_pos ⟨h0, by rw [mkO_prec]; exact hrk, ?_⟩
  unfold mkO
  cases lpo with
  | true => exact .inl rfl
  | false =>
    right
    rw [if_neg (by decide)]
    refine decide_eq_true ⟨by show (wtL _ _ _ _ _).length = _; rw [wtL_len, rkL_len], (by show (1 : Int) ≤ 1; decide), (by show (1 : Int) ≤ 1000; decide), ?_, chkW_yes fun i hi => ?_⟩
    · show (wtL l n wb top (rkL l n b l.length)).getD 0 0 = 1
      rw [getD_of (wtL_get (by rw [rkL_len]; exact hl0))]
      unfold wtR
      have h00 : arP l 0 = 0 := by
        have := (chk_one h0).2.1
        unfold arP; rw [this]; rfl
      rw [if_neg (fun e => by rw [h00] at e; exact absurd e.2.1 (by decide)), if_pos rfl]
      decide
    · obtain ⟨s, hs⟩ : ∃ s, l[i]? = some s := ⟨_, List.getElem?_eq_getElem hi⟩
      have hx := wtL_get (l := l) (n := n) (w := wb) (top := top) (rk := rkL l n b l.length) (i := i) (by rw [rkL_len]; exact hi)
      rw [badW_at hs hx]
      have ha : arP l i = s.arity := by unfold arP; rw [hs]; rfl
      have hw := wgX_pos (wb := wb) (har i).1 (hn i) (hpos i)
      show badX s (wtR l n wb top (rkL l n b l.length) i) 1 (highB (rkL l n b l.length) i) = false
      unfold badX wtR
      rw [ha]
      by_cases ht : top = true ∧ s.arity = 1 ∧ highB (rkL l n b l.length) i = true
      · rw [if_pos ht, ht.2.1, ht.2.2]; decide
      · rw [if_neg ht]
        have h1 : 1 ≤ (if i = 0 then 1 else wgX l n wb (rkL l n b l.length) i) := by split <;> omega
        obtain ⟨y, hy⟩ : ∃ y, (if i = 0 then (1 : Int) else wgX l n wb (rkL l n b l.length) i) = y := ⟨_, rfl⟩
        rw [hy] at h1 ⊢
        have h2 : 1 ≤ min y 1000 := by omega
        have h3 : min y 1000 ≤ 1000 := by omega
        obtain ⟨z, hz⟩ : ∃ z, min y 1000 = z := ⟨_, rfl⟩
        rw [hz] at h2 h3 ⊢
        rw [decide_eq_false (by omega : ¬ z < 0), decide_eq_false (by omega : ¬ 1000 < z), decide_eq_false (by omega : ¬ z < 1), decide_eq_false (by omega : ¬ z = 0)]
        simp

/-- Make, where it makes an order; where it makes none. -/
theorem mk_yes (l : List Sm) (cl : List (List Lp)) (b wb : Int) (lpo top : Bool) (As Aq : Option Addr) (cs cq : Nat) (w : World) (hno : cntNo l cl = false) (hnm : nameB b wb = true) (hS : Syms w w.heap.size As l.length l) (hn : l.length * 32 ≤ 140737488351232) (ht : tru w) (hC : ClRow w (· < w.heap.size) Aq cl) (hz : (itms cl).length ≤ 281474976710656) :
    Calls Tryd.prog 8 #[.agg #[.slice As l.length cs], .slice Aq cl.length cq, .agg #[.bool lpo, .int .i64 b, .int .i64 wb, .bool top]] w fun e w' => ∃ P Q, e = .returned (.tuple #[.agg #[.bool (mkO l (cntN l cl) lpo top b wb).lpo, .slice P (mkO l (cntN l cl) lpo top b wb).prec.length (mkO l (cntN l cl) lpo top b wb).prec.length, .slice Q (mkO l (cntN l cl) lpo top b wb).wts.length (mkO l (cntN l cl) lpo top b wb).wts.length, .int .i64 (mkO l (cntN l cl) lpo top b wb).var], .int .i64 0]) ∧
      Below w.heap.size w w' ∧ OdrM w' w'.heap.size (mkO l (cntN l cl) lpo top b wb) P Q := by
  refine (make_any l cl b wb lpo top As Aq cs cq w hS hn ht hC hz).mono ?_
  rintro e w' ⟨hbl, hp⟩
  have hb : checkI l = 0 ∧ okI l (itms cl) = true := by unfold cntNo at hno; simpa using hno
  have h96 := (chk_one hb.1).1
  have hr64 : ∀ x ∈ rkL l (cntN l cl) b l.length, I64 x := by
    intro x hx
    obtain ⟨i, hi, rfl⟩ := List.getElem_of_mem hx
    rw [rkL_len] at hi
    have := rkL_getD (l := l) (n := cntN l cl) (b := b) hi
    rw [getD_el (by rw [rkL_len]; exact hi)] at this
    rw [this]
    have := rnkR_less l (cntN l cl) b hi
    exact ⟨by omega, by omega⟩
  rw [hno, hnm] at hp
  simp only [Bool.false_eq_true, Bool.true_eq_false, or_self, if_false] at hp
  cases lpo with
  | true =>
    rw [if_pos rfl] at hp
    obtain ⟨g, rfl, hg, h1⟩ := hp
    have he : mkO l (cntN l cl) true top b wb = ⟨true, rkL l (cntN l cl) b l.length, [], 0⟩ := if_pos rfl
    rw [he]
    refine ⟨some ⟨g, 0, none⟩, none, by simp [rkL_len], hbl, ⟨(ints_of h1 (by rw [rkL_len]; omega) hr64).more (Array.getElem?_eq_some_iff.1 h1).1, ⟨by simp, by simp, fun h => by simp at h⟩, ⟨(by show (-9223372036854775808 : Int) ≤ 0; decide), (by show (0 : Int) ≤ 9223372036854775807; decide)⟩⟩⟩
  | false =>
    rw [if_neg (by decide)] at hp
    obtain ⟨g, g2, rfl, hg, hg2, h1, h2⟩ := hp
    have he : mkO l (cntN l cl) false top b wb = ⟨false, rkL l (cntN l cl) b l.length, wtL l (cntN l cl) wb top (rkL l (cntN l cl) b l.length), 1⟩ := if_neg (by decide)
    rw [he]
    have hw64 : ∀ x ∈ wtL l (cntN l cl) wb top (rkL l (cntN l cl) b l.length), I64 x := by
      intro x hx
      obtain ⟨i, hi, rfl⟩ := List.getElem_of_mem hx
      rw [wtL_len] at hi
      have h9 := wtL_get (l := l) (n := cntN l cl) (w := wb) (top := top) hi
      rw [List.getElem?_eq_getElem (by rw [wtL_len]; exact hi)] at h9
      rw [Option.some.inj h9]
      rw [rkL_len] at hi
      have hw := wgX_pos (wb := wb) (rk := rkL l (cntN l cl) b l.length) (chk_ar hb.1 i).1 (cntN_le hz hb.2 i).1 (by rw [rkL_getD hi]; omega)
      unfold wtR
      split
      · exact ⟨by decide, by decide⟩
      · split <;> exact ⟨by omega, by omega⟩
    refine ⟨some ⟨g, 0, none⟩, some ⟨g2, 0, none⟩, by simp [rkL_len, wtL_len], hbl, ⟨(ints_of h1 (by rw [rkL_len]; omega) hr64).more (Array.getElem?_eq_some_iff.1 h1).1, (ints_of h2 (by rw [wtL_len, rkL_len]; omega) hw64).more (Array.getElem?_eq_some_iff.1 h2).1, ⟨(by show (-9223372036854775808 : Int) ≤ 1; decide), (by show (1 : Int) ≤ 9223372036854775807; decide)⟩⟩⟩

theorem mk_no (l : List Sm) (cl : List (List Lp)) (b wb : Int) (lpo top : Bool) (As Aq : Option Addr) (cs cq : Nat) (w : World) (hno : cntNo l cl = true ∨ nameB b wb = false) (hS : Syms w w.heap.size As l.length l) (hn : l.length * 32 ≤ 140737488351232) (ht : tru w) (hC : ClRow w (· < w.heap.size) Aq cl) (hz : (itms cl).length ≤ 281474976710656) :
    Calls Tryd.prog 8 #[.agg #[.slice As l.length cs], .slice Aq cl.length cq, .agg #[.bool lpo, .int .i64 b, .int .i64 wb, .bool top]] w fun e w' => e = .returned (.tuple #[.agg #[.bool false, .slice none 0 0, .slice none 0 0, .int .i64 0], .int .i64 2]) ∧ Below w.heap.size w w' := by
  refine (make_any l cl b wb lpo top As Aq cs cq w hS hn ht hC hz).mono ?_
  rintro e w' ⟨hbl, hp⟩
  rw [if_pos hno] at hp
  exact ⟨hp, hbl⟩

set_option maxHeartbeats 2000000 in
/-- Two orders of the same numbers are the same. -/
theorem sameO_self (o : Odr) (P Q P2 Q2 : Option Addr) (pc qc pc2 qc2 : Nat) (w : World) (hM : OdrM w w.heap.size o P Q) (hM2 : OdrM w w.heap.size o P2 Q2) :
    Calls Tryd.prog 9 #[.agg #[.bool o.lpo, .slice P o.prec.length pc, .slice Q o.wts.length qc, .int .i64 o.var], .agg #[.bool o.lpo, .slice P2 o.prec.length pc2, .slice Q2 o.wts.length qc2, .int .i64 o.var]] w fun e w' => e = .returned (.bool true) ∧ Below w.heap.size w w' := by
  obtain ⟨W, hW⟩ : ∃ W, (w.alloc (.cells #[.bool o.lpo, .slice P o.prec.length pc, .slice Q o.wts.length qc, .int .i64 o.var] 24)).alloc (.cells #[.bool o.lpo, .slice P2 o.prec.length pc2, .slice Q2 o.wts.length qc2, .int .i64 o.var] 24) = W := ⟨_, rfl⟩
  obtain ⟨q0, q1⟩ := heap2p w (.cells #[.bool o.lpo, .slice P o.prec.length pc, .slice Q o.wts.length qc, .int .i64 o.var] 24) (.cells #[.bool o.lpo, .slice P2 o.prec.length pc2, .slice Q2 o.wts.length qc2, .int .i64 o.var] 24)
  have hB : Below w.heap.size w W := by rw [← hW]; exact ((Below.refl _ _).alloc (Nat.le_refl _) _).alloc (by simp) _
  rw [hW] at q0 q1
  have HW := Lib.hid hW
  have HB := Lib.hid hB
  have HM := Lib.hid (hM.on hB)
  have HM2 := Lib.hid (hM2.on hB)
  obtain ⟨⟨a0, a1, a2, a3⟩, _⟩ := four_cells q0
  obtain ⟨⟨b0, b1, b2, b3⟩, _⟩ := four_cells q1
  have HR := Lib.hid (by have := lawRow_any o.prec o.prec P P2 pc pc2 W HM.out.p HM2.out.p; rwa [show rowE o.prec o.prec = true from decide_eq_true rfl] at this : Calls Tryd.prog 11 #[.slice P o.prec.length pc, .slice P2 o.prec.length pc2] W fun e w' => e = .returned (.bool true) ∧ On W w')
  have Hq := Lib.hid (And.intro q0 q1)
  have hz : w.heap.size + 1 < W.heap.size := (Array.getElem?_eq_some_iff.1 q1).1
  clear hW hB hM hM2 q0 q1
  go_enter Tryd.func9, Tryd.ntmps9
  go_upto_region 1 with fail
  rw [HW.out]
  go_wp2_with (first
    | (go_at_call 11; (with_reducible refine HR.out.mono ?_); go_must (rintro e w1 ⟨rfl, hb1⟩; clear a0 a1 a2 a3 b0 b1 b2 b3; obtain ⟨⟨a0, a1, a2, a3⟩, _⟩ := four_cells ((hb1.b.block _ (by omega)).trans Hq.out.1); obtain ⟨⟨b0, b1, b2, b3⟩, _⟩ := four_cells ((hb1.b.block _ hz).trans Hq.out.2); have HB1 := Lib.hid hb1.b; have HR2 := Lib.hid (by have := lawRow_any o.wts o.wts Q Q2 qc qc2 w1 (HM.out.q.on hb1.b) (HM2.out.q.on hb1.b); rwa [show rowE o.wts o.wts = true from decide_eq_true rfl] at this : Calls Tryd.prog 11 #[.slice Q o.wts.length qc, .slice Q2 o.wts.length qc2] w1 fun e w' => e = .returned (.bool true) ∧ On w1 w'); clear hb1))
    | (go_at_call 11; (with_reducible refine HR2.out.mono ?_); go_must (rintro e w2 ⟨rfl, hb2⟩; have HB2 := Lib.hid (bl_step HB1.out hb2.b); clear hb2))
    | fail)
  go_ret
  exact ⟨ret_bool rfl, HB.out.trans (HB2.out.mono HB.out.size)⟩

end Go.Proofs.YtfnncphkidhbpaaDoor

/- prec's law: PrecMay. -/

namespace Go.Proofs.YtfnncphkidhbpaaDoor

open Go Go.RowKit Go.Shelf
set_option maxRecDepth 100000

/-- The slices of the clauses, as values. -/
structure ClVals (W : World) (N : Nat → Prop) (cs : List (List Lp)) (D : List Value) : Prop where
  len : D.length = cs.length
  at' : ∀ (i : Nat) (l : List Lp), cs[i]? = some l → ∃ A1 c1, D[i]? = some (.slice A1 l.length c1) ∧ LpRow W N A1 l

theorem clrow_vals {W : World} {N : Nat → Prop} {A : Option Addr} {cs : List (List Lp)} (h : ClRow W N A cs) : ∃ D : List Value, ClVals W N cs D ∧ (0 < cs.length → ∃ b off, A = some ⟨b, off, none⟩ ∧ N b ∧ ∀ (i : Nat) (u : Value), D[i]? = some u → W.cell? ⟨b, off + i, none⟩ = some u) := by
  rcases Nat.eq_zero_or_pos cs.length with h0 | h0
  · have : cs = [] := List.eq_nil_of_length_eq_zero h0
    subst this
    exact ⟨[], ⟨rfl, fun i l e => by simp at e⟩, fun h => by simp at h⟩
  · obtain ⟨b, off, hA, hb, hc⟩ := h.ad h0
    have each : ∀ i, i < cs.length → ∃ q : Option Addr × Nat, ∀ l, cs[i]? = some l → W.cell? ⟨b, off + i, none⟩ = some (.slice q.1 l.length q.2) ∧ LpRow W N q.1 l := fun i hi => by
      obtain ⟨A1, c1, h1, h2⟩ := hc i cs[i] (List.getElem?_eq_getElem hi)
      refine ⟨(A1, c1), fun l e => ?_⟩
      rw [List.getElem?_eq_getElem hi] at e
      obtain rfl := Option.some.inj e
      exact ⟨h1, h2⟩
    haveI : Inhabited (Option Addr × Nat) := ⟨(none, 0)⟩
    obtain ⟨q, hq⟩ := Go.Deep.choose_lt each
    refine ⟨(List.range cs.length).map fun i => .slice (q i).1 (cs.getD i []).length (q i).2, ⟨by simp, fun i l e => ?_⟩, fun _ => ⟨b, off, hA, hb, fun i u e => ?_⟩⟩
    · have hi := (List.getElem?_eq_some_iff.1 e).1
      refine ⟨(q i).1, (q i).2, ?_, (hq i hi l e).2⟩
      rw [List.getElem?_map, List.getElem?_range hi]
      simp only [Option.map_some, List.getD_eq_getElem?_getD, e, Option.getD_some]
    · have hi : i < cs.length := by have := (List.getElem?_eq_some_iff.1 e).1; simpa using this
      rw [List.getElem?_map, List.getElem?_range hi] at e
      simp only [Option.map_some] at e
      obtain rfl := Option.some.inj e
      have hx : cs[i]? = some cs[i] := List.getElem?_eq_getElem hi
      rw [List.getD_eq_getElem?_getD, hx]
      exact (hq i hi _ hx).1

/-- A row of one's own that holds them the other way round. -/
theorem vals_back {W W' : World} {N M : Nat → Prop} {base : Nat} {v : Value} {cs : List (List Lp)} {D : List Value} (h : ClVals W N cs D) (hrow : W'.ownsRow base 39 1 v cs.length D.reverse) (hl : cs.length ≤ 9223372036854775807) (hk : ∀ g, N g → W'.heap[g]? = W.heap[g]?) (hm : ∀ g, N g → M g) (hv : ∀ g, v.ownBlock = some g → M g) :
    ∃ A c, v = .slice A cs.length c ∧ ClRow W' M A cs.reverse := by
  rcases hrow.2 with ⟨rfl, h0⟩ | ⟨g, cap, cur, rfl, hb, hg, _⟩
  · exact ⟨none, 0, by rw [h0], ⟨by simpa using hl, fun hp => by simp at hp; omega⟩⟩
  · refine ⟨some ⟨g, 0, none⟩, cap, rfl, ⟨by simpa using hl, fun _ => ⟨g, 0, rfl, hv g rfl, fun i l e => ?_⟩⟩⟩
    have hi : i < cs.length := by have := (List.getElem?_eq_some_iff.1 e).1; simpa using this
    rw [List.getElem?_reverse hi] at e
    obtain ⟨A1, c1, h1, h2⟩ := h.at' _ l e
    refine ⟨A1, c1, ?_, h2.to hk hm⟩
    rw [Nat.zero_add, hrow.cellAt i (by simp; exact hi), List.getElem?_reverse (by rw [h.len]; exact hi), h.len]
    simp [h1]

theorem infoCl : (Tryd.prog.info? 39).map (fun i => (i.zero, i.size, i.bytes)) = some (some (.slice none 0 0), 1, 24) := by kernel_rfl

/-- An order in its box. -/
structure OBox (V : World) (b : Nat) (o : Odr) (P Q : Option Addr) : Prop where
  box : V.heap[b]? = some (.cells #[.bool o.lpo, .slice P o.prec.length o.prec.length, .slice Q o.wts.length o.wts.length, .int .i64 o.var] 24)
  m : OdrM V V.heap.size o P Q

theorem OBox.on {V V' : World} {b : Nat} {o : Odr} {P Q : Option Addr} (h : OBox V b o P Q) (hb : Below V.heap.size V V') : OBox V' b o P Q := ⟨blk_st hb h.box, h.m.on hb⟩

theorem obox_new {w V : World} {o : Odr} {P Q : Option Addr} (hM : OdrM w w.heap.size o P Q) (hV : w.alloc (.cells #[.bool o.lpo, .slice P o.prec.length o.prec.length, .slice Q o.wts.length o.wts.length, .int .i64 o.var] 24) = V) : Below w.heap.size w V ∧ OBox V w.heap.size o P Q := by
  have hb : Below w.heap.size w V := by rw [← hV]; exact (Below.refl _ _).alloc (Nat.le_refl _) _
  exact ⟨hb, by rw [← hV]; exact heap_alloc_new _ _, hM.on hb⟩

set_option maxHeartbeats 8000000 in
theorem precMay_of (l : List Sm) (cl : List (List Lp)) (b wb other : Int) (wl top lpo : Bool) (As Aq : Option Addr) (cs cq : Nat) (w : World) (hS : Syms w w.heap.size As l.length l) (hn : l.length * 32 ≤ 140737488351232) (ht : tru w) (hC : ClRow w (· < w.heap.size) Aq cl) (hz : cl.length ≤ 60 → (itms cl).length ≤ 281474976710656) :
    Calls Tryd.prog 4 #[.agg #[.slice As l.length cs], .slice Aq cl.length cq, .agg #[.bool wl, .int .i64 b, .int .i64 wb, .bool top], .int .i64 other, .bool lpo] w fun e w' => e = .returned (.bool true) ∧ Below w.heap.size w w' := by
  obtain ⟨W, hW⟩ : ∃ W, (w.alloc (.cells #[.slice As l.length cs] 29)).alloc (.cells #[.bool wl, .int .i64 b, .int .i64 wb, .bool top] 34) = W := ⟨_, rfl⟩
  obtain ⟨q0, q1⟩ := heap2p w (.cells #[.slice As l.length cs] 29) (.cells #[.bool wl, .int .i64 b, .int .i64 wb, .bool top] 34)
  have hB : Below w.heap.size w W := by rw [← hW]; exact ((Below.refl _ _).alloc (Nat.le_refl _) _).alloc (by simp) _
  rw [hW] at q0 q1
  have hWz := (Array.getElem?_eq_some_iff.1 q1).1
  have hcl := hC.len
  have HW := Lib.hid hW
  have HB := Lib.hid hB
  have HS := Lib.hid (hS.on hB)
  have HT := Lib.hid (tru_below ht hB)
  have HC := Lib.hid (hC.on hB)
  have HQ : Hid (∀ w', Below W.heap.size W w' → w'.cell? ⟨w.heap.size, 0, none⟩ = some (.slice As l.length cs) ∧ w'.cell? ⟨w.heap.size + 1, 0, none⟩ = some (.bool wl) ∧ w'.cell? ⟨w.heap.size + 1, 1, none⟩ = some (.int .i64 b) ∧ w'.cell? ⟨w.heap.size + 1, 2, none⟩ = some (.int .i64 wb) ∧ w'.cell? ⟨w.heap.size + 1, 3, none⟩ = some (.bool top)) := Lib.hid fun w' h => by
    obtain ⟨⟨b0, b1, b2, b3⟩, _⟩ := four_cells ((h.block _ hWz).trans q1)
    exact ⟨(cells_one ((h.block _ (by omega)).trans q0)).1, b0, b1, b2, b3⟩
  clear hW hB hS ht hC q0 q1 hWz
  by_cases h60 : 60 < cl.length
  · have HK := Lib.hid (pWakes_any W HT.out)
    go_enter Tryd.func4, Tryd.ntmps4
    go_upto_region 1 with fail
    rw [HW.out]
    go_wp2_with (first
      | ((with_reducible refine HK.out.mono ?_); go_must (rintro e w1 ⟨rfl, hb1⟩))
      | fail)
    go_ret
    exact ⟨ret_bool rfl, HB.out.trans (hb1.mono HB.out.size)⟩
  · have hz := hz (by omega)
    by_cases hbad : cntNo l cl = true ∨ nameB b wb = false
    · have HMk := Lib.hid (mk_no l cl b wb wl top As Aq cs cq W hbad HS.out hn HT.out HC.out hz)
      obtain ⟨c0, c1, c2, c3, c4⟩ := HQ.out W (Below.refl _ _)
      clear hbad
      go_enter Tryd.func4, Tryd.ntmps4
      go_upto_region 1 with fail
      rw [HW.out]
      go_upto_region 4 with (first
        | ((with_reducible refine HMk.out.mono ?_); go_must (rintro e w1 ⟨rfl, hb1⟩; have HB1 := Lib.hid hb1; clear hb1))
        | fail)
      clear c0 c1 c2 c3 c4
      obtain ⟨W2, hW2⟩ : ∃ W2, w1.alloc (.cells #[.bool false, .slice none 0 0, .slice none 0 0, .int .i64 0] 24) = W2 := ⟨_, rfl⟩
      have hb2 : Below w1.heap.size w1 W2 := by rw [← hW2]; exact (Below.refl _ _).alloc (Nat.le_refl _) _
      obtain ⟨⟨_, d1, _, _⟩, _⟩ := four_cells (show W2.heap[w1.heap.size]? = _ from by rw [← hW2]; exact heap_alloc_new _ _)
      have HB2 := Lib.hid (bl_step HB1.out hb2)
      have HK := Lib.hid (pWakes_any W2 (tru_below HT.out HB2.out))
      have HW2 := Lib.hid hW2
      clear hW2 hb2
      rw [HW2.out]
      go_wp2_with (first
        | ((with_reducible refine HK.out.mono ?_); go_must (rintro e w3 ⟨rfl, hb3⟩; have HB3 := Lib.hid (bl_step HB2.out hb3); clear hb3))
        | fail)
      go_ret
      exact ⟨ret_bool rfl, HB.out.trans (HB3.out.mono HB.out.size)⟩
    · have hno : cntNo l cl = false := by cases h : cntNo l cl with | true => exact absurd (.inl h) hbad | false => rfl
      have hnm : nameB b wb = true := by cases h : nameB b wb with | false => exact absurd (.inr h) hbad | true => rfl
      clear hbad
      have hb0 : checkI l = 0 ∧ okI l (itms cl) = true := by unfold cntNo at hno; simpa using hno
      have hcn : ∀ f, 0 ≤ cnP (cntN l cl) f := fun f => (cntN_le hz hb0.2 f).1
      have hmay1 := mkO_may (lpo := wl) (top := top) (b := b) (wb := wb) hb0.1 hcn
      have hmay3 := mkO_may (lpo := lpo) (top := !top) (b := b) (wb := other) hb0.1 hcn
      have hpr1 := mkO_prec l (cntN l cl) wl top b wb
      have hpr3 := mkO_prec l (cntN l cl) lpo (!top) b other
      have HMk1 := Lib.hid (mk_yes l cl b wb wl top As Aq cs cq W hno hnm HS.out hn HT.out HC.out hz)
      have HMk2 : Hid (∀ (w' : World) (A' : Option Addr) (c' : Nat), Below W.heap.size W w' → ClRow w' (· < w'.heap.size) A' cl.reverse → _) := Lib.hid fun w' A' c' h1 h2 => mk_yes l cl.reverse b wb wl top As A' cs c' w' (by rw [cntNo_rev]; exact hno) hnm (HS.out.on h1) hn (tru_below HT.out h1) h2 (by have := (itms_rev cl).length_eq; omega)
      have HMk3 : Hid (∀ (w' : World), Below W.heap.size W w' → nameB b other = true → _) := Lib.hid fun w' h1 h2 => mk_yes l cl b other lpo (!top) As Aq cs cq w' hno h2 (HS.out.on h1) hn (tru_below HT.out h1) (HC.out.on h1) hz
      have HMk4 : Hid (∀ (w' : World), Below W.heap.size W w' → nameB b other = false → _) := Lib.hid fun w' h1 h2 => mk_no l cl b other lpo (!top) As Aq cs cq w' (.inr h2) (HS.out.on h1) hn (tru_below HT.out h1) (HC.out.on h1) hz
      simp only [cntN_rev, List.length_reverse] at HMk2
      obtain ⟨o1, ho1⟩ : ∃ o1, mkO l (cntN l cl) wl top b wb = o1 := ⟨_, rfl⟩
      obtain ⟨o3, ho3⟩ : ∃ o3, mkO l (cntN l cl) lpo (!top) b other = o3 := ⟨_, rfl⟩
      rw [ho1] at HMk1 HMk2 hmay1 hpr1
      rw [ho3] at HMk3 hmay3 hpr3
      have HMay1 := Lib.hid hmay1
      have HMay3 := Lib.hid hmay3
      have HPr := Lib.hid (show rowE o1.prec o3.prec = true from decide_eq_true (hpr1.trans hpr3.symm))
      have hb04 := of_decide_eq_true (show decide (0 ≤ b ∧ b ≤ 4 ∧ 0 ≤ wb ∧ wb ≤ 3) = true from hnm)
      have Hb04 := Lib.hid hb04
      clear hmay1 hmay3 hpr1 hpr3 ho1 ho3 hnm hno hb0 hcn hb04
      obtain ⟨i0, hi, hz0, hz1, hz2⟩ := info_parts infoCl
      obtain ⟨D, hD, hDc⟩ := clrow_vals HC.out
      have HD := Lib.hid hD
      have HDc := Lib.hid hDc
      clear hD hDc
      obtain ⟨c0, c1, c2, c3, c4⟩ := HQ.out W (Below.refl _ _)
      go_enter Tryd.func4, Tryd.ntmps4
      go_upto_region 1 with fail
      rw [HW.out]
      go_upto_region 4 with (first
        | ((with_reducible refine HMk1.out.mono ?_); go_must (rintro e w1 ⟨P1, Q1, rfl, hb1, hM1⟩; have HB1 := Lib.hid hb1; have HM1 := Lib.hid hM1; clear hb1 hM1))
        | fail)
      clear c0 c1 c2 c3 c4
      obtain ⟨W2, hW2⟩ : ∃ W2, w1.alloc (.cells #[.bool o1.lpo, .slice P1 o1.prec.length o1.prec.length, .slice Q1 o1.wts.length o1.wts.length, .int .i64 o1.var] 24) = W2 := ⟨_, rfl⟩
      obtain ⟨hb2, hO1⟩ := obox_new HM1.out hW2
      have HO1 := Lib.hid hO1
      have HB2 := Lib.hid (bl_step HB1.out hb2)
      have HW2 := Lib.hid hW2
      clear hW2 hb2 hO1
      rw [HW2.out]
      go_wp2
      go_loopw [13, 14] (fun bk i wr => ∃ (j k : Nat) (x : Int) (v : Value), i = .int .i64 x ∧ bk = v ∧ Hid (j + k = cl.length ∧ x = (j : Int) - 1) ∧ Hid (wr.ownsRow W2.heap.size 39 1 v k (D.reverse.take k)) ∧ Below W2.heap.size W2 wr) (fun _ i _ => (intOf i + 1).toNat)
      case atStart => exact ⟨cl.length, 0, (cl.length : Int) - 1, .slice none 0 0, rfl, rfl, Lib.hid ⟨by omega, rfl⟩, Lib.hid (World.ownsRow_nil _ _ _ _), Below.refl _ _⟩
      case round =>
        obtain ⟨j, k, x, v, rfl, rfl, HJ, HR, hbr⟩ := hrel
        obtain ⟨Av, cv, hv⟩ := row_slice HR.out
        subst hv
        by_cases hx : 0 ≤ x
        · obtain ⟨m, hm⟩ : ∃ m : Nat, x = (m : Int) := ⟨x.toNat, by omega⟩
          subst hm
          have hml : m < cl.length := by have := HJ.out; omega
          have hk60 : k ≤ 60 := by have := HJ.out; omega
          have hkm : k = cl.length - 1 - m := by have := HJ.out; omega
          obtain ⟨lm, hlm⟩ : ∃ lm, cl[m]? = some lm := ⟨_, List.getElem?_eq_getElem hml⟩
          obtain ⟨A1, c1, hd, _⟩ := HD.out.at' m lm hlm
          obtain ⟨bq, oq, rfl, hbq, hcq⟩ := HDc.out (by omega)
          have hcell : wr.cell? ⟨bq, oq + m, none⟩ = some (.slice A1 lm.length c1) := (cell_of_heap ((hbr.block bq (Nat.lt_of_lt_of_le hbq HB2.out.size)).trans (HB2.out.block bq hbq))).trans (hcq m _ hd)
          have Htk := Lib.hid (show D.reverse.take (k + 1) = D.reverse.take k ++ [.slice A1 lm.length c1] by
            rw [List.take_add_one, List.getElem?_reverse (by rw [HD.out.len]; omega), HD.out.len, show cl.length - 1 - k = m by omega, hd]; rfl)
          have hW2r := hbr.size
          have HKm := Lib.hid hkm
          have hm60 : m ≤ 60 := by omega
          clear hlm hd hcq hkm
          go_wp2_with (first
            | (at_builtin
               go_must (
               refine wpList_append_own _ rfl _ _ 30 rfl W2.heap.size 39 i0 (.slice none 0 0) 1 24 Tryd.underlying30 hi hz0 hz1 hz2 rfl (by decide) _ k _ rfl (HR.out.alloc _) ⟨wr.heap.size, 0, none⟩ 1 1 [.slice A1 lm.length c1] rfl rfl (cell_one_new _ _ _) (by simp [Value.oneCell']) (by unfold maxLen; omega) (by omega) (by simp; omega) ?_
               intro v1 w3 hown3 hgr3 _
               obtain ⟨g3, cap3, rfl⟩ := ownsRow_succ hown3))
            | fail)
          go_roundw
          case rel =>
            refine ⟨m, k + 1, (m : Int) - 1, _, rfl, rfl, Lib.hid ⟨by have := HKm.out; omega, rfl⟩, Lib.hid ?_, ?_⟩
            · rw [Htk.out]; exact hown3
            · exact (hbr.alloc hW2r _).grown hgr3 (by simp; omega) fun g hg => (row_lt HR.out g hg).1
          case measure => simp [intOf]
        · have hkl : k = cl.length := by have := HJ.out; omega
          subst hkl
          have hrow := HR.out
          rw [List.take_of_length_le (by rw [List.length_reverse, HD.out.len]; exact Nat.le_refl _)] at hrow
          have hWr : Below W.heap.size W wr := HB2.out.trans (hbr.mono HB2.out.size)
          obtain ⟨A9, c9, hv9, hC9⟩ := vals_back (M := (· < wr.heap.size)) HD.out hrow hcl (fun g e => hWr.block g e) (fun g e => Nat.lt_of_lt_of_le e hWr.size) (fun g e => (row_lt hrow g e).2)
          injection hv9 with e9 _ e9'
          subst e9
          subst e9'
          have HMk := Lib.hid (HMk2.out wr Av cv hWr hC9)
          have HO1r := Lib.hid (HO1.out.on hbr)
          have HBr := Lib.hid hWr
          obtain ⟨c0, c1, c2, c3, c4⟩ := HQ.out wr hWr
          clear hrow hC9 hWr HJ HR hbr
          go_upto_region 12 with (first
            | ((with_reducible refine HMk.out.mono ?_); go_must (rintro e w4 ⟨P2, Q2, rfl, hb4, hM4⟩; have HB4 := Lib.hid (bl_step HBr.out hb4); have HM4 := Lib.hid hM4; have HO14 := Lib.hid (HO1r.out.on hb4); clear hb4 hM4))
            | fail)
          clear c0 c1 c2 c3 c4
          obtain ⟨W5, hW5⟩ : ∃ W5, w4.alloc (.cells #[.bool o1.lpo, .slice P2 o1.prec.length o1.prec.length, .slice Q2 o1.wts.length o1.wts.length, .int .i64 o1.var] 24) = W5 := ⟨_, rfl⟩
          obtain ⟨hb5, hO2⟩ := obox_new HM4.out hW5
          have HO2 := Lib.hid hO2
          have HO15 := Lib.hid (HO14.out.on hb5)
          have HB5 := Lib.hid (bl_step HB4.out hb5)
          have HW5 := Lib.hid hW5
          clear hW5 hb5 hO2
          rw [HW5.out]
          have HSm := Lib.hid (sameO_self o1 P1 Q1 P2 Q2 o1.prec.length o1.wts.length o1.prec.length o1.wts.length W5 HO15.out.m HO2.out.m)
          obtain ⟨⟨f0, f1, f2, f3⟩, _⟩ := four_cells HO15.out.box
          obtain ⟨⟨g0, g1, g2, g3⟩, _⟩ := four_cells HO2.out.box
          go_upto_region 14 with (first
            | ((with_reducible refine HSm.out.mono ?_); go_must (rintro e w6 ⟨rfl, hb6⟩; have HB6 := Lib.hid (bl_step HB5.out hb6); have HO16 := Lib.hid (HO15.out.on hb6); clear f0 f1 f2 f3 g0 g1 g2 g3 hb6; obtain ⟨⟨f0, f1, f2, f3⟩, _⟩ := four_cells HO16.out.box; obtain ⟨c0, c1, c2, c3, c4⟩ := HQ.out w6 HB6.out; have HCk := Lib.hid (by have := check_any l o1 As P1 Q1 cs o1.prec.length o1.wts.length w6 (HS.out.on HB6.out) hn (tru_below HT.out HB6.out) HO16.out.m; rwa [HMay1.out] at this : Calls Tryd.prog 10 #[.agg #[.slice As l.length cs], .agg #[.bool o1.lpo, .slice P1 o1.prec.length o1.prec.length, .slice Q1 o1.wts.length o1.wts.length, .int .i64 o1.var]] w6 fun e w' => e = .returned (.int .i64 0) ∧ Below w6.heap.size w6 w')))
            | ((with_reducible refine HCk.out.mono ?_); go_must (rintro e w7 ⟨rfl, hb7⟩; have HB7 := Lib.hid (bl_step HB6.out hb7); have HO17 := Lib.hid (HO16.out.on hb7); clear f0 f1 f2 f3 c0 c1 c2 c3 c4 hb7))
            | fail)
          obtain ⟨c0, c1, c2, c3, c4⟩ := HQ.out w7 HB7.out
          by_cases hoth : 0 ≤ other ∧ other ≤ 3
          · have hnm3 : nameB b other = true := nameB_yes ⟨Hb04.out.1, Hb04.out.2.1, hoth.1, hoth.2⟩
            have HMkA := Lib.hid (HMk3.out w7 HB7.out hnm3)
            have hoth0 := hoth.1
            have hoth3 := hoth.2
            clear hoth hnm3
            go_upto_region 15 with (first
              | ((with_reducible refine HMkA.out.mono ?_); go_must (rintro e w8 ⟨P3, Q3, rfl, hb8, hM8⟩; have HB8 := Lib.hid (bl_step HB7.out hb8); have HM8 := Lib.hid hM8; have HO18 := Lib.hid (HO17.out.on hb8); clear hb8 hM8))
              | fail)
            clear c0 c1 c2 c3 c4
            obtain ⟨W9, hW9⟩ : ∃ W9, w8.alloc (.cells #[.bool o3.lpo, .slice P3 o3.prec.length o3.prec.length, .slice Q3 o3.wts.length o3.wts.length, .int .i64 o3.var] 24) = W9 := ⟨_, rfl⟩
            obtain ⟨hb9, hO3⟩ := obox_new HM8.out hW9
            have HO3 := Lib.hid hO3
            have HO19 := Lib.hid (HO18.out.on hb9)
            have HB9 := Lib.hid (bl_step HB8.out hb9)
            have HW9 := Lib.hid hW9
            clear hW9 hb9 hO3
            rw [HW9.out]
            obtain ⟨⟨f0, f1, f2, f3⟩, _⟩ := four_cells HO19.out.box
            obtain ⟨⟨g0, g1, g2, g3⟩, _⟩ := four_cells HO3.out.box
            have HRw := Lib.hid (by have := lawRow_any o1.prec o3.prec P1 P3 o1.prec.length o3.prec.length W9 HO19.out.m.p HO3.out.m.p; rwa [HPr.out] at this : Calls Tryd.prog 11 #[.slice P1 o1.prec.length o1.prec.length, .slice P3 o3.prec.length o3.prec.length] W9 fun e w' => e = .returned (.bool true) ∧ On W9 w')
            go_wp2_with (first
              | ((with_reducible refine HRw.out.mono ?_); go_must (rintro e wA ⟨rfl, hbA⟩; have HBA := Lib.hid (bl_step HB9.out hbA.b); have HO3A := Lib.hid (HO3.out.on hbA.b); clear f0 f1 f2 f3 g0 g1 g2 g3 hbA; obtain ⟨⟨g0, g1, g2, g3⟩, _⟩ := four_cells HO3A.out.box; obtain ⟨c0, c1, c2, c3, c4⟩ := HQ.out wA HBA.out; have HCkA := Lib.hid (by have := check_any l o3 As P3 Q3 cs o3.prec.length o3.wts.length wA (HS.out.on HBA.out) hn (tru_below HT.out HBA.out) HO3A.out.m; rwa [HMay3.out] at this : Calls Tryd.prog 10 #[.agg #[.slice As l.length cs], .agg #[.bool o3.lpo, .slice P3 o3.prec.length o3.prec.length, .slice Q3 o3.wts.length o3.wts.length, .int .i64 o3.var]] wA fun e w' => e = .returned (.int .i64 0) ∧ Below wA.heap.size wA w')))
              | ((with_reducible refine HCkA.out.mono ?_); go_must (rintro e wB ⟨rfl, hbB⟩; have HBB := Lib.hid (bl_step HBA.out hbB); have HKB := Lib.hid (pWakes_any wB (tru_below HT.out HBB.out)); clear hbB g0 g1 g2 g3 c0 c1 c2 c3 c4))
              | ((with_reducible refine HKB.out.mono ?_); go_must (rintro e wC ⟨rfl, hbC⟩; have HBC := Lib.hid (bl_step HBB.out hbC); clear hbC))
              | fail)
            go_ret
            exact ⟨ret_bool rfl, HB.out.trans (HBC.out.mono HB.out.size)⟩
          · have hnm3 : nameB b other = false := nameB_no (fun e => hoth ⟨e.2.2.1, e.2.2.2⟩)
            have HMkA := Lib.hid (HMk4.out w7 HB7.out hnm3)
            clear hnm3
            go_upto_region 15 with (first
              | ((with_reducible refine HMkA.out.mono ?_); go_must (rintro e w8 ⟨rfl, hb8⟩; have HB8 := Lib.hid (bl_step HB7.out hb8); clear hb8))
              | fail)
            clear c0 c1 c2 c3 c4
            obtain ⟨W9, hW9⟩ : ∃ W9, w8.alloc (.cells #[.bool false, .slice none 0 0, .slice none 0 0, .int .i64 0] 24) = W9 := ⟨_, rfl⟩
            have hb9 : Below w8.heap.size w8 W9 := by rw [← hW9]; exact (Below.refl _ _).alloc (Nat.le_refl _) _
            have HB9 := Lib.hid (bl_step HB8.out hb9)
            have HK9 := Lib.hid (pWakes_any W9 (tru_below HT.out HB9.out))
            have HW9 := Lib.hid hW9
            clear hW9 hb9
            rw [HW9.out]
            by_cases ho0 : 0 ≤ other
            · have ho3 : 3 < other := by omega
              have ho0' : ¬ other < 0 := by omega
              clear hoth
              go_wp2_with (first
                | ((with_reducible refine HK9.out.mono ?_); go_must (rintro e wA ⟨rfl, hbA⟩; have HBA := Lib.hid (bl_step HB9.out hbA); clear hbA))
                | fail)
              go_ret
              exact ⟨ret_bool rfl, HB.out.trans (HBA.out.mono HB.out.size)⟩
            · have ho1 : other < 0 := by omega
              clear hoth ho0
              go_wp2_with (first
                | ((with_reducible refine HK9.out.mono ?_); go_must (rintro e wA ⟨rfl, hbA⟩; have HBA := Lib.hid (bl_step HB9.out hbA); clear hbA))
                | fail)
              go_ret
              exact ⟨ret_bool rfl, HB.out.trans (HBA.out.mono HB.out.size)⟩

end Go.Proofs.YtfnncphkidhbpaaDoor

/- What an argument reads as: signatures and lists of symbols, opened. -/

namespace Go.Proofs.YtfnncphkidhbpaaDoor

open Go.ChangeShapes Go.WideShapes Go.ChangeAt Go.RowKit

section

variable {H : Type} {enc : TypeId × Value → H} {W : World} {base : Nat} {sp : Nat → Bool} {held : Bool}

theorem cellsSym : Tryd.prog.cellsOf 62 = 3 := by kernel_rfl

theorem cellsStr : Tryd.prog.cellsOf 9 = 1 := by kernel_rfl

theorem cellsInt : Tryd.prog.cellsOf 3 = 1 := by kernel_rfl

theorem cellsBool : Tryd.prog.cellsOf 4 = 1 := by kernel_rfl

theorem cellsSlice : Tryd.prog.cellsOf 27 = 1 := by kernel_rfl

theorem cellsSig : Tryd.prog.cellsOf 29 = 1 := by kernel_rfl

theorem bytesSym : Tryd.prog.bytesOf 62 = 32 := by kernel_rfl

set_option maxRecDepth 20000 in
theorem trod_sym {n : Nat} {cs : List Value} {x : DataW H × List MemPlace} (h : DataW.trod enc Tryd.prog W base sp held n 62 cs = some x) :
    ∃ s : Sm, cs = [.string s.name, .int .i64 s.arity, .bool s.pred] ∧ s.Ok ∧ x.1 = .agg [.lit (.string s.name.data.toList), .lit (.int .i64 s.arity), .lit (.bool s.pred)] := by
  obtain ⟨xs, n', _, hx, hlen, hxs, hf⟩ := DataW.trod_struct Tryd.underlying62 h
  rw [cellsSym] at hlen
  match cs, hlen with
  | [c0, c1, c2], _ =>
    have hx3 : xs.length = 3 := by rw [hxs]; rfl
    match xs, hx3 with
    | [x0, x1, x2], _ =>
      have g0 := hf 0 _ rfl
      have g1 := hf 1 _ rfl
      have g2 := hf 2 _ rfl
      simp [cellsStr] at g0
      simp [cellsInt] at g1
      simp [cellsBool] at g2
      obtain ⟨a, ha, ea, hs⟩ := DataW.trod_string Tryd.underlying9 g0
      obtain ⟨b, hb, eb, hw⟩ := DataW.trod_int Tryd.underlying3 g1
      obtain ⟨c, hc, ec⟩ := DataW.trod_bool Tryd.underlying4 g2
      injection ha with ha; injection hb with hb; injection hc with hc
      subst ha; subst hb; subst hc
      have hw' : -9223372036854775808 ≤ b ∧ b ≤ 9223372036854775807 := by
        have := hw
        simp [Lit.wf, IntKind.min, IntKind.max, IntKind.signed, IntKind.bits] at this
        exact this
      exact ⟨⟨a, b, c⟩, rfl, ⟨hs, hw'.1, hw'.2⟩, by rw [hx]; simp [ea, eb, ec]⟩

theorem cell_spot {W : World} {a : Addr} {v : Value} (h : W.cell? a = some v) : a.spot = none := by
  unfold World.cell? at h
  split at h
  · split at h
    · cases h
    · rename_i hs; simpa using hs
  · cases h

theorem trod_syms {n : Nat} {v : Value} {x : DataW H × List MemPlace} (h : DataW.trod enc Tryd.prog W base (fun _ => true) held n 27 [v] = some x) :
    ∃ (A : Option Addr) (len c : Nat) (l : List Sm), v = .slice A len c ∧ Syms W W.heap.size A len l ∧ (len = 0 ∨ ∃ elems spare, x.1 = .slice elems spare ∧ elems.length = len) := by
  rcases Go.Deep.open_slice Tryd.underlying27 h with ⟨hv, _⟩ | ⟨a, len, cap, m, n', D, Pl, hv, hb, hl, hm, hmm, hx, hi⟩
  · injection hv with hv
    subst hv
    exact ⟨none, 0, 0, [], rfl, Syms.nil_ _ _ _, .inl rfl⟩
  · injection hv with hv
    subst hv
    have hcap : m = cap := by simpa using hmm
    subst hcap
    have each : ∀ i, i < len → ∃ s : Sm, s.Ok ∧ W.cell? (a.add (i * 3)) = some (.string s.name) ∧ W.cell? ((a.add (i * 3)).add 1) = some (.int .i64 s.arity) ∧ W.cell? ((a.add (i * 3)).add 2) = some (.bool s.pred) := by
      intro i hlt
      obtain ⟨cs', hc, ht⟩ := hi i (by omega)
      rw [cellsSym] at hc
      obtain ⟨_, _, hat⟩ := World.cells?_some hc
      obtain ⟨s, rfl, hok, _⟩ := trod_sym ht
      refine ⟨s, hok, ?_, hat 1 (by omega), hat 2 (by omega)⟩
      have := hat 0 (by omega)
      simpa [Addr.add] using this
    obtain ⟨q, hq⟩ := Go.Deep.choose_lt each
    refine ⟨some a, len, m, (List.range len).map q, rfl, ⟨by simp, fun s hs => ?_, fun hpos => ?_⟩, .inr ⟨(List.range len).map D, _, by rw [hx], by simp⟩⟩
    · obtain ⟨i, hir, rfl⟩ := List.mem_map.1 hs
      exact (hq i (List.mem_range.1 hir)).1
    · have c0 := (hq 0 hpos).2.1
      simp only [Nat.zero_mul, Addr.add, if_true] at c0
      obtain ⟨blk, off, spot⟩ := a
      obtain rfl : spot = none := cell_spot c0
      refine ⟨blk, off, rfl, ?_, fun i s hs => ?_⟩
      · unfold World.cell? at c0
        rcases Nat.lt_or_ge blk W.heap.size with h1 | h1
        · exact h1
        · simp [Array.getElem?_eq_none h1] at c0
      · have hilt : i < len := by
          have := (List.getElem?_eq_some_iff.1 hs).1
          simpa using this
        have he : q i = s := by
          rw [List.getElem?_map, List.getElem?_range hilt] at hs
          simpa using hs
        obtain ⟨_, h1, h2, h3⟩ := hq i hilt
        rw [he] at h1 h2 h3
        rw [Addr.add_lit] at h1 h2 h3
        rw [Addr.add_lit] at h2 h3
        exact ⟨h1, h2, h3⟩

set_option maxRecDepth 20000 in
/-- A signature that is an argument. -/
theorem open_sig {r : Reach} {b0 : Nat} {v : Value} {d : DataW H} {ps : List MemPlace} (hv : Value.okWide Tryd.prog W r b0 29 v) (h : DataW.Trod enc Tryd.prog W base (fun _ => true) held 29 v d ps) :
    ∃ (A : Option Addr) (len c : Nat) (l : List Sm), v = .agg #[.slice A len c] ∧ Syms W W.heap.size A len l ∧ (len = 0 ∨ ∃ elems spare, d = .agg [.slice elems spare] ∧ elems.length = len) := by
  obtain ⟨cs, rfl, hsz⟩ := okWide_struct Tryd.underlying29 hv
  rw [cellsSig] at hsz
  obtain ⟨fuel, hf⟩ := h
  obtain ⟨xs, n, _, hx, _, hxs, hg⟩ := DataW.trod_struct Tryd.underlying29 hf
  obtain ⟨cl⟩ := cs
  match cl, hsz with
  | [c0], _ =>
    have hx1 : xs.length = 1 := by rw [hxs]; rfl
    match xs, hx1 with
    | [x0], _ =>
      have g0 := hg 0 _ rfl
      simp [Value.cells, cellsSlice] at g0
      obtain ⟨A, len, c, l, rfl, hS, hd⟩ := trod_syms g0
      refine ⟨A, len, c, l, rfl, hS, ?_⟩
      rcases hd with h0 | ⟨elems, spare, he, hl⟩
      · exact .inl h0
      · right
        simp only [Prod.mk.injEq] at hx
        exact ⟨elems, spare, by rw [hx.1]; simp [he], hl⟩

/-- Symbols that are an argument. -/
theorem open_list {v : Value} {d : DataW H} {ps : List MemPlace} (hc : v.cells.toList = [v]) (h : DataW.Trod enc Tryd.prog W base (fun _ => true) held 27 v d ps) :
    ∃ (A : Option Addr) (len c : Nat) (l : List Sm), v = .slice A len c ∧ Syms W W.heap.size A len l ∧ (len = 0 ∨ ∃ elems spare, d = .slice elems spare ∧ elems.length = len) := by
  obtain ⟨fuel, hf⟩ := h
  rw [hc] at hf
  exact trod_syms hf

/-- How long such an argument may be. -/
theorem sig_size {ts : List TypeId} {ds : List (DataW H)} (h : (DataW.weightsEach Tryd.prog ts ds).all (· ≤ reachBytes) = true) {j : Nat} {d : DataW H} {len : Nat} (ht : ts[j]? = some 29) (hd : ds[j]? = some d)
    (hl : len = 0 ∨ ∃ elems spare, d = .agg [.slice elems spare] ∧ elems.length = len) : len * 32 ≤ 140737488351232 := by
  rcases hl with rfl | ⟨elems, spare, rfl, rfl⟩
  · omega
  · have hm := DataW.weights_mem_each (P := Tryd.prog) ht hd ((elems.length + spare.length) * Tryd.prog.bytesOf 62) (by
      simp [DataW.weights, Tryd.underlying29, DataW.weightsEach, Tryd.underlying27])
    have := List.all_eq_true.1 h _ hm
    rw [bytesSym] at this
    have h2 : (elems.length + spare.length) * 32 ≤ reachBytes := of_decide_eq_true this
    have h3 : reachBytes = 140737488351232 := by decide +kernel
    omega

theorem list_size {ts : List TypeId} {ds : List (DataW H)} (h : (DataW.weightsEach Tryd.prog ts ds).all (· ≤ reachBytes) = true) {j : Nat} {d : DataW H} {len : Nat} (ht : ts[j]? = some 27) (hd : ds[j]? = some d)
    (hl : len = 0 ∨ ∃ elems spare, d = .slice elems spare ∧ elems.length = len) : len * 32 ≤ 140737488351232 := by
  rcases hl with rfl | ⟨elems, spare, rfl, rfl⟩
  · omega
  · have hm := DataW.weights_mem_each (P := Tryd.prog) ht hd ((elems.length + spare.length) * Tryd.prog.bytesOf 62) (by
      simp [DataW.weights, Tryd.underlying27])
    have := List.all_eq_true.1 h _ hm
    rw [bytesSym] at this
    have h2 : (elems.length + spare.length) * 32 ≤ reachBytes := of_decide_eq_true this
    have h3 : reachBytes = 140737488351232 := by decide +kernel
    omega

end

end Go.Proofs.YtfnncphkidhbpaaDoor

/- Terms and numbers that are arguments, opened. -/

namespace Go.Proofs.YtfnncphkidhbpaaDoor

open Go.ChangeShapes Go.WideShapes Go.ChangeAt Go.RowKit
set_option maxRecDepth 20000

section

variable {H : Type} {enc : TypeId × Value → H} {W : World} {base : Nat} {held : Bool}

theorem cellsTerm : Tryd.prog.cellsOf 47 = 2 := by kernel_rfl

theorem cellsTerms : Tryd.prog.cellsOf 45 = 1 := by kernel_rfl

theorem bulk_all : ∀ (ts : List Tm) (ds : List (DataW H)), ts.length = ds.length → (∀ (i : Nat) (t : Tm) (d : DataW H), ts[i]? = some t → ds[i]? = some d → t.size ≤ Rows.uptoBulk d) → sizes ts ≤ Rows.uptoBulkAll ds
  | [], [], _, _ => by simp [sizes]
  | [], _ :: _, h, _ => by simp at h
  | _ :: _, [], h, _ => by simp at h
  | t :: ts, d :: ds, h, hh => by
    have h1 := hh 0 t d rfl rfl
    have h2 := bulk_all ts ds (by simpa using h) fun i t' d' e1 e2 => hh (i + 1) t' d' (by simpa using e1) (by simpa using e2)
    simp only [sizes, Rows.uptoBulkAll]
    omega

theorem trod_term : ∀ (n : Nat) (cs : List Value) (x : DataW H × List MemPlace), DataW.trod enc Tryd.prog W base (fun _ => true) held n 47 cs = some x →
    ∃ (t : Tm) (A : Option Addr) (c : Nat), cs = [.int .i64 t.fn, .slice A t.args.length c] ∧ I64 t.fn ∧ Args W W.heap.size A t.args ∧ t.size ≤ Rows.uptoBulk x.1 := by
  intro n
  induction n using Nat.strongRecOn with
  | ind n ih =>
    intro cs x h
    obtain ⟨xs, n', rfl, hx, hlen, hxs, hf⟩ := DataW.trod_struct Tryd.underlying47 h
    rw [cellsTerm] at hlen
    match cs, hlen with
    | [c0, c1], _ =>
      have hx2 : xs.length = 2 := by rw [hxs]; rfl
      match xs, hx2 with
      | [x0, x1], _ =>
        have g0 := hf 0 _ rfl
        have g1 := hf 1 _ rfl
        simp [cellsInt] at g0
        simp [cellsTerms] at g1
        obtain ⟨f, hfv, ef, hw⟩ := DataW.trod_int Tryd.underlying3 g0
        injection hfv with hfv
        subst hfv
        have hf64 : I64 f := by
          have := hw
          simp [Lit.wf, IntKind.min, IntKind.max, IntKind.signed, IntKind.bits] at this
          exact this
        rcases DataW.trod_slice Tryd.underlying45 g1 with ⟨hv, e1⟩ | ⟨a, len, cap, elems, rest, m, hm, hv, e1, _, hl, hmax, hlenE, hel, _, _⟩
        · injection hv with hv
          subst hv
          refine ⟨.node f [], none, 0, rfl, hf64, .nil none, ?_⟩
          subst hx
          simp [ef, e1, Tm.size, sizes, Rows.uptoBulk, Rows.uptoBulkAll]
        · injection hv with hv
          subst hv
          have each : ∀ i, i < len → ∃ q : Tm × Option Addr × Nat × DataW H, I64 q.1.fn ∧ W.cell? (a.add (i * 2)) = some (.int .i64 q.1.fn) ∧ W.cell? ((a.add (i * 2)).add 1) = some (.slice q.2.1 q.1.args.length q.2.2.1) ∧ Args W W.heap.size q.2.1 q.1.args ∧ q.1.size ≤ Rows.uptoBulk q.2.2.2 ∧ (elems.map (·.1))[i]? = some q.2.2.2 := by
            intro i hi
            have h1 := hel i hi
            rw [cellsTerm] at h1
            rw [List.getElem?_eq_getElem (by omega)] at h1
            cases hc : W.cells? base (a.add (i * 2)) 2 with
            | none => rw [hc] at h1; cases h1
            | some cs' =>
              rw [hc] at h1
              simp only [Option.bind_some] at h1
              obtain ⟨t, A, c, rfl, ht64, hA, hb⟩ := ih m (by omega) cs' _ h1
              obtain ⟨_, _, hat⟩ := World.cells?_some hc
              refine ⟨(t, A, c, (elems[i]'(by omega)).1), ht64, ?_, hat 1 (by omega), hA, hb, by rw [List.getElem?_map, List.getElem?_eq_getElem (show i < elems.length by omega)]; rfl⟩
              have := hat 0 (by omega)
              simpa [Addr.add] using this
          haveI : Inhabited (Tm × Option Addr × Nat × DataW H) := ⟨(.node 0 [], none, 0, .nil)⟩
          obtain ⟨q, hq⟩ := Go.Deep.choose_lt each
          have hget : ∀ (i : Nat) (t : Tm), ((List.range len).map fun i => (q i).1)[i]? = some t → i < len ∧ t = (q i).1 := by
            intro i t e
            have hi : i < len := by have := (List.getElem?_eq_some_iff.1 e).1; simpa using this
            rw [List.getElem?_map, List.getElem?_range hi] at e
            simp at e
            exact ⟨hi, e.symm⟩
          refine ⟨.node f ((List.range len).map fun i => (q i).1), some a, cap, by simp [Tm.fn, Tm.args], hf64, ?_, ?_⟩
          · rcases Nat.eq_zero_or_pos len with h0 | h0
            · subst h0; exact .nil _
            · have c00 := (hq 0 h0).2.1
              simp only [Nat.zero_mul, Addr.add, if_true] at c00
              obtain ⟨blk, off, spot⟩ := a
              obtain rfl : spot = none := cell_spot c00
              have hblk : blk < W.heap.size := by
                unfold World.cell? at c00
                rcases Nat.lt_or_ge blk W.heap.size with h1 | h1
                · exact h1
                · simp [Array.getElem?_eq_none h1] at c00
              simp only [Tm.args]
              refine .row blk off _ (fun i => (q i).2.1) (fun i => (q i).2.2.1) hblk (by unfold maxLen at hmax; simp; omega) (fun i t e => ?_) (fun i t e => ?_) (fun i t e => ?_) (fun i t e => ?_)
              · obtain ⟨hi, rfl⟩ := hget i t e
                exact (hq i hi).1
              · obtain ⟨hi, rfl⟩ := hget i t e
                have := (hq i hi).2.1
                rwa [Addr.add_lit] at this
              · obtain ⟨hi, rfl⟩ := hget i t e
                have := (hq i hi).2.2.1
                rwa [Addr.add_lit, Addr.add_lit] at this
              · obtain ⟨hi, rfl⟩ := hget i t e
                exact (hq i hi).2.2.2.1
          · subst hx
            have hb : sizes ((List.range len).map fun i => (q i).1) ≤ Rows.uptoBulkAll (elems.map (·.1)) := by
              refine bulk_all _ _ (by simp [hlenE]) fun i t d e1 e2 => ?_
              obtain ⟨hi, rfl⟩ := hget i t e1
              have h5 := (hq i hi).2.2.2.2
              rw [h5.2] at e2
              cases e2
              exact h5.1
            simp only [ef, e1, Tm.size, List.map_cons, List.map_nil, Rows.uptoBulk, Rows.uptoBulkAll]
            omega

/-- A term that is an argument. -/
theorem open_term {r : Reach} {b0 : Nat} {v : Value} {d : DataW H} {ps : List MemPlace} (hv : Value.okWide Tryd.prog W r b0 47 v) (h : DataW.Trod enc Tryd.prog W base (fun _ => true) held 47 v d ps) :
    ∃ (t : Tm) (A : Option Addr) (c : Nat), v = .agg #[.int .i64 t.fn, .slice A t.args.length c] ∧ I64 t.fn ∧ Args W W.heap.size A t.args ∧ t.size ≤ Rows.uptoBulk d := by
  obtain ⟨cs, rfl, _⟩ := okWide_struct Tryd.underlying47 hv
  obtain ⟨fuel, hf⟩ := h
  obtain ⟨t, A, c, hcs, h1, h2, h3⟩ := trod_term _ _ _ hf
  refine ⟨t, A, c, ?_, h1, h2, h3⟩
  have hcs' : cs.toList = [.int .i64 t.fn, .slice A t.args.length c] := hcs
  rw [show cs = #[.int .i64 t.fn, .slice A t.args.length c] from Array.toList_inj.1 (by rw [hcs'])]

end

end Go.Proofs.YtfnncphkidhbpaaDoor

