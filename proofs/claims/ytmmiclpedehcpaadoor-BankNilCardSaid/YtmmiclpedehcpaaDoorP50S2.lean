import Derived.Test.YtmmiclpedehcpaaDoorP50S1
import Derived.Deep.RegionHeld3
import Derived.RangeFuncNested
import Derived.RangeFuncBox
import Derived.RangeFuncLeaves
import Derived.Shelf.Abstract
import Derived.OwnWalkIn
import Derived.TacticsInMore
import Derived.LoopNIn
import Derived.LoopIn
import Derived.Maps.OwnIn
import Derived.DeepKeys5
import Derived.Laws.EntriesVeiled
import Derived.BigQuiet
import Derived.StillTailTactics
import Derived.Deep.RegionLaw
import Derived.Deep.DeepCutAuto
import Derived.Lib.BufferMore
import Derived.Lib.SliceRun
import Derived.WideMake
import Derived.RangeFuncCalls
import Derived.ProofKit
import Derived.SizedLaws
import Derived.Deep.Slices
import Derived.Carry
import Derived.ChangeSlices
import Derived.Test.YtmmiclpedehcpaaDoorRows
import Derived.Below
import Derived.Test.YtmmiclpedehcpaaDoorCards
import Derived.WalkKit
import Derived.OpenShut
import Derived.Deep.DeepHandedRow
import Derived.Lib.LaidTab
import Derived.MakeChecks
namespace Go.Proofs.YtmmiclpedehcpaaDoor
open Go.RowKit
def tru (w : World) : Prop := w.cell? ⟨0, 0, none⟩ = some (.string truthSm.name) ∧ w.cell? ⟨0, 1, none⟩ = some (.int .i64 truthSm.arity) ∧ w.cell? ⟨0, 2, none⟩ = some (.bool truthSm.pred) ∧ 0 < w.heap.size
theorem tru_on {B : Nat} {w w' : World} (h : tru w) (hb : Below B w w') (hB : 0 < B) : tru w' := by
  obtain ⟨h1, h2, h3, h4⟩ := h
  exact ⟨cell_on hb hB h1, cell_on hb hB h2, cell_on hb hB h3, Nat.lt_of_lt_of_le h4 hb.size⟩
theorem tru_below {w w' : World} (h : tru w) (hb : Below w.heap.size w w') : tru w' := tru_on h hb h.2.2.2
end Go.Proofs.YtmmiclpedehcpaaDoor
namespace Go.Proofs.YtmmiclpedehcpaaDoor
open Go.RowKit Go.Shelf
attribute [local go_sem] Oper.semAt_some
abbrev IxSm := { p : Nat × Sm // p.2.Ok ∧ p.1 ≤ 9223372036854775807 }
def ixV (x : IxSm) : Array Value := #[.int .i64 (x.1.1 : Int), .agg #[.string x.1.2.name, .int .i64 x.1.2.arity, .bool x.1.2.pred]]
def CK (A B : World) : Prop := ∀ p v, A.cell? p = some v → B.cell? p = some v
theorem CK.refl (A : World) : CK A A := fun _ _ h => h
theorem CK.trans {A B C : World} (h : CK A B) (k : CK B C) : CK A C := fun p v e => k p v (h p v e)
theorem ck_put {w : World} (W : World) (l : Nat) (o o' : Obj) (_ : w.heap.size ≤ l) (h : W.heap[l]? = some o) (hc : o.isCells = false) (_ : o.isWalk = false) : CK W (W.putObj l o') := by
  intro p v e
  by_cases hp : p.block = l
  · exfalso
    unfold World.cell? at e
    rw [hp, h] at e
    cases o <;> simp [Obj.isCells] at hc e
  · rw [← e]
    exact World.cell?_of_block ((grownBy_putObj' W l o').block p.block (by
      unfold World.cell? at e
      rcases Nat.lt_or_ge p.block W.heap.size with h1 | h1
      · exact h1
      · rw [Array.getElem?_eq_none h1] at e; cases e) (by simpa using hp))
structure Backs (l : List Sm) (zs : List IxSm) : Prop where
  len : zs.length = l.length
  at_ : ∀ j (x : IxSm), zs[j]? = some x → x.1.1 = l.length - 1 - j ∧ l[l.length - 1 - j]? = some x.1.2
theorem backs_of (l : List Sm) (hok : ∀ x ∈ l, x.Ok) (hl : l.length ≤ 9223372036854775807) : ∃ zs, Backs l zs := by
  refine ⟨List.ofFn fun j : Fin l.length => ⟨(l.length - 1 - j, l[l.length - 1 - j]'(by omega)), ⟨hok _ (List.getElem_mem _), by simp; omega⟩⟩, by simp, fun j x hx => ?_⟩
  rw [List.getElem?_ofFn] at hx
  split at hx
  · rename_i hj
    injection hx with hx
    subst hx
    exact ⟨rfl, List.getElem?_eq_getElem _⟩
  · cases hx
set_option maxRecDepth 100000 in
set_option maxHeartbeats 2000000 in
theorem back1_in (F : Fence) (n : Nat) (hf : F.fn 74) (hro : F.round = none) (hn : 1 ≤ n) (l Bs : Nat) (A : Option Addr) (c B : Nat) (L : List Sm) (hL : L.length * 32 ≤ 140737488351232) (zs : List IxSm) (hz : Backs L zs) (J Jx : List IxSm → World → Prop)
    (hY : ∀ pre x W, J pre W → pre.length < zs.length → YieldAt F (n - 1) Tryd.prog l (ixV x) W fun e W' =>
      (e = .returned (.bool true) ∧ J (pre ++ [x]) W' ∧ CK W W') ∨ (e = .returned (.bool false) ∧ Jx (pre ++ [x]) W'))
    (W : World) (hBs : W.cell? ⟨Bs, 0, none⟩ = some (.slice A L.length c)) (hS : Syms W B A L.length L) (h0 : J [] W) :
    CallsIn F n Tryd.prog 74 #[.func (.yield l) #[] #[], .pointer (some ⟨Bs, 0, none⟩)] W fun e W' => (∃ v, e = .returned v) ∧
      ((∃ ys, ys = zs ∧ J ys W') ∨ (∃ pre, pre <+: zs ∧ Jx pre W')) := by
  refine callsIn_of_wp Tryd.func74 rfl hf ?_ hro
  simp only [Tryd.ntmps74, List.size_toArray, List.length_cons, List.length_nil, Nat.reduceAdd, Nat.reduceSub, Array.replicate_succ, Array.replicate_zero, List.push_toArray, List.append_toArray, List.nil_append, List.cons_append]
  have hz1 := hz.len
  gi_wp2
  gi_loopw [3] (fun i wr => ∃ k : Nat, k ≤ L.length ∧ i = .int .i64 ((L.length : Int) - 1 - k) ∧ J (zs.take k) wr ∧ CK W wr)
    (fun i _ => (intOf i + 1).toNat)
  case atStart => exact ⟨0, Nat.zero_le _, by simp, by simpa using h0, CK.refl _⟩
  case round =>
    obtain ⟨k, hk, rfl, hJs, hck⟩ := hrel
    have hb1 := hck _ _ hBs
    by_cases hlt : k < L.length
    · obtain ⟨x, hx⟩ : ∃ x, zs[k]? = some x := ⟨_, List.getElem?_eq_getElem (by omega)⟩
      obtain ⟨hx1, hx2⟩ := hz.at_ k x hx
      obtain ⟨b, off, rfl, hb, hc⟩ := hS.ad (by omega)
      obtain ⟨c1, c2, c3⟩ := hc _ _ hx2
      rw [← hx1] at c1 c2 c3
      have d1 := hck _ _ c1
      have d2 := hck _ _ c2
      have d3 := hck _ _ c3
      have hts : zs.take (k + 1) = zs.take k ++ [x] := by rw [List.take_add_one, hx]; rfl
      obtain ⟨fn, tmps, assign, body, hy, hR⟩ := hY _ x wr hJs (by rw [List.length_take]; omega)
      have hlo : (0 : Int) ≤ (L.length : Int) - 1 - k := by omega
      have hidx : (L.length : Int) - 1 - k = (x.1.1 : Int) := by omega
      have hxl : x.1.1 < L.length := by omega
      simp only [ixV] at hy
      have Hts := Lib.hid hts
      have Hx := Lib.hid (And.intro hx1 hx2)
      have Hz := Lib.hid hz1
      clear hts hx1 hx2 hx hc c1 c2 c3 hz1 hz hS hY
      rw [hidx]
      have Hi := Lib.hid hidx
      clear hidx hlo
      gi_wp2
      refine hR.mono ?_
      rintro e W3 (⟨rfl, hJ3, hk3⟩ | ⟨rfl, hJx3⟩)
      · gi_wp2
        go_roundw
        case rel => exact ⟨k + 1, by omega, by rw [show (L.length : Int) - 1 - ((k + 1 : Nat) : Int) = (x.1.1 : Int) - 1 from by have := Hi.out; omega], by rw [Hts.out]; exact hJ3, hck.trans hk3⟩
        case measure => simp [intOf]
      · gi_wp2
        refine bodyPost_ret (results_none rfl _ _ _) rfl ?_
        exact ⟨⟨_, rfl⟩, .inr ⟨_, ⟨zs.drop (k + 1), by rw [← Hts.out, List.take_append_drop]⟩, hJx3⟩⟩
    · have : k = L.length := by omega
      subst this
      gi_wp2
      go_end0
      exact ⟨⟨_, rfl⟩, .inl ⟨_, by rw [List.take_of_length_le (by omega)], hJs⟩⟩
set_option maxHeartbeats 1000000 in
theorem back_in (F : Fence) (n : Nat) (hf : F.fn 71) (hro : F.round = none) (a : Option Addr) (len cap : Nat) (w : World) :
    CallsIn F n Tryd.prog 71 #[.slice a len cap] w fun e w' => e = .returned (.func (.func 74) #[] #[.pointer (some ⟨w.heap.size, 0, none⟩)]) ∧ w' = w.alloc (.cells #[.slice a len cap] 22) := by
  refine callsIn_of_wp Tryd.func71 rfl hf ?_ hro
  simp only [Tryd.ntmps71, List.size_toArray, List.length_cons, List.length_nil, Nat.reduceAdd, Nat.reduceSub, Array.replicate_succ, Array.replicate_zero, List.push_toArray, List.append_toArray, List.nil_append, List.cons_append]
  gi_wp2
  go_ret
  exact ⟨rfl, rfl⟩
theorem back_stops (F : Fence) (n : Nat) (hf : F.fn 74) (hro : F.round = none) (hn : 1 ≤ n) (Bs : Nat) (A : Option Addr) (c B : Nat) (L : List Sm) (hL : L.length * 32 ≤ 140737488351232) (zs : List IxSm) (hz : Backs L zs) (w : World) (hlt : Bs < w.heap.size) (hB : B ≤ w.heap.size)
    (hBs : w.cell? ⟨Bs, 0, none⟩ = some (.slice A L.length c)) (hS : Syms w B A L.length L) :
    SeqStopsK F n Tryd.prog 74 #[.pointer (some ⟨Bs, 0, none⟩)] ixV CK (fun ys => ys = zs) (fun pre => pre <+: zs) zs.length w := fun l J Jx W hW _ _ hY h0 =>
  back1_in F n hf hro hn l Bs A c B L hL zs hz J Jx hY W ((hW.cell (p := ⟨Bs, 0, none⟩) hlt).trans hBs) (hS.below (hW.mono hB)) h0
end Go.Proofs.YtmmiclpedehcpaaDoor
namespace Go.Proofs.YtmmiclpedehcpaaDoor
open Go.RowKit Go.Maps
set_option maxRecDepth 20000
theorem laidOut : laidOutB Tryd.prog = true := by kernel_rfl
theorem symLaw : Keyed Tryd.prog 67 := Keyed.of_law (deep_law_gate laidOut (by decide +kernel) (by decide +kernel) (by kernel_rfl) (by kernel_rfl))
def Sm.val (x : Sm) : Value := .agg #[.string x.name, .int .i64 x.arity, .bool x.pred]
theorem keyOf_sym {x : Sm} (hx : x.Ok) : ∃ kl, keyOf Tryd.prog 67 x.val = some kl := by
  have hT : Tryd.prog.keyType 67 = true := by kernel_rfl
  obtain ⟨m, hm⟩ : ∃ m, Tryd.prog.types.size + 1 = m + 1 + 1 := ⟨Tryd.prog.types.size - 1, by
    have : 0 < Tryd.prog.types.size := by decide +kernel
    omega⟩
  have hC : Tryd.prog.cellsOf 67 = 3 := by kernel_rfl
  have hC1 : Tryd.prog.cellsOf 9 = 1 := by kernel_rfl
  have hC2 : Tryd.prog.cellsOf 3 = 1 := by kernel_rfl
  have hC3 : Tryd.prog.cellsOf 4 = 1 := by kernel_rfl
  have hs := hx.size
  have hw : (Lit.int .i64 x.arity).wf = true := WalkArith.wf_i64 ⟨hx.lo, hx.hi⟩
  refine ⟨.string (keyBytes [.string x.name.data.toList, .int .i64 x.arity, .bool x.pred]), ?_⟩
  simp only [keyOf, Tryd.underlying67, hT, hm, Sm.val, Value.formed, hC]
  simp [Program.keyLits, Tryd.underlying67, hC, hC1, hC2, hC3, Value.cells, Tryd.underlying9, Tryd.underlying3, Tryd.underlying4, hs, hw]
def SMap (w : World) (b n : Nat) (f : Sm → Option Int) : Prop :=
  ∃ D : DataW Unit, w.ownsMap Tryd.prog 67 (plainElem Tryd.prog 3) b n D ∧ ∀ x kl, keyOf Tryd.prog 67 (Sm.val x) = some kl → ∀ z, D.atKey kl z = match f x with | some i => .lit (.int .i64 i) | none => z
theorem SMap.made (w : World) : SMap (w.alloc (.map #[] 0)) w.heap.size 0 (fun _ => none) :=
  ⟨_, World.ownsMap_made w _ _ _, fun _ _ _ _ => rfl⟩
theorem SMap.lt {w : World} {b n : Nat} {f : Sm → Option Int} (h : SMap w b n f) : b < w.heap.size := h.elim fun _ h => h.1.lt
theorem SMap.kept {w w' : World} {b n : Nat} {f : Sm → Option Int} (h : SMap w b n f) (hk : w'.heap[b]? = w.heap[b]?) : SMap w' b n f := by
  obtain ⟨D, ⟨es, clock, hb, F, hs, hD⟩, hat⟩ := h
  exact ⟨D, ⟨es, clock, hk.trans hb, F, hs, hD⟩, hat⟩
theorem SMap.below {w w' : World} {b n : Nat} {f : Sm → Option Int} (h : SMap w b n f) (hb : Below w.heap.size w w') : SMap w' b n f := h.kept (hb.block b h.lt)
theorem zeroInt (w : World) : (zeroValue 3).run Tryd.prog w = .ok (.int .i64 0) w := by kernel_rfl
theorem SMap.look {w : World} {b n : Nat} {f : Sm → Option Int} (h : SMap w b n f) {x : Sm} (hx : x.Ok) :
    (Instr.lookup 113 (.map (some b)) (.agg #[.string x.name, .int .i64 x.arity, .bool x.pred]) false).run Tryd.prog w = .ok (.int .i64 ((f x).getD 0)) w := by
  obtain ⟨D, hown, hat⟩ := h
  obtain ⟨kl, hk⟩ := keyOf_sym hx
  obtain ⟨c, hrun, hc, _⟩ := hown.lookup_int symLaw Tryd.underlying113 Tryd.underlying3 (zeroInt w) hk
  have := hat x kl hk (.lit (.int .i64 0))
  rw [hc] at this
  cases hf : f x with
  | none => rw [hf] at this; injection this with this; injection this with _ this; subst this; exact hrun
  | some i => rw [hf] at this; injection this with this; injection this with _ this; subst this; exact hrun
def updS (f : Sm → Option Int) (x : Sm) (i : Int) : Sm → Option Int := fun y => if y = x then some i else f y
theorem SMap.of_put {w : World} {b n : Nat} {D : DataW Unit} {f : Sm → Option Int} {x : Sm} {kl : Lit} {i : Int} {w0 : World} {n0 : Nat} (h0 : w0.ownsMap Tryd.prog 67 (plainElem Tryd.prog 3) b n0 D)
    (hat : ∀ x kl, keyOf Tryd.prog 67 (Sm.val x) = some kl → ∀ z, D.atKey kl z = match f x with | some i => .lit (.int .i64 i) | none => z)
    (hk : keyOf Tryd.prog 67 (Sm.val x) = some kl) (h : w.ownsMap Tryd.prog 67 (plainElem Tryd.prog 3) b n (D.put kl (.lit (.int .i64 i)))) : SMap w b n (updS f x i) := by
  refine ⟨_, h, fun y ky hy z => ?_⟩
  by_cases e : y = x
  · subst e
    rw [hk] at hy
    injection hy with hy
    subst hy
    rw [atKey_put_same h0.isMap (symLaw.key hk)]
    simp [updS]
  · have hne : ky ≠ kl := by
      rintro rfl
      have := symLaw.inj hy hk
      simp only [Sm.val, Value.agg.injEq] at this
      simp at this
      exact e (sm_ext this)
    rw [atKey_put_other hne, hat y ky hy z]
    simp [updS, e]
theorem wpListIn_put {F : Fence} {nF : Nat} {w : World} {ops : Array Oper} {rest : List Oper} {o : Oper} {a : Act} {Q : Exit → Act → World → Prop} (hg : o.guard = none) (m x v : Operand) (hop : o.op = Op.mapUpdate 113 m x v)
    (b n : Nat) (f : Sm → Option Int) (hm : a.eval m = .map (some b)) (h : SMap w b n f) (hn : n < maxLen) (y : Sm) (hy : y.Ok) (i : Int) (hi : (Lit.int .i64 i).wf = true)
    (hx : a.eval x = .agg #[.string y.name, .int .i64 y.arity, .bool y.pred]) (hv : a.eval v = .int .i64 i)
    (hK : ∀ w', SMap w' b (n + 1) (updS f y i) → w.grownBy w' (some b) → wpListIn F nF Tryd.prog ops Q rest (a.put o.dst undef) w') : wpListIn F nF Tryd.prog ops Q (o :: rest) a w := by
  obtain ⟨D, hown, hat⟩ := h
  obtain ⟨kl, hk⟩ := keyOf_sym hy
  exact wpListIn_mapUpdate_own w hg m x v 113 hop 67 3 symLaw Tryd.underlying113 _ b n D hm hown hn _ _ kl hx hv hk _ [] (plainElem_int Tryd.underlying3 hi)
    fun w' h1 h2 => hK w' (SMap.of_put hown hat hk h1) h2
end Go.Proofs.YtmmiclpedehcpaaDoor
namespace Go.Proofs.YtmmiclpedehcpaaDoor
open Go.RowKit Go.Shelf
set_option maxRecDepth 20000
attribute [local go_sem] Oper.semAt_some
def backF (pre : List IxSm) : Sm → Option Int := pre.foldl (fun f x => updS f x.1.2 x.1.1) (fun _ => none)
theorem backF_snoc (pre : List IxSm) (x : IxSm) : backF (pre ++ [x]) = updS (backF pre) x.1.2 x.1.1 := by simp [backF]
def firstF (l : List Sm) (y : Sm) : Option Int := if atI l y < 0 then none else some (atI l y)
theorem backF_at {l : List Sm} {zs : List IxSm} (h : Backs l zs) (y : Sm) : ∀ k, k ≤ l.length →
    (backF (zs.take k) y = none ∧ ∀ j, l.length - k ≤ j → l[j]? ≠ some y) ∨ (∃ i : Nat, backF (zs.take k) y = some (i : Int) ∧ l[i]? = some y ∧ ∀ j, l.length - k ≤ j → j < i → l[j]? ≠ some y)
  | 0, _ => .inl ⟨rfl, fun j hj => by rw [List.getElem?_eq_none (by omega)]; simp⟩
  | k + 1, hk => by
    obtain ⟨x, hx⟩ : ∃ x, zs[k]? = some x := ⟨_, List.getElem?_eq_getElem (by rw [h.len]; omega)⟩
    obtain ⟨h1, h2⟩ := h.at_ k x hx
    have hts : zs.take (k + 1) = zs.take k ++ [x] := by rw [List.take_add_one, hx]; rfl
    rw [hts, backF_snoc]
    by_cases e : y = x.1.2
    · subst e
      refine .inr ⟨x.1.1, by simp [updS], by rw [h1]; exact h2, fun j hj hlt => by omega⟩
    · have e1 : updS (backF (zs.take k)) x.1.2 x.1.1 y = backF (zs.take k) y := by simp [updS, e]
      rw [e1]
      have hnot : ∀ j, l.length - (k + 1) ≤ j → ¬ l.length - k ≤ j → l[j]? ≠ some y := fun j ha hb => by
        obtain rfl : j = l.length - 1 - k := by omega
        rw [h2]; intro he; injection he with he; exact e he.symm
      rcases backF_at h y k (by omega) with ⟨g1, g2⟩ | ⟨i, g1, g2, g3⟩
      · refine .inl ⟨g1, fun j hj => ?_⟩
        by_cases hj' : l.length - k ≤ j
        · exact g2 j hj'
        · exact hnot j hj hj'
      · refine .inr ⟨i, g1, g2, fun j hj hlt => ?_⟩
        by_cases hj' : l.length - k ≤ j
        · exact g3 j hj' hlt
        · exact hnot j hj hj'
theorem backF_all {l : List Sm} {zs : List IxSm} (h : Backs l zs) : backF zs = firstF l := by
  funext y
  have := backF_at h y l.length (Nat.le_refl _)
  rw [List.take_of_length_le (by rw [h.len]; exact Nat.le_refl _)] at this
  rcases this with ⟨h1, h2⟩ | ⟨i, h1, h2, h3⟩
  · rw [h1, firstF, atI_miss l y (fun j _ => h2 j (by omega))]
    simp
  · rw [h1, firstF, atI_hit l y i h2 (fun j hj => h3 j (by omega) hj)]
    rw [if_neg (by omega)]
def Blk3 (W : World) (B : Nat) (x : Sm) : Prop := W.heap[B]? = some (.cells #[.string x.name, .int .i64 x.arity, .bool x.pred] 67 (0, 0))
theorem run_makeMap_hint (k : Nat) (w : World) : (Instr.makeMap 113 (some (.int .i64 (k : Int)))).run Tryd.prog w = .ok (.map (some w.heap.size)) (w.alloc (.map #[] 0)) := by
  simp [Instr.makeMap, run_underlying Tryd.underlying113, go_sem]
theorem blk3_own {β : Type} (B : Nat) (Bx : Nat) (x : Sm) : OwnFrom (β := β) B (fun _ W => Blk3 W Bx x) := fun s W W' row hs hg hr => by
  unfold Blk3 at hs ⊢
  refine (hg.block Bx (Array.getElem?_eq_some_iff.1 hs).1 (fun e => ?_)).trans hs
  obtain ⟨_, o, ho, hc⟩ := hr _ e.symm
  rw [hs] at ho
  injection ho with ho
  subst ho
  simp [Obj.isCells] at hc
theorem smap_own (B b : Nat) (hb : b < B) : OwnFrom B (fun (pre : List IxSm) W => SMap W b pre.length (backF pre)) := fun s W W' row hs hg hr =>
  hs.kept (hg.block b hs.lt (fun e => by have := (hr _ e.symm).1; omega))
theorem Blk3.c1 {W : World} {B : Nat} {x : Sm} (h : Blk3 W B x) : W.cell? ⟨B, 0, none⟩ = some (.string x.name) := by simp [World.cell?, show W.heap[B]? = _ from h]
theorem Blk3.c2 {W : World} {B : Nat} {x : Sm} (h : Blk3 W B x) : W.cell? ⟨B, 1, none⟩ = some (.int .i64 x.arity) := by simp [World.cell?, show W.heap[B]? = _ from h]
theorem Blk3.c3 {W : World} {B : Nat} {x : Sm} (h : Blk3 W B x) : W.cell? ⟨B, 2, none⟩ = some (.bool x.pred) := by simp [World.cell?, show W.heap[B]? = _ from h]
theorem cell_lt {W : World} {p : Addr} {v : Value} (h : W.cell? p = some v) : p.block < W.heap.size := by
  unfold World.cell? at h
  rcases Nat.lt_or_ge p.block W.heap.size with h1 | h1
  · exact h1
  · rw [Array.getElem?_eq_none h1] at h; cases h
theorem ck_alloc (W : World) (o : Obj) : CK W (W.alloc o) := fun p _ h => (World.cell?_of_block (Below.heap_alloc W o p.block (cell_lt h))).trans h
theorem ck_map {W w1 : World} {b n : Nat} {f : Sm → Option Int} (h : SMap W b n f) (hg : W.grownBy w1 (some b)) : CK W w1 := fun p v hp => by
  refine (World.cell?_of_block (hg.block p.block (cell_lt hp) (fun e => ?_))).trans hp
  injection e with e
  obtain ⟨D, ⟨es, ck, hb, _⟩, _⟩ := h
  unfold World.cell? at hp
  rw [e, hb] at hp
  cases hp
set_option maxRecDepth 100000 in
set_option maxHeartbeats 2000000 in
theorem numbers_in (F : Fence) (n : Nat) (h23 : F.fn 63) (h34 : F.fn 71) (h40 : F.fn 74) (hro : F.round = none) (hn : 3 ≤ n) (A : Option Addr) (c : Nat) (L : List Sm) (hL : L.length * 32 ≤ 140737488351232) (w : World) (hS : Syms w w.heap.size A L.length L) :
    CallsIn F n Tryd.prog 63 #[.slice A L.length c] w fun e W' => e = .returned (.map (some w.heap.size)) ∧ SMap W' w.heap.size L.length (firstF L) ∧ Below w.heap.size w W' := by
  have h1 : 1 ≤ n := by omega
  have hmm := run_makeMap_hint
  obtain ⟨zs, hz⟩ := backs_of L hS.ok (by omega)
  refine callsIn_of_wp_marks Tryd.func63 rfl h23 ?_ hro
  simp only [Tryd.ntmps63, List.size_toArray, List.length_cons, List.length_nil, Nat.reduceAdd, Nat.reduceSub, Array.replicate_succ, Array.replicate_zero, List.push_toArray, List.append_toArray, List.nil_append, List.cons_append]
  gi_wp2_with (gi_at_call 71; refine (back_in F (n - 1) h34 hro _ _ _ _).mono ?_; rintro e w' ⟨rfl, rfl⟩)
  have hm0 := SMap.made w
  have bM := (Boxed.new (w.alloc (.map #[] 0)) 113 (.map (some w.heap.size))).alloc (.cells #[.slice A L.length c] 22)
  have bS := Boxed.new ((w.alloc (.map #[] 0)).alloc (.cells #[.map (some w.heap.size)] 113)) 22 (.slice A L.length c)
  simp only [World.size_alloc] at bM bS
  have hB0 : Below w.heap.size w (((w.alloc (.map #[] 0)).alloc (.cells #[.map (some w.heap.size)] 113)).alloc (.cells #[.slice A L.length c] 22)) := (((Below.refl _ w).alloc (Nat.le_refl _) _).alloc (by simp) _).alloc (by simp; omega) _
  have hsz : (((w.alloc (.map #[] 0)).alloc (.cells #[.map (some w.heap.size)] 113)).alloc (.cells #[.slice A L.length c] 22)).heap.size = w.heap.size + 3 := by simp
  have hm1 : SMap (((w.alloc (.map #[] 0)).alloc (.cells #[.map (some w.heap.size)] 113)).alloc (.cells #[.slice A L.length c] 22)) w.heap.size 0 (fun _ => none) :=
    (hm0.kept (Below.heap_alloc _ _ _ (by simp))).kept (Below.heap_alloc _ _ _ (by simp; omega))
  obtain ⟨W0, hW0⟩ : ∃ W0, ((w.alloc (.map #[] 0)).alloc (.cells #[.map (some w.heap.size)] 113)).alloc (.cells #[.slice A L.length c] 22) = W0 := ⟨_, rfl⟩
  rw [hW0] at bM bS hB0 hsz hm1 ⊢
  clear hW0 hm0
  refine wpIn_rangeFunc_ownH hro h1 (gf := 74) (lb := #[.pointer (some ⟨w.heap.size + 1 + 1, 0, none⟩)]) rfl h40 (enters_of Tryd.func74 (by kernel_rfl) rfl)
    (back_stops F (n - 1) h40 hro (by omega) (w.heap.size + 1 + 1) A c w.heap.size L hL zs hz W0 (by omega) (by omega) bS.cell (hS.below hB0)) CK.trans (fun W l o o' h1 h2 h3 h4 => ck_put (w := W0) W l o o' h1 h2 h3 h4) (Below.refl _ _) (fun _ => rfl)
    (fun pre W => (Boxed W (w.heap.size + 1) 113 (.map (some w.heap.size)) ∧ SMap W w.heap.size pre.length (backF pre)) ∧ Below w.heap.size w W)
    (fun _ _ _ => False)
    (OwnFrom.and (OwnFrom.and ((boxed_own (w.heap.size + 1) 113 (fun _ => .map (some w.heap.size))).from _) (smap_own _ _ (by omega))) (ownFrom_below (Nat.le_refl _) (by omega)))
    (fun _ _ _ _ _ hs _ _ => hs)
    ⟨⟨bM, hm1⟩, hB0⟩
    (fun x a' W => ∃ Bx, Blk3 W Bx x.1.2 ∧ a' = { tmps := #[.slice A L.length c, undef, .map none, .pointer (some ⟨w.heap.size + 1, 0, none⟩), .int .i64 (x.1.1 : Int), .pointer (some ⟨Bx, 0, none⟩), .slice A L.length c, .int .i64 (L.length : Int), .map (some w.heap.size), .slice A L.length c, .func (.func 74) #[] #[.pointer (some ⟨w.heap.size + 1 + 1, 0, none⟩)], .int .i64 (x.1.1 : Int), .agg #[.string x.1.2.name, .int .i64 x.1.2.arity, .bool x.1.2.pred], undef, undef, undef, undef], defers := [] }) ?hAx ?assign ?body ?done ?stop
  case hAx =>
    rintro x a' s W W' row ⟨Bx, hk, rfl⟩ hg hr
    exact ⟨Bx, blk3_own (β := Unit) _ Bx x.1.2 () W W' row hk hg hr, rfl⟩
  case assign =>
    rintro l pre x W K ⟨⟨hbox, hmap⟩, hB⟩ hK
    simp only [ixV]
    gi_wp2
    exact hK _ _ ((KeepsOthers.alloc _ _).from _) (ck_alloc W _) ⟨⟨hbox.alloc _, hmap.kept (Below.heap_alloc _ _ _ hmap.lt)⟩, hB.alloc hB.size _⟩ ⟨W.heap.size, World.alloc_heap_new W _, rfl⟩
  case body =>
    rintro l pre x a' W hl _ ⟨⟨hbox, hmap⟩, hB⟩ ⟨Bx, hk, rfl⟩ hlt
    have hc := hbox.cell
    have k1 := hk.c1
    have k2 := hk.c2
    have k3 := hk.c3
    have hm' : pre.length < maxLen := by unfold maxLen; have := hz.len; omega
    have Hm := Lib.hid hm'
    clear hm'
    gi_wp2_with (gi_at_mapUpdate; refine wpListIn_put rfl _ _ _ rfl w.heap.size pre.length (backF pre) rfl hmap Hm.out x.1.2 x.2.1 (x.1.1 : Int) (WalkArith.wf_i64 ⟨by omega, by have := x.2.2; omega⟩) rfl rfl ?_; intro w1 hmap1 hgrow1)
    exact ⟨KeepsFrom.of_grownBy hgrow1 (fun j e => by cases e; omega), ck_map hmap hgrow1, ⟨hbox.kept hgrow1 (fun e => by injection e with e; omega), by rw [backF_snoc, List.length_append]; exact hmap1⟩,
      hB.grown hgrow1 hB.size (fun k e => by cases e; exact Nat.le_refl _)⟩
  case done =>
    rintro D ys W hD rfl ⟨⟨hbox, hmap⟩, hB⟩ hK
    have hc := hbox.cell
    gi_wp2
    refine ⟨by simp, .inl ⟨_, _, rfl, run_takeDeferred hK, ?_⟩⟩
    refine ⟨_, results_tmp rfl _ _ _, rfl, ?_, hB.trans (belowK_b (w := w) (Nat.le_refl _) W D _ _ (by omega) hK rfl rfl)⟩
    rw [backF_all hz, hz.len] at hmap
    exact hmap.kept ((grownBy_putObj' W D _).block _ hmap.lt (fun e => by injection e with e; omega))
  case stop =>
    rintro D c pre W _ _ h _
    exact h.elim
theorem numbers_any (A : Option Addr) (n c : Nat) (l : List Sm) (hn : n * 32 ≤ 140737488351232) (w : World) (h : Syms w w.heap.size A n l) :
    Calls Tryd.prog 63 #[.slice A n c] w fun e W' => e = .returned (.map (some w.heap.size)) ∧ SMap W' w.heap.size n (firstF l) ∧ Below w.heap.size w W' := by
  obtain rfl := h.len
  exact (callsIn_wide (n := 3)).1 (numbers_in Fence.wide 3 trivial trivial trivial rfl (by omega) A c l hn w h)
end Go.Proofs.YtmmiclpedehcpaaDoor
namespace Go.Proofs.YtmmiclpedehcpaaDoor
open Go.RowKit
set_option maxRecDepth 20000
theorem firstF_at {l : List Sm} {k : Nat} {y : Sm} (hy : l[k]? = some y) : (firstF l y).getD 0 = atI l y := by
  have : ¬ atI l y < 0 := by
    intro hlt
    have h1 : l.findIdx? (· == y) = none := by
      cases hf : l.findIdx? (· == y) with
      | none => rfl
      | some i => simp [atI, hf] at hlt; omega
    rw [List.findIdx?_eq_none_iff] at h1
    have := h1 y (List.mem_of_getElem? hy)
    simp at this
  simp [firstF, this]
set_option maxHeartbeats 800000 in
theorem Check_any (A : Option Addr) (n c : Nat) (l : List Sm) (w : World) (h : Syms w w.heap.size A n l) (hn : n * 32 ≤ 140737488351232) (ht : tru w) :
    Calls Tryd.prog 49 #[.agg #[.slice A n c]] w fun e w' => e = .returned (.int .i64 (checkI l)) ∧ Below w.heap.size w w' := by
  have hneq := run_neq_sym
  by_cases h96 : 96 < n
  · have hf := Lib.hid (show checkI l = 3 by simp only [checkI]; rw [if_pos (by rw [h.len]; exact h96)])
    go_enter Tryd.func49, Tryd.ntmps49
    go_wp2
    go_ret
    exact ⟨ret_int hf.out.symm, (Below.refl _ _).alloc (Nat.le_refl _) _⟩
  · rcases Nat.eq_zero_or_pos n with h0 | h0
    · have hf := Lib.hid (show checkI l = 110 by
        have : l = [] := List.eq_nil_of_length_eq_zero (h.len.trans h0)
        subst this; rfl)
      subst h0
      go_enter Tryd.func49, Tryd.ntmps49
      go_wp2
      go_quiet (fail)
      go_wp2
      go_ret
      exact ⟨ret_int hf.out.symm, bl_drewN ((Below.refl _ _).alloc (Nat.le_refl _) _) _⟩
    · have h0' : (((n : Nat) : Int) == 0) = false := beq_eq_false_iff_ne.2 (by omega)
      go_enter Tryd.func49, Tryd.ntmps49
      go_wp2
      obtain ⟨W, hW⟩ : ∃ W, w.alloc (.cells #[.slice A n c] 24) = W := ⟨_, rfl⟩
      have hWB : Below w.heap.size w W := by rw [← hW]; exact (Below.refl _ _).alloc (Nat.le_refl _) _
      have hz : w.heap.size + 1 = W.heap.size := by rw [← hW]; clear hW; simp
      have x1 : W.cell? ⟨w.heap.size, 0, none⟩ = some (.slice A n c) := by rw [← hW]; clear hW; go_simp
      rw [hW]
      have g := h.below hWB
      have hok := Lib.hid h.ok
      obtain ⟨t1, t2, t3, _⟩ := tru_below ht hWB
      clear hW h ht
      have hlt0 : w.heap.size < W.heap.size := by omega
      clear hz
      obtain ⟨b, off, rfl, hb0, hc⟩ := g.ad h0
      have hb : b < W.heap.size := Nat.lt_trans hb0 hlt0
      obtain ⟨y, hy⟩ : ∃ y, l[0]? = some y := ⟨_, List.getElem?_eq_getElem (by rw [g.len]; exact h0)⟩
      obtain ⟨c1, c2, c3⟩ := hc 0 y hy
      simp only [Nat.zero_mul, Nat.add_zero] at c1 c2 c3
      have Hy := Lib.hid hy
      clear hy
      have Hc := Lib.hid hc
      clear hc
      by_cases hyt : y = truthSm
      · have hs := smB_true hyt
        have hf := Lib.hid (show checkI l = scanI l by
          simp only [checkI]; rw [if_neg (by rw [g.len]; exact h96), if_neg (by rw [Hy.out, hyt]; simp)])
        clear hyt
        go_quiet (fail)
        clear t1 t2 t3 hs c1 c2 c3
        go_wp2_with (first | (go_at_call 63; refine (numbers_any _ _ _ l hn _ (((g.drewN _).more (Nat.le_of_lt hlt0)))).mono ?_; rintro e w1 ⟨rfl, hmap, hb1⟩; have hB1 : Below W.heap.size W w1 := ⟨hb1.os, hb1.tape, hb1.output, hb1.size, hb1.block⟩; have z1 := cell_on hB1 hlt0 x1) | fail)
        clear hb1 z1
        have hmap' : SMap w1 W.heap.size n (firstF l) := hmap
        clear hmap
        go_loopw [29] (fun i wr => ∃ k : Nat, k ≤ n ∧ i = .int .i64 k ∧ Below w1.heap.size w1 wr ∧ Hid (∀ j, 1 ≤ j → j < k → errAt l j = 0)) (fun i _ => n - (intOf i).toNat)
        case atStart => exact ⟨0, Nat.zero_le _, rfl, Below.refl _ _, fun j h1 h2 => by omega⟩
        case round =>
          obtain ⟨k, hk, rfl, hBr0, HA⟩ := hrel
          have hBr : Below W.heap.size W wr := hB1.trans (hBr0.mono hB1.size)
          have z1 := cell_on hBr hlt0 x1
          have hmr := hmap'.below hBr0
          by_cases hlt : k < n
          · obtain ⟨y, hy⟩ : ∃ y, l[k]? = some y := ⟨_, List.getElem?_eq_getElem (by rw [g.len]; exact hlt)⟩
            obtain ⟨c1, c2, c3⟩ := Hc.out k y hy
            have d1 := cell_on hBr hb c1
            have d2 := cell_on hBr hb c2
            have d3 := cell_on hBr hb c3
            have hyok : y.Ok := hok.out y (List.mem_of_getElem? hy)
            have hys := hyok.size
            have hbox : Below wr.heap.size wr (wr.alloc (.cells #[.string y.name, .int .i64 y.arity, .bool y.pred] 67)) := (Below.refl _ _).alloc (Nat.le_refl _) _
            have hlk := (hmr.below hbox).look hyok
            rw [firstF_at hy] at hlk
            have Hy := Lib.hid hy
            clear hy hyok hmr
            by_cases hk0 : k = 0
            · have hk0' : (((k : Nat) : Int) == 0) = true := by simp [hk0]
              have Hk0 := Lib.hid hk0
              clear hk0 hlk
              go_wp2
              go_roundw
              case rel => exact ⟨k + 1, by omega, by go_num, hBr0.trans (hbox.mono hBr0.size), fun j h1 h2 => by have := Hk0.out; omega⟩
              case measure => simp [intOf]; omega
            · have hk0' : (((k : Nat) : Int) == 0) = false := by simpa using hk0
              by_cases he : oneI y.name y.arity = 0
              · have he' : (oneI y.name y.arity != 0) = false := by simp [he]
                have He := Lib.hid he
                clear he
                by_cases ha : atI l y < k
                · go_wp2_with (first | (go_at_call 64; refine (fits_any _ _ _ hys).mono ?_; rintro e w2 ⟨rfl, rfl⟩) | fail)
                  go_ret
                  exact ⟨ret_int (hf.out.trans (scan_at (by omega) HA.out (err_same Hy.out He.out ha) (by decide))).symm, hWB.trans ((hBr.trans (hbox.mono hBr.size)).mono (Nat.le_of_lt hlt0))⟩
                · go_wp2_with (first | (go_at_call 64; refine (fits_any _ _ _ hys).mono ?_; rintro e w2 ⟨rfl, rfl⟩) | fail)
                  go_roundw
                  case rel => exact ⟨k + 1, by omega, by go_num, hBr0.trans (hbox.mono hBr0.size), err_before HA.out (err_ok Hy.out He.out (by omega))⟩
                  case measure => simp [intOf]; omega
              · have he' : (oneI y.name y.arity != 0) = true := by simp [he]
                have He := Lib.hid he
                clear he hlk
                go_wp2_with (first | (go_at_call 64; refine (fits_any _ _ _ hys).mono ?_; rintro e w2 ⟨rfl, rfl⟩) | fail)
                go_ret
                exact ⟨ret_int (hf.out.trans (scan_at (by omega) HA.out (err_one Hy.out He.out) He.out)).symm, hWB.trans ((hBr.trans (hbox.mono hBr.size)).mono (Nat.le_of_lt hlt0))⟩
          · have : k = n := by omega
            subst this
            go_wp2
            go_ret
            exact ⟨ret_int (hf.out.trans (scan_miss (fun j h1 h2 => HA.out j h1 (by rw [← g.len]; exact h2)))).symm, hWB.trans (hBr.mono (by omega))⟩
      · have hs := smB_false hyt
        have hf := Lib.hid (show checkI l = 110 by
          simp only [checkI]; rw [if_neg (by rw [g.len]; exact h96), if_pos (by rw [Hy.out]; simpa using hyt)])
        clear hyt
        go_quiet (fail)
        go_wp2
        go_ret
        exact ⟨ret_int hf.out.symm, bl_drewN hWB _⟩
end Go.Proofs.YtmmiclpedehcpaaDoor
namespace Go.Proofs.YtmmiclpedehcpaaDoor
open Go.RowKit
set_option maxRecDepth 100000
def chkT (l : List Sm) (t : Tm) : Int := if checkI l ≠ 0 then 2 else if (fitT l t 1 300).1 = true then 0 else 2
theorem chk_sig {l : List Sm} {t : Tm} (h : ¬ checkI l = 0) : chkT l t = 2 := if_pos h
theorem chk_yes {l : List Sm} {t : Tm} (h : checkI l = 0) (h1 : (fitT l t 1 300).1 = true) : chkT l t = 0 := (if_neg (fun e => e h)).trans (if_pos h1)
theorem chk_no {l : List Sm} {t : Tm} (h : checkI l = 0) (h1 : (fitT l t 1 300).1 = false) : chkT l t = 2 := (if_neg (fun e => e h)).trans (if_neg (by simp [h1]))
set_option maxHeartbeats 2000000 in
theorem termCheck_any (l : List Sm) (t : Tm) (As A : Option Addr) (n cs c : Nat) (w : World) (hS : Syms w w.heap.size As n l) (hn : n * 32 ≤ 140737488351232) (ht : tru w) (hf : I64 t.fn) (hA : Args w w.heap.size A t.args) :
    Calls Tryd.prog 27 #[.agg #[.slice As n cs], .agg #[.int .i64 t.fn, .slice A t.args.length c]] w fun e w' => e = .returned (.int .i64 (chkT l t)) ∧ Below w.heap.size w w' := by
  obtain rfl := hS.len
  have hl64 : l.length ≤ 9223372036854775807 := by omega
  obtain ⟨p0, p1, p2⟩ := heap3 w (.cells #[.slice As l.length cs] 24) (.cells #[.int .i64 t.fn, .slice A t.args.length c] 37) (.cells #[.int .i64 300] 3)
  obtain ⟨W, hW⟩ : ∃ W, (((w.alloc (.cells #[.slice As l.length cs] 24)).alloc (.cells #[.int .i64 t.fn, .slice A t.args.length c] 37)).alloc (.cells #[.int .i64 300] 3)) = W := ⟨_, rfl⟩
  have hB : Below w.heap.size w W := by rw [← hW]; exact (((Below.refl _ _).alloc (Nat.le_refl _) _).alloc (by simp) _).alloc (by simp; omega) _
  rw [hW] at p0 p1 p2
  have hWs : w.heap.size + 1 + 1 < W.heap.size := (Array.getElem?_eq_some_iff.1 p2).1
  have hS' := Lib.hid (hS.on hB)
  have ht' := Lib.hid (tru_below ht hB)
  have HW := Lib.hid hW
  have hA2 := Lib.hid (hA.blw hB)
  have hS2 := Lib.hid (hS.below hB)
  clear hW hS ht hA
  have fin : ∀ {w' : World}, Below W.heap.size W w' → Below w.heap.size w w' := fun h => hB.trans (h.mono hB.size)
  have fin2 : ∀ {w1 w' : World}, Below W.heap.size W w1 → Keeps (fun g => g < w1.heap.size ∧ g ≠ w.heap.size + 1 + 1) w1 w' → Below w.heap.size w w' := fun h k => (fin h).trans (k.below fun g e => ⟨by have := h.size; omega, by omega⟩)
  by_cases h0 : checkI l = 0
  · cases h1 : (fitT l t 1 300).1 with
    | true =>
      have hc := Lib.hid (chk_yes h0 h1)
      have h1' := Lib.hid h1
      clear h1
      go_enter Tryd.func27, Tryd.ntmps27
      go_wp2_with (first
        | (go_at_call 49
           rw [HW.out]
           refine (Check_any As l.length cs l W hS'.out hn ht'.out).mono ?_
           rintro e w1 ⟨rfl, hb1⟩
           rw [h0]
           have x0 := (cells_one ((hb1.block _ (by omega)).trans p0)).1
           obtain ⟨x1, x2, _, _⟩ := cells_two ((hb1.block _ (by omega)).trans p1)
           have x3 := Lib.hid ((hb1.block _ hWs).trans p2))
        | (go_at_call 50
           refine (termFits_any l t As A cs c 1 300 (w.heap.size + 1 + 1) w1 hf ((hS2.out.below (hb1.mono (by omega))).more (by omega)) hl64 ((hA2.out.blw (hb1.mono (by omega))).more (by omega)) x3.out (by decide) (by decide) (by decide) (by decide)).mono ?_
           rintro e w2 ⟨rfl, hk2, _⟩
           rw [h1'.out])
        | fail)
      go_ret
      exact ⟨ret_int hc.out.symm, fin2 hb1 hk2⟩
    | false =>
      have hc := Lib.hid (chk_no h0 h1)
      have h1' := Lib.hid h1
      clear h1
      go_enter Tryd.func27, Tryd.ntmps27
      go_wp2_with (first
        | (go_at_call 49
           rw [HW.out]
           refine (Check_any As l.length cs l W hS'.out hn ht'.out).mono ?_
           rintro e w1 ⟨rfl, hb1⟩
           rw [h0]
           have x0 := (cells_one ((hb1.block _ (by omega)).trans p0)).1
           obtain ⟨x1, x2, _, _⟩ := cells_two ((hb1.block _ (by omega)).trans p1)
           have x3 := Lib.hid ((hb1.block _ hWs).trans p2))
        | (go_at_call 50
           refine (termFits_any l t As A cs c 1 300 (w.heap.size + 1 + 1) w1 hf ((hS2.out.below (hb1.mono (by omega))).more (by omega)) hl64 ((hA2.out.blw (hb1.mono (by omega))).more (by omega)) x3.out (by decide) (by decide) (by decide) (by decide)).mono ?_
           rintro e w2 ⟨rfl, hk2, _⟩
           rw [h1'.out])
        | fail)
      go_ret
      exact ⟨ret_int hc.out.symm, fin2 hb1 hk2⟩
  · have hc := Lib.hid (chk_sig (t := t) h0)
    go_enter Tryd.func27, Tryd.ntmps27
    go_wp2_with (first
      | (go_at_call 49
         rw [HW.out]
         refine (Check_any As l.length cs l W hS'.out hn ht'.out).mono ?_
         rintro e w1 ⟨rfl, hb1⟩)
      | fail)
    go_ret
    exact ⟨ret_int hc.out.symm, fin hb1⟩
end Go.Proofs.YtmmiclpedehcpaaDoor
namespace Go.Proofs.YtmmiclpedehcpaaDoor
open Go Go.RowKit Go.Shelf Go.Maps
set_option maxRecDepth 100000
section
variable {w : World} {tag : Nat → Nat} {p : BPl} {sy : List Sm} {As : Option Addr} {n cs : Nat} {ts : List Tm}
set_option maxHeartbeats 4000000 in
theorem bWalk_any {m : Bool} {k : FuncId} {fs : Array Value} (h : BankW w tag p sy As n cs ts) (hC : AbsC m k fs p.sx) {t : Tm} {A : Option Addr} {c : Nat} {N : Nat → Prop} (hts : ts.length + t.size ≤ 2147483648) (hsz : t.size ≤ 1048576) (hf : I64 t.fn) (hA : ArgsN w N A t.args) (hN : ∀ g, N g → g < w.heap.size ∧ tag g = 0) :
    Calls Tryd.prog 31 #[.pointer (some ⟨p.sx, 0, none⟩), .agg #[.int .i64 t.fn, .slice A t.args.length c], .func (.func k) fs #[]] w (VisB m w tag p sy As n cs ts t) := by
  obtain ⟨sx, hsx⟩ : ∃ sx, p.sx = sx := ⟨_, rfl⟩
  rw [hsx] at hC ⊢
  obtain ⟨q0, q1, q2⟩ := heap3 w (.cells #[.pointer (some ⟨sx, 0, none⟩)] 68) (.cells #[.int .i64 t.fn, .slice A t.args.length c] 37) (.cells #[.func (.func k) fs #[]] 82)
  obtain ⟨W, hW⟩ : ∃ W, (((w.alloc (.cells #[.pointer (some ⟨sx, 0, none⟩)] 68)).alloc (.cells #[.int .i64 t.fn, .slice A t.args.length c] 37)).alloc (.cells #[.func (.func k) fs #[]] 82)) = W := ⟨_, rfl⟩
  have hB : Below w.heap.size w W := by rw [← hW]; exact (((Below.refl _ _).alloc (Nat.le_refl _) _).alloc (by simp) _).alloc (by simp; omega) _
  have hWs : w.heap.size + 2 < W.heap.size := by rw [← hW]; simp
  rw [hW] at q0 q1 q2
  obtain ⟨W2, hW2⟩ : ∃ W2, W.alloc (.cells #[.func (.func 53) #[] #[.pointer (some ⟨W.heap.size, 0, none⟩), .pointer (some ⟨w.heap.size, 0, none⟩), .pointer (some ⟨w.heap.size + 1 + 1, 0, none⟩)]] 100) = W2 := ⟨_, rfl⟩
  have q3 := heap_alloc_new W (.cells #[.func (.func 53) #[] #[.pointer (some ⟨W.heap.size, 0, none⟩), .pointer (some ⟨w.heap.size, 0, none⟩), .pointer (some ⟨w.heap.size + 1 + 1, 0, none⟩)]] 100)
  have hB2 : Below W.heap.size W W2 := by rw [← hW2]; exact (Below.refl _ _).alloc (Nat.le_refl _) _
  rw [hW2] at q3
  have hBw2 : Below w.heap.size w W2 := hB.trans (hB2.mono hB.size)
  have hX : VisX W2 tag k fs sx W.heap.size w.heap.size (w.heap.size + 1 + 1) := ⟨q3, (hB2.block _ (by omega)).trans q0, (hB2.block _ (by omega)).trans q2, h.hi _ (by omega), h.hi _ (Nat.le_refl _), h.hi _ (by omega)⟩
  have hV := visit_any hC t W2 tag p sy As n cs ts A c N (h.on hBw2) hsx hts hsz hf (hA.keep fun g e => hBw2.block g (hN g e).1) (fun g e => ⟨Nat.lt_of_lt_of_le (hN g e).1 hBw2.size, (hN g e).2⟩) hX
  have HV : Hid (Calls Tryd.prog 53 #[.agg #[.int .i64 t.fn, .slice A t.args.length c], .pointer (some ⟨W.heap.size, 0, none⟩), .pointer (some ⟨w.heap.size, 0, none⟩), .pointer (some ⟨w.heap.size + 1 + 1, 0, none⟩)] W2 (VisB m w tag p sy As n cs ts t)) := Lib.hid (hV.mono (by
    rintro e w' ⟨p', tag', rfl, hB', hG'⟩
    exact ⟨p', tag', rfl, hB', (Grew.below (N := ts.length) hBw2).trans hG' (Nat.le_refl _)⟩))
  have y0 := Boxed.cell (show Boxed W2 W.heap.size _ _ from q3)
  obtain ⟨y1, y2, _, _⟩ := cells_two ((hB2.block _ (by omega)).trans q1)
  have HW := Lib.hid hW
  have HW2 := Lib.hid hW2
  clear hX hV hA hN hC h q0 q1 q2 q3 hW hW2 hB hB2 hBw2
  go_enter Tryd.func31, Tryd.ntmps31
  go_upto_region 1 with (fail)
  rw [HW.out]
  go_upto_region 3 with (fail)
  rw [HW2.out]
  go_wp2_with (first
    | ((with_reducible refine HV.out.mono ?_); go_must (rintro e w2 ⟨p3, tag3, rfl, hB3, hG3⟩; have HP3 := Lib.hid (And.intro hB3 hG3); clear hB3 hG3))
    | fail)
  go_ret
  exact ⟨p3, tag3, rfl, HP3.out.1, HP3.out.2⟩
end
end Go.Proofs.YtmmiclpedehcpaaDoor
namespace Go.Proofs.YtmmiclpedehcpaaDoor
open Go.RowKit
set_option maxRecDepth 100000
end Go.Proofs.YtmmiclpedehcpaaDoor
namespace Go.Proofs.YtmmiclpedehcpaaDoor
open Go.RowKit
set_option maxRecDepth 100000
section
variable {l : List Sm} {f : Int} {xs : List Tm} {top : Bool} {s : Sm}
end
end Go.Proofs.YtmmiclpedehcpaaDoor
namespace Go.Proofs.YtmmiclpedehcpaaDoor
open Go.RowKit
set_option maxRecDepth 100000
theorem fitp_size (l : List Sm) (t : Tm) : ∀ d r, (fitT l t d r).1 = true → (fitT l t d r).2 = r - t.size ∧ (t.size : Int) ≤ r := by
  refine Tm.ind (P := fun t => ∀ d r, (fitT l t d r).1 = true → (fitT l t d r).2 = r - t.size ∧ (t.size : Int) ≤ r) (fun f xs ih d r h => ?_) t
  have key : ∀ ys : List Tm, (∀ t ∈ ys, t ∈ xs) → ∀ d r, 0 ≤ r → (fitL l ys d r).1 = true → (fitL l ys d r).2 = r - sizes ys ∧ (sizes ys : Int) ≤ r := by
    intro ys
    induction ys with
    | nil => intro _ d r hr h; simp [fitL, sizes]; exact hr
    | cons y ys ihy =>
      intro hm d r hr h
      cases hb : (fitT l y d r).1 with
      | false => rw [fitL_no hb] at h; cases h
      | true =>
        rw [fitL_yes hb] at h ⊢
        have e1 := ih y (hm y (by simp)) d r hb
        have e2 := ihy (fun t ht => hm t (by simp [ht])) d _ ((fit_le l y d r hr).2.2 hb) h
        simp only [sizes]
        omega
  by_cases h1 : r - 1 < 0 ∨ 30 < d
  · rw [fit_room h1] at h; cases h
  · by_cases hf : f < 0
    · rw [fit_var h1 hf] at h ⊢
      have := of_decide_eq_true h
      have hx : xs = [] := List.eq_nil_of_length_eq_zero this.2
      subst hx
      simp only [Tm.size, sizes]
      omega
    · cases hs : l[f.toNat]? with
      | none => rw [fit_out h1 hf (by have := List.getElem?_eq_none_iff.1 hs; omega)] at h; cases h
      | some s =>
        by_cases hb : s.arity ≠ xs.length ∨ (s.pred = true ∧ 1 < d)
        · rw [fit_bad h1 hf hs hb] at h; cases h
        · rw [fit_in h1 hf hs hb] at h ⊢
          have := key xs (fun _ h => h) (d + 1) (r - 1) (by omega) h
          simp only [Tm.size]
          omega
end Go.Proofs.YtmmiclpedehcpaaDoor
namespace Go.Proofs.YtmmiclpedehcpaaDoor
open Go Go.RowKit Go.Shelf Go.Maps
set_option maxRecDepth 100000
structure TruT (w : World) (tag : Nat → Nat) : Prop where
  t : tru w
  z : tag 0 = 0
theorem TruT.grew {w w' : World} {tag tag' : Nat → Nat} {p p' : BPl} {N : Nat} (h : TruT w tag) (hg : Grew w w' tag tag' p p' N) : TruT w' tag' := by
  have hl := h.t.2.2.2
  have hb := hg.k.block hl fun e => e h.z
  exact ⟨⟨(World.cell?_of_block hb).trans h.t.1, (World.cell?_of_block hb).trans h.t.2.1, (World.cell?_of_block hb).trans h.t.2.2.1, Nat.lt_of_lt_of_le hl hg.k.size⟩, (hg.t _ hl).trans h.z⟩
def bputT (sy : List Sm) (ts : List Tm) (t : Tm) : List Tm := if chkT sy t = 0 then addT ts t else ts
def bputN (sy : List Sm) (ts : List Tm) (t : Tm) : Nat := if chkT sy t = 0 then idxT (addT ts t) t else 0
def BPutP (w : World) (tag : Nat → Nat) (p : BPl) (sy : List Sm) (As : Option Addr) (n cs : Nat) (ts : List Tm) (t : Tm) (e : Ending) (w' : World) : Prop :=
  ∃ p' tag', e = .returned (.tuple #[.int .i64 ((bputN sy ts t : Nat) : Int), .int .i64 (chkT sy t)]) ∧ BankW w' tag' p' sy As n cs (bputT sy ts t) ∧ Grew w w' tag tag' p p' ts.length
theorem chk_300 {sy : List Sm} {t : Tm} (h : chkT sy t = 0) : t.size ≤ 300 := by
  unfold chkT at h
  split at h
  · omega
  · split at h
    · rename_i h1
      have := (fitp_size sy t 1 300 h1).2
      omega
    · omega
section
variable {w : World} {tag : Nat → Nat} {p : BPl} {sy : List Sm} {As : Option Addr} {n cs : Nat} {ts : List Tm}
set_option maxHeartbeats 4000000 in
theorem bPut_any (h : BankW w tag p sy As n cs ts) (hT : TruT w tag) (hn : n * 32 ≤ 140737488351232) {t : Tm} {A : Option Addr} {c : Nat} {N : Nat → Prop} (hts : ts.length + 300 ≤ 2147483648) (hf : I64 t.fn) (hA : ArgsN w N A t.args) (hN : ∀ g, N g → g < w.heap.size ∧ tag g = 0) :
    Calls Tryd.prog 12 #[.pointer (some ⟨p.bx, 0, none⟩), .agg #[.int .i64 t.fn, .slice A t.args.length c]] w (BPutP w tag p sy As n cs ts t) := by
  obtain ⟨W, hW⟩ : ∃ W, w.alloc (.cells #[.int .i64 t.fn, .slice A t.args.length c] 37) = W := ⟨_, rfl⟩
  have hB : Below w.heap.size w W := by rw [← hW]; exact (Below.refl _ _).alloc (Nat.le_refl _) _
  have q0 := heap_alloc_new w (.cells #[.int .i64 t.fn, .slice A t.args.length c] 37)
  rw [hW] at q0
  have HW := Lib.hid hW
  have HH := Lib.hid h
  have HTr := Lib.hid hT
  have HA := Lib.hid hA
  have HN := Lib.hid hN
  have HM := Lib.hid (bMissing_any (h.on hB))
  have Hq := Lib.hid q0
  have HB := Lib.hid hB
  have hql := (Array.getElem?_eq_some_iff.1 q0).1
  clear hW h hT hA hN q0 hB
  go_enter Tryd.func12, Tryd.ntmps12
  go_upto_region 1 with (fail)
  rw [HW.out]
  go_wp2_with (first
    | (go_at_call 30; (with_reducible refine HM.out.mono ?_); go_must (rintro e w1 ⟨rfl, hb1⟩))
    | fail)
  have hB1 : Below w.heap.size w w1 := HB.out.trans (hb1.mono HB.out.size)
  have hw1 := hb1.size
  have HCk := Lib.hid fun x : Later w1.heap.size w1 => termCheck_any sy t As A n cs c x.w (HH.out.on (hB1.trans (x.h.mono hB1.size))).sig hn (tru_below HTr.out.t (hB1.trans (x.h.mono hB1.size))) hf ((HA.out.keep fun g e => (hB1.trans (x.h.mono hB1.size)).block g (HN.out g e).1).args fun g e => Nat.lt_of_lt_of_le (HN.out g e).1 (hB1.trans (x.h.mono hB1.size)).size)
  have m0 : ∀ x : Later w1.heap.size w1, x.w.cell? ⟨p.bx, 0, none⟩ = some (.pointer (some ⟨p.sx, 0, none⟩)) := fun x => (HH.out.on (hB1.trans (x.h.mono hB1.size))).cells.1
  have m1 : ∀ x : Later w1.heap.size w1, x.w.cell? ⟨p.sx, 0, none⟩ = some (.slice As n cs) := fun x => (HH.out.on (hB1.trans (x.h.mono hB1.size))).cells.2.1
  have m2 : ∀ x : Later w1.heap.size w1, x.w.cell? ⟨w.heap.size, 0, none⟩ = some (.int .i64 t.fn) := fun x => (cells_two ((x.h.block _ (by omega)).trans ((hb1.block _ hql).trans Hq.out))).1
  have m3 : ∀ x : Later w1.heap.size w1, x.w.cell? ⟨w.heap.size, 1, none⟩ = some (.slice A t.args.length c) := fun x => (cells_two ((x.h.block _ (by omega)).trans ((hb1.block _ hql).trans Hq.out))).2.1
  refine wp_region_later w1.heap.size w1 (by kernel_rfl) (by kernel_rfl) (bl_drewN (Below.refl _ _) 1) ?_
  repeat (go_big_quiet_step (first
    | (go_at_call 27; with_reducible refine calls_later _ (Nat.le_refl _) (HCk.out _))
    | fail))
  refine wpQuiet_nil ?_
  rintro _ ⟨z, rfl⟩
  have HM0 := Lib.hid m0
  have HM2 := Lib.hid m2
  have HM3 := Lib.hid m3
  have hz := z.h
  clear m0 m1 m2 m3 HCk
  have hBz : Below w.heap.size w z.w := hB1.trans (hz.mono hB1.size)
  obtain ⟨W2, hW2⟩ : ∃ W2, z.w = W2 := ⟨_, rfl⟩
  have k0 := HM0.out z
  have k2 := HM2.out z
  have k3 := HM3.out z
  rw [hW2] at hBz k0 k2 k3 ⊢
  by_cases hc : chkT sy t = 0
  case neg =>
    have HP : Hid (BPutP w tag p sy As n cs ts t (.returned (.tuple #[.int .i64 0, .int .i64 (chkT sy t)])) W2) := Lib.hid ⟨p, tag, by unfold bputN; rw [if_neg hc]; rfl, by unfold bputT; rw [if_neg hc]; exact HH.out.on hBz, .below hBz⟩
    obtain ⟨ck, hck⟩ : ∃ ck, chkT sy t = ck := ⟨_, rfl⟩
    rw [hck] at hc HP ⊢
    have g0 : (ck != 0) = true := by simpa using hc
    clear hc
    go_wp2
    refine bodyPost_ret (v := .tuple #[.int .i64 0, .int .i64 ck]) (by simp [results, Tryd.results12, go_sem]) rfl ?_
    exact HP.out
  case pos =>
    rw [hc]
    have h300 := chk_300 hc
    obtain ⟨q, hq⟩ : ∃ q, idxT (addT ts t) t = q := ⟨_, rfl⟩
    have hWk : Calls Tryd.prog 31 #[.pointer (some ⟨p.sx, 0, none⟩), .agg #[.int .i64 t.fn, .slice A t.args.length c], .func (.func 32) #[.pointer (some ⟨p.sx, 0, none⟩)] #[]] W2.drew fun e w' => ∃ eb : Nat, e = .returned (.pointer (some ⟨eb, 0, none⟩)) ∧ w'.cell? ⟨eb, 0, none⟩ = some (.int .i64 (q : Int)) ∧ w'.cell? ⟨p.bx, 0, none⟩ = some (.pointer (some ⟨p.sx, 0, none⟩)) ∧ w'.cell? ⟨w.heap.size, 0, none⟩ = some (.int .i64 t.fn) ∧ w'.cell? ⟨w.heap.size, 1, none⟩ = some (.slice A t.args.length c) ∧ BPutP w tag p sy As n cs ts t (.returned (.tuple #[.int .i64 (q : Int), .int .i64 0])) w' := by
      have hD : Below w.heap.size w W2.drew := hBz.drew
      refine (bWalk_any (HH.out.on hD) (absAdd p.sx) (N := N) (by omega) (by omega) hf (HA.out.keep fun g e => hD.block g (HN.out g e).1) (fun g e => ⟨Nat.lt_of_lt_of_le (HN.out g e).1 hD.size, (HN.out g e).2⟩)).mono ?_
      rintro e w' ⟨p3, tag3, rfl, hB3, hG3⟩
      have e1 : tsV true ts t = addT ts t := rfl
      rw [e1] at hB3 ⊢
      have hin := addT_mem t ts
      have hat := idxT_at hin
      rw [hq] at hat
      have hcell := (hB3.entC hat).1
      have hbx := hB3.cells.1
      rw [hG3.bx, hG3.sx] at hbx
      have hbox : W2.drew.heap[w.heap.size]? = some (.cells #[.int .i64 t.fn, .slice A t.args.length c] 37) := by
        have h1 := hz.block w.heap.size (by omega)
        rw [hW2] at h1
        exact h1.trans ((hb1.block _ hql).trans Hq.out)
      have hbk := (hG3.k.block (Array.getElem?_eq_some_iff.1 hbox).1 (fun e => e (HH.out.hi _ (Nat.le_refl _)))).trans hbox
      refine ⟨p3.E q, by rw [ansB_in hin, hq]; rfl, hcell, hbx, (cells_two hbk).1, (cells_two hbk).2.1, p3, tag3, ?_, ?_, (Grew.below (N := ts.length) hD).trans hG3 (Nat.le_refl _)⟩
      · unfold bputN; rw [if_pos hc, hq, hc]
      · unfold bputT; rw [if_pos hc]; exact hB3
    have HWk := Lib.hid hWk
    clear hWk hc HH HTr HA HN HM Hq HB HM0 HM2 HM3
    go_wp2
    go_still_tail 10, (by kernel_rfl)
    change wpList _ _ _ _ _ W2.drew
    obtain ⟨W3, hW3⟩ : ∃ W3, W2.drew = W3 := ⟨_, rfl⟩
    have k0' : W3.cell? ⟨p.bx, 0, none⟩ = some (.pointer (some ⟨p.sx, 0, none⟩)) := by rw [← hW3]; exact k0
    have k2' : W3.cell? ⟨w.heap.size, 0, none⟩ = some (.int .i64 t.fn) := by rw [← hW3]; exact k2
    have k3' : W3.cell? ⟨w.heap.size, 1, none⟩ = some (.slice A t.args.length c) := by rw [← hW3]; exact k3
    rw [hW3] at HWk ⊢
    clear hW3 k0 k2 k3
    go_wp2_with (first
      | (go_at_call 31; (with_reducible refine HWk.out.mono ?_); go_must (rintro e w3 ⟨eb, rfl, n1, n0, n2, n3, hP⟩; have HP := Lib.hid hP; clear hP))
      | fail)
    refine bodyPost_ret (v := .tuple #[.int .i64 (q : Int), .int .i64 0]) (by simp [results, Tryd.results12, go_sem]) rfl ?_
    exact HP.out
end
end Go.Proofs.YtmmiclpedehcpaaDoor
namespace Go.Proofs.YtmmiclpedehcpaaDoor
open Go.RowKit
set_option maxRecDepth 100000
end Go.Proofs.YtmmiclpedehcpaaDoor
namespace Go.Proofs.YtmmiclpedehcpaaDoor
open Go.RowKit Go.Shelf
set_option maxRecDepth 100000
end Go.Proofs.YtmmiclpedehcpaaDoor
namespace Go.Proofs.YtmmiclpedehcpaaDoor
open Go Go.RowKit Go.Shelf Go.Maps
set_option maxRecDepth 100000
section
variable {tag : Nat → Nat} {p : BPl} {sy : List Sm} {As : Option Addr} {n cs : Nat} {ts : List Tm}
end
end Go.Proofs.YtmmiclpedehcpaaDoor
namespace Go.Proofs.YtmmiclpedehcpaaDoor
open Go Go.RowKit Go.Shelf Go.Maps
set_option maxRecDepth 100000
section
variable {w : World} {tag : Nat → Nat} {p : BPl} {sy : List Sm} {As : Option Addr} {n cs : Nat} {ts : List Tm}
end
end Go.Proofs.YtmmiclpedehcpaaDoor
namespace Go.Proofs.YtmmiclpedehcpaaDoor
open Go.RowKit
set_option maxRecDepth 100000
end Go.Proofs.YtmmiclpedehcpaaDoor
namespace Go.Proofs.YtmmiclpedehcpaaDoor
open Go Go.RowKit Go.Shelf Go.Maps
set_option maxRecDepth 100000
end Go.Proofs.YtmmiclpedehcpaaDoor
namespace Go.Proofs.YtmmiclpedehcpaaDoor
open Go Go.RowKit Go.Shelf Go.Maps
set_option maxRecDepth 100000
section
variable {w : World} {tag : Nat → Nat} {p : BPl} {sy : List Sm} {As : Option Addr} {n cs : Nat} {ts : List Tm}
end
end Go.Proofs.YtmmiclpedehcpaaDoor
namespace Go.Proofs.YtmmiclpedehcpaaDoor
open Go.RowKit Go.Shelf
attribute [local go_sem] Oper.semAt_some
set_option maxRecDepth 100000
end Go.Proofs.YtmmiclpedehcpaaDoor
namespace Go.Proofs.YtmmiclpedehcpaaDoor
open Go.RowKit Go.Shelf
attribute [local go_sem] Oper.semAt_some
set_option maxRecDepth 100000
end Go.Proofs.YtmmiclpedehcpaaDoor
namespace Go.Proofs.YtmmiclpedehcpaaDoor
open Go Go.RowKit Go.Shelf Go.Maps
attribute [local go_sem] Oper.semAt_some
set_option maxRecDepth 100000
theorem bkValues_any (A : Option Addr) (n c : Nat) (w : World) : Calls Tryd.prog 61 #[.slice A n c] w fun e w' => e = .returned (.func (.func 70) #[] #[.pointer (some ⟨w.heap.size, 0, none⟩)]) ∧ w' = w.alloc (.cells #[.slice A n c] 38) := by
  go_enter Tryd.func61, Tryd.ntmps61
  go_wp2
  go_ret
  exact ⟨rfl, rfl⟩
set_option maxHeartbeats 2000000 in
theorem bkValues1_seq (m B : Nat) (l : List Int) (v : Value) (w0 : World) (hb : w0.heap[B]? = some (.cells #[v] 38)) (hR : IntsR w0 0 v l) (hl : l.length ≤ 4398046511104) :
    SeqC Fence.wide m Tryd.prog 70 #[.pointer (some ⟨B, 0, none⟩)] (fun x : Int => #[.int .i64 x]) (fun _ _ => True) (fun g => v.ownBlock = some g) (fun xs => xs = l) (fun pre => pre <+: l) w0 := by
  intro lp C J Jx W hW hJ hB hY h0
  have hBl : B < w0.heap.size := (Array.getElem?_eq_some_iff.1 hb).1
  have hbW : W.cell? ⟨B, 0, none⟩ = some v := cells_n' ((hW.block B hBl).trans hb)
  obtain ⟨A, c, rfl⟩ := row_slice hR.row
  have hg : ∀ (i : Nat) (x : Int), l[i]? = some x → ∃ g, A = some ⟨g, 0, none⟩ ∧ g < W.heap.size ∧ W.cell? ⟨g, i, none⟩ = some (.int .i64 x) := fun i x hx => by
    obtain ⟨g, c', h2, h3, h4⟩ := hR.get hx
    injection h2 with h2 _ _
    exact ⟨g, h2, Nat.lt_of_lt_of_le h3 hW.size, (cell_of_heap (hW.block g h3)).trans h4⟩
  have Hg := Lib.hid hg
  clear hR hb hg
  refine callsIn_of_wp Tryd.func70 rfl trivial ?_ rfl
  simp only [Tryd.ntmps70, List.size_toArray, List.length_cons, List.length_nil, Nat.reduceAdd, Nat.reduceSub, Array.replicate_succ, Array.replicate_zero, List.push_toArray, List.append_toArray, List.nil_append, List.cons_append]
  gi_wp2
  gi_loopw [7] (fun i wr => ∃ k : Nat, k ≤ l.length ∧ i = .int .i64 (k : Int) ∧ J (l.take k) wr ∧ Hid (Keeps (fun g => (Value.slice A l.length c).ownBlock = some g) W wr)) (fun i _ => l.length - (intOf i).toNat)
  case atStart => exact ⟨0, Nat.zero_le _, rfl, h0, Lib.hid (Keeps.refl _ _)⟩
  case round =>
    obtain ⟨k, hk, rfl, hJr, HK⟩ := hrel
    by_cases hlt : k < l.length
    · obtain ⟨x, hx⟩ : ∃ x, l[k]? = some x := ⟨_, List.getElem?_eq_getElem hlt⟩
      obtain ⟨g, rfl, hgl, hc⟩ := Hg.out k x hx
      have e0 := (cell_of_heap (HK.out.block g rfl)).trans hc
      have hpre : l.take k ++ [x] <+: l := by
        have h1 : l.take (k + 1) = l.take k ++ [x] := by rw [List.take_add_one, hx]; rfl
        rw [← h1]; exact List.take_prefix _ _
      have Htk := Lib.hid (show l.take k ++ [x] = l.take (k + 1) by rw [List.take_add_one, hx]; rfl)
      obtain ⟨fn, tmps, assign, body, hy', hR⟩ := hY (m - 1) (l.take k) x wr hJr hpre trivial
      have Hpre := Lib.hid hpre
      clear hx hc hpre
      gi_wp2
      refine ⟨(fun h => by cases h), hR.mono ?_⟩
      rintro e W3 (⟨rfl, hJ3, hst⟩ | ⟨rfl, hJx3⟩)
      · gi_wp2
        go_roundw
        case rel => exact ⟨k + 1, by omega, by go_num, by rw [← Htk.out]; exact hJ3, Lib.hid (HK.out.trans (hst.keeps.mono fun g e => .inl e))⟩
        case measure => simp [intOf]; omega
      · gi_wp2
        refine bodyPost_ret (results_none rfl _ _ _) rfl ?_
        exact ⟨⟨_, rfl⟩, .inr ⟨_, Hpre.out, hJx3⟩⟩
    · obtain rfl : k = l.length := by omega
      rw [List.take_length] at hJr
      gi_wp2
      go_end0
      exact ⟨⟨_, rfl⟩, .inl ⟨_, rfl, hJr⟩⟩
where
  cells_n' {W : World} {b : Nat} {v : Value} {t : TypeId} (h : W.heap[b]? = some (.cells #[v] t)) : W.cell? ⟨b, 0, none⟩ = some v := by simp [World.cell?, h]
def UsersP (l : List Int) (w : World) (e : Ending) (w' : World) : Prop := ∃ (B : Nat) (v : Value), e = .returned (.func (.func 70) #[] #[.pointer (some ⟨B, 0, none⟩)]) ∧ w'.heap[B]? = some (.cells #[v] 38) ∧ IntsR w' w.heap.size v l ∧ w.heap.size ≤ B ∧ v.ownBlock ≠ some B ∧ Below w.heap.size w w'
theorem bUsers_nil (i : Int) (w : World) : Calls Tryd.prog 47 #[.pointer none, .int .i64 i] w (UsersP [] w) := by
  have C := Lib.hid (bEntry_nil i w)
  have HV : Hid (∀ x, Below w.heap.size w x → Calls Tryd.prog 61 #[.slice none 0 0] x fun e w' => ∃ B, e = .returned (.func (.func 70) #[] #[.pointer (some ⟨B, 0, none⟩)]) ∧ UsersP [] w (.returned (.func (.func 70) #[] #[.pointer (some ⟨B, 0, none⟩)])) w') := Lib.hid fun x hx => (bkValues_any none 0 0 x).mono (by
    rintro e w' ⟨rfl, rfl⟩
    exact ⟨_, rfl, _, .slice none 0 0, rfl, heap_alloc_new x _, ⟨⟨rfl, .inl ⟨rfl, rfl⟩⟩, fun x hx => by simp at hx⟩, hx.size, by simp [Value.ownBlock], hx.alloc hx.size _⟩)
  go_enter Tryd.func47, Tryd.ntmps47
  go_wp2_with (first
    | (go_at_call 45; (with_reducible refine C.out.mono ?_); go_must (rintro e w1 ⟨rfl, hb1⟩; have HV1 := Lib.hid (HV.out w1 hb1)))
    | (go_at_call 61; (with_reducible refine HV1.out.mono ?_); go_must (rintro e w2 ⟨B, rfl, hU⟩; have HU := Lib.hid hU; clear hU))
    | fail)
  go_ret
  exact HU.out
section
variable {w : World} {tag : Nat → Nat} {p : BPl} {sy : List Sm} {As : Option Addr} {n cs : Nat} {ts : List Tm}
end
end Go.Proofs.YtmmiclpedehcpaaDoor
namespace Go.Proofs.YtmmiclpedehcpaaDoor
open Go.RowKit
theorem Own.emptyB_ (w : World) : Own (w.alloc (.cells #[] 67)) w.heap.size (.slice (some ⟨w.heap.size, 0, none⟩) 0 0) [] :=
  ⟨⟨rfl, .inr ⟨w.heap.size, 0, #[], rfl, Nat.le_refl _, heap_alloc_new w _, Nat.le_refl _, Nat.zero_le _, rfl, rfl⟩⟩, fun x hx => by simp at hx⟩
def SgClonePost (l : List Sm) (w : World) (e : Ending) (w' : World) : Prop := ∃ A c, e = .returned (.slice A l.length c) ∧ Own w' w.heap.size (.slice A l.length c) l ∧ Below w.heap.size w w'
set_option maxHeartbeats 400000 in
theorem sgClone_any (A : Option Addr) (n c : Nat) (l : List Sm) (w : World) (h : Syms w w.heap.size A n l) (hn : n * 32 ≤ 140737488351232) :
    Calls Tryd.prog 28 #[.slice A n c] w (SgClonePost l w) := by
  obtain rfl : l.length = n := h.len
  have hnil := fun (w : World) (a : Option Addr) (n c : Nat) => Lib.run_eql_slice_nil (P := Tryd.prog) w 22 67 a n c 0 0 Tryd.underlying22
  rcases A with _ | ad
  · have h0 : l = [] := by
      rcases Nat.eq_zero_or_pos l.length with h0 | h0
      · exact List.eq_nil_of_length_eq_zero h0
      · obtain ⟨_, _, e, _⟩ := h.ad h0
        cases e
    subst h0
    go_enter Tryd.func28, Tryd.ntmps28
    go_wp2
    go_ret
    exact ⟨none, 0, rfl, Own.nil_ _ _, Below.refl _ _⟩
  · go_enter Tryd.func28, Tryd.ntmps28
    go_wp2_with (first
    | (at_builtin
       refine wpList_append_syms rfl _ _ rfl (.slice (some ⟨w.heap.size, 0, none⟩) 0 0) [] rfl w.heap.size (Own.emptyB_ w) (some ad) l.length c w.heap.size l rfl (h.below ((Below.refl _ _).alloc (Nat.le_refl _) _)) (by simp; omega) (by simp) ?_
       intro A' c' w1 hown1 hg1
       have hB1 := ((Below.refl w.heap.size w).alloc (Nat.le_refl _) _).grown hg1 (by simp) (fun k hk => by simp [Value.ownBlock] at hk; omega)
       clear hg1)
    | fail)
    go_ret
    simp only [List.length_nil, Nat.zero_add, List.nil_append] at hown1
    exact ⟨A', c', rfl, hown1, hB1⟩
end Go.Proofs.YtmmiclpedehcpaaDoor
namespace Go.Proofs.YtmmiclpedehcpaaDoor
open Go Go.RowKit Go.Shelf Go.Maps
set_option maxRecDepth 100000
def newP (b : Nat) : BPl := ⟨b + 3, b + 2, b + 1, .slice none 0 0, fun _ => 0, fun _ => .slice none 0 0, fun _ => .slice none 0 0⟩
def newTag (b : Nat) (A : Option Addr) : Nat → Nat := fun g => if g = b + 3 then 4 else if g = b + 2 then 1 else if g = b + 1 then 2 else if (Value.slice A 0 0).ownBlock = some g then 4 else 0
def NewP (w : World) (sy : List Sm) (n : Nat) (e : Ending) (w' : World) : Prop := Below w.heap.size w w' ∧
  ((chkT sy (.node 0 []) = 0 ∧ ∃ (b : Nat) (A : Option Addr) (c : Nat) (tag : Nat → Nat), e = .returned (.tuple #[.pointer (some ⟨(newP b).bx, 0, none⟩), .int .i64 0]) ∧ BankW w' tag (newP b) sy A n c [] ∧ ∀ g, g < w.heap.size → tag g = 0) ∨
   (chkT sy (.node 0 []) ≠ 0 ∧ e = .returned (.tuple #[.pointer none, .int .i64 (chkT sy (.node 0 []))])))
theorem new_bank {w w2 : World} {sy : List Sm} {A : Option Addr} {c : Nat} (hO : Own w2 w.heap.size (.slice A sy.length c) sy) (hw : w.heap.size ≤ w2.heap.size) :
    ∃ tag, BankW ((((w2.alloc (.cells #[.slice A sy.length c] 24)).alloc (.map #[] 0)).alloc (.cells #[.slice A sy.length c, .slice none 0 0, .map (some (w2.heap.size + 1))] 72)).alloc (.cells #[.pointer (some ⟨w2.heap.size + 1 + 1, 0, none⟩)] 74)) tag (newP w2.heap.size) sy A sy.length c [] ∧ ∀ g, g < w.heap.size → tag g = 0 := by
  obtain ⟨W1, hW1⟩ : ∃ W1, w2.alloc (.cells #[.slice A sy.length c] 24) = W1 := ⟨_, rfl⟩
  obtain ⟨W2, hW2⟩ : ∃ W2, W1.alloc (.map #[] 0) = W2 := ⟨_, rfl⟩
  obtain ⟨W3, hW3⟩ : ∃ W3, W2.alloc (.cells #[.slice A sy.length c, .slice none 0 0, .map (some (w2.heap.size + 1))] 72) = W3 := ⟨_, rfl⟩
  obtain ⟨W4, hW4⟩ : ∃ W4, W3.alloc (.cells #[.pointer (some ⟨w2.heap.size + 1 + 1, 0, none⟩)] 74) = W4 := ⟨_, rfl⟩
  rw [hW1, hW2, hW3, hW4]
  have s1 : W1.heap.size = w2.heap.size + 1 := by rw [← hW1]; simp
  have s2 : W2.heap.size = w2.heap.size + 2 := by rw [← hW2]; simp; omega
  have s3 : W3.heap.size = w2.heap.size + 3 := by rw [← hW3]; simp; omega
  have s4 : W4.heap.size = w2.heap.size + 4 := by rw [← hW4]; simp; omega
  have k34 : ∀ g, g < W3.heap.size → W4.heap[g]? = W3.heap[g]? := fun g h => by rw [← hW4]; exact Below.heap_alloc W3 _ g h
  have k23 : ∀ g, g < W2.heap.size → W3.heap[g]? = W2.heap[g]? := fun g h => by rw [← hW3]; exact Below.heap_alloc W2 _ g h
  have k12 : ∀ g, g < W1.heap.size → W2.heap[g]? = W1.heap[g]? := fun g h => by rw [← hW2]; exact Below.heap_alloc W1 _ g h
  have k01 : ∀ g, g < w2.heap.size → W1.heap[g]? = w2.heap[g]? := fun g h => by rw [← hW1]; exact Below.heap_alloc w2 _ g h
  have hB : Below w2.heap.size w2 W4 := by
    rw [← hW4, ← hW3, ← hW2, ← hW1]
    exact ((((Below.refl _ _).alloc (Nat.le_refl _) _).alloc (by simp) _).alloc (by simp; omega) _).alloc (by simp; omega) _
  have hsg : ∀ g, (Value.slice A 0 0).ownBlock = some g → (Value.slice A sy.length c).ownBlock = some g := fun g e => by cases A with | none => exact e | some a => exact e
  have hsl : ∀ g, (Value.slice A 0 0).ownBlock = some g → w.heap.size ≤ g ∧ g < w2.heap.size := fun g e => by
    have h1 := hO.row
    exact row_lt h1 g (hsg g e)
  refine ⟨newTag w2.heap.size A, ⟨?_, ?_, ?_, ?_, ?_, ?_, fun i t e => by simp at e, fun i t e => by simp at e, fun i h => by simp at h, BOk.nil, fun t h => by simp at h, ?_, ?_, ?_, fun g e => by simp [newP, Value.ownBlock] at e, fun i h => by simp at h, fun i g h => by simp at h, fun i g h => by simp at h, fun g hg => ?_⟩, fun g hg => ?_⟩
  · show W4.heap[w2.heap.size + 3]? = _
    rw [← s3, ← hW4]; exact heap_alloc_new W3 _
  · show W4.heap[w2.heap.size + 2]? = _
    rw [k34 _ (by omega), ← s2, ← hW3]; exact heap_alloc_new W2 _
  · exact (hO.syms.on hB)
  · intro h0 g off sp e
    subst e
    show newTag w2.heap.size _ g = 4
    have : (Value.slice (some ⟨g, off, sp⟩) 0 0).ownBlock = some g := by
      rcases hO.row.2 with ⟨e, h1⟩ | ⟨g', cap, cur, e, _⟩
      · injection e with e _ _; cases e
      · injection e with e _ _; injection e with e; injection e with e1 e2 e3; subst e1; subst e2; subst e3; rfl
    have h5 := hsl g this
    unfold newTag
    rw [if_neg (by omega), if_neg (by omega), if_neg (by omega), if_pos this]
  · have h1 := (BMap.made W1).kept (w' := W4) (by
      rw [k34 _ (by omega), k23 _ (by omega), hW2])
    rw [s1] at h1
    exact h1
  · exact ⟨rfl, .inl ⟨rfl, rfl⟩⟩
  · show newTag w2.heap.size A (w2.heap.size + 3) = 4
    unfold newTag; rw [if_pos rfl]
  · show newTag w2.heap.size A (w2.heap.size + 2) = 1
    unfold newTag; rw [if_neg (by omega), if_pos rfl]
  · show newTag w2.heap.size A (w2.heap.size + 1) = 2
    unfold newTag; rw [if_neg (by omega), if_neg (by omega), if_pos rfl]
  · unfold newTag
    rw [if_neg (by omega), if_neg (by omega), if_neg (by omega), if_neg (fun e => by have := hsl g e; omega)]
  · unfold newTag
    rw [if_neg (by omega), if_neg (by omega), if_neg (by omega), if_neg (fun e => by have := hsl g e; omega)]
section
variable {w : World} {sy : List Sm} {As : Option Addr} {n cs : Nat}
set_option maxHeartbeats 4000000 in
theorem bNew_any (hS : Syms w w.heap.size As n sy) (hn : n * 32 ≤ 140737488351232) (ht : tru w) : Calls Tryd.prog 8 #[.agg #[.slice As n cs]] w (NewP w sy n) := by
  obtain rfl : sy.length = n := hS.len
  obtain ⟨W, hW⟩ : ∃ W, w.alloc (.cells #[.slice As sy.length cs] 24) = W := ⟨_, rfl⟩
  have hB : Below w.heap.size w W := by rw [← hW]; exact (Below.refl _ _).alloc (Nat.le_refl _) _
  have q0 := heap_alloc_new w (.cells #[.slice As sy.length cs] 24)
  rw [hW] at q0
  have hql := (Array.getElem?_eq_some_iff.1 q0).1
  have x0 := (cells_one q0).1
  have HX : Hid (∀ x, Below W.heap.size W x → x.cell? ⟨w.heap.size, 0, none⟩ = some (.slice As sy.length cs)) := Lib.hid fun x hx => (cells_one ((hx.block _ hql).trans q0)).1
  have HCk := Lib.hid (show Calls Tryd.prog 27 #[.agg #[.slice As sy.length cs], .agg #[.int .i64 0, .slice none 0 0]] W _ from termCheck_any sy (.node 0 []) As none sy.length cs 0 W (hS.on hB) hn (tru_below ht hB) ⟨by decide, by decide⟩ (.nil _))
  have HCl : Hid (∀ x, Below w.heap.size w x → Calls Tryd.prog 28 #[.slice As sy.length cs] x (SgClonePost sy x)) := Lib.hid fun x hx => sgClone_any As sy.length cs sy x (hS.on hx) hn
  have HW := Lib.hid hW
  clear hW q0 hS ht
  by_cases hc : chkT sy (.node 0 []) = 0
  case neg =>
    have Hc := Lib.hid hc
    obtain ⟨ck, hck⟩ : ∃ ck, chkT sy (.node 0 []) = ck := ⟨_, rfl⟩
    rw [hck] at hc HCk
    have g0 : (ck != 0) = true := by simpa using hc
    have Hck := Lib.hid hck
    clear hc HCl hck
    go_enter Tryd.func8, Tryd.ntmps8
    go_upto_region 1 with (fail)
    rw [HW.out]
    go_wp2_with (first
      | (go_at_call 27; (with_reducible refine HCk.out.mono ?_); go_must (rintro e w1 ⟨rfl, hb1⟩))
      | fail)
    refine bodyPost_ret (v := .tuple #[.pointer none, .int .i64 ck]) (by simp [results, Tryd.results8, go_sem]) rfl ?_
    exact ⟨hB.trans (hb1.mono hB.size), .inr ⟨Hc.out, by rw [Hck.out]⟩⟩
  case pos =>
    have Hc := Lib.hid hc
    rw [hc] at HCk
    have hmm : ∀ w : World, (Instr.makeMap 69 none).run Tryd.prog w = .ok (.map (some w.heap.size)) (w.alloc (.map #[] 0)) := fun _ => run_makeMap_plain (w := _) _
    clear hc
    go_enter Tryd.func8, Tryd.ntmps8
    go_upto_region 1 with (fail)
    rw [HW.out]
    go_wp2_with (first
      | (go_at_call 27; (with_reducible refine HCk.out.mono ?_); go_must (rintro e w1 ⟨rfl, hb1⟩; have x1 := HX.out w1 hb1; have hB1 := hB.trans (hb1.mono hB.size); have HCl1 := Lib.hid (HCl.out w1 hB1)))
      | (go_at_call 28; (with_reducible refine HCl1.out.mono ?_); go_must (rintro e w2 ⟨A2, c2, rfl, hO2, hb2⟩; have HO2 := Lib.hid hO2; clear hO2))
      | fail)
    have hB2 := hB1.trans (hb2.mono hB1.size)
    obtain ⟨tag, hBk, htg⟩ := new_bank (w := w1) HO2.out hb2.size
    have hs2 := hB2.size
    refine bodyPost_ret (v := .tuple #[.pointer (some ⟨w2.heap.size + 1 + 1 + 1, 0, none⟩), .int .i64 0]) (by simp [results, Tryd.results8, go_sem]) rfl ?_
    refine ⟨?_, .inl ⟨Hc.out, w2.heap.size, A2, c2, tag, rfl, ?_, fun g hg => htg g (by have := hB1.size; omega)⟩⟩
    · exact ((((hB2.alloc hs2 _).alloc (by simp; omega) _).alloc (by simp; omega) _).alloc (by simp; omega) _)
    · simpa using hBk
end
end Go.Proofs.YtmmiclpedehcpaaDoor
namespace Go.Proofs.YtmmiclpedehcpaaDoor
open Go Go.RowKit Go.Shelf Go.Maps
attribute [local go_sem] Oper.semAt_some
set_option maxRecDepth 100000
structure UsI (w : World) (B : Nat) (W : World) (k : List Int) : Prop where
  cell : ∃ v, Boxed W w.heap.size 38 v ∧ W.ownsRow B 3 1 v k.length (k.map (Value.int .i64))
  below : Below w.heap.size w W
  sz : B ≤ W.heap.size
def UsC (h : Nat) (W : World) (g : Nat) : Prop := g < h + 1 ∨ ∃ v, Boxed W h 38 v ∧ v.ownBlock = some g
theorem us_boxed_eq {W : World} {B : Nat} {t : TypeId} {v u : Value} (h : Boxed W B t v) (k : Boxed W B t u) : v = u := by
  have h' : W.heap[B]? = some (.cells #[v] t (0, 0)) := h
  have k' : W.heap[B]? = some (.cells #[u] t (0, 0)) := k
  rw [h'] at k'
  injection k' with k'
  injection k' with k'
  simpa using k'
theorem us_frame (w : World) (B : Nat) (R : List Int → Prop) : FrameC (UsC w.heap.size) (fun (pre : List Int) W => UsI w B W pre ∧ R pre) := by
  rintro s A W ⟨⟨⟨v, h1, h2⟩, h3, h5⟩, h4⟩ hk
  have e1 : Boxed W w.heap.size 38 v := (hk.block _ (.inl (by omega))).trans h1
  refine ⟨⟨⟨⟨v, e1, row_keep h2 fun g e => hk.block g (.inr ⟨v, h1, e⟩)⟩, h3.trans (hk.below fun g e => .inl (by omega)), Nat.le_trans h5 hk.size⟩, h4⟩, fun g e => ?_⟩
  rcases e with e | ⟨u, hu, e⟩
  · exact .inl e
  · obtain rfl := us_boxed_eq e1 hu
    exact .inr ⟨v, h1, e⟩
theorem us_bound (w : World) (B : Nat) (R : List Int → Prop) : BoundC (UsC w.heap.size) (fun (pre : List Int) W => UsI w B W pre ∧ R pre) := by
  rintro s A ⟨⟨⟨v, h1, h2⟩, h3, _⟩, h4⟩ g e
  have hlt := h1.lt
  rcases e with e | ⟨u, hu, e⟩
  · omega
  · obtain rfl := us_boxed_eq h1 hu
    exact (row_lt h2 g e).2
theorem us_step {w W w2 X : World} {B : Nat} {k : List Int} {z : Int} {v v' : Value} {N : Nat → Prop} (h : UsI w B W k) (hv : Boxed W w.heap.size 38 v) (hrow : W.ownsRow B 3 1 v k.length (k.map (Value.int .i64))) (hX : Below W.heap.size W X) (hB : w.heap.size + 1 ≤ B) (hN : ∀ g, N g → g < B ∧ g ≠ w.heap.size)
    (hown : w2.ownsRow B 3 1 v' (k.length + 1) (k.map (Value.int .i64) ++ [.int .i64 z])) (hgr : X.grownBy w2 v.ownBlock) (hat : v'.ownBlock = v.ownBlock ∨ v'.ownBlock = some X.heap.size) :
    UsI w B (w2.setCell ⟨w.heap.size, 0, none⟩ v') (k ++ [z]) ∧ Stp N (UsC w.heap.size) W (w2.setCell ⟨w.heap.size, 0, none⟩ v') := by
  have hBW := h.sz
  have hlt := row_lt hrow
  have hvl := hv.lt
  have hs1 := hX.size
  have K1 : Keeps (fun g => g < W.heap.size ∧ some g ≠ v.ownBlock) W w2 := ((Keeps.of_below hX).mono fun g e => e.1).trans ((Keeps.of_grown hgr).mono fun g e => ⟨by omega, e.2⟩)
  have hs2 := K1.size
  have e1 : Boxed w2 w.heap.size 38 v := (K1.block _ ⟨by omega, fun e => by have := (hlt _ e.symm).1; omega⟩).trans hv
  have e2 := Boxed.set v' e1
  have hW0 := h.below.size
  refine ⟨⟨⟨v', e2, ?_⟩, (h.below.trans (K1.below fun g e => ⟨by omega, fun e' => by have := (hlt _ e'.symm).1; omega⟩)).setCell (Nat.le_refl _) _, by simp; omega⟩, ⟨?_, ?_⟩⟩
  · rw [List.length_append, List.map_append]
    refine row_keep hown fun g e => heap_setCell_other _ _ _ _ ?_
    have := (row_lt hown g e).1
    show g ≠ w.heap.size
    omega
  · refine (K1.mono fun g hg => ?_).trans ((Keeps.set w2 ⟨w.heap.size, 0, none⟩ v').mono fun g hg => ?_)
    · rcases hg with hg | hg
      · have hg' := hN g hg
        exact ⟨by omega, fun e => by have := (hlt _ e.symm).1; omega⟩
      · exact ⟨hg.1, fun e => hg.2 (.inr ⟨v, hv, e.symm⟩)⟩
    · show g ≠ w.heap.size
      rcases hg with hg | hg
      · exact (hN g hg).2
      · exact fun e => hg.2 (.inl (by omega))
  · rintro g (e | ⟨u, hu, e⟩)
    · exact .inl (.inl e)
    · obtain rfl := us_boxed_eq e2 hu
      rcases hat with e3 | e3
      · exact .inl (.inr ⟨v, hv, e3 ▸ e⟩)
      · rw [e3] at e
        injection e with e
        exact .inr (by omega)
theorem run_eql_seqI (f : Fn) (xs ys : Array Value) (w : World) : (binOp .eql 92 (.func f xs ys) .nilFunc).run Tryd.prog w = .ok (.bool false) w := by
  have h : ∀ d, (Op.equalIn (d + 1) 92 (.func f xs ys) .nilFunc).run Tryd.prog w = .ok false w := fun d => by
    simp [Op.equalIn, run_underlying Tryd.underlying92]
  simp only [binOp]
  simp [Op.equal, Op.maxDepth, h 9999]
def usO (l : List Int) (lv : Int) : List Int := if 1 ≤ lv ∧ lv ≤ (l.length : Int) then l.take lv.toNat else l
set_option maxHeartbeats 4000000 in
theorem users_any (bp : Value) (i lv : Int) (l : List Int) (w : World) (h64 : ∀ x ∈ l, I64 x) (hl : l.length ≤ 4398046511104)
    (hU : ∀ x, Below w.heap.size w x → Calls Tryd.prog 47 #[bp, .int .i64 i] x (UsersP l x)) :
    Calls Tryd.prog 25 #[bp, .int .i64 i, .int .i64 lv] w fun e w' => ∃ v, e = .returned v ∧ IntsR w' w.heap.size v (usO l lv) ∧ Below w.heap.size w w' := by
  obtain ⟨i0, hi, hz0, hz1, hz2⟩ := info_parts info_int
  obtain ⟨W0, hW0⟩ : ∃ W0, w.alloc (.cells #[.int .i64 lv] 3) = W0 := ⟨_, rfl⟩
  have hB0 : Below w.heap.size w W0 := by rw [← hW0]; exact (Below.refl _ _).alloc (Nat.le_refl _) _
  have q0 := heap_alloc_new w (.cells #[.int .i64 lv] 3)
  rw [hW0] at q0
  have hs0 : W0.heap.size = w.heap.size + 1 := by rw [← hW0]; simp
  have p0 := heap_alloc_new W0 (.cells #[.slice none 0 0] 38)
  obtain ⟨W, hW⟩ : ∃ W, W0.alloc (.cells #[.slice none 0 0] 38) = W := ⟨_, rfl⟩
  have hB : Below W0.heap.size W0 W := by rw [← hW]; exact (Below.refl _ _).alloc (Nat.le_refl _) _
  rw [hW] at p0
  have HU := Lib.hid (hU W (hB0.trans (hB.mono hB0.size)))
  have hrs := run_eql_seqI
  have hW' : (w.alloc (.cells #[.int .i64 lv] 3)).alloc (.cells #[.slice none 0 0] 38) = W := by rw [hW0, hW]
  have HW := Lib.hid hW'
  clear hW hW0 hU hW'
  refine (callsIn_wide (n := 3)).1 (callsIn_of_wp_marks Tryd.func25 rfl trivial ?_ rfl)
  simp only [Tryd.ntmps25, List.size_toArray, List.length_cons, List.length_nil, Nat.reduceAdd, Nat.reduceSub, Array.replicate_succ, Array.replicate_zero, List.push_toArray, List.append_toArray, List.nil_append, List.cons_append]
  refine wpIn_wide.2 ?_
  go_upto_region 2 with (fail)
  rw [HW.out]
  go_wp2_with (first
    | (go_at_call 47; (with_reducible refine HU.out.mono ?_); go_must (rintro e w1 ⟨B, v, rfl, hb1, hI1, hB1, hne1, hbw1⟩; have hI := Lib.hid hI1; clear hI1))
    | fail)
  have hsW := hB.size
  have hws : W0.heap.size + 1 ≤ W.heap.size := (Array.getElem?_eq_some_iff.1 p0).1
  have hs1 := hbw1.size
  have hI0 : IntsR w1 0 v l := ⟨⟨hI.out.row.1, by
    rcases hI.out.row.2 with h0 | ⟨g, cap, cur, e, h1, hrest⟩
    · exact .inl h0
    · exact .inr ⟨g, cap, cur, e, Nat.zero_le _, hrest⟩⟩, hI.out.i64⟩
  have hNr := row_lt hI.out.row
  have hbx1 : Boxed w1 W0.heap.size 38 (.slice none 0 0) := (hbw1.block _ (by omega)).trans p0
  have hB1 : Below W0.heap.size W0 w1 := hB.trans (hbw1.mono hsW)
  have HP0 := Lib.hid q0
  have hfr : ∀ c, FrameC (UsC W0.heap.size) (fun (pre : List Int) X => c = Code.exit 0 ∧ UsI W0 w1.heap.size X pre ∧ (pre.length : Int) = lv ∧ 1 ≤ lv) := fun c s A X hJ hk => by
    obtain ⟨hJ1, hJ2, hJ3⟩ := hJ
    obtain ⟨⟨h1, _⟩, h2⟩ := us_frame W0 w1.heap.size (fun _ => True) s A X ⟨hJ2, trivial⟩ hk
    exact ⟨⟨hJ1, h1, hJ3⟩, h2⟩
  have HI := Lib.hid hI0
  rw [← hs0]
  clear p0
  refine (wpIn_wide (n := 3)).1 ?_
  refine range_law (F := Fence.wide) (n := 3) (w0 := w1) rfl rfl (gf := 70) (lb := #[.pointer (some ⟨B, 0, none⟩)]) rfl trivial (enters_of Tryd.func70 (by kernel_rfl) rfl) (fun m => bkValues1_seq m B l v w1 hb1 hI0 hl) (Below.refl _ _) (fun _ => rfl) (fun g e => (hNr g e).2)
    (UsC W0.heap.size) (fun pre X => UsI W0 w1.heap.size X pre ∧ (lv < 1 ∨ (pre.length : Int) < lv)) (fun c pre X => c = Code.exit 0 ∧ UsI W0 w1.heap.size X pre ∧ (pre.length : Int) = lv ∧ 1 ≤ lv)
    (us_frame W0 w1.heap.size _) (us_bound W0 w1.heap.size _) hfr ⟨⟨⟨.slice none 0 0, hbx1, World.ownsRow_nil w1 _ _ _⟩, hB1, Nat.le_refl _⟩, by simp; omega⟩
    (fun pre x a' X => (UsI W0 w1.heap.size X pre ∧ (lv < 1 ∨ (pre.length : Int) < lv)) ∧ a' = { tmps := #[bp, .int .i64 i, .int .i64 lv, undef, undef, .pointer (some ⟨w.heap.size, 0, none⟩), .slice none 0 0, .pointer (some ⟨W0.heap.size, 0, none⟩), .func (.func 70) #[] #[.pointer (some ⟨B, 0, none⟩)], .int .i64 x, bp, .int .i64 i, .func (.func 70) #[] #[.pointer (some ⟨B, 0, none⟩)], .func (.func 70) #[] #[.pointer (some ⟨B, 0, none⟩)], .bool false, .func (.func 70) #[] #[.pointer (some ⟨B, 0, none⟩)], .int .i64 x, undef, undef, undef, undef, undef, undef, undef, undef, undef], defers := [] }) ?hAx ?assign ?body ?done ?stop
  case hAx =>
    rintro pre x a' X l r o ⟨h1, rfl⟩ hl hr hn
    have hK := Keeps.put X l o
    obtain ⟨h5, h6⟩ := us_frame W0 w1.heap.size (fun pre => lv < 1 ∨ (pre.length : Int) < lv) pre X (X.putObj l o) h1 (hK.mono fun g e e' => hn (e' ▸ e))
    exact ⟨h6, h5, rfl⟩
  case assign =>
    intro l m pre x X K hI _ hfx hK
    gi_wp2
    exact hK _ _ (Stp.refl _ _ _) ⟨hI, by simp⟩
  case body =>
    rintro lp m pre x a' X hsp ⟨⟨h1, hR⟩, rfl⟩
    obtain ⟨vr, hv, hrow⟩ := h1.cell
    have hc := Boxed.cell hv
    have hfz := Boxed.frozen hv
    obtain ⟨A, c, rfl⟩ := row_slice hrow
    have hpl : pre.length + 1 ≤ l.length := by have := hsp.length_le; simpa using this
    have hrl := row_lt hrow
    have hvl := hv.lt
    have hsz := h1.sz
    have hlv : X.cell? ⟨w.heap.size, 0, none⟩ = some (.int .i64 lv) := (cells_one ((h1.below.block _ (by omega)).trans HP0.out)).1
    have hwX : w.heap.size < X.heap.size := by omega
    have hne0 : w.heap.size ≠ W0.heap.size := by omega
    have Hrow := Lib.hid hrow
    have H1 := Lib.hid h1
    have Hv := Lib.hid hv
    have HQ0 := Lib.hid ((h1.below.block _ (by omega)).trans HP0.out)
    have HNr := Lib.hid hNr
    have hW01 : W0.heap.size + 1 ≤ w1.heap.size := by omega
    have hwl1 : w.heap.size < w1.heap.size := by omega
    clear hrow h1 hv hI0 hfr hbx1 hNr hrs hs0 q0
    by_cases he : ((pre.length : Int) + 1) = lv
    case pos =>
      have hd : decide ((pre.length : Int) + 1 = lv) = true := decide_eq_true he
      gi_wp2_with (first
        | (gi_at_builtin
           go_must (
           refine wpListIn_append_at _ rfl _ _ 38 rfl w1.heap.size 3 i0 (.int .i64 0) 1 8 Tryd.underlying38 hi hz0 hz1 hz2 rfl (by decide) (.slice A pre.length c) pre.length _ rfl (row_keep Hrow.out fun g e => Below.heap_alloc X _ g (hrl g e).2) ⟨X.heap.size, 0, none⟩ 1 1 [.int .i64 x] rfl rfl (cell_one_new _ _ _) (by simp [Value.oneCell']) (by unfold maxLen; omega) (by omega) (by simp; omega) ?_
           intro v5 w5 hown5 hgr5 hat5
           have hbx5 : Boxed w5 W0.heap.size 38 (.slice A pre.length c) := (hgr5.block _ (by simp; omega) (fun e => by have := (hrl _ e.symm).1; omega)).trans ((Below.heap_alloc X _ _ hvl).trans Hv.out)
           have hlv5 : w5.cell? ⟨w.heap.size, 0, none⟩ = some (.int .i64 lv) := (cells_one ((hgr5.block _ (by simp; omega) (fun e => by have := (hrl _ e.symm).1; omega)).trans ((Below.heap_alloc X _ _ hwX).trans HQ0.out))).1
           have hfz5 := hbx5.frozen
           have hc5 := hbx5.cell
           obtain ⟨A5, c5, hv5⟩ := row_slice hown5
           subst hv5
           have Hown5 := Lib.hid hown5
           have Hgr5 := Lib.hid hgr5
           have Hat5 := Lib.hid hat5
           clear hown5 hgr5 hat5 hbx5))
        | gi_in)
      have hst := us_step (N := fun g => v.ownBlock = some g) H1.out Hv.out Hrow.out ((Below.refl _ _).alloc (Nat.le_refl _) _) hW01 (fun g e => ⟨(HNr.out g e).2, by have := (HNr.out g e).1; omega⟩) Hown5.out Hgr5.out Hat5.out
      exact ⟨⟨rfl, hst.1, by simp; omega, by omega⟩, hst.2⟩
    case neg =>
      have hd : decide ((pre.length : Int) + 1 = lv) = false := decide_eq_false he
      gi_wp2_with (first
        | (gi_at_builtin
           go_must (
           refine wpListIn_append_at _ rfl _ _ 38 rfl w1.heap.size 3 i0 (.int .i64 0) 1 8 Tryd.underlying38 hi hz0 hz1 hz2 rfl (by decide) (.slice A pre.length c) pre.length _ rfl (row_keep Hrow.out fun g e => Below.heap_alloc X _ g (hrl g e).2) ⟨X.heap.size, 0, none⟩ 1 1 [.int .i64 x] rfl rfl (cell_one_new _ _ _) (by simp [Value.oneCell']) (by unfold maxLen; omega) (by omega) (by simp; omega) ?_
           intro v5 w5 hown5 hgr5 hat5
           have hbx5 : Boxed w5 W0.heap.size 38 (.slice A pre.length c) := (hgr5.block _ (by simp; omega) (fun e => by have := (hrl _ e.symm).1; omega)).trans ((Below.heap_alloc X _ _ hvl).trans Hv.out)
           have hlv5 : w5.cell? ⟨w.heap.size, 0, none⟩ = some (.int .i64 lv) := (cells_one ((hgr5.block _ (by simp; omega) (fun e => by have := (hrl _ e.symm).1; omega)).trans ((Below.heap_alloc X _ _ hwX).trans HQ0.out))).1
           have hfz5 := hbx5.frozen
           have hc5 := hbx5.cell
           obtain ⟨A5, c5, hv5⟩ := row_slice hown5
           subst hv5
           have Hown5 := Lib.hid hown5
           have Hgr5 := Lib.hid hgr5
           have Hat5 := Lib.hid hat5
           clear hown5 hgr5 hat5 hbx5))
        | gi_in)
      have hst := us_step (N := fun g => v.ownBlock = some g) H1.out Hv.out Hrow.out ((Below.refl _ _).alloc (Nat.le_refl _) _) hW01 (fun g e => ⟨(HNr.out g e).2, by have := (HNr.out g e).1; omega⟩) Hown5.out Hgr5.out Hat5.out
      exact ⟨⟨hst.1, by simp; omega⟩, hst.2⟩
  case done =>
    rintro D ys X hD hS ⟨h1, hR⟩ hK
    obtain ⟨vr, hv, hrow⟩ := h1.cell
    have hc := Boxed.cell hv
    have hb1 : Below w.heap.size w X := hB0.trans (h1.below.mono (by omega))
    subst hS
    have hus : usO ys lv = ys := by unfold usO; rw [if_neg (by omega)]
    have hsub : ∀ z ∈ ys, z ∈ ys := fun z hz => hz
    have hws2 : w.heap.size ≤ w1.heap.size := by omega
    have hDw : w.heap.size ≤ D := by omega
    clear h1 hR hs0 q0
    obtain ⟨A, c, rfl⟩ := row_slice hrow
    go_wp2
    have hrl := row_lt hrow
    refine ⟨by simp, .inl ⟨_, _, rfl, run_takeDeferred hK, ?_⟩⟩
    refine ⟨.slice A ys.length c, by simp [results, Tryd.results25, go_sem], .slice A ys.length c, rfl, ?_, hb1.trans (belowK_b (w := w) (Nat.le_refl _) X D _ _ (by omega) hK rfl rfl)⟩
    rw [hus]
    refine ⟨?_, fun z hz => h64 z (hsub z hz)⟩
    have h9 : X.ownsRow w.heap.size 3 1 (.slice A ys.length c) ys.length (ys.map (Value.int .i64)) := by
      refine ⟨hrow.1, ?_⟩
      rcases hrow.2 with h | ⟨g, cap, cur, h1, h2, h3⟩
      · exact .inl h
      · exact .inr ⟨g, cap, cur, h1, by omega, h3⟩
    refine row_keep h9 fun g e => World.putObj_heap_other fun e2 => ?_
    subst e2
    rcases hrow.2 with ⟨h, _⟩ | ⟨g, cap, cur, h1, h2, h3, _⟩
    · rw [h] at e; simp [Value.ownBlock] at e
    · rw [h1] at e
      simp [Value.ownBlock] at e
      subst e
      rw [h3] at hK; cases hK
  case stop =>
    rintro D cd pre X hD hS ⟨rfl, h1, hR, hR1⟩ hK
    obtain ⟨vr, hv, hrow⟩ := h1.cell
    have hc := Boxed.cell hv
    have hb1 : Below w.heap.size w X := hB0.trans (h1.below.mono (by omega))
    have hus : usO l lv = pre := by
      have h2 := hS.length_le
      unfold usO
      rw [if_pos ⟨hR1, by omega⟩, ← hR, Int.toNat_natCast]
      exact (List.prefix_iff_eq_take.1 hS).symm
    have hsub : ∀ z ∈ pre, z ∈ l := fun z hz => hS.subset hz
    have hws2 : w.heap.size ≤ w1.heap.size := by omega
    have hDw : w.heap.size ≤ D := by omega
    clear h1 hs0 q0
    obtain ⟨A, c, rfl⟩ := row_slice hrow
    gi_wp2
    go_wp2
    have hrl := row_lt hrow
    refine ⟨by simp, .inl ⟨_, _, rfl, run_takeDeferred hK, ?_⟩⟩
    refine ⟨.slice A pre.length c, by simp [results, Tryd.results25, go_sem], .slice A pre.length c, rfl, ?_, hb1.trans (belowK_b (w := w) (Nat.le_refl _) X D _ _ (by omega) hK rfl rfl)⟩
    rw [hus]
    refine ⟨?_, fun z hz => h64 z (hsub z hz)⟩
    have h9 : X.ownsRow w.heap.size 3 1 (.slice A pre.length c) pre.length (pre.map (Value.int .i64)) := by
      refine ⟨hrow.1, ?_⟩
      rcases hrow.2 with h | ⟨g, cap, cur, h1, h2, h3⟩
      · exact .inl h
      · exact .inr ⟨g, cap, cur, h1, by omega, h3⟩
    refine row_keep h9 fun g e => World.putObj_heap_other fun e2 => ?_
    subst e2
    rcases hrow.2 with ⟨h, _⟩ | ⟨g, cap, cur, h1, h2, h3, _⟩
    · rw [h] at e; simp [Value.ownBlock] at e
    · rw [h1] at e
      simp [Value.ownBlock] at e
      subst e
      rw [h3] at hK; cases hK
end Go.Proofs.YtmmiclpedehcpaaDoor
namespace Go.Proofs.YtmmiclpedehcpaaDoor
open Go Go.RowKit Go.Shelf Go.Maps
set_option maxRecDepth 100000
def bwL : List Sm := [truthSm, ⟨⟨#[97]⟩, 0, false⟩, ⟨⟨#[102]⟩, 2, false⟩, ⟨⟨#[112]⟩, 1, true⟩]
def bwA : Tm := .node 1 []
def bwX : Tm := .node (-1) []
def bwF : Tm := .node 2 [bwA, bwX]
def bwG : Tm := .node 2 [bwX, bwA]
theorem bw_c0 : chkT bwL (.node 0 []) = 0 := by decide +kernel
theorem bw_cF : chkT bwL bwF = 0 := by decide +kernel
theorem bw_cA : chkT bwL bwA = 0 := by decide +kernel
theorem bw_cG : chkT bwL bwG = 0 := by decide +kernel
theorem bw_cN : chkT [] (.node 0 []) = 2 := by decide +kernel
theorem bw_tF : bputT bwL [] bwF = [bwA, bwX, bwF] := by kernel_rfl
theorem bw_nF : bputN bwL [] bwF = 2 := by kernel_rfl
theorem bw_tA : bputT bwL [bwA, bwX, bwF] bwA = [bwA, bwX, bwF] := by kernel_rfl
theorem bw_nA : bputN bwL [bwA, bwX, bwF] bwA = 0 := by kernel_rfl
theorem bw_tG : bputT bwL [bwA, bwX, bwF] bwG = [bwA, bwX, bwF, bwG] := by kernel_rfl
theorem bw_nG : bputN bwL [bwA, bwX, bwF] bwG = 3 := by kernel_rfl
theorem bw_sz : sizB [bwA, bwX, bwF, bwG] 2 = 3 := by kernel_rfl
theorem bw_g0 : gndB [bwA, bwX, bwF, bwG] 0 = true := by kernel_rfl
theorem bw_g1 : gndB [bwA, bwX, bwF, bwG] 1 = false := by kernel_rfl
theorem bcells_row {W : World} {b : Nat} {cs : Array Value} {t : TypeId} (h : W.heap[b]? = some (.cells cs t)) {j : Nat} {u : Value} (hu : cs[j]? = some u) : W.cell? ⟨b, 0 + j, none⟩ = some u := by
  simp only [World.cell?, h, Nat.zero_add]
  simpa using hu
set_option maxHeartbeats 1000000 in
theorem bsmall_any (w : World) :
    Calls Tryd.prog 26 #[] w fun e w' => ∃ b, e = .returned (.agg #[.slice (some ⟨b, 0, none⟩) 4 4]) ∧ Syms w' w'.heap.size (some ⟨b, 0, none⟩) 4 bwL ∧ Below w.heap.size w w' := by
  obtain ⟨W, hW⟩ : ∃ W, w.alloc (.cells #[.slice none 0 0] 24) = W := ⟨_, rfl⟩
  have hB : Below w.heap.size w W := by rw [← hW]; exact (Below.refl _ _).alloc (Nat.le_refl _) _
  have q0 := heap_alloc_new w (.cells #[.slice none 0 0] 24)
  rw [hW] at q0
  have hz : W.heap.size = w.heap.size + 1 := by rw [← hW]; simp
  have HW := Lib.hid hW
  have Hz := Lib.hid hz
  clear hW hz
  go_enter Tryd.func26, Tryd.ntmps26
  go_upto_region 1 with fail
  rw [HW.out]
  go_wp2_with (first
    | (go_at_call 48; refine (Truth_any _).mono ?_; rintro e w9 ⟨rfl, hb9⟩; have q9 : ∀ o, (w9.alloc o).heap[w.heap.size]? = some (.cells #[.slice none 0 0] 24) := (fun o => (Below.heap_alloc w9 o _ (by have := hb9.size; have := Hz.out; omega)).trans ((hb9.block _ (by have := Hz.out; omega)).trans q0)); have f0 := fun o => (cells_one (q9 o)).1; have f1 := fun o => (cells_one (q9 o)).2; have HQ9 := Lib.hid q9; clear q9)
    | fail)
  obtain ⟨V, hV⟩ : ∃ V, w9.alloc (.cells #[.string truthSm.name, .int .i64 truthSm.arity, .bool truthSm.pred, .string ⟨#[97]⟩, .int .i64 0, .bool false, .string ⟨#[102]⟩, .int .i64 2, .bool false, .string ⟨#[112]⟩, .int .i64 1, .bool true] 67) = V := ⟨_, rfl⟩
  have v0 : V.heap[w9.heap.size]? = some (.cells #[.string truthSm.name, .int .i64 truthSm.arity, .bool truthSm.pred, .string ⟨#[97]⟩, .int .i64 0, .bool false, .string ⟨#[102]⟩, .int .i64 2, .bool false, .string ⟨#[112]⟩, .int .i64 1, .bool true] 67) := by rw [← hV]; exact heap_alloc_new _ _
  have hBV : Below w9.heap.size w9 V := by rw [← hV]; exact (Below.refl _ _).alloc (Nat.le_refl _) _
  have vq := HQ9.out (.cells #[.string truthSm.name, .int .i64 truthSm.arity, .bool truthSm.pred, .string ⟨#[97]⟩, .int .i64 0, .bool false, .string ⟨#[102]⟩, .int .i64 2, .bool false, .string ⟨#[112]⟩, .int .i64 1, .bool true] 67)
  rw [hV] at vq ⊢
  have hs9 := hb9.size
  have hz9 := Hz.out
  have hvs := (Array.getElem?_eq_some_iff.1 v0).1
  have hset := heap_setCell_same V w.heap.size 0 _ _ (.slice (some ⟨w9.heap.size, 0, none⟩) 4 4) vq
  have p0 := (cells_one hset).1
  have v1 : (V.setCell ⟨w.heap.size, 0, none⟩ (.slice (some ⟨w9.heap.size, 0, none⟩) 4 4)).heap[w9.heap.size]? = some (.cells #[.string truthSm.name, .int .i64 truthSm.arity, .bool truthSm.pred, .string ⟨#[97]⟩, .int .i64 0, .bool false, .string ⟨#[102]⟩, .int .i64 2, .bool false, .string ⟨#[112]⟩, .int .i64 1, .bool true] 67) := (heap_setCell_other _ ⟨w.heap.size, 0, none⟩ _ _ (by show w9.heap.size ≠ w.heap.size; omega)).trans v0
  refine bodyPost_ret (v := .agg #[.slice (some ⟨w9.heap.size, 0, none⟩) 4 4]) (by simp [results, Tryd.results26, go_sem, p0]) rfl ⟨w9.heap.size, rfl, Syms.of_flat rfl ?_ fun _ => ⟨w9.heap.size, 0, rfl, by simpa using hvs, fun j u hu => bcells_row v1 ?_⟩, ?_⟩
  · intro x hx
    simp only [bwL, List.mem_cons, List.not_mem_nil, or_false] at hx
    rcases hx with rfl | rfl | rfl | rfl <;> exact ⟨by decide, by decide, by decide⟩
  · have e : (bwL.flatMap Sm.cells) = [.string truthSm.name, .int .i64 truthSm.arity, .bool truthSm.pred, .string ⟨#[97]⟩, .int .i64 0, .bool false, .string ⟨#[102]⟩, .int .i64 2, .bool false, .string ⟨#[112]⟩, .int .i64 1, .bool true] := rfl
    rw [e] at hu
    simpa using hu
  · exact (hB.trans ((hb9.trans (hBV.mono hs9)).mono hB.size)).setCell (p := ⟨w.heap.size, 0, none⟩) (Nat.le_refl _) _
theorem args_two {W : World} {s : Nat} {f g : Int} (hf : I64 f) (hg : I64 g) (q : W.heap[s]? = some (.cells #[.int .i64 f, .slice none 0 0, .int .i64 g, .slice none 0 0] 37)) : ArgsN W (· = s) (some ⟨s, 0, none⟩) [.node f [], .node g []] := by
  refine .row s 0 [.node f [], .node g []] (fun _ => none) (fun _ => 0) rfl (by show 2 ≤ _; omega) (fun i t e => ?_) (fun i t e => ?_) (fun i t e => ?_) (fun i t e => ?_)
  all_goals
    match i, e with
    | 0, e => simp at e; subst e; first | exact hf | exact bcells_row q (j := 0) rfl | exact bcells_row q (j := 1) rfl | exact .nil _
    | 1, e => simp at e; subst e; first | exact hg | exact bcells_row q (j := 2) rfl | exact bcells_row q (j := 3) rfl | exact .nil _
    | i + 2, e => simp at e
theorem bi64_small {i : Int} (h0 : -1000 ≤ i) (h1 : i ≤ 1000) : I64 i := ⟨by omega, by omega⟩
section
variable {w : World} {sy : List Sm} {As : Option Addr} {n cs : Nat}
theorem bNew_yes (hS : Syms w w.heap.size As n sy) (hn : n * 32 ≤ 140737488351232) (ht : tru w) (hc : chkT sy (.node 0 []) = 0) : Calls Tryd.prog 8 #[.agg #[.slice As n cs]] w fun e w' => ∃ (b : Nat) (A : Option Addr) (c : Nat) (tag : Nat → Nat), e = .returned (.tuple #[.pointer (some ⟨(newP b).bx, 0, none⟩), .int .i64 0]) ∧ BankW w' tag (newP b) sy A n c [] ∧ (∀ g, g < w.heap.size → tag g = 0) ∧ Below w.heap.size w w' := by
  refine (bNew_any hS hn ht).mono ?_
  rintro e w' ⟨hb, (⟨_, b, A, c, tag, rfl, h1, h2⟩ | ⟨h1, _⟩)⟩
  · exact ⟨b, A, c, tag, rfl, h1, h2, hb⟩
  · exact absurd hc h1
theorem bNew_no (hS : Syms w w.heap.size As n sy) (hn : n * 32 ≤ 140737488351232) (ht : tru w) (hc : chkT sy (.node 0 []) ≠ 0) : Calls Tryd.prog 8 #[.agg #[.slice As n cs]] w fun e w' => e = .returned (.tuple #[.pointer none, .int .i64 (chkT sy (.node 0 []))]) ∧ Below w.heap.size w w' := by
  refine (bNew_any hS hn ht).mono ?_
  rintro e w' ⟨hb, (⟨h1, _⟩ | ⟨_, he⟩)⟩
  · exact absurd h1 hc
  · exact ⟨he, hb⟩
end
structure WkI (w : World) (bx : Nat) (sy : List Sm) (A : Option Addr) (n c : Nat) (wx : World) (tag : Nat → Nat) (p : BPl) (ts : List Tm) : Prop where
  b : BankW wx tag p sy A n c ts
  t : TruT wx tag
  low : Below w.heap.size w wx
  z : ∀ g, g < w.heap.size → tag g = 0
  bx : p.bx = bx
section
variable {w wx wy : World} {bx : Nat} {sy : List Sm} {A : Option Addr} {n c : Nat} {tag : Nat → Nat} {p : BPl} {ts : List Tm}
theorem WkI.on (h : WkI w bx sy A n c wx tag p ts) (hb : Below wx.heap.size wx wy) : WkI w bx sy A n c wy tag p ts :=
  ⟨h.b.on hb, h.t.grew (p := p) (N := 0) (.below hb), h.low.trans (hb.mono h.low.size), h.z, h.bx⟩
theorem WkI.grew {tag' : Nat → Nat} {p' : BPl} {ts' : List Tm} {N : Nat} (h : WkI w bx sy A n c wx tag p ts) (hb : BankW wy tag' p' sy A n c ts') (hg : Grew wx wy tag tag' p p' N) : WkI w bx sy A n c wy tag' p' ts' :=
  ⟨hb, h.t.grew hg, h.low.trans (hg.k.below h.low.size fun g e e2 => e2 (h.z g e)), fun g e => (hg.t g (Nat.lt_of_lt_of_le e h.low.size)).trans (h.z g e), hg.bx.trans h.bx⟩
theorem WkI.put (h : WkI w bx sy A n c wx tag p ts) (hn : n * 32 ≤ 140737488351232) {t : Tm} {At : Option Addr} {ct : Nat} {N : Nat → Prop} (hts : ts.length + 300 ≤ 2147483648) (hf : I64 t.fn) (hA : ArgsN wx N At t.args) (hN : ∀ g, N g → g < wx.heap.size ∧ tag g = 0) :
    Calls Tryd.prog 12 #[.pointer (some ⟨bx, 0, none⟩), .agg #[.int .i64 t.fn, .slice At t.args.length ct]] wx fun e w' => ∃ p' tag', e = .returned (.tuple #[.int .i64 ((bputN sy ts t : Nat) : Int), .int .i64 (chkT sy t)]) ∧ WkI w bx sy A n c w' tag' p' (bputT sy ts t) ∧ Grew wx w' tag tag' p p' ts.length := by
  have := bPut_any (c := ct) h.b h.t hn hts hf hA hN
  rw [h.bx] at this
  refine this.mono ?_
  rintro e w' ⟨p', tag', rfl, hB, hG⟩
  exact ⟨p', tag', rfl, h.grew hB hG, hG⟩
end
end Go.Proofs.YtmmiclpedehcpaaDoor
namespace Go.Proofs.YtmmiclpedehcpaaDoor
open Go Go.RowKit Go.Shelf Go.Maps
set_option maxRecDepth 100000
theorem WkI.put2 {w wx : World} {bx : Nat} {A : Option Addr} {c : Nat} {tag : Nat → Nat} {p : BPl} {ts : List Tm} (h : WkI w bx bwL A 4 c wx tag p ts) (hts : ts.length ≤ 100) {f g : Int} (hf : I64 f) (hg : I64 g) {ts' : List Tm} {N : Nat} (hc : chkT bwL (.node 2 [.node f [], .node g []]) = 0) (ht : bputT bwL ts (.node 2 [.node f [], .node g []]) = ts') (hN : bputN bwL ts (.node 2 [.node f [], .node g []]) = N) :
    Calls Tryd.prog 12 #[.pointer (some ⟨bx, 0, none⟩), .agg #[.int .i64 2, .slice (some ⟨wx.heap.size, 0, none⟩) 2 2]] (wx.alloc (.cells #[.int .i64 f, .slice none 0 0, .int .i64 g, .slice none 0 0] 37)) fun e w' => ∃ p' tag', e = .returned (.tuple #[.int .i64 (N : Int), .int .i64 0]) ∧ WkI w bx bwL A 4 c w' tag' p' ts' ∧ Grew wx w' tag tag' p p' ts.length := by
  have hb : Below wx.heap.size wx (wx.alloc (.cells #[.int .i64 f, .slice none 0 0, .int .i64 g, .slice none 0 0] 37)) := (Below.refl _ _).alloc (Nat.le_refl _) _
  have hA := args_two hf hg (heap_alloc_new wx (.cells #[.int .i64 f, .slice none 0 0, .int .i64 g, .slice none 0 0] 37))
  have := (h.on hb).put (t := .node 2 [.node f [], .node g []]) (ct := 2) (by decide) (by omega) (show I64 2 from bi64_small (by decide) (by decide)) hA (fun k e => by subst e; exact ⟨by simp, h.b.hi _ (Nat.le_refl _)⟩)
  rw [ht, hc, hN] at this
  refine this.mono ?_
  rintro e w' ⟨p', tag', rfl, h1, h2⟩
  exact ⟨p', tag', rfl, h1, (Grew.below (N := ts.length) hb).trans h2 (Nat.le_refl _)⟩
theorem WkI.put0 {w wx : World} {bx : Nat} {A : Option Addr} {c : Nat} {tag : Nat → Nat} {p : BPl} {ts : List Tm} (h : WkI w bx bwL A 4 c wx tag p ts) (hts : ts.length ≤ 100) {f : Int} (hf : I64 f) {ts' : List Tm} {N : Nat} (hc : chkT bwL (.node f []) = 0) (ht : bputT bwL ts (.node f []) = ts') (hN : bputN bwL ts (.node f []) = N) :
    Calls Tryd.prog 12 #[.pointer (some ⟨bx, 0, none⟩), .agg #[.int .i64 f, .slice none 0 0]] wx fun e w' => ∃ p' tag', e = .returned (.tuple #[.int .i64 (N : Int), .int .i64 0]) ∧ WkI w bx bwL A 4 c w' tag' p' ts' ∧ Grew wx w' tag tag' p p' ts.length := by
  have := h.put (t := .node f []) (ct := 0) (N := fun _ => False) (by decide) (by omega) hf (.nil none) (fun k e => e.elim)
  rw [ht, hc, hN] at this
  exact this
set_option maxHeartbeats 8000000 in
theorem bwakes_any (w : World) (ht : tru w) : Calls Tryd.prog 7 #[] w fun e w' => e = .returned (.bool true) ∧ Below w.heap.size w w' := by
  have HT := Lib.hid ht
  clear ht
  go_enter Tryd.func7, Tryd.ntmps7
  go_upto_region 4 with (first
    | (go_at_call 26; refine (bsmall_any w).mono ?_; go_must (rintro e w1 ⟨b1, rfl, hs1, hb1⟩; have HNw := Lib.hid (bNew_yes (cs := 4) hs1 (by decide) (tru_below HT.out hb1) bw_c0)))
    | (go_at_call 8; (with_reducible refine HNw.out.mono ?_); go_must (rintro e w2 ⟨b2, A2, c2, tag2, rfl, hB2, hz2, hb2⟩; have HI2 : Hid (WkI w (newP b2).bx bwL A2 4 c2 w2 tag2 (newP b2) []) := Lib.hid ⟨hB2, ⟨tru_below HT.out (hb1.trans (hb2.mono hb1.size)), hz2 _ (tru_below HT.out hb1).2.2.2⟩, hb1.trans (hb2.mono hb1.size), fun g e => hz2 g (Nat.lt_of_lt_of_le e hb1.size), rfl⟩; clear hB2 hz2))
    | fail)
  clear hs1 HNw
  obtain ⟨p2, hp2⟩ : ∃ p2, newP b2 = p2 := ⟨_, rfl⟩
  rw [hp2] at HI2 ⊢
  obtain ⟨bx, hbx⟩ : ∃ bx, p2.bx = bx := ⟨_, rfl⟩
  rw [hbx] at HI2 ⊢
  clear hp2 hbx
  obtain ⟨q3, q4⟩ := heap2 w2 (.cells #[.int .i64 1, .slice none 0 0] 37) (.cells #[.int .i64 (-1), .slice none 0 0] 37)
  obtain ⟨W4, hW4⟩ : ∃ W4, (w2.alloc (.cells #[.int .i64 1, .slice none 0 0] 37)).alloc (.cells #[.int .i64 (-1), .slice none 0 0] 37) = W4 := ⟨_, rfl⟩
  have hB4 : Below w2.heap.size w2 W4 := by rw [← hW4]; exact ((Below.refl _ _).alloc (Nat.le_refl _) _).alloc (by simp) _
  rw [hW4] at q3 q4
  have hz3 : tag2 w2.heap.size = 0 := HI2.out.b.hi _ (Nat.le_refl _)
  have hz4 : tag2 (w2.heap.size + 1) = 0 := HI2.out.b.hi _ (by omega)
  have HI4 := Lib.hid (HI2.out.on hB4)
  have HW4 := Lib.hid hW4
  obtain ⟨n3, hn3⟩ : ∃ n3, w2.heap.size = n3 := ⟨_, rfl⟩
  rw [hn3] at q3 q4 hz3 hz4
  have HP1 := Lib.hid (HI4.out.put2 (f := 1) (g := -1) (by decide) (bi64_small (by decide) (by decide)) (bi64_small (by decide) (by decide)) bw_cF bw_tF bw_nF)
  have Hq3 := Lib.hid q3
  have Hq4 := Lib.hid q4
  obtain ⟨a0, a1, _, _⟩ := cells_two q3
  obtain ⟨x0, x1, _, _⟩ := cells_two q4
  clear hW4 q3 q4 HI2
  go_upto_region 5 with (fail)
  rw [HW4.out]
  clear hn3 hB4 HW4
  go_wp2_with (first
    | (go_at_call 12; (with_reducible refine HP1.out.mono ?_); go_must (rintro e w5 ⟨p5, tag5, rfl, hI5, hG5⟩; have r3 := (hG5.k.block (Array.getElem?_eq_some_iff.1 Hq3.out).1 (fun e => e hz3)).trans Hq3.out; have r4 := (hG5.k.block (Array.getElem?_eq_some_iff.1 Hq4.out).1 (fun e => e hz4)).trans Hq4.out; have hy3 := (hG5.t _ (Array.getElem?_eq_some_iff.1 Hq3.out).1).trans hz3; have hy4 := (hG5.t _ (Array.getElem?_eq_some_iff.1 Hq4.out).1).trans hz4; obtain ⟨b0, b1', _, _⟩ := cells_two r3; have HP2 := Lib.hid (hI5.put0 (f := 1) (by decide) (bi64_small (by decide) (by decide)) bw_cA bw_tA bw_nA); clear hG5))
    | (go_at_call 12; (with_reducible refine HP2.out.mono ?_); go_must (rintro e w6 ⟨p6, tag6, rfl, hI6, hG6⟩; have s3 := (hG6.k.block (Array.getElem?_eq_some_iff.1 r3).1 (fun e => e hy3)).trans r3; have s4 := (hG6.k.block (Array.getElem?_eq_some_iff.1 r4).1 (fun e => e hy4)).trans r4; obtain ⟨d0, d1, _, _⟩ := cells_two s3; obtain ⟨d2, d3, _, _⟩ := cells_two s4; have HP3 := Lib.hid (hI6.put2 (f := -1) (g := 1) (by decide) (bi64_small (by decide) (by decide)) (bi64_small (by decide) (by decide)) bw_cG bw_tG bw_nG); clear hG6))
    | (go_at_call 12; (with_reducible refine HP3.out.mono ?_); go_must (rintro e w7 ⟨p7, tag7, rfl, hI7, hG7⟩; have HN7 := Lib.hid (bNew_no (cs := 0) (Syms.nil_ w7 w7.heap.size none) (by decide) hI7.t.t (by rw [bw_cN]; decide)); clear hG7))
    | (go_at_call 8; (with_reducible refine HN7.out.mono ?_); go_must (rintro e w8 ⟨rfl, hb8⟩; rw [bw_cN]; have HI8 := Lib.hid (hI7.on hb8); have HL8 := Lib.hid (HI8.out.bx ▸ bLen_any HI8.out.b)))
    | (go_at_call 20; (with_reducible refine HL8.out.mono ?_); go_must (rintro e w9 ⟨rfl, hb9⟩; have HI9 := Lib.hid (HI8.out.on hb9); have HS9 := Lib.hid (HI9.out.bx ▸ bSize_any HI9.out.b 2)))
    | (go_at_call 23; (with_reducible refine HS9.out.mono ?_); go_must (rintro e w10 ⟨rfl, hb10⟩; rw [bw_sz]; have HI10 := Lib.hid (HI9.out.on hb10); have HG10 := Lib.hid (HI10.out.bx ▸ bGround_any HI10.out.b 0)))
    | (go_at_call 24; (with_reducible refine HG10.out.mono ?_); go_must (rintro e w11 ⟨rfl, hb11⟩; rw [bw_g0]; have HI11 := Lib.hid (HI10.out.on hb11); have HG11 := Lib.hid (HI11.out.bx ▸ bGround_any HI11.out.b 1)))
    | (go_at_call 24; (with_reducible refine HG11.out.mono ?_); go_must (rintro e w12 ⟨rfl, hb12⟩; rw [bw_g1]; have HI12 := Lib.hid (HI11.out.on hb12)))
    | fail)
  go_ret
  exact ⟨rfl, HI12.out.low⟩
end Go.Proofs.YtmmiclpedehcpaaDoor
namespace Go.Proofs.YtmmiclpedehcpaaDoor
open Go Go.RowKit Go.Shelf Go.Maps
set_option maxRecDepth 100000
theorem bArgs_nil (i : Int) (w : World) : Calls Tryd.prog 22 #[.pointer none, .int .i64 i] w fun e w' => e = .returned (.slice none 0 0) ∧ Below w.heap.size w w' := by
  have C := Lib.hid (bEntry_nil i w)
  go_enter Tryd.func22, Tryd.ntmps22
  go_wp2_with (first
    | (go_at_call 45; (with_reducible refine C.out.mono ?_); go_must (rintro e w1 ⟨rfl, hb1⟩))
    | fail)
  go_ret
  exact ⟨rfl, hb1⟩
theorem bPut_nil (t : Tm) (A : Option Addr) (c : Nat) (w : World) : Calls Tryd.prog 12 #[.pointer none, .agg #[.int .i64 t.fn, .slice A t.args.length c]] w fun e w' => e = .returned (.tuple #[.int .i64 0, .int .i64 1]) ∧ Below w.heap.size w w' := by
  obtain ⟨W, hW⟩ : ∃ W, w.alloc (.cells #[.int .i64 t.fn, .slice A t.args.length c] 37) = W := ⟨_, rfl⟩
  have hB : Below w.heap.size w W := by rw [← hW]; exact (Below.refl _ _).alloc (Nat.le_refl _) _
  have HW := Lib.hid hW
  have HB := Lib.hid hB
  have C := Lib.hid (bMissing_nil W)
  clear hW hB
  go_enter Tryd.func12, Tryd.ntmps12
  go_upto_region 1 with fail
  rw [HW.out]
  go_wp2_with (first
    | (go_at_call 30; (with_reducible refine C.out.mono ?_); go_must (rintro e w1 ⟨rfl, hb1⟩))
    | fail)
  refine bodyPost_ret (v := .tuple #[.int .i64 0, .int .i64 1]) (by simp [results, Tryd.results12, go_sem]) rfl ?_
  exact ⟨rfl, HB.out.trans (hb1.mono HB.out.size)⟩
theorem bFind_nil (t : Tm) (A : Option Addr) (c : Nat) (w : World) : Calls Tryd.prog 16 #[.pointer none, .agg #[.int .i64 t.fn, .slice A t.args.length c]] w fun e w' => e = .returned (.tuple #[.int .i64 0, .bool false]) ∧ Below w.heap.size w w' := by
  obtain ⟨W, hW⟩ : ∃ W, w.alloc (.cells #[.int .i64 t.fn, .slice A t.args.length c] 37) = W := ⟨_, rfl⟩
  have hB : Below w.heap.size w W := by rw [← hW]; exact (Below.refl _ _).alloc (Nat.le_refl _) _
  have HW := Lib.hid hW
  have HB := Lib.hid hB
  have C := Lib.hid fun z : Later W.heap.size W => bMissing_nil z.w
  clear hW hB
  go_enter Tryd.func16, Tryd.ntmps16
  go_upto_region 1 with fail
  rw [HW.out]
  refine wp_region_later W.heap.size W (by kernel_rfl) (by kernel_rfl) (bl_drewN (Below.refl _ _) 1) ?_
  repeat (go_big_quiet_step (first
    | (go_at_call 30; with_reducible refine calls_later _ (Nat.le_refl _) (C.out _))
    | fail))
  refine wpQuiet_nil ?_
  rintro _ ⟨z, rfl⟩
  have hB1 := HB.out.trans (z.h.mono HB.out.size)
  clear C
  go_wp2
  refine bodyPost_ret (v := .tuple #[.int .i64 0, .bool false]) (by simp [results, Tryd.results16, go_sem]) rfl ?_
  exact ⟨rfl, hB1⟩
theorem bGet_nil (i : Int) (w : World) : Calls Tryd.prog 21 #[.pointer none, .int .i64 i] w fun e w' => e = .returned (.tuple #[.agg #[.int .i64 0, .slice none 0 0], .int .i64 1]) ∧ Below w.heap.size w w' := by
  have q0 := heap_alloc_new w (.cells #[.int .i64 0, .slice none 0 0] 37)
  obtain ⟨W, hW⟩ : ∃ W, w.alloc (.cells #[.int .i64 0, .slice none 0 0] 37) = W := ⟨_, rfl⟩
  have hB : Below w.heap.size w W := by rw [← hW]; exact (Below.refl _ _).alloc (Nat.le_refl _) _
  rw [hW] at q0
  have HX : Hid (∀ w', Below W.heap.size W w' → w'.cell? ⟨w.heap.size, 0, none⟩ = some (.int .i64 0) ∧ w'.cell? ⟨w.heap.size, 1, none⟩ = some (.slice none 0 0) ∧ w'.frozen? ⟨w.heap.size, 0, none⟩ = false ∧ w'.frozen? ⟨w.heap.size, 1, none⟩ = false) := Lib.hid fun w' h => cells_two ((h.block _ (Array.getElem?_eq_some_iff.1 q0).1).trans q0)
  have HW := Lib.hid hW
  have HB := Lib.hid hB
  have C := Lib.hid (bMissing_nil W)
  clear hW hB q0
  go_enter Tryd.func21, Tryd.ntmps21
  go_upto_region 1 with fail
  rw [HW.out]
  go_wp2_with (first
    | (go_at_call 30; (with_reducible refine C.out.mono ?_); go_must (rintro e w1 ⟨rfl, hb1⟩; obtain ⟨c0, c1, f0, f1⟩ := HX.out w1 hb1))
    | fail)
  have hBs : Below w.heap.size w ((w1.setCell ⟨w.heap.size, 0, none⟩ (.int .i64 0)).setCell ⟨w.heap.size, 1, none⟩ (.slice none 0 0)) := ((HB.out.trans (hb1.mono HB.out.size)).setCell (p := ⟨w.heap.size, 0, none⟩) (Nat.le_refl _) _).setCell (p := ⟨w.heap.size, 1, none⟩) (Nat.le_refl _) _
  refine bodyPost_ret (v := .tuple #[.agg #[.int .i64 0, .slice none 0 0], .int .i64 1]) (by simp [results, Tryd.results21, go_sem, c0, c1]) rfl ?_
  exact ⟨rfl, hBs⟩
theorem bReplace_nil (i m : Int) (Ap : Option Addr) (np cp : Nat) (w : World) : Calls Tryd.prog 18 #[.pointer none, .int .i64 i, .slice Ap np cp, .int .i64 m] w fun e w' => e = .returned (.tuple #[.int .i64 0, .int .i64 1]) ∧ Below w.heap.size w w' := by
  have C := Lib.hid (bGet_nil i w)
  go_enter Tryd.func18, Tryd.ntmps18
  go_wp2_with (first
    | (go_at_call 21; (with_reducible refine C.out.mono ?_); go_must (rintro e w1 ⟨rfl, hb1⟩))
    | fail)
  refine bodyPost_ret (v := .tuple #[.int .i64 0, .int .i64 1]) (by simp [results, Tryd.results18, go_sem]) rfl ?_
  exact ⟨rfl, hb1.alloc hb1.size _⟩
end Go.Proofs.YtmmiclpedehcpaaDoor
namespace Go.Proofs.YtmmiclpedehcpaaDoor
open Go Go.RowKit Go.Shelf Go.Maps
set_option maxRecDepth 100000
set_option maxHeartbeats 4000000 in
theorem BankNil_any (t : Tm) (A : Option Addr) (c : Nat) (i m : Int) (Ap : Option Addr) (np cp : Nat) (w : World) (ht : tru w) :
    Calls Tryd.prog 4 #[.agg #[.int .i64 t.fn, .slice A t.args.length c], .int .i64 i, .int .i64 m, .slice Ap np cp] w fun e w' => e = .returned (.bool true) ∧ Below w.heap.size w w' := by
  obtain ⟨W, hW⟩ : ∃ W, w.alloc (.cells #[.int .i64 t.fn, .slice A t.args.length c] 37) = W := ⟨_, rfl⟩
  have hB : Below w.heap.size w W := by rw [← hW]; exact (Below.refl _ _).alloc (Nat.le_refl _) _
  have q0 := heap_alloc_new w (.cells #[.int .i64 t.fn, .slice A t.args.length c] 37)
  rw [hW] at q0
  have hql := (Array.getElem?_eq_some_iff.1 q0).1
  obtain ⟨y0, y1, _, _⟩ := cells_two q0
  have HX : Hid (∀ x, Below W.heap.size W x → x.cell? ⟨w.heap.size, 0, none⟩ = some (.int .i64 t.fn) ∧ x.cell? ⟨w.heap.size, 1, none⟩ = some (.slice A t.args.length c)) := Lib.hid fun x hx => by
    obtain ⟨a, b, _, _⟩ := cells_two ((hx.block _ hql).trans q0)
    exact ⟨a, b⟩
  have HT := Lib.hid (tru_below ht hB)
  have HW := Lib.hid hW
  have HU : Hid (∀ x, Calls Tryd.prog 25 #[.pointer none, .int .i64 i, .int .i64 (-1)] x fun e w' => ∃ A' c', e = .returned (.slice A' 0 c') ∧ Below x.heap.size x w') := Lib.hid fun x => (users_any (.pointer none) i (-1) [] x (fun z hz => by simp at hz) (by simp) (fun y _ => bUsers_nil i y)).mono (by
    rintro e w' ⟨v, rfl, hI, hb⟩
    have e1 : usO [] (-1) = [] := rfl
    rw [e1] at hI
    obtain ⟨A', c', rfl⟩ := row_slice hI.row
    exact ⟨A', c', rfl, hb⟩)
  clear hW q0 ht
  go_enter Tryd.func4, Tryd.ntmps4
  go_upto_region 1 with (fail)
  rw [HW.out]
  go_wp2_with (first
    | (go_at_call 12; (with_reducible refine (bPut_nil t A c W).mono ?_); go_must (rintro e w1 ⟨rfl, hb1⟩))
    | (go_at_call 21; (with_reducible refine (bGet_nil i w1).mono ?_); go_must (rintro e w2 ⟨rfl, hb2⟩; have hb2' := (hb1.trans (hb2.mono hb1.size)).alloc (by have := hb1.size; have := hb2.size; omega) (.cells #[.int .i64 0, .slice none 0 0] 37)))
    | (go_at_call 18; (with_reducible refine (bReplace_nil i m Ap np cp _).mono ?_); go_must (rintro e w3 ⟨rfl, hb3⟩; have hb3' := hb2'.trans (hb3.mono hb2'.size); obtain ⟨z0, z1⟩ := HX.out w3 hb3'))
    | (go_at_call 16; (with_reducible refine (bFind_nil t A c w3).mono ?_); go_must (rintro e w4 ⟨rfl, hb4⟩; have hb4' := hb3'.trans (hb4.mono hb3'.size)))
    | (go_at_call 20; (with_reducible refine (bLen_nil w4).mono ?_); go_must (rintro e w5 ⟨rfl, hb5⟩; have hb5' := hb4'.trans (hb5.mono hb4'.size)))
    | (go_at_call 22; (with_reducible refine (bArgs_nil i w5).mono ?_); go_must (rintro e w6 ⟨rfl, hb6⟩; have hb6' := hb5'.trans (hb6.mono hb5'.size)))
    | (go_at_call 23; (with_reducible refine (bSize_nil i w6).mono ?_); go_must (rintro e w7 ⟨rfl, hb7⟩; have hb7' := hb6'.trans (hb7.mono hb6'.size)))
    | (go_at_call 24; (with_reducible refine (bGround_nil i w7).mono ?_); go_must (rintro e w8 ⟨rfl, hb8⟩; have hb8' := hb7'.trans (hb8.mono hb7'.size)))
    | (go_at_call 25; (with_reducible refine (HU.out w8).mono ?_); go_must (rintro e w9 ⟨A9, c9, rfl, hb9⟩; have hb9' := hb8'.trans (hb9.mono hb8'.size)))
    | (go_at_call 7; (with_reducible refine (bwakes_any w9 (tru_below HT.out hb9')).mono ?_); go_must (rintro e w10 ⟨rfl, hb10⟩))
    | fail)
  go_ret
  exact ⟨rfl, hB.trans ((hb9'.trans (hb10.mono hb9'.size)).mono hB.size)⟩
end Go.Proofs.YtmmiclpedehcpaaDoor
namespace Go.Proofs.YtmmiclpedehcpaaDoor
open Go.ChangeShapes Go.WideShapes Go.ChangeAt Go.RowKit
section
variable {H : Type} {enc : TypeId × Value → H} {W : World} {base : Nat} {sp : Nat → Bool} {held : Bool}
theorem cellsSym : Tryd.prog.cellsOf 67 = 3 := by kernel_rfl
theorem cellsStr : Tryd.prog.cellsOf 9 = 1 := by kernel_rfl
theorem cellsInt : Tryd.prog.cellsOf 3 = 1 := by kernel_rfl
theorem cellsBool : Tryd.prog.cellsOf 4 = 1 := by kernel_rfl
set_option maxRecDepth 20000 in
theorem trod_sym {n : Nat} {cs : List Value} {x : DataW H × List MemPlace} (h : DataW.trod enc Tryd.prog W base sp held n 67 cs = some x) :
    ∃ s : Sm, cs = [.string s.name, .int .i64 s.arity, .bool s.pred] ∧ s.Ok ∧ x.1 = .agg [.lit (.string s.name.data.toList), .lit (.int .i64 s.arity), .lit (.bool s.pred)] := by
  obtain ⟨xs, n', _, hx, hlen, hxs, hf⟩ := DataW.trod_struct Tryd.underlying67 h
  rw [cellsSym] at hlen
  match cs, hlen with
  | [c0, c1, c2], _ =>
    have hx3 : xs.length = 3 := by rw [hxs]; rfl
    match xs, hx3 with
    | [x0, x1, x2], _ =>
      have g0 := hf 0 _ rfl
      have g1 := hf 1 _ rfl
      have g2 := hf 2 _ rfl
      simp [cellsStr] at g0
      simp [cellsInt] at g1
      simp [cellsBool] at g2
      obtain ⟨a, ha, ea, hs⟩ := DataW.trod_string Tryd.underlying9 g0
      obtain ⟨b, hb, eb, hw⟩ := DataW.trod_int Tryd.underlying3 g1
      obtain ⟨c, hc, ec⟩ := DataW.trod_bool Tryd.underlying4 g2
      injection ha with ha; injection hb with hb; injection hc with hc
      subst ha; subst hb; subst hc
      have hw' : -9223372036854775808 ≤ b ∧ b ≤ 9223372036854775807 := by
        have := hw
        simp [Lit.wf, IntKind.min, IntKind.max, IntKind.signed, IntKind.bits] at this
        exact this
      exact ⟨⟨a, b, c⟩, rfl, ⟨hs, hw'.1, hw'.2⟩, by rw [hx]; simp [ea, eb, ec]⟩
theorem cell_spot {W : World} {a : Addr} {v : Value} (h : W.cell? a = some v) : a.spot = none := by
  unfold World.cell? at h
  split at h
  · split at h
    · cases h
    · rename_i hs; simpa using hs
  · cases h
end
end Go.Proofs.YtmmiclpedehcpaaDoor
namespace Go.Proofs.YtmmiclpedehcpaaDoor
open Go.ChangeShapes Go.WideShapes Go.ChangeAt Go.RowKit
set_option maxRecDepth 100000
variable {H : Type} {enc : TypeId × Value → H} {W : World} {base : Nat} {held : Bool}
theorem open_pos {r : Reach} {b0 : Nat} {v : Value} {d : DataW H} {ps : List MemPlace} (hv : Value.okWide Tryd.prog W r b0 39 v) (h : DataW.Trod enc Tryd.prog W base (fun _ => true) held 39 v d ps) :
    ∃ (p : List Int) (A : Option Addr) (c : Nat), v = .slice A p.length c ∧ p.length ≤ c ∧ c ≤ 9223372036854775807 ∧ Ints W W.heap.size A p := by
  obtain ⟨a, len, cap, rfl⟩ := okWide_slice Tryd.underlying39 hv
  obtain ⟨fuel, hf⟩ := h
  rcases open_ints Tryd.underlying39 Tryd.underlying3 cellsInt hf with ⟨hcs, _⟩ | ⟨ad, n, cp, zs, hcs, _, hn, hmax, hzl, _, hcell, hwf⟩
  · have hcs' : [Value.slice a len cap] = [.slice none 0 0] := hcs
    injection hcs' with hcs' _
    injection hcs' with e1 e2 e3
    subst e1; subst e2; subst e3
    exact ⟨[], none, 0, rfl, Nat.le_refl _, by omega, ⟨by simp, by simp, fun h => by simp at h⟩⟩
  · have hcs' : [Value.slice a len cap] = [.slice (some ad) n cp] := hcs
    injection hcs' with hcs' _
    injection hcs' with e1 e2 e3
    subst e1; subst e2; subst e3
    simp only [if_true] at hzl
    have hl : (zs.take len).length = len := by rw [List.length_take]; omega
    refine ⟨zs.take len, some ad, cap, by rw [hl], by omega, by unfold maxLen at hmax; omega, ⟨by unfold maxLen at hmax; omega, fun x hx => ?_, fun hpos => ?_⟩⟩
    · have := hwf x (List.mem_of_mem_take hx)
      simp [Lit.wf, IntKind.min, IntKind.max, IntKind.signed, IntKind.bits] at this
      exact this
    · have c0 := hcell 0 (by omega)
      obtain ⟨blk, off, spot⟩ := ad
      simp only [Addr.add, if_true] at c0
      obtain rfl : spot = none := cell_spot c0
      refine ⟨blk, off, rfl, World.block_lt_of_cell? W _ c0, fun i x hi => ?_⟩
      have hil := (List.getElem?_eq_some_iff.1 hi).1
      have h1 := hcell i (by omega)
      rw [Addr.add_lit] at h1
      rw [h1]
      rw [List.getElem?_take] at hi
      split at hi
      · rw [List.getD_eq_getElem?_getD, hi]; rfl
      · cases hi
end Go.Proofs.YtmmiclpedehcpaaDoor
namespace Go.Proofs.YtmmiclpedehcpaaDoor
open Go.ChangeShapes Go.WideShapes Go.ChangeAt Go.RowKit
section
variable {H : Type} {enc : TypeId × Value → H} {P : Program}
theorem trodAll_later (hl : laidOutB P = true) {W W' : World} (hb : Below W.heap.size W W') : ∀ {ts : List TypeId} {vs : List Value} {ds : List (DataW H)} {ps : List MemPlace},
    (ts.all fun t => P.readableRec t && decide (t < P.types.size)) = true → (∀ x ∈ ps, x.block < W.heap.size) → DataW.TrodAll enc P W 0 (fun _ => true) true ts vs ds ps → DataW.TrodAll enc P W' 0 (fun b => decide (b < W.heap.size)) true ts vs ds ps
  | [], [], [], _, _, _, h => h
  | [], [], _ :: _, _, _, _, h => h.elim
  | [], _ :: _, _, _, _, _, h => h.elim
  | _ :: _, [], _, _, _, _, h => h.elim
  | _ :: _, _ :: _, [], _, _, _, h => h.elim
  | t :: ts, v :: vs, d :: ds, ps, hr, hlt, h => by
    obtain ⟨p, q, h1, h2, rfl⟩ := h
    simp only [List.all_cons, Bool.and_eq_true, decide_eq_true_eq] at hr
    exact ⟨p, q, Below.trod hl hr.1.1 hr.1.2 h1 hb (fun x hx => hlt x (List.mem_append_left _ hx)), trodAll_later hl hb hr.2 (fun x hx => hlt x (List.mem_append_right _ hx)) h2, rfl⟩
theorem law_post (hl : laidOutB P = true) {f : Func} {s : ChangeSpec} {tb : TypeId} (hv : s.vars = []) (hrt : f.resultTypes = #[tb]) (htb : P.underlying tb = some .bool)
    (hread : (f.params.toList.all fun t => P.readableRec t && decide (t < P.types.size)) = true) {W W' : World} {args : Array Value} {ds gs : List (DataW H)} {before : List MemPlace}
    (hW : DataW.Whole enc P f.params.toList s.vars false W args.toList ds gs before) (hfn : s.fn H (ds ++ gs) = { results := [.lit (.bool true)], args := ds }) (hb : Below W.heap.size W W') :
    s.post enc P f false true false false W args (.bool true) W' := by
  have hlt := hW.lt
  have hW' := hW
  obtain ⟨p, q, hA, hV, rfl, hfz, _⟩ := hW'
  have hV' : gs = [] ∧ q = [] := by
    rw [hv] at hV
    cases gs with
    | nil => exact ⟨rfl, hV⟩
    | cons _ _ => exact hV.elim
  obtain ⟨rfl, rfl⟩ := hV'
  have hold : ∀ x ∈ p, x.block < W.heap.size := fun x hx => hlt x (by simp [hx])
  refine ⟨ds, [], p ++ [], [], p, [], hW, ?_, ?_, ?_, World.keptBut_mono (fun x hx => ⟨hx, ?_⟩) (hb.frame (· ∈ p ++ [])), fun h => by cases h⟩
  · rw [hfn, hrt]
    exact trodAll_mk1 (shut_bool htb _)
  · rw [hfn]
    exact trodAll_later hl hb hread hold hA
  · rw [hfn, hv]
    rfl
  · rw [List.append_nil] at hx
    exact .inr (.inl hx)
end
end Go.Proofs.YtmmiclpedehcpaaDoor
namespace Go.Proofs.YtmmiclpedehcpaaDoor
open Go.ChangeShapes Go.WideShapes Go.ChangeAt Go.RowKit
theorem own : ownKnob Tryd.prog.godebug = none := by kernel_rfl
theorem gTruth : Tryd.prog.globalNamed "syllogism/sign.truth" = some 0 := by kernel_rfl
theorem gTruthType : (Tryd.prog.globals[0]?).map (·.type) = some 67 := by kernel_rfl
theorem cell_spot' {W : World} {b o : Nat} {v : Value} (h : W.cell? ⟨b, o, none⟩ = some v) : b < W.heap.size := by
  unfold World.cell? at h
  rcases Nat.lt_or_ge b W.heap.size with h1 | h1
  · exact h1
  · simp [Array.getElem?_eq_none h1] at h
theorem tru_of_laid {W : World} {rest : List (String × DataW Unit)} (h : laidMet Tryd.prog (("syllogism/sign.truth", Rows.laid_syllogism_sign_truth) :: rest) W) : tru W := by
  obtain ⟨ps, ⟨g', t', cs, fuel, p, q, hg', ht', hvar, hd, _, _⟩, _⟩ := h
  obtain rfl := Option.some.inj (gTruth.symm.trans hg')
  obtain rfl := Option.some.inj (gTruthType.symm.trans ht')
  obtain ⟨s, hcs, _, hx⟩ := trod_sym hd
  have hs : s = truthSm := by
    obtain ⟨a, b, c⟩ := s
    simp [Rows.laid_syllogism_sign_truth] at hx
    obtain ⟨h1, rfl, rfl⟩ := hx
    have : a = truthS := ByteArray.ext (Array.toList_inj.1 h1.symm)
    rw [this]
    rfl
  subst hs
  have hc0 := World.var?_cell hg' hvar 0
  have hc1 := World.var?_cell hg' hvar 1
  have hc2 := World.var?_cell hg' hvar 2
  obtain ⟨cl⟩ := cs
  simp only at hcs
  subst hcs
  refine ⟨hc0, hc1, hc2, ?_⟩
  have := cell_spot' hc0
  exact this
end Go.Proofs.YtmmiclpedehcpaaDoor
namespace Go.Proofs.YtmmiclpedehcpaaDoor
open Go.ChangeShapes Go.WideShapes Go.ChangeAt Go.RowKit
set_option maxRecDepth 20000
variable {H : Type} {enc : TypeId × Value → H} {W : World} {base : Nat} {held : Bool}
end Go.Proofs.YtmmiclpedehcpaaDoor
namespace Go.Proofs.YtmmiclpedehcpaaDoor
open Go.ChangeShapes Go.WideShapes Go.ChangeAt Go.RowKit
set_option maxRecDepth 20000
section
variable {H : Type} {enc : TypeId × Value → H} {W : World} {base : Nat} {held : Bool}
theorem cellsTerm : Tryd.prog.cellsOf 37 = 2 := by kernel_rfl
theorem cellsTerms : Tryd.prog.cellsOf 35 = 1 := by kernel_rfl
theorem bulk_all : ∀ (ts : List Tm) (ds : List (DataW H)), ts.length = ds.length → (∀ (i : Nat) (t : Tm) (d : DataW H), ts[i]? = some t → ds[i]? = some d → t.size ≤ Rows.uptoBulk d) → sizes ts ≤ Rows.uptoBulkAll ds
  | [], [], _, _ => by simp [sizes]
  | [], _ :: _, h, _ => by simp at h
  | _ :: _, [], h, _ => by simp at h
  | t :: ts, d :: ds, h, hh => by
    have h1 := hh 0 t d rfl rfl
    have h2 := bulk_all ts ds (by simpa using h) fun i t' d' e1 e2 => hh (i + 1) t' d' (by simpa using e1) (by simpa using e2)
    simp only [sizes, Rows.uptoBulkAll]
    omega
theorem trod_term : ∀ (n : Nat) (cs : List Value) (x : DataW H × List MemPlace), DataW.trod enc Tryd.prog W base (fun _ => true) held n 37 cs = some x →
    ∃ (t : Tm) (A : Option Addr) (c : Nat), cs = [.int .i64 t.fn, .slice A t.args.length c] ∧ I64 t.fn ∧ Args W W.heap.size A t.args ∧ t.size ≤ Rows.uptoBulk x.1 := by
  intro n
  induction n using Nat.strongRecOn with
  | ind n ih =>
    intro cs x h
    obtain ⟨xs, n', rfl, hx, hlen, hxs, hf⟩ := DataW.trod_struct Tryd.underlying37 h
    rw [cellsTerm] at hlen
    match cs, hlen with
    | [c0, c1], _ =>
      have hx2 : xs.length = 2 := by rw [hxs]; rfl
      match xs, hx2 with
      | [x0, x1], _ =>
        have g0 := hf 0 _ rfl
        have g1 := hf 1 _ rfl
        simp [cellsInt] at g0
        simp [cellsTerms] at g1
        obtain ⟨f, hfv, ef, hw⟩ := DataW.trod_int Tryd.underlying3 g0
        injection hfv with hfv
        subst hfv
        have hf64 : I64 f := by
          have := hw
          simp [Lit.wf, IntKind.min, IntKind.max, IntKind.signed, IntKind.bits] at this
          exact this
        rcases DataW.trod_slice Tryd.underlying35 g1 with ⟨hv, e1⟩ | ⟨a, len, cap, elems, rest, m, hm, hv, e1, _, hl, hmax, hlenE, hel, _, _⟩
        · injection hv with hv
          subst hv
          refine ⟨.node f [], none, 0, rfl, hf64, .nil none, ?_⟩
          subst hx
          simp [ef, e1, Tm.size, sizes, Rows.uptoBulk, Rows.uptoBulkAll]
        · injection hv with hv
          subst hv
          have each : ∀ i, i < len → ∃ q : Tm × Option Addr × Nat × DataW H, I64 q.1.fn ∧ W.cell? (a.add (i * 2)) = some (.int .i64 q.1.fn) ∧ W.cell? ((a.add (i * 2)).add 1) = some (.slice q.2.1 q.1.args.length q.2.2.1) ∧ Args W W.heap.size q.2.1 q.1.args ∧ q.1.size ≤ Rows.uptoBulk q.2.2.2 ∧ (elems.map (·.1))[i]? = some q.2.2.2 := by
            intro i hi
            have h1 := hel i hi
            rw [cellsTerm] at h1
            rw [List.getElem?_eq_getElem (by omega)] at h1
            cases hc : W.cells? base (a.add (i * 2)) 2 with
            | none => rw [hc] at h1; cases h1
            | some cs' =>
              rw [hc] at h1
              simp only [Option.bind_some] at h1
              obtain ⟨t, A, c, rfl, ht64, hA, hb⟩ := ih m (by omega) cs' _ h1
              obtain ⟨_, _, hat⟩ := World.cells?_some hc
              refine ⟨(t, A, c, (elems[i]'(by omega)).1), ht64, ?_, hat 1 (by omega), hA, hb, by rw [List.getElem?_map, List.getElem?_eq_getElem (show i < elems.length by omega)]; rfl⟩
              have := hat 0 (by omega)
              simpa [Addr.add] using this
          haveI : Inhabited (Tm × Option Addr × Nat × DataW H) := ⟨(.node 0 [], none, 0, .nil)⟩
          obtain ⟨q, hq⟩ := Go.Deep.choose_lt each
          have hget : ∀ (i : Nat) (t : Tm), ((List.range len).map fun i => (q i).1)[i]? = some t → i < len ∧ t = (q i).1 := by
            intro i t e
            have hi : i < len := by have := (List.getElem?_eq_some_iff.1 e).1; simpa using this
            rw [List.getElem?_map, List.getElem?_range hi] at e
            simp at e
            exact ⟨hi, e.symm⟩
          refine ⟨.node f ((List.range len).map fun i => (q i).1), some a, cap, by simp [Tm.fn, Tm.args], hf64, ?_, ?_⟩
          · rcases Nat.eq_zero_or_pos len with h0 | h0
            · subst h0; exact .nil _
            · have c00 := (hq 0 h0).2.1
              simp only [Nat.zero_mul, Addr.add, if_true] at c00
              obtain ⟨blk, off, spot⟩ := a
              obtain rfl : spot = none := cell_spot c00
              have hblk : blk < W.heap.size := by
                unfold World.cell? at c00
                rcases Nat.lt_or_ge blk W.heap.size with h1 | h1
                · exact h1
                · simp [Array.getElem?_eq_none h1] at c00
              simp only [Tm.args]
              refine .row blk off _ (fun i => (q i).2.1) (fun i => (q i).2.2.1) hblk (by unfold maxLen at hmax; simp; omega) (fun i t e => ?_) (fun i t e => ?_) (fun i t e => ?_) (fun i t e => ?_)
              · obtain ⟨hi, rfl⟩ := hget i t e
                exact (hq i hi).1
              · obtain ⟨hi, rfl⟩ := hget i t e
                have := (hq i hi).2.1
                rwa [Addr.add_lit] at this
              · obtain ⟨hi, rfl⟩ := hget i t e
                have := (hq i hi).2.2.1
                rwa [Addr.add_lit, Addr.add_lit] at this
              · obtain ⟨hi, rfl⟩ := hget i t e
                exact (hq i hi).2.2.2.1
          · subst hx
            have hb : sizes ((List.range len).map fun i => (q i).1) ≤ Rows.uptoBulkAll (elems.map (·.1)) := by
              refine bulk_all _ _ (by simp [hlenE]) fun i t d e1 e2 => ?_
              obtain ⟨hi, rfl⟩ := hget i t e1
              have h5 := (hq i hi).2.2.2.2
              rw [h5.2] at e2
              cases e2
              exact h5.1
            simp only [ef, e1, Tm.size, List.map_cons, List.map_nil, Rows.uptoBulk, Rows.uptoBulkAll]
            omega
theorem open_term {r : Reach} {b0 : Nat} {v : Value} {d : DataW H} {ps : List MemPlace} (hv : Value.okWide Tryd.prog W r b0 37 v) (h : DataW.Trod enc Tryd.prog W base (fun _ => true) held 37 v d ps) :
    ∃ (t : Tm) (A : Option Addr) (c : Nat), v = .agg #[.int .i64 t.fn, .slice A t.args.length c] ∧ I64 t.fn ∧ Args W W.heap.size A t.args ∧ t.size ≤ Rows.uptoBulk d := by
  obtain ⟨cs, rfl, _⟩ := okWide_struct Tryd.underlying37 hv
  obtain ⟨fuel, hf⟩ := h
  obtain ⟨t, A, c, hcs, h1, h2, h3⟩ := trod_term _ _ _ hf
  refine ⟨t, A, c, ?_, h1, h2, h3⟩
  have hcs' : cs.toList = [.int .i64 t.fn, .slice A t.args.length c] := hcs
  rw [show cs = #[.int .i64 t.fn, .slice A t.args.length c] from Array.toList_inj.1 (by rw [hcs'])]
end
end Go.Proofs.YtmmiclpedehcpaaDoor
