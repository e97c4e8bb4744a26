/- slices.Backward at symbols: the iterator's contract. -/
import Derived.Test.YtimgomoafeaoiaaDoorW6
import Derived.RangeFuncNested
import Derived.RangeFuncBox
import Derived.RangeFuncLeaves
import Derived.Shelf.Abstract
import Derived.OwnWalkIn
import Derived.TacticsInMore
import Derived.LoopNIn
import Derived.LoopIn
import Derived.Maps.OwnIn
namespace Go.Proofs.YtimgomoafeaoiaaDoor
open Go.RowKit Go.Shelf
attribute [local go_sem] Oper.semAt_some

/-- A place and a symbol, both as they may be. -/
abbrev IxSm := { p : Nat × Sm // p.2.Ok ∧ p.1 ≤ 9223372036854775807 }
def ixV (x : IxSm) : Array Value := #[.int .i64 (x.1.1 : Int), .agg #[.string x.1.2.name, .int .i64 x.1.2.arity, .bool x.1.2.pred]]
/-- All cells that are there stay as they are. -/
def CK (A B : World) : Prop := ∀ p v, A.cell? p = some v → B.cell? p = some v
theorem CK.refl (A : World) : CK A A := fun _ _ h => h
theorem CK.trans {A B C : World} (h : CK A B) (k : CK B C) : CK A C := fun p v e => k p v (h p v e)
theorem ck_put {w : World} (W : World) (l : Nat) (o o' : Obj) (_ : w.heap.size ≤ l) (h : W.heap[l]? = some o) (hc : o.isCells = false) (_ : o.isWalk = false) : CK W (W.putObj l o') := by
  intro p v e
  by_cases hp : p.block = l
  · exfalso
    unfold World.cell? at e
    rw [hp, h] at e
    cases o <;> simp [Obj.isCells] at hc e
  · rw [← e]
    exact World.cell?_of_block ((grownBy_putObj' W l o').block p.block (by
      unfold World.cell? at e
      rcases Nat.lt_or_ge p.block W.heap.size with h1 | h1
      · exact h1
      · rw [Array.getElem?_eq_none h1] at e; cases e) (by simpa using hp))

/-- The places of l from the last one on. -/
structure Backs (l : List Sm) (zs : List IxSm) : Prop where
  len : zs.length = l.length
  at_ : ∀ j (x : IxSm), zs[j]? = some x → x.1.1 = l.length - 1 - j ∧ l[l.length - 1 - j]? = some x.1.2
theorem backs_of (l : List Sm) (hok : ∀ x ∈ l, x.Ok) (hl : l.length ≤ 9223372036854775807) : ∃ zs, Backs l zs := by
  refine ⟨List.ofFn fun j : Fin l.length => ⟨(l.length - 1 - j, l[l.length - 1 - j]'(by omega)), ⟨hok _ (List.getElem_mem _), by simp; omega⟩⟩, by simp, fun j x hx => ?_⟩
  rw [List.getElem?_ofFn] at hx
  split at hx
  · rename_i hj
    injection hx with hx
    subst hx
    exact ⟨rfl, List.getElem?_eq_getElem _⟩
  · cases hx

set_option maxRecDepth 100000 in
set_option maxHeartbeats 2000000 in
theorem back1_in (F : Fence) (n : Nat) (hf : F.fn 52) (hro : F.round = none) (hn : 1 ≤ n) (l Bs : Nat) (A : Option Addr) (c B : Nat) (L : List Sm) (hL : L.length * 32 ≤ 140737488351232) (zs : List IxSm) (hz : Backs L zs) (J Jx : List IxSm → World → Prop)
    (hY : ∀ pre x W, J pre W → pre.length < zs.length → YieldAt F (n - 1) Tryd.prog l (ixV x) W fun e W' =>
      (e = .returned (.bool true) ∧ J (pre ++ [x]) W' ∧ CK W W') ∨ (e = .returned (.bool false) ∧ Jx (pre ++ [x]) W'))
    (W : World) (hBs : W.cell? ⟨Bs, 0, none⟩ = some (.slice A L.length c)) (hS : Syms W B A L.length L) (h0 : J [] W) :
    CallsIn F n Tryd.prog 52 #[.func (.yield l) #[] #[], .pointer (some ⟨Bs, 0, none⟩)] W fun e W' => (∃ v, e = .returned v) ∧
      ((∃ ys, ys = zs ∧ J ys W') ∨ (∃ pre, pre <+: zs ∧ Jx pre W')) := by
  refine callsIn_of_wp Tryd.func52 rfl hf ?_ hro
  simp only [Tryd.ntmps52, List.size_toArray, List.length_cons, List.length_nil, Nat.reduceAdd, Nat.reduceSub, Array.replicate_succ, Array.replicate_zero, List.push_toArray, List.append_toArray, List.nil_append, List.cons_append]
  have hz1 := hz.len
  gi_wp2
  gi_loopw [3] (fun i wr => ∃ k : Nat, k ≤ L.length ∧ i = .int .i64 ((L.length : Int) - 1 - k) ∧ J (zs.take k) wr ∧ CK W wr)
    (fun i _ => (intOf i + 1).toNat)
  case atStart => exact ⟨0, Nat.zero_le _, by simp, by simpa using h0, CK.refl _⟩
  case round =>
    obtain ⟨k, hk, rfl, hJs, hck⟩ := hrel
    have hb1 := hck _ _ hBs
    by_cases hlt : k < L.length
    · obtain ⟨x, hx⟩ : ∃ x, zs[k]? = some x := ⟨_, List.getElem?_eq_getElem (by omega)⟩
      obtain ⟨hx1, hx2⟩ := hz.at_ k x hx
      obtain ⟨b, off, rfl, hb, hc⟩ := hS.ad (by omega)
      obtain ⟨c1, c2, c3⟩ := hc _ _ hx2
      rw [← hx1] at c1 c2 c3
      have d1 := hck _ _ c1
      have d2 := hck _ _ c2
      have d3 := hck _ _ c3
      have hts : zs.take (k + 1) = zs.take k ++ [x] := by rw [List.take_add_one, hx]; rfl
      obtain ⟨fn, tmps, assign, body, hy, hR⟩ := hY _ x wr hJs (by rw [List.length_take]; omega)
      have hlo : (0 : Int) ≤ (L.length : Int) - 1 - k := by omega
      have hidx : (L.length : Int) - 1 - k = (x.1.1 : Int) := by omega
      have hxl : x.1.1 < L.length := by omega
      simp only [ixV] at hy
      have Hts := Lib.hid hts
      have Hx := Lib.hid (And.intro hx1 hx2)
      have Hz := Lib.hid hz1
      clear hts hx1 hx2 hx hc c1 c2 c3 hz1 hz hS hY
      rw [hidx]
      have Hi := Lib.hid hidx
      clear hidx hlo
      gi_wp2
      refine hR.mono ?_
      rintro e W3 (⟨rfl, hJ3, hk3⟩ | ⟨rfl, hJx3⟩)
      · gi_wp2
        go_roundw
        case rel => exact ⟨k + 1, by omega, by rw [show (L.length : Int) - 1 - ((k + 1 : Nat) : Int) = (x.1.1 : Int) - 1 from by have := Hi.out; omega], by rw [Hts.out]; exact hJ3, hck.trans hk3⟩
        case measure => simp [intOf]
      · gi_wp2
        refine bodyPost_ret (results_none rfl _ _ _) rfl ?_
        exact ⟨⟨_, rfl⟩, .inr ⟨_, ⟨zs.drop (k + 1), by rw [← Hts.out, List.take_append_drop]⟩, hJx3⟩⟩
    · have : k = L.length := by omega
      subst this
      gi_wp2
      go_end0
      exact ⟨⟨_, rfl⟩, .inl ⟨_, by rw [List.take_of_length_le (by omega)], hJs⟩⟩

set_option maxHeartbeats 1000000 in
theorem back_in (F : Fence) (n : Nat) (hf : F.fn 45) (hro : F.round = none) (a : Option Addr) (len cap : Nat) (w : World) :
    CallsIn F n Tryd.prog 45 #[.slice a len cap] w fun e w' => e = .returned (.func (.func 52) #[] #[.pointer (some ⟨w.heap.size, 0, none⟩)]) ∧ w' = w.alloc (.cells #[.slice a len cap] 46) := by
  refine callsIn_of_wp Tryd.func45 rfl hf ?_ hro
  simp only [Tryd.ntmps45, List.size_toArray, List.length_cons, List.length_nil, Nat.reduceAdd, Nat.reduceSub, Array.replicate_succ, Array.replicate_zero, List.push_toArray, List.append_toArray, List.nil_append, List.cons_append]
  gi_wp2
  go_ret
  exact ⟨rfl, rfl⟩

theorem back_stops (F : Fence) (n : Nat) (hf : F.fn 52) (hro : F.round = none) (hn : 1 ≤ n) (Bs : Nat) (A : Option Addr) (c B : Nat) (L : List Sm) (hL : L.length * 32 ≤ 140737488351232) (zs : List IxSm) (hz : Backs L zs) (w : World) (hlt : Bs < w.heap.size) (hB : B ≤ w.heap.size)
    (hBs : w.cell? ⟨Bs, 0, none⟩ = some (.slice A L.length c)) (hS : Syms w B A L.length L) :
    SeqStopsK F n Tryd.prog 52 #[.pointer (some ⟨Bs, 0, none⟩)] ixV CK (fun ys => ys = zs) (fun pre => pre <+: zs) zs.length w := fun l J Jx W hW _ _ hY h0 =>
  back1_in F n hf hro hn l Bs A c B L hL zs hz J Jx hY W ((hW.cell (p := ⟨Bs, 0, none⟩) hlt).trans hBs) (hS.below (hW.mono hB)) h0
end Go.Proofs.YtimgomoafeaoiaaDoor
