import Derived.Test.YthgglobfkkcdgaaGreatDoorP48S5
import Derived.Test.YthgglobfkkcdgaaGreatDoorP48S2
import Derived.Lib.SlicesCompact
import Derived.Test.YthgglobfkkcdgaaGreatDoorP48S1
import Derived.Maps.OwnSet
import Derived.Deep.RegionLaw
namespace Go.Proofs.YthgglobfkkcdgaaGreatDoor
open Go.RowKit Go.Shelf
attribute [local go_sem] Oper.semAt_some
set_option maxRecDepth 100000
def maxP : List (List Int × Tm) → Nat
  | [] => 0
  | x :: l => max (1 + x.1.length) (maxP l)
theorem maxP_app : ∀ (a b : List (List Int × Tm)), maxP (a ++ b) = max (maxP a) (maxP b)
  | [], b => by simp [maxP]
  | x :: a, b => by simp only [List.cons_append, maxP, maxP_app a b]; omega
theorem maxP_vis (t : Tm) : ∀ p, maxP (vis p t) = p.length + t.depth := by
  have key : ∀ xs : List Tm, (∀ t ∈ xs, ∀ p, maxP (vis p t) = p.length + t.depth) → ∀ (p : List Int) (i : Nat), maxP (visL p i xs) = if xs = [] then 0 else p.length + 1 + depths xs := by
    intro xs
    induction xs with
    | nil => intro _ p i; simp [visL, maxP]
    | cons x xs ih =>
      intro h p i
      have h1 := h x (by simp) (p ++ [(i : Int)])
      have h2 := ih (fun t ht => h t (by simp [ht])) p (i + 1)
      simp only [visL, maxP_app, h1, h2, depths, List.length_append, List.length_cons, List.length_nil]
      rw [if_neg (show ¬ (x :: xs = []) by simp)]
      have := depth_pos x
      by_cases e : xs = []
      · rw [if_pos e, e]; simp only [depths]; omega
      · rw [if_neg e]; omega
  refine Tm.ind (P := fun t => ∀ p, maxP (vis p t) = p.length + t.depth) (fun f xs ih p => ?_) t
  simp only [vis, Tm.depth, maxP, key xs ih]
  by_cases e : xs = []
  · rw [if_pos e, e]; simp only [depths]; omega
  · rw [if_neg e]; omega
theorem maxP_mem {l : List (List Int × Tm)} {x : List Int × Tm} (h : x ∈ l) : 1 + x.1.length ≤ maxP l := by
  induction l with
  | nil => simp at h
  | cons y l ih =>
    simp only [List.mem_cons] at h
    simp only [maxP]
    rcases h with rfl | h
    · omega
    · have := ih h; omega
theorem pre_mem {t : Tm} {pre : List Vis} {x : Vis} (h : (pre ++ [x]).map Vis.key <+: vis [] t) : x.key ∈ vis [] t := h.subset (by simp)
end Go.Proofs.YthgglobfkkcdgaaGreatDoor
namespace Go.Proofs.YthgglobfkkcdgaaGreatDoor
open Go.RowKit Go.Shelf
attribute [local go_sem] Oper.semAt_some
set_option maxRecDepth 100000
theorem stp_alloc {N P : Nat → Prop} (W : World) (o : Obj) (hN : ∀ g, N g → g < W.heap.size) : Stp N (fun _ => P) W (W.alloc o) :=
  ⟨(Keeps.alloc W o).mono fun g hg => hg.elim (hN g) (fun e => e.1), fun _ e => .inl e⟩
end Go.Proofs.YthgglobfkkcdgaaGreatDoor
namespace Go.Proofs.YthgglobfkkcdgaaGreatDoor
open Go.RowKit
mutual
def vn : Tm → List Int
  | .node f xs => (if f < 0 then [-1 - f] else []) ++ vnL xs
def vnL : List Tm → List Int
  | [] => []
  | t :: ts => vn t ++ vnL ts
end
theorem vnL_app : ∀ (a b : List Tm), vnL (a ++ b) = vnL a ++ vnL b
  | [], b => by simp [vnL]
  | x :: a, b => by simp only [List.cons_append, vnL, vnL_app a b, List.append_assoc]
theorem vnL_take {xs : List Tm} {k : Nat} {u : Tm} (h : xs[k]? = some u) : vnL (xs.take (k + 1)) = vnL (xs.take k) ++ vn u := by
  rw [List.take_add_one, h, vnL_app]
  simp [vnL]
theorem vn_len (t : Tm) : (vn t).length ≤ t.size := by
  have key : ∀ xs : List Tm, (∀ t ∈ xs, (vn t).length ≤ t.size) → (vnL xs).length ≤ sizes xs := by
    intro xs
    induction xs with
    | nil => intro _; simp [vnL]
    | cons x xs ih =>
      intro h
      have h1 := h x (by simp)
      have h2 := ih fun t ht => h t (by simp [ht])
      simp only [vnL, sizes, List.length_append]
      omega
  refine Tm.ind (P := fun t => (vn t).length ≤ t.size) (fun f xs ih => ?_) t
  have := key xs ih
  simp only [vn, Tm.size, List.length_append]
  split <;> simp <;> omega
def insGo (v : Int) : List Int → Bool → List Int → Option (List Int)
  | [], done, out => some (if done then out else out ++ [v])
  | x :: r, done, out => if x = v then none else if v < x ∧ done = false then insGo v r true (out ++ [v] ++ [x]) else insGo v r done (out ++ [x])
def insI (l : List Int) (v : Int) : List Int := (insGo v l false []).getD l
end Go.Proofs.YthgglobfkkcdgaaGreatDoor
namespace Go.Proofs.YthgglobfkkcdgaaGreatDoor
open Go.RowKit Go.Shelf
set_option maxRecDepth 100000
end Go.Proofs.YthgglobfkkcdgaaGreatDoor
namespace Go.Proofs.YthgglobfkkcdgaaGreatDoor
open Go.RowKit Go.Shelf
set_option maxRecDepth 100000
section
variable {σ : Type} {V : Int → Prop} {nx : σ → Int → σ × Int} {kn : FuncId} {nc : Array Value} {C D N : Nat → Prop} {I : σ → World → Prop} {B0 : Nat}
end
end Go.Proofs.YthgglobfkkcdgaaGreatDoor
namespace Go.Proofs.YthgglobfkkcdgaaGreatDoor
open Go.RowKit Go.Shelf Go.Maps
set_option maxRecDepth 100000
theorem intLaw : Keyed Tryz.prog 3 := int_keyed Tryz.underlying3
theorem zeroIntV (w : World) : (zeroValue 3).run Tryz.prog w = .ok (.int .i64 0) w := by kernel_rfl
theorem keyOf_v {x : Int} (hx : I64 x) : keyOf Tryz.prog 3 (.int .i64 x) = some (.int .i64 x) :=
  keyOf_int_mk Tryz.underlying3 (WalkArith.wf_i64 ⟨by have := hx.1; omega, by have := hx.2; omega⟩)
end Go.Proofs.YthgglobfkkcdgaaGreatDoor
namespace Go.Proofs.YthgglobfkkcdgaaGreatDoor
open Go.RowKit Go.Shelf Go.Maps
set_option maxRecDepth 100000
structure Bal where
  w0 : Int
  w1 : Int
  a0 : Int
  a1 : Int
  V : Int → Int
  n : Nat
def VMap (w : World) (b n : Nat) (V : Int → Int) : Prop :=
  ∃ D : DataW Unit, w.ownsMap Tryz.prog 3 (plainElem Tryz.prog 3) b n D ∧ ∀ x, I64 x → D.atKey (.int .i64 x) (.lit (.int .i64 0)) = .lit (.int .i64 (V x))
theorem VMap.lt {w : World} {b n : Nat} {V : Int → Int} (h : VMap w b n V) : b < w.heap.size := h.elim fun _ h => h.1.lt
theorem VMap.kept {w w' : World} {b n : Nat} {V : Int → Int} (h : VMap w b n V) (hk : w'.heap[b]? = w.heap[b]?) : VMap w' b n V := by
  obtain ⟨D, ⟨es, clock, hb, F, hs, hD⟩, hat⟩ := h
  exact ⟨D, ⟨es, clock, hk.trans hb, F, hs, hD⟩, hat⟩
theorem VMap.made (w : World) : VMap (w.alloc (.map #[] 0)) w.heap.size 0 fun _ => 0 :=
  ⟨_, World.ownsMap_made w _ _ _, fun _ _ => rfl⟩
theorem VMap.look {w : World} {b n : Nat} {V : Int → Int} (h : VMap w b n V) {x : Int} (hx : I64 x) :
    (Instr.lookup 96 (.map (some b)) (.int .i64 x) false).run Tryz.prog w = .ok (.int .i64 (V x)) w := by
  obtain ⟨D, hown, hat⟩ := h
  obtain ⟨c, hrun, hc, _⟩ := hown.lookup_int intLaw Tryz.underlying96 Tryz.underlying3 (zeroIntV w) (keyOf_v hx)
  have e0 := hat x hx
  rw [hc] at e0
  injection e0 with e0; injection e0 with _ e0; subst e0
  exact hrun
theorem VMap.put {w : World} {b n : Nat} {V : Int → Int} (h : VMap w b n V) (hn : n < 9223372036854775807) {x v : Int} (hx : I64 x) (hv : I64 v) :
    ∃ w', (Instr.mapUpdate 96 (.map (some b)) (.int .i64 x) (.int .i64 v)).run Tryz.prog w = .ok () w' ∧ VMap w' b (n + 1) (fun y => if y = x then v else V y) ∧ w.grownBy w' (some b) := by
  obtain ⟨D, hown, hat⟩ := h
  obtain ⟨w', hrun, hown', hgr⟩ := hown.update intLaw Tryz.underlying96 (by unfold maxLen; omega) (keyOf_v hx) (plainElem_int Tryz.underlying3 (WalkArith.wf_i64 ⟨by have := hv.1; omega, by have := hv.2; omega⟩))
  refine ⟨w', hrun, ⟨_, hown', fun y hy => ?_⟩, hgr⟩
  by_cases e : y = x
  · subst e
    rw [atKey_put_same (hown.tidy intLaw).isMap (intLaw.key (keyOf_v hx))]
    simp
  · rw [atKey_put_other (fun h => e (by simpa using h)), hat y hy]
    simp [e]
structure BalM (w : World) (bx bm : Nat) (o : Odr) (P : Option Addr) (pc : Nat) (Q : Option Addr) (qc : Nat) (b : Bal) : Prop where
  box : w.heap[bx]? = some (.cells #[.bool o.lpo, .slice P o.prec.length pc, .slice Q o.wts.length qc, .int .i64 o.var, .map (some bm), .int .i64 b.a0, .int .i64 b.a1, .int .i64 b.w0, .int .i64 b.w1] 100)
  map : VMap w bm b.n b.V
  ne : bx ≠ bm
theorem BalM.keep {w w' : World} {bx bm : Nat} {o : Odr} {P Q : Option Addr} {pc qc : Nat} {b : Bal} (h : BalM w bx bm o P pc Q qc b) (h1 : w'.heap[bx]? = w.heap[bx]?) (h2 : w'.heap[bm]? = w.heap[bm]?) : BalM w' bx bm o P pc Q qc b := ⟨h1.trans h.box, h.map.kept h2, h.ne⟩
theorem cells_9 {W : World} {b : Nat} {v0 v1 v2 v3 v4 v5 v6 v7 v8 : Value} {t : TypeId} (h : W.heap[b]? = some (.cells #[v0, v1, v2, v3, v4, v5, v6, v7, v8] t)) :
    W.cell? ⟨b, 0, none⟩ = some v0 ∧ W.cell? ⟨b, 1, none⟩ = some v1 ∧ W.cell? ⟨b, 2, none⟩ = some v2 ∧ W.cell? ⟨b, 3, none⟩ = some v3 ∧ W.cell? ⟨b, 4, none⟩ = some v4 ∧ W.cell? ⟨b, 5, none⟩ = some v5 ∧ W.cell? ⟨b, 6, none⟩ = some v6 ∧ W.cell? ⟨b, 7, none⟩ = some v7 ∧ W.cell? ⟨b, 8, none⟩ = some v8 := by
  refine ⟨?_, ?_, ?_, ?_, ?_, ?_, ?_, ?_, ?_⟩ <;> simp [World.cell?, h]
def sgn (at_ : Int) : Int := if at_ = 0 then 1 else -1
def cntB (o : Odr) (at_ : Int) (b : Bal) (f : Int) : Bal :=
  { w0 := if at_ = 0 then b.w0 + wtI o f else b.w0
    w1 := if at_ = 0 then b.w1 else b.w1 + wtI o f
    a0 := if f < 0 then (if 0 ≤ b.V f * sgn at_ then (if at_ = 0 then b.a0 + 1 else b.a0) else (if at_ = 0 then b.a0 else b.a0 - 1)) else b.a0
    a1 := if f < 0 then (if 0 ≤ b.V f * sgn at_ then (if at_ = 0 then b.a1 else b.a1 + 1) else (if at_ = 0 then b.a1 - 1 else b.a1)) else b.a1
    V := if f < 0 then (fun x => if x = f then b.V f + sgn at_ else b.V x) else b.V
    n := b.n + 1 }
structure BalOK (b : Bal) : Prop where
  n : b.n ≤ 1073741824
  w0 : 0 ≤ b.w0 ∧ b.w0 ≤ 2147483647 * (b.n : Int)
  w1 : 0 ≤ b.w1 ∧ b.w1 ≤ 2147483647 * (b.n : Int)
  a0 : -(b.n : Int) ≤ b.a0 ∧ b.a0 ≤ (b.n : Int)
  a1 : -(b.n : Int) ≤ b.a1 ∧ b.a1 ≤ (b.n : Int)
  V : ∀ x, -(b.n : Int) ≤ b.V x ∧ b.V x ≤ (b.n : Int)
theorem BalOK.next {o : Odr} {at_ : Int} {b : Bal} (h : BalOK b) (hn : b.n + 1 ≤ 1073741824) (f : Int) : BalOK (cntB o at_ b f) := by
  obtain ⟨h1, h2⟩ := wtI_bd o f
  have hs : sgn at_ = 1 ∨ sgn at_ = -1 := by unfold sgn; split <;> simp
  obtain ⟨k0, k1⟩ := h.w0
  obtain ⟨k2, k3⟩ := h.w1
  obtain ⟨k4, k5⟩ := h.a0
  obtain ⟨k6, k7⟩ := h.a1
  refine ⟨hn, ?_, ?_, ?_, ?_, fun x => ?_⟩
  · show 0 ≤ (if at_ = 0 then b.w0 + wtI o f else b.w0) ∧ (if at_ = 0 then b.w0 + wtI o f else b.w0) ≤ 2147483647 * ((b.n + 1 : Nat) : Int)
    split <;> omega
  · show 0 ≤ (if at_ = 0 then b.w1 else b.w1 + wtI o f) ∧ (if at_ = 0 then b.w1 else b.w1 + wtI o f) ≤ 2147483647 * ((b.n + 1 : Nat) : Int)
    split <;> omega
  · show -((b.n + 1 : Nat) : Int) ≤ (cntB o at_ b f).a0 ∧ (cntB o at_ b f).a0 ≤ ((b.n + 1 : Nat) : Int)
    unfold cntB
    simp only
    split
    · split <;> split <;> omega
    · omega
  · show -((b.n + 1 : Nat) : Int) ≤ (cntB o at_ b f).a1 ∧ (cntB o at_ b f).a1 ≤ ((b.n + 1 : Nat) : Int)
    unfold cntB
    simp only
    split
    · split <;> split <;> omega
    · omega
  · show -((b.n + 1 : Nat) : Int) ≤ (cntB o at_ b f).V x ∧ (cntB o at_ b f).V x ≤ ((b.n + 1 : Nat) : Int)
    obtain ⟨k8, k9⟩ := h.V x
    obtain ⟨k10, k11⟩ := h.V f
    unfold cntB
    simp only
    split
    · show -((b.n + 1 : Nat) : Int) ≤ (if x = f then b.V f + sgn at_ else b.V x) ∧ (if x = f then b.V f + sgn at_ else b.V x) ≤ ((b.n + 1 : Nat) : Int)
      split <;> omega
    · omega
end Go.Proofs.YthgglobfkkcdgaaGreatDoor
namespace Go.Proofs.YthgglobfkkcdgaaGreatDoor
open Go.RowKit Go.Shelf Go.Maps
set_option maxRecDepth 100000
def CntPost (bx bm : Nat) (o : Odr) (P : Option Addr) (pc : Nat) (Q : Option Addr) (qc : Nat) (r : Bal) (w : World) (e : Ending) (w' : World) : Prop :=
  e = .returned (.tuple #[]) ∧ BalM w' bx bm o P pc Q qc r ∧ KeepsC (fun g => g = bx ∨ g = bm) w w'
theorem set_9 {W : World} {b : Nat} {cs : Array Value} {t : TypeId} (h : W.heap[b]? = some (.cells cs t)) (i : Nat) (v : Value) : (W.setCell ⟨b, i, none⟩ v).heap[b]? = some (.cells (cs.setIfInBounds i v) t) := heap_setCell_same _ _ _ _ _ _ h
theorem cntB_pos0 {o : Odr} {b : Bal} {f : Int} (h : ¬ f < 0) : cntB o 0 b f = ⟨b.w0 + wtI o f, b.w1, b.a0, b.a1, b.V, b.n + 1⟩ := by unfold cntB; simp [h]
theorem cntB_pos1 {o : Odr} {b : Bal} {f : Int} (h : ¬ f < 0) : cntB o 1 b f = ⟨b.w0, b.w1 + wtI o f, b.a0, b.a1, b.V, b.n + 1⟩ := by unfold cntB; simp [h]
theorem cntB_neg00 {o : Odr} {b : Bal} {f : Int} (h : f < 0) (hv : 0 ≤ b.V f) : cntB o 0 b f = ⟨b.w0 + wtI o f, b.w1, b.a0 + 1, b.a1, fun x => if x = f then b.V f + 1 else b.V x, b.n + 1⟩ := by unfold cntB sgn; simp [h, hv]
theorem cntB_neg01 {o : Odr} {b : Bal} {f : Int} (h : f < 0) (hv : ¬ 0 ≤ b.V f) : cntB o 0 b f = ⟨b.w0 + wtI o f, b.w1, b.a0, b.a1 - 1, fun x => if x = f then b.V f + 1 else b.V x, b.n + 1⟩ := by unfold cntB sgn; simp [h, hv]
theorem cntB_neg10 {o : Odr} {b : Bal} {f : Int} (h : f < 0) (hv : 0 ≤ -b.V f) : cntB o 1 b f = ⟨b.w0, b.w1 + wtI o f, b.a0, b.a1 + 1, fun x => if x = f then b.V f + -1 else b.V x, b.n + 1⟩ := by unfold cntB sgn; simp [h, show b.V f ≤ 0 by omega]
theorem cntB_neg11 {o : Odr} {b : Bal} {f : Int} (h : f < 0) (hv : ¬ 0 ≤ -b.V f) : cntB o 1 b f = ⟨b.w0, b.w1 + wtI o f, b.a0 - 1, b.a1, fun x => if x = f then b.V f + -1 else b.V x, b.n + 1⟩ := by unfold cntB sgn; simp [h, show ¬ b.V f ≤ 0 by omega]
theorem VMap.more {w : World} {b n m : Nat} {V : Int → Int} (h : VMap w b n V) (hm : n ≤ m) : VMap w b m V := by
  obtain ⟨D, ⟨es, clock, hb, F, hs, hD⟩, hat⟩ := h
  exact ⟨D, ⟨es, clock, hb, F, Nat.le_trans hs hm, hD⟩, hat⟩
theorem keepsC_set {bx bm : Nat} {w w1 : World} (h : KeepsC (fun g => g = bx ∨ g = bm) w w1) (i : Nat) (v : Value) : KeepsC (fun g => g = bx ∨ g = bm) w (w1.setCell ⟨bx, i, none⟩ v) :=
  Keeps.trans h ((Keeps.set w1 ⟨bx, i, none⟩ v).mono fun _ hg e => hg.2 (.inl e))
set_option maxHeartbeats 4000000 in
theorem count_pos0 (o : Odr) (b : Bal) (t : Tm) (P Q A : Option Addr) (pc qc c bx bm B0 : Nat) (w : World) (hM : BalM w bx bm o P pc Q qc b) (hO : OdrM w B0 o P Q) (hB0 : B0 ≤ w.heap.size) (hk : t.fn < 0 ∨ t.fn < (o.wts.length : Int)) (hOK : BalOK b) (hf : ¬ t.fn < 0) :
    Calls Tryz.prog 109 #[.pointer (some ⟨bx, 0, none⟩), .agg #[.int .i64 t.fn, .slice A t.args.length c], .int .i64 0] w (CntPost bx bm o P pc Q qc (cntB o 0 b t.fn) w) := by
  rw [cntB_pos0 hf]
  have hbxl := hM.box
  have hbx : bx < w.heap.size := (Array.getElem?_eq_some_iff.1 hbxl).1
  have hbm : bm < w.heap.size := hM.map.lt
  have hnebm := hM.ne
  have q0 := heap_alloc_new w (.cells #[.int .i64 t.fn, .slice A t.args.length c] 32)
  obtain ⟨W, hW⟩ : ∃ W, w.alloc (.cells #[.int .i64 t.fn, .slice A t.args.length c] 32) = W := ⟨_, rfl⟩
  have hB : Below w.heap.size w W := by rw [← hW]; exact (Below.refl _ _).alloc (Nat.le_refl _) _
  rw [hW] at q0
  have hWs : w.heap.size < W.heap.size := (Array.getElem?_eq_some_iff.1 q0).1
  have hMW := hM.keep (hB.block bx hbx) (hB.block bm hbm)
  have hSS : ∀ w', Below W.heap.size W w' → w'.cell? ⟨bx, 0, none⟩ = some (.bool o.lpo) ∧ w'.cell? ⟨bx, 1, none⟩ = some (.slice P o.prec.length pc) ∧ w'.cell? ⟨bx, 2, none⟩ = some (.slice Q o.wts.length qc) ∧ w'.cell? ⟨bx, 3, none⟩ = some (.int .i64 o.var) ∧ w'.cell? ⟨bx, 7, none⟩ = some (.int .i64 b.w0) ∧ w'.cell? ⟨w.heap.size, 0, none⟩ = some (.int .i64 t.fn) ∧ w'.cell? ⟨w.heap.size, 1, none⟩ = some (.slice A t.args.length c) ∧ w'.frozen? ⟨bx, 7, none⟩ = false := fun w' hb => by
    have hx := (hb.block bx (by omega)).trans hMW.box
    obtain ⟨c0, c1, c2, c3, c4, c5, c6, c7, c8⟩ := cells_9 hx
    obtain ⟨d0, d1, _, _⟩ := cells_two ((hb.block _ hWs).trans q0)
    exact ⟨c0, c1, c2, c3, c7, d0, d1, frozen_9 hx _⟩
  have hD := bl_drewN (Below.refl W.heap.size W) 1
  obtain ⟨i0, i1, i2, i3, i4, i5, i6, i7⟩ := hSS W.drew hD
  have H1 := Lib.hid (kboWeight1_any o t P Q A pc qc c W.drew ⟨((hO.p.more hB0).on hB).on hD, ((hO.q.more hB0).on hB).on hD, hO.v⟩ hk)
  have hwt := wtI_bd o t.fn
  have hw0 := hOK.w0
  have hnn := hOK.n
  have hsum : IntKind.i64.wrap (b.w0 + wtI o t.fn) = b.w0 + wtI o t.fn := by rw [IntKind.wrap_i64]; omega
  have HSS := Lib.hid hSS
  have HW := Lib.hid hW
  have HMW := Lib.hid hMW
  have Hq0 := Lib.hid q0
  have HOK := Lib.hid hOK
  obtain ⟨x, hx⟩ : ∃ x, wtI o t.fn = x := ⟨_, rfl⟩
  rw [hx] at H1 hsum hwt
  have Hx := Lib.hid hx
  clear hW hO hSS hMW q0 hM hbxl hx hOK
  go_enter Tryz.func109, Tryz.ntmps109
  go_upto_region 1 with fail
  rw [HW.out]
  go_region_law
    (first
      | (go_simp
         go_at_call 133
         with_reducible refine H1.out.mono ?_
         rintro e w1 ⟨rfl, hb1⟩
         have hB1 : Below W.heap.size W w1 := ⟨hb1.os, hb1.tape, hb1.output, hb1.size, hb1.block⟩
         obtain ⟨j0, j1, j2, j3, j4, j5, j6, j7⟩ := HSS.out w1 hB1
         dsimp only)
      | fail)
  all_goals
    have hge : decide (t.fn ≥ 0) = true := decide_eq_true (by omega)
    have hne : bx ≠ w.heap.size := by omega
    go_wp2
    go_end0
    refine ⟨rfl, ⟨?_, ?_, hnebm⟩, ?_⟩
    · rw [set_9 ((hB1.block bx (by omega)).trans HMW.out.box) 7 (.int .i64 (b.w0 + x)), Hx.out]
      rfl
    · exact ((HMW.out.map.kept (hB1.block bm (by omega))).kept (heap_setCell_other _ _ _ _ (fun e => hnebm e.symm))).more (Nat.le_succ _)
    · exact keepsC_set ((KeepsC.of_below hB).trans (KeepsC.of_below hB1)) _ _
set_option maxHeartbeats 4000000 in
theorem count_pos1 (o : Odr) (b : Bal) (t : Tm) (P Q A : Option Addr) (pc qc c bx bm B0 : Nat) (w : World) (hM : BalM w bx bm o P pc Q qc b) (hO : OdrM w B0 o P Q) (hB0 : B0 ≤ w.heap.size) (hk : t.fn < 0 ∨ t.fn < (o.wts.length : Int)) (hOK : BalOK b) (hf : ¬ t.fn < 0) :
    Calls Tryz.prog 109 #[.pointer (some ⟨bx, 0, none⟩), .agg #[.int .i64 t.fn, .slice A t.args.length c], .int .i64 1] w (CntPost bx bm o P pc Q qc (cntB o 1 b t.fn) w) := by
  rw [cntB_pos1 hf]
  have hbxl := hM.box
  have hbx : bx < w.heap.size := (Array.getElem?_eq_some_iff.1 hbxl).1
  have hbm : bm < w.heap.size := hM.map.lt
  have hnebm := hM.ne
  have q0 := heap_alloc_new w (.cells #[.int .i64 t.fn, .slice A t.args.length c] 32)
  obtain ⟨W, hW⟩ : ∃ W, w.alloc (.cells #[.int .i64 t.fn, .slice A t.args.length c] 32) = W := ⟨_, rfl⟩
  have hB : Below w.heap.size w W := by rw [← hW]; exact (Below.refl _ _).alloc (Nat.le_refl _) _
  rw [hW] at q0
  have hWs : w.heap.size < W.heap.size := (Array.getElem?_eq_some_iff.1 q0).1
  have hMW := hM.keep (hB.block bx hbx) (hB.block bm hbm)
  have hSS : ∀ w', Below W.heap.size W w' → w'.cell? ⟨bx, 0, none⟩ = some (.bool o.lpo) ∧ w'.cell? ⟨bx, 1, none⟩ = some (.slice P o.prec.length pc) ∧ w'.cell? ⟨bx, 2, none⟩ = some (.slice Q o.wts.length qc) ∧ w'.cell? ⟨bx, 3, none⟩ = some (.int .i64 o.var) ∧ w'.cell? ⟨bx, 8, none⟩ = some (.int .i64 b.w1) ∧ w'.cell? ⟨w.heap.size, 0, none⟩ = some (.int .i64 t.fn) ∧ w'.cell? ⟨w.heap.size, 1, none⟩ = some (.slice A t.args.length c) ∧ w'.frozen? ⟨bx, 8, none⟩ = false := fun w' hb => by
    have hx := (hb.block bx (by omega)).trans hMW.box
    obtain ⟨c0, c1, c2, c3, c4, c5, c6, c7, c8⟩ := cells_9 hx
    obtain ⟨d0, d1, _, _⟩ := cells_two ((hb.block _ hWs).trans q0)
    exact ⟨c0, c1, c2, c3, c8, d0, d1, frozen_9 hx _⟩
  have hD := bl_drewN (Below.refl W.heap.size W) 1
  obtain ⟨i0, i1, i2, i3, i4, i5, i6, i7⟩ := hSS W.drew hD
  have H1 := Lib.hid (kboWeight1_any o t P Q A pc qc c W.drew ⟨((hO.p.more hB0).on hB).on hD, ((hO.q.more hB0).on hB).on hD, hO.v⟩ hk)
  have hwt := wtI_bd o t.fn
  have hw0 := hOK.w1
  have hnn := hOK.n
  have hsum : IntKind.i64.wrap (b.w1 + wtI o t.fn) = b.w1 + wtI o t.fn := by rw [IntKind.wrap_i64]; omega
  have HSS := Lib.hid hSS
  have HW := Lib.hid hW
  have HMW := Lib.hid hMW
  have Hq0 := Lib.hid q0
  have HOK := Lib.hid hOK
  obtain ⟨x, hx⟩ : ∃ x, wtI o t.fn = x := ⟨_, rfl⟩
  rw [hx] at H1 hsum hwt
  have Hx := Lib.hid hx
  clear hW hO hSS hMW q0 hM hbxl hx hOK
  go_enter Tryz.func109, Tryz.ntmps109
  go_upto_region 1 with fail
  rw [HW.out]
  go_region_law
    (first
      | (go_simp
         go_at_call 133
         with_reducible refine H1.out.mono ?_
         rintro e w1 ⟨rfl, hb1⟩
         have hB1 : Below W.heap.size W w1 := ⟨hb1.os, hb1.tape, hb1.output, hb1.size, hb1.block⟩
         obtain ⟨j0, j1, j2, j3, j4, j5, j6, j7⟩ := HSS.out w1 hB1
         dsimp only)
      | fail)
  all_goals
    have hge : decide (t.fn ≥ 0) = true := decide_eq_true (by omega)
    have hne : bx ≠ w.heap.size := by omega
    go_wp2
    go_end0
    refine ⟨rfl, ⟨?_, ?_, hnebm⟩, ?_⟩
    · rw [set_9 ((hB1.block bx (by omega)).trans HMW.out.box) 8 (.int .i64 (b.w1 + x)), Hx.out]
      rfl
    · exact ((HMW.out.map.kept (hB1.block bm (by omega))).kept (heap_setCell_other _ _ _ _ (fun e => hnebm e.symm))).more (Nat.le_succ _)
    · exact keepsC_set ((KeepsC.of_below hB).trans (KeepsC.of_below hB1)) _ _
end Go.Proofs.YthgglobfkkcdgaaGreatDoor
