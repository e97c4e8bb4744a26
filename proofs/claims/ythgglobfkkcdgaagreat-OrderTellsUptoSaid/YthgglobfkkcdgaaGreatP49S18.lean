import Derived.Test.YthgglobfkkcdgaaGreatP49S17
import Derived.Test.YthgglobfkkcdgaaGreatP49S12
import Derived.Test.YthgglobfkkcdgaaGreatP49S1
import Derived.Deep.RegionLaw
import Derived.Test.YthgglobfkkcdgaaGreatP49S2
import Derived.RegionTactic
import Derived.ChangeAlike
import Derived.Deep.DeepCutAuto
import Derived.Lib.BufferMore
import Derived.OwnWalk
import Derived.Test.YthgglobfkkcdgaaGreatP49S4
import Derived.Test.YthgglobfkkcdgaaGreatP49S13
import Derived.Deep.OwnRows
import Derived.Test.YthgglobfkkcdgaaGreatP49S10
import Derived.Deep.RegionHeld3
import Derived.Test.YthgglobfkkcdgaaGreatP49S16
namespace Go.Proofs.YthgglobfkkcdgaaGreat
open Go.RowKit Go.Shelf
set_option maxRecDepth 100000
structure Nd where
  u : Tm
  A : Option Addr
  c : Nat
  kv : Value
  ks : List Nat
def Nd.cells (x : Nd) : List Value := [.int .i64 x.u.fn, .slice x.A x.u.args.length x.c, x.kv]
def Nd.p (x : Nd) : Tm × List Nat := (x.u, x.ks)
theorem nd_get (l : List Nd) (i r : Nat) (hr : r < 3) : (l.flatMap Nd.cells)[i * 3 + r]? = (l[i]?).bind fun x => x.cells[r]? := by
  induction l generalizing i with
  | nil => simp
  | cons x l ih =>
    have hlen : x.cells.length = 3 := rfl
    rw [List.flatMap_cons]
    cases i with
    | zero => rw [List.getElem?_append_left (by omega)]; simp
    | succ i =>
      rw [List.getElem?_append_right (by omega), hlen, show (i + 1) * 3 + r - 3 = i * 3 + r from by omega, ih]
      simp
theorem nd_len (l : List Nd) : (l.flatMap Nd.cells).length = l.length * 3 := by
  induction l with
  | nil => rfl
  | cons x l ih =>
    have hlen : x.cells.length = 3 := rfl
    rw [List.flatMap_cons, List.length_append, ih, hlen, List.length_cons]
    omega
theorem ndflat_set (l : List Nd) (i t : Nat) (x : Nd) (hi : i < l.length) : ((l.set i x).flatMap Nd.cells)[t]? = if t / 3 = i then x.cells[t % 3]? else (l.flatMap Nd.cells)[t]? := by
  have h1 := nd_get (l.set i x) (t / 3) (t % 3) (Nat.mod_lt _ (by omega))
  have h2 := nd_get l (t / 3) (t % 3) (Nat.mod_lt _ (by omega))
  rw [show t / 3 * 3 + t % 3 = t by omega] at h1 h2
  rw [h1, h2, List.getElem?_set]
  by_cases e : i = t / 3
  · rw [if_pos e, if_pos (by omega), if_pos e.symm]; rfl
  · rw [if_neg e, if_neg fun h => e h.symm]
structure RowN (w : World) (base : Nat) (v : Value) (l : List Nd) : Prop where
  row : w.ownsRow base 128 3 v l.length (l.flatMap Nd.cells)
  i64 : ∀ x ∈ l, I64 x.u.fn
  sub : ∀ x ∈ l, Args w base x.A x.u.args
  ks : ∀ x ∈ l, IntsR w base x.kv (x.ks.map fun (k : Nat) => (k : Int))
  ap : ∀ (i j : Nat) (x y : Nd) (g : Nat), l[i]? = some x → l[j]? = some y → x.kv.ownBlock = some g → y.kv.ownBlock = some g → i = j
  av : ∀ x ∈ l, ∀ g, x.kv.ownBlock = some g → v.ownBlock ≠ some g
section
variable {w w' : World} {base : Nat} {v : Value} {l : List Nd}
theorem RowN.nil_ (w : World) (base : Nat) : RowN w base (.slice none 0 0) [] := ⟨World.ownsRow_nil w _ _ _, fun x hx => by simp at hx, fun x hx => by simp at hx, fun x hx => by simp at hx, fun i j x y g h => by simp at h, fun x hx => by simp at hx⟩
theorem RowN.on (h : RowN w base v l) (hb : Below w.heap.size w w') (hs : base ≤ w.heap.size) : RowN w' base v l :=
  ⟨row_keep h.row fun g e => hb.block g (row_lt h.row g e).2, h.i64, fun x hx => (h.sub x hx).blw (hb.mono hs), fun x hx => (h.ks x hx).on hb, h.ap, h.av⟩
theorem RowN.push {u : Tm} {A : Option Addr} {c : Nat} {v' : Value} (h : RowN w base v l) (hrow : w'.ownsRow base 128 3 v' (l.length + 1) (l.flatMap Nd.cells ++ Nd.cells ⟨u, A, c, .slice none 0 0, []⟩)) (hi : I64 u.fn) (hA : Args w base A u.args) (hs : base ≤ w.heap.size)
    (hg : w.grownBy w' v.ownBlock) (hv : v'.ownBlock = v.ownBlock ∨ v'.ownBlock = some w.heap.size) (hvb : ∀ g, v.ownBlock = some g → base ≤ g) : RowN w' base v' (l ++ [⟨u, A, c, .slice none 0 0, []⟩]) := by
  have hbl : Below base w w' := ⟨hg.os, hg.tape, hg.output, hg.size, fun k hk => hg.block k (by omega) fun e => by have := hvb k e.symm; omega⟩
  have hkk : ∀ x ∈ l, ∀ g, x.kv.ownBlock = some g → w'.heap[g]? = w.heap[g]? := fun x hx g e => hg.block g (row_lt (h.ks x hx).row g e).2 fun e2 => h.av x hx g e e2.symm
  refine ⟨by rw [List.length_append, List.flatMap_append]; simpa using hrow, fun x hx => ?_, fun x hx => ?_, fun x hx => ?_, fun i j x y g hx hy e1 e2 => ?_, fun x hx g e => ?_⟩
  · rcases List.mem_append.1 hx with hx | hx
    · exact h.i64 x hx
    · rw [List.mem_singleton] at hx; subst hx; exact hi
  · rcases List.mem_append.1 hx with hx | hx
    · exact (h.sub x hx).blw hbl
    · rw [List.mem_singleton] at hx; subst hx; exact hA.blw hbl
  · rcases List.mem_append.1 hx with hx | hx
    · exact ⟨row_keep (h.ks x hx).row (hkk x hx), (h.ks x hx).i64⟩
    · rw [List.mem_singleton] at hx; subst hx; exact ⟨World.ownsRow_nil w' _ _ _, fun k hk => by simp at hk⟩
  · have hold : ∀ (i : Nat) (x : Nd), (l ++ [(⟨u, A, c, .slice none 0 0, []⟩ : Nd)])[i]? = some x → x.kv.ownBlock = some g → l[i]? = some x := fun i x hx e => by
      by_cases hil : i < l.length
      · rwa [List.getElem?_append_left hil] at hx
      · rw [List.getElem?_append_right (by omega)] at hx
        have := List.mem_of_getElem? hx
        rw [List.mem_singleton] at this
        subst this
        simp [Value.ownBlock] at e
    exact h.ap i j x y g (hold i x hx e1) (hold j y hy e2) e1 e2
  · rcases List.mem_append.1 hx with hx | hx
    · rcases hv with hv | hv
      · rw [hv]; exact h.av x hx g e
      · rw [hv]
        intro e2
        have := (row_lt (h.ks x hx).row g e).2
        injection e2 with e2
        omega
    · rw [List.mem_singleton] at hx; subst hx; simp [Value.ownBlock] at e
theorem RowN.read (h : RowN w base v l) (hl : l.length ≤ 9223372036854775807) {m : Nat} (hb : base ≤ m) (hm : w.heap.size ≤ m) : ∃ A c, v = .slice A l.length c ∧ NdW w m A (l.map Nd.p) := by
  rcases h.row.2 with ⟨rfl, h0⟩ | ⟨g, cap, cur, rfl, hb', hg, _⟩
  · obtain rfl : l = [] := List.eq_nil_of_length_eq_zero h0
    exact ⟨none, 0, rfl, ⟨by simp, fun h => by simp at h⟩⟩
  · have hgl := (Array.getElem?_eq_some_iff.1 hg).1
    refine ⟨_, _, rfl, by simpa using hl, fun hn => ⟨g, 0, rfl, by omega, fun i u ks hi => ?_⟩⟩
    rw [List.getElem?_map] at hi
    obtain ⟨x, hx, hxe⟩ : ∃ x, l[i]? = some x ∧ x.p = (u, ks) := by
      cases hx : l[i]? with
      | none => rw [hx] at hi; simp at hi
      | some x => rw [hx] at hi; exact ⟨x, rfl, by simpa using hi⟩
    obtain ⟨rfl, rfl⟩ : x.u = u ∧ x.ks = ks := by simpa [Nd.p] using hxe
    have hlt := (List.getElem?_eq_some_iff.1 hx).1
    have q0 := nd_get l i 0 (by omega)
    have q1 := nd_get l i 1 (by omega)
    have q2 := nd_get l i 2 (by omega)
    have c0 := h.row.cellAt (i * 3) (by omega)
    have c1 := h.row.cellAt (i * 3 + 1) (by omega)
    have c2 := h.row.cellAt (i * 3 + 2) (by omega)
    rw [Nat.add_zero, hx] at q0
    rw [hx] at q1 q2
    rw [q0] at c0
    rw [q1] at c1
    rw [q2] at c2
    have hmem := List.mem_of_getElem? hx
    have hk := h.ks x hmem
    obtain ⟨K, kc, hkv⟩ := row_slice hk.row
    rw [List.length_map] at hkv
    rw [Nat.zero_add]
    refine ⟨h.i64 x hmem, x.A, x.c, K, kc, c0, c1, c2.trans (by show some x.kv = _; rw [hkv]), (h.sub x hmem).more hb, fun hp => ?_⟩
    obtain ⟨kb, c', hkv', hkl, _⟩ := hk.get (i := 0) (x := ((x.ks[0]'hp : Nat) : Int)) (by rw [List.getElem?_map, List.getElem?_eq_getElem hp]; rfl)
    rw [hkv'] at hkv
    injection hkv with e1 e2 e3
    refine ⟨kb, 0, e1.symm, by omega, fun k j hj => ?_⟩
    obtain ⟨kb2, c2', hkv2, _, hc⟩ := hk.get (i := k) (x := (j : Int)) (by rw [List.getElem?_map, hj]; rfl)
    rw [hkv'] at hkv2
    injection hkv2 with e4 e5 e6
    injection e4 with e4
    injection e4 with e4
    subst e4
    rw [Nat.zero_add]
    exact hc
end
end Go.Proofs.YthgglobfkkcdgaaGreat
namespace Go.Proofs.YthgglobfkkcdgaaGreat
open Go.RowKit Go.Shelf
set_option maxRecDepth 100000
section
variable {w w1 : World} {base g cap n at_ j : Nat} {l : List Nd} {x : Nd} {kv' : Value}
def Nd.kid (x : Nd) (kv : Value) (j : Nat) : Nd := ⟨x.u, x.A, x.c, kv, x.ks ++ [j]⟩
theorem RowN.kid (h : RowN w base (.slice (some ⟨g, 0, none⟩) n cap) l) (hi : l[at_]? = some x) (hj : I64 (j : Int))
    (hrow : w1.ownsRow base 3 1 kv' (x.ks.length + 1) ((x.ks.map fun (k : Nat) => (k : Int)).map (Value.int .i64) ++ [.int .i64 (j : Int)]))
    (hg : w.grownBy w1 x.kv.ownBlock) (hv : kv'.ownBlock = x.kv.ownBlock ∨ kv'.ownBlock = some w.heap.size) : RowN (w1.setCell ⟨g, at_ * 3 + 2, none⟩ kv') base (.slice (some ⟨g, 0, none⟩) n cap) (l.set at_ (x.kid kv' j)) := by
  have hil := (List.getElem?_eq_some_iff.1 hi).1
  have hmem := List.mem_of_getElem? hi
  have hown : base ≤ g ∧ g < w.heap.size := row_lt h.row g rfl
  have hkb : ∀ y ∈ l, ∀ b, y.kv.ownBlock = some b → base ≤ b ∧ b < w.heap.size := fun y hy b e => row_lt (h.ks y hy).row b e
  have hgx : x.kv.ownBlock ≠ some g := fun e => h.av x hmem g e rfl
  have hg1 : w1.heap[g]? = w.heap[g]? := hg.block g hown.2 fun e => hgx e.symm
  have hgk : kv'.ownBlock ≠ some g := by
    rcases hv with e | e
    · rw [e]; exact hgx
    · rw [e]; intro e2; injection e2 with e2; omega
  have hbl : Below base w (w1.setCell ⟨g, at_ * 3 + 2, none⟩ kv') := Below.setCell ⟨hg.os, hg.tape, hg.output, hg.size, fun k hk => hg.block k (by omega) fun e => by have := hkb x hmem k e.symm; omega⟩ hown.1 _
  have hcase : ∀ (i : Nat) (y : Nd), (l.set at_ (x.kid kv' j))[i]? = some y → (i = at_ ∧ y = x.kid kv' j) ∨ (i ≠ at_ ∧ l[i]? = some y) := fun i y hy => by
    rw [List.getElem?_set] at hy
    by_cases e : at_ = i
    · rw [if_pos e, if_pos (by omega)] at hy
      injection hy with hy
      exact .inl ⟨e.symm, hy.symm⟩
    · rw [if_neg e] at hy
      exact .inr ⟨fun e2 => e e2.symm, hy⟩
  have hkeep : ∀ (i : Nat) (y : Nd), i ≠ at_ → l[i]? = some y → ∀ b, y.kv.ownBlock = some b → (w1.setCell ⟨g, at_ * 3 + 2, none⟩ kv').heap[b]? = w.heap[b]? := fun i y hne hy b e => by
    have hym := List.mem_of_getElem? hy
    rw [heap_setCell_other _ _ _ _ fun e2 => h.av y hym b e (by rw [e2]; rfl)]
    exact hg.block b (hkb y hym b e).2 fun e2 => hne (h.ap i at_ y x b hy hi e e2.symm)
  refine ⟨⟨by rw [nd_len], ?_⟩, fun y hy => ?_, fun y hy => ?_, fun y hy => ?_, fun a b y z q hy hz e1 e2 => ?_, fun y hy q e => ?_⟩
  · rcases h.row.2 with ⟨e, _⟩ | ⟨g', cap', cur, e, hb, hgg, hc, hm, hs', ht⟩
    · cases e
    · injection e with e1 e2 e3
      injection e1 with e1
      injection e1 with e1
      subst e1; subst e2; subst e3
      refine .inr ⟨g, cap, cur.setIfInBounds (at_ * 3 + 2) kv', by rw [List.length_set], hb, heap_setCell_same _ _ _ _ _ _ (hg1.trans hgg), by rw [List.length_set]; exact hc, hm, by simp [hs'], ?_⟩
      apply List.ext_getElem?
      intro t
      rw [ndflat_set l at_ t _ hil, List.getElem?_take, List.length_set, Array.getElem?_toList, ← ht, List.getElem?_take]
      have hsz : l.length * 3 ≤ cur.size := by rw [hs']; exact Nat.mul_le_mul_right 3 hc
      by_cases hlt : t < l.length * 3
      · rw [if_pos hlt, if_pos hlt, Array.getElem?_setIfInBounds]
        by_cases e : t / 3 = at_
        · rw [if_pos e]
          have h3 : t % 3 < 3 := Nat.mod_lt _ (by omega)
          obtain e0 | e0 | e0 : t % 3 = 0 ∨ t % 3 = 1 ∨ t % 3 = 2 := by omega
          · rw [if_neg (by omega), e0]
            have q0 := nd_get l at_ 0 (by omega)
            rw [Nat.add_zero, hi, ← ht, List.getElem?_take, if_pos (by omega), Array.getElem?_toList] at q0
            rw [show t = at_ * 3 by omega, q0]; rfl
          · rw [if_neg (by omega), e0]
            have q0 := nd_get l at_ 1 (by omega)
            rw [hi, ← ht, List.getElem?_take, if_pos (by omega), Array.getElem?_toList] at q0
            rw [show t = at_ * 3 + 1 by omega, q0]; rfl
          · rw [if_pos (by omega), if_pos (by omega), e0]; rfl
        · rw [if_neg e, if_neg (by omega), Array.getElem?_toList]
      · rw [if_neg hlt, if_neg hlt, if_neg (by omega)]
  · obtain ⟨i, hy⟩ := List.mem_iff_getElem?.1 hy
    rcases hcase i y hy with ⟨_, rfl⟩ | ⟨_, hy⟩
    · exact h.i64 x hmem
    · exact h.i64 y (List.mem_of_getElem? hy)
  · obtain ⟨i, hy⟩ := List.mem_iff_getElem?.1 hy
    rcases hcase i y hy with ⟨_, rfl⟩ | ⟨_, hy⟩
    · exact (h.sub x hmem).blw hbl
    · exact (h.sub y (List.mem_of_getElem? hy)).blw hbl
  · obtain ⟨i, hy⟩ := List.mem_iff_getElem?.1 hy
    rcases hcase i y hy with ⟨_, rfl⟩ | ⟨hne, hy⟩
    · refine ⟨?_, fun k hk => ?_⟩
      · show World.ownsRow _ base 3 1 kv' ((x.ks ++ [j]).map fun (k : Nat) => (k : Int)).length (((x.ks ++ [j]).map fun (k : Nat) => (k : Int)).map (Value.int .i64))
        have hlen : ((x.ks ++ [j]).map fun (k : Nat) => (k : Int)).length = x.ks.length + 1 := by simp
        have hmp : ((x.ks ++ [j]).map fun (k : Nat) => (k : Int)).map (Value.int .i64) = (x.ks.map fun (k : Nat) => (k : Int)).map (Value.int .i64) ++ [.int .i64 (j : Int)] := by simp
        rw [hlen, hmp]
        exact row_keep hrow fun b e => heap_setCell_other _ _ _ _ fun e2 => hgk (by rw [e, e2])
      · have hk' : k ∈ (x.ks ++ [j]).map fun (k : Nat) => (k : Int) := hk
        rw [List.map_append, List.mem_append] at hk'
        rcases hk' with hk' | hk'
        · exact (h.ks x hmem).i64 k hk'
        · simp only [List.map_cons, List.map_nil, List.mem_singleton] at hk'
          subst hk'; exact hj
    · exact ⟨row_keep (h.ks y (List.mem_of_getElem? hy)).row (hkeep i y hne hy), (h.ks y (List.mem_of_getElem? hy)).i64⟩
  · have hnew : ∀ (i : Nat) (y : Nd), i ≠ at_ → l[i]? = some y → y.kv.ownBlock = some q → kv'.ownBlock = some q → False := fun i y hne hy e e' => by
      rcases hv with e3 | e3
      · exact hne (h.ap i at_ y x q hy hi e (by rw [← e3]; exact e'))
      · rw [e3] at e'
        injection e' with e'
        have := (hkb y (List.mem_of_getElem? hy) q e).2
        omega
    rcases hcase a y hy with ⟨ha, ha2⟩ | ⟨hna, hy2⟩
    · rcases hcase b z hz with ⟨hb, hb2⟩ | ⟨hnb, hz2⟩
      · exact ha.trans hb.symm
      · rw [ha2] at e1
        exact (hnew b z hnb hz2 e2 e1).elim
    · rcases hcase b z hz with ⟨hb, hb2⟩ | ⟨hnb, hz2⟩
      · rw [hb2] at e2
        exact (hnew a y hna hy2 e1 e2).elim
      · exact h.ap a b y z q hy2 hz2 e1 e2
  · obtain ⟨i, hy⟩ := List.mem_iff_getElem?.1 hy
    rcases hcase i y hy with ⟨_, rfl⟩ | ⟨hne, hy⟩
    · intro e2
      have e' : kv'.ownBlock = some q := e
      have : some g = some q := e2
      exact hgk (by rw [e', this])
    · exact h.av y (List.mem_of_getElem? hy) q e
end
end Go.Proofs.YthgglobfkkcdgaaGreat
namespace Go.Proofs.YthgglobfkkcdgaaGreat
open Go.RowKit
set_option maxRecDepth 100000
theorem frozen_of_heap {w w' : World} {b o : Nat} (h : w'.heap[b]? = w.heap[b]?) : w'.frozen? ⟨b, o, none⟩ = w.frozen? ⟨b, o, none⟩ := by simp [World.frozen?, h]
end Go.Proofs.YthgglobfkkcdgaaGreat
namespace Go.Proofs.YthgglobfkkcdgaaGreat
open Go.RowKit Go.Shelf
set_option maxRecDepth 100000
end Go.Proofs.YthgglobfkkcdgaaGreat
namespace Go.Proofs.YthgglobfkkcdgaaGreat
open Go.RowKit Go.Shelf
set_option maxRecDepth 100000
section
variable {w w' : World} {base base' : Nat} {v : Value} {l : List Ti} {N M : Nat → Prop}
end
end Go.Proofs.YthgglobfkkcdgaaGreat
namespace Go.Proofs.YthgglobfkkcdgaaGreat
open Go.RowKit Go.Shelf
set_option maxRecDepth 100000
section
variable {w w' : World} {N M : Nat → Prop} {B : Nat} {A : Option Addr} {l : List Int}
end
structure Pk where
  p : List Int
  t : Tm
  Ap : Option Addr
  cp : Nat
  A : Option Addr
  c : Nat
section
variable {w w' : World} {base : Nat} {v : Value} {l : List Pk} {N M : Nat → Prop}
end
end Go.Proofs.YthgglobfkkcdgaaGreat
namespace Go.Proofs.YthgglobfkkcdgaaGreat
open Go.RowKit Go.Shelf
set_option maxRecDepth 100000
end Go.Proofs.YthgglobfkkcdgaaGreat
namespace Go.Proofs.YthgglobfkkcdgaaGreat
open Go.RowKit
set_option maxRecDepth 100000
end Go.Proofs.YthgglobfkkcdgaaGreat
namespace Go.Proofs.YthgglobfkkcdgaaGreat
open Go.RowKit Go.Shelf
set_option maxRecDepth 100000
end Go.Proofs.YthgglobfkkcdgaaGreat
namespace Go.Proofs.YthgglobfkkcdgaaGreat
open Go.RowKit Go.Shelf
attribute [local go_sem] Oper.semAt_some
set_option maxRecDepth 100000
end Go.Proofs.YthgglobfkkcdgaaGreat
namespace Go.Proofs.YthgglobfkkcdgaaGreat
open Go Go.RowKit Go.Shelf
attribute [local go_sem] Oper.semAt_some
set_option maxRecDepth 100000
section
variable {F : Fence} {n : Nat} {P : Program} {α : Type}
end
end Go.Proofs.YthgglobfkkcdgaaGreat
namespace Go.Proofs.YthgglobfkkcdgaaGreat
open Go.RowKit Go.Shelf
set_option maxRecDepth 100000
theorem cells_new_three (w : World) (x y z : Value) (t : TypeId) : ∀ j u, [x, y, z][j]? = some u → (w.alloc (.cells #[x, y, z] t)).cell? ((⟨w.heap.size, 0, none⟩ : Addr).add j) = some u := by
  intro j u hj
  match j, hj with
  | 0, hj => simp at hj; subst hj; simp [Addr.add]
  | 1, hj => simp at hj; subst hj; simp [Addr.add]
  | 2, hj => simp at hj; subst hj; simp [Addr.add]
  | j + 3, hj => simp at hj
end Go.Proofs.YthgglobfkkcdgaaGreat
namespace Go.Proofs.YthgglobfkkcdgaaGreat
open Go.RowKit Go.Shelf
set_option maxRecDepth 100000
section
variable {w w' : World} {base : Nat} {v : Value} {l : List Pk} {N M : Nat → Prop}
end
end Go.Proofs.YthgglobfkkcdgaaGreat
namespace Go.Proofs.YthgglobfkkcdgaaGreat
open Go.RowKit Go.Shelf Go.Maps
set_option maxRecDepth 100000
theorem kidN_snoc : ∀ (n : Nat) (xs : List Tm) (y : Tm), kidN n (xs ++ [y]) = kidN n xs ++ [n + sizes xs]
  | n, [], y => by simp [kidN, sizes]
  | n, x :: xs, y => by
    rw [List.cons_append, kidN, kidN, kidN_snoc, List.cons_append, sizes, show n + x.size + sizes xs = n + (x.size + sizes xs) by omega]
theorem ndL_snoc : ∀ (n : Nat) (xs : List Tm) (y : Tm), ndL n (xs ++ [y]) = ndL n xs ++ ndT (n + sizes xs) y
  | n, [], y => by simp [ndL, sizes]
  | n, x :: xs, y => by
    rw [List.cons_append, ndL, ndL, ndL_snoc, List.append_assoc, sizes, show n + x.size + sizes xs = n + (x.size + sizes xs) by omega]
def flM (L0 : List (Tm × List Nat)) (t : Tm) (k : Nat) : List (Tm × List Nat) := L0 ++ (t, kidN (L0.length + 1) (t.args.take k)) :: ndL (L0.length + 1) (t.args.take k)
theorem flM_zero (L0 : List (Tm × List Nat)) (t : Tm) : flM L0 t 0 = L0 ++ [(t, [])] := by simp [flM, kidN, ndL]
theorem flM_all (L0 : List (Tm × List Nat)) (t : Tm) : flM L0 t t.args.length = L0 ++ ndT L0.length t := by
  obtain ⟨f, xs⟩ := t
  unfold flM
  rw [List.take_length, ndT]; rfl
theorem flM_len (L0 : List (Tm × List Nat)) (t : Tm) (k : Nat) : (flM L0 t k).length = L0.length + 1 + sizes (t.args.take k) := by
  unfold flM
  rw [List.length_append, List.length_cons, ndL_len]; omega
theorem flM_at (L0 : List (Tm × List Nat)) (t : Tm) (k : Nat) : (flM L0 t k)[L0.length]? = some (t, kidN (L0.length + 1) (t.args.take k)) := by
  unfold flM
  rw [List.getElem?_append_right (Nat.le_refl _), Nat.sub_self]; rfl
theorem flM_next {L0 : List (Tm × List Nat)} {t : Tm} {k : Nat} {x : Tm} (hx : t.args[k]? = some x) : flM L0 t (k + 1) = (flM L0 t k ++ ndT (flM L0 t k).length x).set L0.length (t, kidN (L0.length + 1) (t.args.take k) ++ [(flM L0 t k).length]) := by
  have e : t.args.take (k + 1) = t.args.take k ++ [x] := by rw [List.take_add_one, hx]; rfl
  rw [flM_len]
  unfold flM
  rw [e, kidN_snoc, ndL_snoc, List.append_assoc, List.set_append_right _ _ (Nat.le_refl _), Nat.sub_self, List.cons_append, List.set_cons_zero]
theorem info_node : (Tryz.prog.info? 128).map (fun i => (i.zero, i.size, i.bytes)) = some (some (.agg #[.int .i64 0, .slice none 0 0, .slice none 0 0]), 3, 56) := by kernel_rfl
end Go.Proofs.YthgglobfkkcdgaaGreat
namespace Go.Proofs.YthgglobfkkcdgaaGreat
open Go.RowKit Go.Shelf Go.Maps
set_option maxRecDepth 100000
def OwnC (v : Value) (l : List Nd) (g : Nat) : Prop := v.ownBlock = some g ∨ ∃ x ∈ l, x.kv.ownBlock = some g
structure OwnS (W : World) (v : Value) (l : List Nd) (w : World) (v' : Value) (l' : List Nd) : Prop where
  k : KeepsC (OwnC v l) W w
  o : ∀ g, OwnC v' l' g → OwnC v l g ∨ W.heap.size ≤ g
section
variable {W w w1 w2 : World} {v v1 v2 : Value} {l l1 l2 : List Nd}
theorem OwnS.refl (W : World) (v : Value) (l : List Nd) : OwnS W v l W v l := ⟨KeepsC.refl _ _, fun _ h => .inl h⟩
theorem OwnS.trans (h : OwnS W v l w1 v1 l1) (k : OwnS w1 v1 l1 w2 v2 l2) : OwnS W v l w2 v2 l2 := by
  refine ⟨Keeps.trans h.k (Keeps.mono k.k fun g e => ⟨Nat.lt_of_lt_of_le e.1 h.k.size, fun e2 => (h.o g e2).elim e.2 fun e3 => by have := e.1; omega⟩), fun g e => ?_⟩
  rcases k.o g e with e | e
  · exact h.o g e
  · exact .inr (Nat.le_trans h.k.size e)
theorem OwnS.on (h : OwnS W v l w v1 l1) (hb : Below w.heap.size w w1) : OwnS W v l w1 v1 l1 := h.trans ⟨KeepsC.of_below hb, fun _ e => .inl e⟩
theorem own_lt {base : Nat} (h : RowN w base v l) {g : Nat} (e : OwnC v l g) : base ≤ g ∧ g < w.heap.size := by
  rcases e with e | ⟨x, hx, e⟩
  · exact row_lt h.row g e
  · exact row_lt (h.ks x hx).row g e
theorem OwnS.push {u : Tm} {A : Option Addr} {c : Nat} (hg : w.grownBy w1 v.ownBlock) (hv : v1.ownBlock = v.ownBlock ∨ v1.ownBlock = some w.heap.size) : OwnS w v l w1 v1 (l ++ [⟨u, A, c, .slice none 0 0, []⟩]) := by
  refine ⟨(Keeps.of_grown hg).mono fun g e => ⟨e.1, fun e2 => e.2 (.inl e2.symm)⟩, fun g e => ?_⟩
  rcases e with e | ⟨x, hx, e⟩
  · rcases hv with hv | hv
    · exact .inl (.inl (hv ▸ e))
    · rw [hv] at e
      injection e with e
      exact .inr (by omega)
  · rcases List.mem_append.1 hx with hx | hx
    · exact .inl (.inr ⟨x, hx, e⟩)
    · rw [List.mem_singleton] at hx
      subst hx
      simp [Value.ownBlock] at e
theorem OwnS.kid {g cap n at_ j : Nat} {x : Nd} {kv' : Value} (hi : l[at_]? = some x) (hg : w.grownBy w1 x.kv.ownBlock) (hv : kv'.ownBlock = x.kv.ownBlock ∨ kv'.ownBlock = some w.heap.size) :
    OwnS w (.slice (some ⟨g, 0, none⟩) n cap) l (w1.setCell ⟨g, at_ * 3 + 2, none⟩ kv') (.slice (some ⟨g, 0, none⟩) n cap) (l.set at_ (x.kid kv' j)) := by
  have hmem := List.mem_of_getElem? hi
  refine ⟨Keeps.trans ((Keeps.of_grown hg).mono fun q e => ⟨e.1, fun e2 => e.2 (.inr ⟨x, hmem, e2.symm⟩)⟩) ((Keeps.set w1 ⟨g, at_ * 3 + 2, none⟩ kv').mono fun q e => ?_), fun q e => ?_⟩
  · show q ≠ g
    rintro rfl
    exact e.2 (.inl rfl)
  · rcases e with e | ⟨y, hy, e⟩
    · exact .inl (.inl e)
    · rcases List.mem_or_eq_of_mem_set hy with hy | rfl
      · exact .inl (.inr ⟨y, hy, e⟩)
      · have e' : kv'.ownBlock = some q := e
        rcases hv with hv | hv
        · exact .inl (.inr ⟨x, hmem, hv ▸ e'⟩)
        · rw [hv] at e'
          injection e' with e'
          exact .inr (by omega)
end
theorem set_map_p {l : List Nd} {i : Nat} {x : Nd} {kv : Value} {j : Nat} : (l.set i (x.kid kv j)).map Nd.p = (l.map Nd.p).set i (x.u, x.ks ++ [j]) := by
  rw [List.map_set]; rfl
def FlatI (t : Tm) : Prop := ∀ (l : List Nd) (v : Value) (A : Option Addr) (c b0 : Nat) (w : World), l.length + t.size ≤ 2147483648 → I64 t.fn → Args w b0 A t.args → RowN w b0 v l → b0 ≤ w.heap.size →
  Calls Tryz.prog 73 #[.agg #[.int .i64 t.fn, .slice A t.args.length c], v] w fun e w' => ∃ v' l', e = .returned v' ∧ RowN w' b0 v' l' ∧ l'.map Nd.p = l.map Nd.p ++ ndT l.length t ∧ OwnS w v l w' v' l'
end Go.Proofs.YthgglobfkkcdgaaGreat
namespace Go.Proofs.YthgglobfkkcdgaaGreat
open Go.RowKit Go.Shelf Go.Maps
set_option maxRecDepth 100000
set_option maxHeartbeats 4000000 in
theorem refFlat_any (t : Tm) : FlatI t := by
  refine Tm.ind (P := FlatI) (fun f xs ih => ?_) t
  intro l v A c b0 w hz hf hA hR hb0
  simp only [Tm.fn, Tm.args] at hf hA ⊢
  have hlen := hA.len
  obtain ⟨i0, hi, hz0, hz1, hz2⟩ := info_parts info_node
  obtain ⟨i1, hi1, hy0, hy1, hy2⟩ := info_parts infoInt
  obtain ⟨W, hW⟩ : ∃ W, w.alloc (.cells #[.int .i64 f, .slice A xs.length c] 36) = W := ⟨_, rfl⟩
  have hB : Below w.heap.size w W := by rw [← hW]; exact (Below.refl _ _).alloc (Nat.le_refl _) _
  have q0 : W.heap[w.heap.size]? = some (.cells #[.int .i64 f, .slice A xs.length c] 36) := by rw [← hW]; exact heap_alloc_new _ _
  have hWs : W.heap.size = w.heap.size + 1 := by rw [← hW]; simp
  obtain ⟨a0, a1, _, _⟩ := cells_two q0
  have hzz : l.length + (1 + sizes xs) ≤ 2147483648 := by simpa only [Tm.size, Nat.add_comm] using hz
  have hRW := hR.on hB hb0
  obtain ⟨Av, cv, rfl⟩ := row_slice hR.row
  have hown : ∀ g, OwnC (.slice Av l.length cv) l g → b0 ≤ g ∧ g < w.heap.size := fun g e => own_lt hR e
  have HW := Lib.hid hW
  have HWs := Lib.hid hWs
  have hWge := hB.size
  have HA := Lib.hid hA
  have HRW := Lib.hid hRW
  have HO := Lib.hid hown
  have Hq0 := Lib.hid q0
  have hOB : OwnS w (.slice Av l.length cv) l W (.slice Av l.length cv) l := (OwnS.refl _ _ _).on hB
  have HOB := Lib.hid hOB
  clear hW hA hR hRW hown hOB hz hWs
  go_enter Tryz.func73, Tryz.ntmps73
  go_upto_region 1 with fail
  rw [HW.out]
  go_wp2_with (first
    | (at_builtin
       go_must (
       refine wpList_append_own_at _ rfl _ _ 109 rfl b0 128 i0 (.agg #[.int .i64 0, .slice none 0 0, .slice none 0 0]) 3 56 Tryz.underlying109 hi hz0 hz1 hz2 rfl (by decide) (.slice Av l.length cv) l.length _ rfl (row_keep HRW.out.row fun g e => Below.heap_alloc W _ g (row_lt HRW.out.row g e).2) ⟨W.heap.size, 0, none⟩ 1 1 [.int .i64 f, .slice A xs.length c, .slice none 0 0] rfl rfl (cells_new_three _ _ _ _ _) (by simp [Value.oneCell']) (by unfold maxLen; omega) (by omega) (by simp; omega) ?_
       intro v1 w1 hown1 hgr1 _ hat1
       have hWs := HWs.out
       have hX : Below W.heap.size W (W.alloc (.cells #[.int .i64 f, .slice A xs.length c, .slice none 0 0] 128)) := (Below.refl _ _).alloc (Nat.le_refl _) _
       have HR1 := Lib.hid ((HRW.out.on hX (by omega)).push (u := .node f xs) (A := A) (c := c) hown1 hf (HA.out.blw ((hB.mono hb0).trans (hX.mono (by omega)))) (by have := hX.size; omega) hgr1 hat1 (fun g e => (HO.out g (.inl e)).1))
       have HS1 := Lib.hid (((OwnS.refl W (.slice Av l.length cv) l).on hX).trans (OwnS.push (u := .node f xs) (A := A) (c := c) hgr1 hat1))
       clear hown1 hgr1 hat1 hX hWs))
    | fail)
  go_loopw [1, 6] (fun lv i wr => ∃ (k : Nat) (vk : Value) (lk : List Nd), k ≤ xs.length ∧ lv = vk ∧ i = .int .i64 (k : Int) ∧ Hid (RowN wr b0 vk lk) ∧ Hid (lk.map Nd.p = flM (l.map Nd.p) (.node f xs) k) ∧ Hid (OwnS W (.slice Av l.length cv) l wr vk lk)) (fun _ i _ => xs.length - (intOf i).toNat)
  case atStart => exact ⟨0, _, _, Nat.zero_le _, rfl, rfl, HR1, Lib.hid (by rw [flM_zero, List.map_append]; rfl), HS1⟩
  case round =>
    obtain ⟨k, vk, lk, hk, rfl, rfl, Hr, Hm, Hs⟩ := hrel
    have hWs := HWs.out
    have hnb : ¬ OwnC (.slice Av l.length cv) l w.heap.size := fun e => by have := (HO.out _ e).2; omega
    have hKb : Below b0 W wr := Hs.out.k.below (by omega) fun g hg e => by have := (HO.out g e).1; omega
    have hwrs := hKb.size
    obtain ⟨y0, y1, _, _⟩ := cells_two ((Hs.out.k.block (by omega) hnb).trans Hq0.out)
    obtain ⟨Ak, ck, rfl⟩ := row_slice Hr.out.row
    have hml : lk.length = l.length + 1 + sizes (xs.take k) := by
      have := congrArg List.length Hm.out
      rwa [List.length_map, flM_len, List.length_map] at this
    clear hWs hnb
    by_cases hkl : k < xs.length
    · obtain ⟨u, hu⟩ : ∃ u, xs[k]? = some u := ⟨_, List.getElem?_eq_getElem hkl⟩
      have hszu := sizes_take hu
      have hsl := sizes_le xs (k + 1)
      obtain ⟨bb, off, A1, c1, hAe, ha⟩ := (HA.out.blw ((hB.mono hb0).trans hKb)).get hu
      have z0 := ha.c0
      have z1 := ha.c1
      have HI := Lib.hid (ih u (List.mem_of_getElem? hu) lk (.slice Ak lk.length ck) A1 c1 b0 wr (by omega) ha.hi ha.sub Hr.out (by omega))
      subst hAe
      have Hu := Lib.hid hu
      have Hml := Lib.hid hml
      have hbd : lk.length + u.size ≤ 2147483648 := by omega
      have hbl : l.length < lk.length := by omega
      have hbx : xs.length ≤ 2147483648 := by have := sizes_len xs; omega
      clear ha hu hml hszu
      go_wp2_with (first
        | (go_at_call 73; (with_reducible refine HI.out.mono ?_); go_must (
            rintro e w2 ⟨v2, l2, rfl, hR2, hm2, hS2⟩
            obtain ⟨x, hx, hxp⟩ : ∃ x, l2[l.length]? = some x ∧ x.p = (.node f xs, kidN (l.length + 1) (xs.take k)) := by
              have h1 := congrArg (fun L => L[l.length]?) hm2
              simp only [Hm.out] at h1
              have h2 := flM_at (l.map Nd.p) (.node f xs) k
              rw [List.length_map] at h2
              rw [List.getElem?_append_left (List.getElem?_eq_some_iff.1 h2).1, h2, List.getElem?_map] at h1
              cases hx : l2[l.length]? with
              | none => rw [hx] at h1; simp at h1
              | some x => rw [hx] at h1; exact ⟨x, rfl, by simpa [Tm.args] using h1⟩
            have hmx := List.mem_of_getElem? hx
            have hlx := (List.getElem?_eq_some_iff.1 hx).1
            have hml2 : l2.length = lk.length + u.size := by
              have := congrArg List.length hm2
              rwa [List.length_map, List.length_append, List.length_map, ndT_len] at this
            obtain ⟨g2, cp2, rfl, hg2⟩ : ∃ g2 cp2, v2 = .slice (some ⟨g2, 0, none⟩) l2.length cp2 ∧ g2 < w2.heap.size := by
              rcases hR2.row.2 with ⟨_, h0⟩ | ⟨g, cap, cur, hv, _, hg, _⟩
              · omega
              · exact ⟨g, cap, hv, (Array.getElem?_eq_some_iff.1 hg).1⟩
            have hkx := hR2.ks x hmx
            obtain ⟨K, kc, hkv⟩ := row_slice hkx.row
            have hkl2 : (x.ks.map fun (k : Nat) => (k : Int)).length = x.ks.length := by simp
            rw [hkl2] at hkv
            have c2 := hR2.row.cellAt (l.length * 3 + 2) (by omega)
            have q2 := nd_get l2 l.length 2 (by omega)
            rw [hx] at q2
            rw [q2] at c2
            change w2.cell? ⟨g2, l.length * 3 + 2, none⟩ = some x.kv at c2
            have hfz := hR2.row.frozenAt (l.length * 3 + 2)
            have hav := hR2.av x hmx
            have hkr := hkx.row
            rw [hkl2, hkv] at hkr
            have hkn : x.ks.length ≤ xs.length := by
              have : x.ks = kidN (l.length + 1) (xs.take k) := by simpa [Nd.p] using congrArg Prod.snd hxp
              rw [this, kidN_len, List.length_take]; omega
            have c2' := c2
            rw [hkv] at c2
            have HR2 := Lib.hid hR2
            have HS2 := Lib.hid hS2
            have Hm2 := Lib.hid hm2
            have Hx := Lib.hid hx
            have Hxp := Lib.hid hxp
            have Hkv := Lib.hid hkv
            have Hkr := Lib.hid hkr
            have Hav := Lib.hid hav
            have Hc2 := Lib.hid c2
            have Hfz := Lib.hid hfz
            have hsz2 := hS2.k.size
            have hb2 : l2.length ≤ 2147483648 := by omega
            have Hml2 := Lib.hid hml2
            clear hml2 hkl2
            clear hR2 hS2 hm2 hx hxp hkv hkr hav hfz c2' hkx q2 hmx))
        | (at_builtin
           go_must (
           refine wpList_append_own_at _ rfl _ _ 22 rfl b0 3 i1 (.int .i64 0) 1 8 Tryz.underlying22 hi1 hy0 hy1 hy2 rfl (by decide) (.slice K x.ks.length kc) x.ks.length _ rfl (row_keep Hkr.out fun g e => Below.heap_alloc w2 _ g (row_lt Hkr.out g e).2) ⟨w2.heap.size, 0, none⟩ 1 1 [.int .i64 (lk.length : Int)] rfl rfl (cell_one_new _ _ _) (by simp [Value.oneCell']) (by unfold maxLen; omega) (by omega) (by simp; omega) ?_
           intro kv3 w3 hown3 hgr3 _ hat3
           obtain ⟨K3, c3, rfl⟩ := row_slice hown3
           have hX : Below w2.heap.size w2 (w2.alloc (.cells #[.int .i64 (lk.length : Int)] 3)) := (Below.refl _ _).alloc (Nat.le_refl _) _
           have hsX := hX.size
           rw [← Hkv.out] at hgr3 hat3
           have HR4 := Lib.hid ((HR2.out.on hX (by omega)).kid Hx.out (by unfold I64; omega) hown3 hgr3 hat3)
           have HS4 := Lib.hid ((HS2.out.on hX).trans (OwnS.kid (g := g2) (cap := cp2) (n := l2.length) (j := lk.length) Hx.out hgr3 hat3))
           have hblk : w3.heap[g2]? = w2.heap[g2]? := (hgr3.block g2 (by omega) fun e => Hav.out g2 e.symm rfl).trans (hX.block g2 hg2)
           have d2 := (World.cell?_of_block (a := ⟨g2, l.length * 3 + 2, none⟩) hblk).trans Hc2.out
           have dz := (frozen_of_heap (o := l.length * 3 + 2) hblk).trans Hfz.out
           clear hown3 hgr3 hat3 hX))
        | fail)
      have hfm : (l2.set l.length (x.kid (.slice K3 (x.ks.length + 1) c3) lk.length)).map Nd.p = flM (l.map Nd.p) (.node f xs) (k + 1) := by
        have e1 : (flM (l.map Nd.p) (.node f xs) k).length = lk.length := by rw [← Hm.out, List.length_map]
        have e2 : x.u = .node f xs ∧ x.ks = kidN (l.length + 1) (xs.take k) := by simpa [Nd.p] using Hxp.out
        rw [set_map_p, Hm2.out, Hm.out, flM_next (t := .node f xs) Hu.out, e1, List.length_map, e2.1, e2.2]; rfl
      have Hfm := Lib.hid hfm
      have HS5 := Lib.hid (Hs.out.trans HS4.out)
      clear hfm
      go_roundw
      case rel => exact ⟨k + 1, _, _, by omega, rfl, by go_num, HR4, Hfm, HS5⟩
      case measure => simp [intOf]; omega
    · obtain rfl : k = xs.length := by omega
      have hfin := flM_all (l.map Nd.p) (.node f xs)
      rw [List.length_map] at hfin
      have Hfin := Lib.hid (Hm.out.trans hfin)
      clear hfin hml
      go_wp2
      go_ret
      exact ⟨_, lk, rfl, Hr.out, Hfin.out, HOB.out.trans Hs.out⟩
end Go.Proofs.YthgglobfkkcdgaaGreat
namespace Go.Proofs.YthgglobfkkcdgaaGreat
open Go Go.RowKit Go.Shelf Go.Maps
set_option maxRecDepth 100000
def tabF (base : Nat) (t : Tm) : Fct := ⟨fun v w => base ≤ w.heap.size ∧ ∃ l, RowN w base v l ∧ l.map Nd.p = ndT 0 t, fun ⟨h, l, h1, h2⟩ hb => ⟨Nat.le_trans h hb.size, l, h1.on hb h, h2⟩⟩
def prF (base : Nat) (o : Odr) (P Q : Option Addr) (pc qc : Nat) (s t : Tm) : Fct := ⟨fun v w => ∃ va vb, v = .agg #[.bool o.lpo, .slice P o.prec.length pc, .slice Q o.wts.length qc, .int .i64 o.var, va, vb, .slice none 0 0] ∧ (tabF base s).p va w ∧ (tabF base t).p vb w, fun ⟨va, vb, hv, h1, h2⟩ hb => ⟨va, vb, hv, (tabF base s).st h1 hb, (tabF base t).st h2 hb⟩⟩
def ptF (base : Nat) (o : Odr) (P Q : Option Addr) (pc qc : Nat) (s t : Tm) : Fct := ⟨fun v w => ∃ bp A B ca cb, v = .pointer (some ⟨bp, 0, none⟩) ∧ base ≤ bp ∧ bp < w.heap.size ∧ w.heap[bp]? = some (.cells #[.bool o.lpo, .slice P o.prec.length pc, .slice Q o.wts.length qc, .int .i64 o.var, .slice A (ndT 0 s).length ca, .slice B (ndT 0 t).length cb, .slice none 0 0] 113) ∧ NdW w bp A (ndT 0 s) ∧ NdW w bp B (ndT 0 t),
  fun ⟨bp, A, B, ca, cb, hv, h1, h2, h3, h4, h5⟩ hb => ⟨bp, A, B, ca, cb, hv, h1, Nat.lt_of_lt_of_le h2 hb.size, (hb.block bp h2).trans h3, h4.blw (hb.mono (Nat.le_of_lt h2)), h5.blw (hb.mono (Nat.le_of_lt h2))⟩⟩
theorem tabF.read {base : Nat} {t : Tm} {v : Value} {w : World} (h : (tabF base t).p v w) (hz : t.size ≤ 1073741824) : ∃ A c, v = .slice A (ndT 0 t).length c ∧ NdW w w.heap.size A (ndT 0 t) := by
  obtain ⟨hb, l, h1, h2⟩ := h
  have hl : l.length = (ndT 0 t).length := by rw [← h2, List.length_map]
  obtain ⟨A, c, hv, hN⟩ := h1.read (by rw [hl, ndT_len]; omega) hb (Nat.le_refl _)
  rw [hl] at hv
  rw [h2] at hN
  exact ⟨A, c, hv, hN⟩
section
variable {Fs : List Fct} {a0 : Act} {W : World} {dst : Option Tmp} {ty : TypeId} {pos : String} {after : Array Edge}
theorem so_none {j : Nat} {want : Bool} {Q : Prop} (h : (none : Option (Nat × Bool)) = some (j, want)) : Q := by cases h
theorem so_load4 {s b : Nat} {x y z u : Value} (hs : a0.eval (.tmp s) = .pointer (some ⟨b, 0, none⟩)) (hW : W.heap[b]? = some (.cells #[x, y, z, u] 24)) :
    stepF Tryz.prog Fs a0 W ⟨dst, .load 24 (.tmp s), ty, pos, after, none⟩ [(s, none)] (Fct.eq (.agg #[x, y, z, u])) := by
  refine .inl ⟨fun j want h => so_none h, fun a w hb hl => ?_⟩
  have e1 := ev_get (hl.1.trans hs)
  obtain ⟨c0, c1, c2, c3⟩ := cells_four ((hb.block b (Array.getElem?_eq_some_iff.1 hW).1).trans hW)
  simp [go_sem, leaves, e1, c0, c1, c2, c3]
  exact ⟨Below.refl _ _, rfl⟩
theorem so_load2 {s b : Nat} {x y : Value} (hs : a0.eval (.tmp s) = .pointer (some ⟨b, 0, none⟩)) (hW : W.heap[b]? = some (.cells #[x, y] 36)) :
    stepF Tryz.prog Fs a0 W ⟨dst, .load 36 (.tmp s), ty, pos, after, none⟩ [(s, none)] (Fct.eq (.agg #[x, y])) := by
  refine .inl ⟨fun j want h => so_none h, fun a w hb hl => ?_⟩
  have e1 := ev_get (hl.1.trans hs)
  obtain ⟨c0, c1, _, _⟩ := cells_two ((hb.block b (Array.getElem?_eq_some_iff.1 hW).1).trans hW)
  simp [go_sem, leaves, e1, c0, c1]
  exact ⟨Below.refl _ _, rfl⟩
theorem so_flat {s j : Nat} {t : Tm} {A : Option Addr} {c base : Nat} {ta tb : TypeId} (hF : Fs.getD j Fct.any = Fct.eq (.agg #[.int .i64 t.fn, .slice A t.args.length c])) (hz : t.size ≤ 1073741824) (hf : I64 t.fn) (hA : Args W base A t.args) (hb0 : base ≤ W.heap.size) :
    stepF Tryz.prog Fs a0 W ⟨dst, .call ⟨.value (.func 73), #[.tmp s, .const (.slice none 0 0)], #[ta, tb]⟩, ty, pos, after, none⟩ [(s, some j)] (tabF base t) := by
  refine .inl ⟨fun j want h => so_none h, fun a w hb hl => ?_⟩
  have h0 := hl.1
  rw [hF] at h0
  have e1 := ev_get h0
  have he := enters_of Tryz.func73 (by kernel_rfl) rfl #[.agg #[.int .i64 t.fn, .slice A t.args.length c], .slice none 0 0] w
  simp [go_sem, leaves, e1, he]
  refine (refFlat_any t [] (.slice none 0 0) A c base w (by simp; omega) hf (hA.blw (hb.mono hb0)) (RowN.nil_ _ _) (Nat.le_trans hb0 hb.size)).mono fun e w' h => ?_
  obtain ⟨v', l', rfl, h1, h2, h3⟩ := h
  refine ⟨v', rfl, h3.k.below (Nat.le_refl _) fun g _ e => ?_, Nat.le_trans (Nat.le_trans hb0 hb.size) h3.k.size, l', h1, by simpa using h2⟩
  rcases e with e | ⟨x, hx, _⟩
  · simp [Value.ownBlock] at e
  · simp at hx
end
end Go.Proofs.YthgglobfkkcdgaaGreat
namespace Go.Proofs.YthgglobfkkcdgaaGreat
open Go Go.RowKit Go.Shelf Go.Maps
set_option maxRecDepth 100000
section
variable {Fs : List Fct} {a0 : Act} {W : World} {dst : Option Tmp} {ty : TypeId} {pos : String} {after : Array Edge}
theorem so_build {s1 s2 s3 j1 j2 j3 base : Nat} {o : Odr} {P Q : Option Addr} {pc qc : Nat} {s t : Tm} (hF1 : Fs.getD j1 Fct.any = Fct.eq (.agg #[.bool o.lpo, .slice P o.prec.length pc, .slice Q o.wts.length qc, .int .i64 o.var])) (hF2 : Fs.getD j2 Fct.any = tabF base s) (hF3 : Fs.getD j3 Fct.any = tabF base t) (hs : s.size ≤ 1073741824) (ht : t.size ≤ 1073741824) :
    stepF Tryz.prog Fs a0 W ⟨dst, .build 113 #[(0, .tmp s1), (1, .tmp s2), (2, .tmp s3)], ty, pos, after, none⟩ [(s1, some j1), (s2, some j2), (s3, some j3)] (prF base o P Q pc qc s t) := by
  refine .inl ⟨fun j want h => so_none h, fun a w hb hl => ?_⟩
  obtain ⟨h0, h1, h2, _⟩ := hl
  rw [hF1] at h0
  rw [hF2] at h1
  rw [hF3] at h2
  have e0 := ev_get h0
  have h1' := h1
  have h2' := h2
  obtain ⟨A, c, hv, _⟩ := tabF.read h1 hs
  obtain ⟨B, d, hv2, _⟩ := tabF.read h2 ht
  have e1 := ev_get hv
  have e2 := ev_get hv2
  rw [hv] at h1'
  rw [hv2] at h2'
  simp [go_sem, leaves, e0, e1, e2]
  exact ⟨Below.refl _ _, _, _, rfl, h1', h2'⟩
theorem so_box {s1 j1 base : Nat} {o : Odr} {P Q : Option Addr} {pc qc : Nat} {s t : Tm} (hF1 : Fs.getD j1 Fct.any = prF base o P Q pc qc s t) (hs : s.size ≤ 1073741824) (ht : t.size ≤ 1073741824) :
    stepF Tryz.prog Fs a0 W ⟨dst, .box 113 (.tmp s1), ty, pos, after, none⟩ [(s1, some j1)] (ptF base o P Q pc qc s t) := by
  refine .inl ⟨fun j want h => so_none h, fun a w hb hl => ?_⟩
  have h0 := hl.1
  rw [hF1] at h0
  obtain ⟨va, vb, hv, h1, h2⟩ := h0
  have hbs := h1.1
  obtain ⟨A, c, rfl, hN1⟩ := tabF.read h1 hs
  obtain ⟨B, d, rfl, hN2⟩ := tabF.read h2 ht
  have e0 := ev_get hv
  have hbl : ∀ o' : Obj, Below w.heap.size w (w.alloc o') := fun o' => (Below.refl _ _).alloc (Nat.le_refl _) _
  simp [go_sem, leaves, e0]
  exact ⟨hbl _, w.heap.size, A, B, c, d, rfl, hbs, by simp, heap_alloc_new _ _, hN1.blw (hbl _), hN2.blw (hbl _)⟩
theorem so_assign {s1 j1 base : Nat} {o : Odr} {P Q : Option Addr} {pc qc : Nat} {s t : Tm} (hF1 : Fs.getD j1 Fct.any = ptF base o P Q pc qc s t) :
    stepF Tryz.prog Fs a0 W ⟨dst, .assign (.tmp s1), ty, pos, after, none⟩ [(s1, some j1)] (ptF base o P Q pc qc s t) := by
  refine .inl ⟨fun j want h => so_none h, fun a w hb hl => ?_⟩
  have h0 := hl.1
  rw [hF1] at h0
  obtain ⟨bp, A, B, ca, cb, hv, hr⟩ := h0
  have e0 := ev_get hv
  simp [go_sem, leaves, e0]
  exact ⟨Below.refl _ _, bp, A, B, ca, cb, rfl, hr⟩
end
end Go.Proofs.YthgglobfkkcdgaaGreat
namespace Go.Proofs.YthgglobfkkcdgaaGreat
open Go.RowKit
set_option maxRecDepth 100000
end Go.Proofs.YthgglobfkkcdgaaGreat
namespace Go.Proofs.YthgglobfkkcdgaaGreat
open Go.RowKit
set_option maxRecDepth 100000
end Go.Proofs.YthgglobfkkcdgaaGreat
namespace Go.Proofs.YthgglobfkkcdgaaGreat
open Go Go.RowKit Go.Shelf Go.Maps
set_option maxRecDepth 100000
theorem wp_region_factsS {P : Program} {Q : Exit → Act → World → Prop} {id : Nat} {a : Act} {w : World} {l : List Oper} (n : Nat) (dl : List (List (Nat × Option Nat))) (Fs : List Fct) (hm : P.follows .mixedOrders = true) (hk : kindF n l dl = true) (hn : a.tmps.size = n)
    (h : stepsF P Fs a w.drew l dl Fs) (hf : ∀ w', Below w.drew.heap.size w.drew w' → FinS (fun a' w'' => Q .normal a' w'') w' l Fs a) : (Code.region id l.toArray true).wp P Q a w :=
  wp_region_facts n dl Fs hm hk hn h fun w' hb => (hf w' hb).go
section
variable {Fs : List Fct} {a0 : Act} {W : World} {dst : Option Tmp} {ty : TypeId} {pos : String} {after : Array Edge} {guard : Option (Nat × Bool)}
end
end Go.Proofs.YthgglobfkkcdgaaGreat
namespace Go.Proofs.YthgglobfkkcdgaaGreat
open Go Go.RowKit Go.Shelf Go.Maps
set_option maxRecDepth 100000
structure OvP (w1 wr : World) (bp : Nat) (o : Odr) (P Q : Option Addr) (pc qc : Nat) (A B : Option Addr) (ca cb na nb k : Nat) (fv : Value) (rb : Nat → Nat) : Prop where
  keep : KeepsC (· = bp) w1 wr
  box : wr.heap[bp]? = some (.cells #[.bool o.lpo, .slice P o.prec.length pc, .slice Q o.wts.length qc, .int .i64 o.var, .slice A na ca, .slice B nb cb, fv] 113)
  row : wr.ownsRow w1.heap.size 22 1 fv k ((List.range k).map fun i => .slice (some ⟨rb i, 0, none⟩) nb nb)
  rws : ∀ i, i < k → w1.heap.size ≤ rb i ∧ rb i < wr.heap.size ∧ fv.ownBlock ≠ some (rb i) ∧ wr.heap[rb i]? = some (.cells (madeCells #[.int .i64 0] nb) 3)
  inj : ∀ i j, i < k → j < k → rb i = rb j → i = j
theorem infoRows : (Tryz.prog.info? 22).map (fun i => (i.zero, i.size, i.bytes)) = some (some (.slice none 0 0), 1, 24) := by kernel_rfl
theorem cell_row1 {W : World} {b : Nat} {x : Value} {t : TypeId} (h : W.heap[b]? = some (.cells #[x] t)) : W.cell? ⟨b, 0, none⟩ = some x := by
  simp only [World.cell?, h]; rfl
theorem cells_7 {W : World} {b : Nat} {x0 x1 x2 x3 x4 x5 x6 : Value} {t : TypeId} (h : W.heap[b]? = some (.cells #[x0, x1, x2, x3, x4, x5, x6] t)) : W.cell? ⟨b, 0, none⟩ = some x0 ∧ W.cell? ⟨b, 1, none⟩ = some x1 ∧ W.cell? ⟨b, 2, none⟩ = some x2 ∧ W.cell? ⟨b, 3, none⟩ = some x3 ∧ W.cell? ⟨b, 4, none⟩ = some x4 ∧ W.cell? ⟨b, 5, none⟩ = some x5 ∧ W.cell? ⟨b, 6, none⟩ = some x6 := by
  simp [World.cell?, h]
theorem made_get {n j : Nat} (h : j < n) : (madeCells #[.int .i64 0] n)[j]? = some (.int .i64 0) := by
  simp [madeCells, h, Nat.mod_one]
section
variable {w1 wr w5 : World} {bp : Nat} {o : Odr} {P Q : Option Addr} {pc qc : Nat} {A B : Option Addr} {ca cb na nb k : Nat} {fv v5 : Value} {rb : Nat → Nat}
theorem OvP.next {ob : Obj} (h : OvP w1 wr bp o P Q pc qc A B ca cb na nb k fv rb) (hb : bp < w1.heap.size) (hown : w5.ownsRow w1.heap.size 22 1 v5 (k + 1) ((List.range k).map (fun i => Value.slice (some ⟨rb i, 0, none⟩) nb nb) ++ [.slice (some ⟨wr.heap.size, 0, none⟩) nb nb]))
    (hg : ((wr.alloc (.cells (madeCells #[.int .i64 0] nb) 3)).alloc ob).grownBy w5 fv.ownBlock) (hat : v5.ownBlock = fv.ownBlock ∨ v5.ownBlock = some (wr.heap.size + 1 + 1)) :
    OvP w1 (w5.setCell ⟨bp, 6, none⟩ v5) bp o P Q pc qc A B ca cb na nb (k + 1) v5 (fun i => if i = k then wr.heap.size else rb i) := by
  have hlt := row_lt h.row
  have hk := h.keep.size
  have hgs := hg.size
  have hsz : wr.heap.size + 1 + 1 ≤ w5.heap.size := by simpa using hgs
  have hal : ∀ g, g < wr.heap.size → ((wr.alloc (.cells (madeCells #[.int .i64 0] nb) 3)).alloc ob).heap[g]? = wr.heap[g]? := fun g e => (Below.heap_alloc _ _ g (by simp; omega)).trans (Below.heap_alloc _ _ g e)
  have hK : ∀ g, g < wr.heap.size → fv.ownBlock ≠ some g → w5.heap[g]? = wr.heap[g]? := fun g h1 h2 => (hg.block g (by simp; omega) (fun e => h2 e.symm)).trans (hal g h1)
  have hfb : fv.ownBlock ≠ some bp := fun e => by have := (hlt _ e).1; omega
  have hset : ∀ g, g ≠ bp → (w5.setCell ⟨bp, 6, none⟩ v5).heap[g]? = w5.heap[g]? := fun g e => heap_setCell_other _ _ _ _ e
  have hbox := (hK bp (by omega) hfb).trans h.box
  have hnew : w5.heap[wr.heap.size]? = some (.cells (madeCells #[.int .i64 0] nb) 3) := by
    refine (hg.block _ (by simp; omega) (fun e => ?_)).trans ((Below.heap_alloc _ _ _ (by simp)).trans (heap_alloc_new _ _))
    have := (hlt _ e.symm).2
    omega
  have hlt5 := row_lt hown
  have hv5 : ∀ g, g < wr.heap.size → fv.ownBlock ≠ some g → v5.ownBlock ≠ some g := fun g h1 h2 e => by
    rcases hat with h3 | h3
    · rw [h3] at e; exact h2 e
    · rw [h3] at e; injection e with e; omega
  refine ⟨?_, ?_, ?_, fun i hi => ?_, fun i j hi hj e => ?_⟩
  · refine Keeps.trans h.keep ⟨?_, ?_, ?_, ?_, fun g hg2 => ?_⟩
    · exact hg.os
    · exact hg.tape
    · exact hg.output
    · simp; omega
    · rw [hset g hg2.2]
      exact hK g (by have := hg2.1; omega) (fun e => by have := (hlt _ e).1; have := hg2.1; omega)
  · exact heap_setCell_same w5 _ 6 _ _ _ hbox
  · refine row_keep (W := w5) ?_ fun g e => hset g (by have := (hlt5 g e).1; omega)
    rw [List.range_succ, List.map_append, List.map_cons, List.map_nil, if_pos rfl]
    have : (List.range k).map (fun i => Value.slice (some ⟨if i = k then wr.heap.size else rb i, 0, none⟩) nb nb) = (List.range k).map (fun i => Value.slice (some ⟨rb i, 0, none⟩) nb nb) := List.map_congr_left fun i hi => by
      rw [if_neg (by have := List.mem_range.1 hi; omega)]
    rw [this]
    exact hown
  · by_cases e : i = k
    · rw [if_pos e]
      refine ⟨by omega, by simp; omega, fun e2 => ?_, (hset _ (by omega)).trans hnew⟩
      rcases hat with h3 | h3
      · rw [h3] at e2; have := (hlt _ e2).2; omega
      · rw [h3] at e2; injection e2 with e2; omega
    · rw [if_neg e]
      obtain ⟨r1, r2, r3, r4⟩ := h.rws i (by omega)
      exact ⟨r1, by simp; omega, hv5 _ r2 r3, (hset _ (by omega)).trans ((hK _ r2 r3).trans r4)⟩
  · have hr := fun i (hi : i < k) => (h.rws i hi).2.1
    by_cases e1 : i = k
    · by_cases e2 : j = k
      · omega
      · rw [if_pos e1, if_neg e2] at e
        have := hr j (by omega); omega
    · by_cases e2 : j = k
      · rw [if_neg e1, if_pos e2] at e
        have := hr i (by omega); omega
      · rw [if_neg e1, if_neg e2] at e
        exact h.inj i j (by omega) (by omega) e
end
set_option maxHeartbeats 4000000 in
theorem refOver9_any (o : Odr) : OvrI o := by
  intro s t P Q A A2 pc qc c c2 w hks hkt hzs hzt hM hfs hft hA hA2
  obtain ⟨q0, q1, q2⟩ := heap3 w (.cells #[.bool o.lpo, .slice P o.prec.length pc, .slice Q o.wts.length qc, .int .i64 o.var] 24) (.cells #[.int .i64 s.fn, .slice A s.args.length c] 36) (.cells #[.int .i64 t.fn, .slice A2 t.args.length c2] 36)
  obtain ⟨W, hW⟩ : ∃ W, (((w.alloc (.cells #[.bool o.lpo, .slice P o.prec.length pc, .slice Q o.wts.length qc, .int .i64 o.var] 24)).alloc (.cells #[.int .i64 s.fn, .slice A s.args.length c] 36)).alloc (.cells #[.int .i64 t.fn, .slice A2 t.args.length c2] 36)) = W := ⟨_, rfl⟩
  rw [hW] at q0 q1 q2
  have hB : Below w.heap.size w W := by rw [← hW]; exact (((Below.refl _ _).alloc (Nat.le_refl _) _).alloc (by simp) _).alloc (by simp; omega) _
  have hAW := hA.blw hB
  have hA2W := hA2.blw hB
  have hMW := hM.p.blw hB
  have hbs := hB.size
  have HW := Lib.hid hW
  have HM := Lib.hid hMW
  clear hW hA hA2 hM hMW
  go_enter Tryz.func50, Tryz.ntmps50
  go_upto_region 1 with fail
  rw [HW.out]
  refine wp_region_factsS 42 [[(3, none)], [(4, none)], [(10, some 1)], [(5, none)], [(12, some 3)], [(9, some 0), (11, some 2), (13, some 4)], [(14, some 5)], [(15, some 6)]]
    [Fct.eq (.agg #[.bool o.lpo, .slice P o.prec.length pc, .slice Q o.wts.length qc, .int .i64 o.var]), Fct.eq (.agg #[.int .i64 s.fn, .slice A s.args.length c]), tabF w.heap.size s, Fct.eq (.agg #[.int .i64 t.fn, .slice A2 t.args.length c2]), tabF w.heap.size t, prF w.heap.size o P Q pc qc s t, ptF w.heap.size o P Q pc qc s t, ptF w.heap.size o P Q pc qc s t] (by kernel_rfl) (by decide +kernel) (by kernel_rfl) ?_ ?_
  · exact ⟨so_load4 rfl q0, so_load2 rfl q1, so_flat rfl hzs hfs (hAW.drewN 1) hbs, so_load2 rfl q2, so_flat rfl hzt hft (hA2W.drewN 1) hbs, so_build rfl rfl rfl hzs hzt, so_box rfl hzs hzt, so_assign rfl, trivial⟩
  · intro w1 hb1
    generalize hA0 : ({ tmps := _, defers := _ } : Act) = a0
    have hsz : a0.tmps.size = 42 := by rw [← hA0]; rfl
    refine FinS.some rfl (fun u0 (e0 : u0 = _) => ?_)
    subst e0
    refine FinS.some rfl (fun u1 (e1 : u1 = _) => ?_)
    subst e1
    refine FinS.some rfl (fun u2 _ => ?_)
    refine FinS.some rfl (fun u3 (e3 : u3 = _) => ?_)
    subst e3
    refine FinS.some rfl (fun u4 _ => FinS.some rfl (fun u5 _ => FinS.some rfl (fun u6 _ => FinS.some rfl (fun u7 e7 => FinS.nil ?_))))
    obtain ⟨bp, A', B', ca, cb, rfl, hbp, hbl, hbk, hNa, hNb⟩ := e7
    subst hA0
    clear hsz
    simp only [Act.put, List.setIfInBounds_toArray, List.set_cons_succ, List.set_cons_zero]
    go_wp2
    obtain ⟨na, hna⟩ : ∃ n, (ndT 0 s).length = n := ⟨_, rfl⟩
    obtain ⟨nb, hnb⟩ : ∃ n, (ndT 0 t).length = n := ⟨_, rfl⟩
    have hna1 : na ≤ 1073741824 := by rw [← hna, ndT_len]; exact hzs
    have hnb1 : nb ≤ 1073741824 := by rw [← hnb, ndT_len]; exact hzt
    obtain ⟨i1, hi1, hy0, hy1, hy2⟩ := info_parts infoInt
    obtain ⟨i2, hi2, hx0, hx1, hx2⟩ := info_parts infoRows
    have hmk : ∀ w : World, (Instr.makeSlice 22 (.int .i64 (nb : Int)) (.int .i64 (nb : Int))).run Tryz.prog w = .ok (.slice (some ⟨w.heap.size, 0, none⟩) nb nb) (w.alloc (.cells (madeCells #[.int .i64 0] nb) 3)) := fun w => run_make_row _ _ i1 _ Tryz.underlying22 hi1 hy0 hy1 rfl _ _ nb (by rw [hy2]; omega) (by omega) w
    rw [hna, hnb] at hbk
    have HNa := Lib.hid hna
    have HNb := Lib.hid hnb
    have H0 : Hid (OvP w1 w1 bp o P Q pc qc A' B' ca cb na nb 0 (.slice none 0 0) (fun _ => 0)) := Lib.hid ⟨KeepsC.refl _ _, hbk, ⟨rfl, .inl ⟨rfl, rfl⟩⟩, fun i h => by omega, fun i j h => by omega⟩
    have HNa' := Lib.hid hNa
    have HNb' := Lib.hid hNb
    have hbs0 : Hid (Below w.heap.size W w1) := Lib.hid (by
      have h1 : Below W.heap.size W w1 := ⟨hb1.os, hb1.tape, hb1.output, hb1.size, hb1.block⟩
      exact h1.mono hbs)
    clear hna hnb hNa hNb hb1
    go_loopw [8] (fun i wr => ∃ (k : Nat) (fv : Value) (rb : Nat → Nat), k ≤ na ∧ i = .int .i64 (k : Int) ∧ Hid (OvP w1 wr bp o P Q pc qc A' B' ca cb na nb k fv rb)) (fun i _ => na - (intOf i).toNat)
    case atStart => exact ⟨0, _, _, Nat.zero_le _, rfl, H0⟩
    case round =>
      obtain ⟨k, fv, rb, hk, rfl, H⟩ := hrel
      obtain ⟨x0, x1, x2, x3, x4, x5, x6⟩ := cells_7 H.out.box
      have hbr : bp < wr.heap.size := Nat.lt_of_lt_of_le hbl H.out.keep.size
      by_cases hlt : k < na
      · obtain ⟨Av, cv, hv⟩ := row_slice H.out.row
        subst hv
        have hrl := row_lt H.out.row
        have hfb : (Value.slice Av k cv).ownBlock ≠ some bp := fun e => by have := (hrl _ e).1; omega
        have hBX : ∀ w' : World, w'.heap[bp]? = wr.heap[bp]? → w'.cell? ⟨bp, 6, none⟩ = some (.slice Av k cv) ∧ w'.frozen? ⟨bp, 6, none⟩ = false := fun w' h => ⟨(cell_of_heap h).trans x6, (frozen_of_heap h).trans (frozen_9 H.out.box 6)⟩
        obtain ⟨M, hM1⟩ : ∃ M, Obj.cells (madeCells #[.int .i64 0] nb) 3 = M := ⟨_, rfl⟩
        obtain ⟨Bo, hBo⟩ : ∃ Bo, Obj.cells #[.slice (some ⟨wr.heap.size, 0, none⟩) nb nb] 22 = Bo := ⟨_, rfl⟩
        have hal : ∀ g, g < wr.heap.size → ((wr.alloc M).alloc Bo).heap[g]? = wr.heap[g]? := fun g e => (Below.heap_alloc _ _ g (by simp; omega)).trans (Below.heap_alloc _ _ g e)
        have hnc : ∀ j u, [Value.slice (some ⟨wr.heap.size, 0, none⟩) nb nb][j]? = some u → ((wr.alloc M).alloc Bo).cell? ((⟨wr.heap.size + 1, 0, none⟩ : Addr).add j) = some u := by
          intro j u hj
          cases j with
          | zero =>
            simp at hj
            subst hj
            have := heap_alloc_new (wr.alloc M) Bo
            rw [← hBo] at this ⊢
            rw [show (wr.alloc M).heap.size = wr.heap.size + 1 by simp] at this
            exact cell_row1 this
          | succ j => simp at hj
        have Hal := Lib.hid hal
        have Hnc := Lib.hid hnc
        subst hM1 hBo
        have hrow := H.out.row
        have Hrow := Lib.hid hrow
        have hb1s := H.out.keep.size
        clear hal hnc hrow
        go_wp2
        go_region_law
          (first
            | (go_must (
               refine step_append_at rfl (.tmp 29) (.tmp 36) 111 rfl w1.heap.size 22 i2 (.slice none 0 0) 1 24 Tryz.underlying111 hi2 hx0 hx1 hx2 rfl (by decide) (.slice Av k cv) k _ (by simp [Act.eval]) (row_keep Hrow.out fun g e => Hal.out g (hrl g e).2) ⟨wr.heap.size + 1, 0, none⟩ 1 1 [.slice (some ⟨wr.heap.size, 0, none⟩) nb nb] (by simp [Act.eval]) rfl (fun j u hj => Hnc.out j u hj) (by simp [Value.oneCell']) (by unfold maxLen; omega) (by omega) (by simp; omega) ?_
               intro v5 w5 hown5 hgr5 hat5
               obtain ⟨A5, c5, rfl⟩ := row_slice hown5
               have hat6 : (Value.slice A5 (k + 1) c5).ownBlock = (Value.slice Av k cv).ownBlock ∨ (Value.slice A5 (k + 1) c5).ownBlock = some (wr.heap.size + 1 + 1) := hat5.imp id fun e => e.trans (by simp)
               have hgr6 : ((wr.alloc (.cells (madeCells #[.int .i64 0] nb) 3)).alloc (.cells #[.slice (some ⟨wr.heap.size, 0, none⟩) nb nb] 22)).grownBy w5 (Value.slice Av k cv).ownBlock := ⟨hgr5.os, hgr5.tape, hgr5.output, hgr5.size, hgr5.block⟩
               have HN := Lib.hid (H.out.next hbl hown5 hgr6 hat6)
               have hbx := hBX w5 ((hgr5.block bp (by simp; omega) (fun e => hfb e.symm)).trans (Hal.out bp hbr))
               obtain ⟨hb6, hb7⟩ := hbx
               clear hown5 hgr5 hgr6 hat5 hat6))
            | fail)
        all_goals
          go_wp2
          go_roundw
          case rel => exact ⟨k + 1, _, _, by omega, by go_num, HN⟩
          case measure => simp [intOf]; omega
      · obtain rfl : k = na := by omega
        have hnz : 0 < k := by have := HNa.out; rw [ndT_len] at this; have := size_pos s; omega
        have hPW : ∃ bo fc, PrW wr bp o P Q pc qc A' B' ca cb (ndT 0 s) (ndT 0 t) bo fc rb (fun _ _ => 0) := by
          have e1 := HNa.out
          have e2 := HNb.out
          subst e1 e2
          have hrl := row_lt H.out.row
          obtain ⟨g, cap, rfl⟩ : ∃ g cap, fv = .slice (some ⟨g, 0, none⟩) (ndT 0 s).length cap := by
            rcases H.out.row.2 with ⟨_, h0⟩ | ⟨g, cap, cur, hv, _⟩
            · omega
            · exact ⟨g, cap, hv⟩
          have hg := hrl g rfl
          have hkp : Below bp w1 wr := H.out.keep.below (by omega) fun g hg e => by omega
          have hks := H.out.keep.size
          refine ⟨g, cap, ⟨hbr, x0, x1, x2, x3, x4, x5, x6, ?_, HNa'.out.blw hkp, HNb'.out.blw hkp, ⟨by omega, hg.2⟩, fun i hi => ?_, fun i hi => ?_, H.out.inj, fun i j hi hj => ?_, fun i j hi hj => ?_⟩⟩
          · exact (HM.out.blw (hbs0.out)).more hbp |>.blw hkp
          · have := H.out.row.cellAt i (by omega)
            rw [this, List.getElem?_map, List.getElem?_range hi]; rfl
          · obtain ⟨r1, r2, r3, _⟩ := H.out.rws i hi
            exact ⟨by omega, r2, fun e => r3 (by rw [e]; rfl)⟩
          · have := (H.out.rws i hi).2.2.2
            simp only [World.cell?, this]
            exact made_get hj
          · exact frozen_9 (H.out.rws i hi).2.2.2 j
        obtain ⟨bo, fc, hPW⟩ := hPW
        have HC : Hid (Calls Tryz.prog 74 #[.pointer (some ⟨bp, 0, none⟩), .int .i64 0, .int .i64 0] wr fun e w' => e = .returned (.bool (lpT o.prec s t)) ∧ PrP bp o P Q pc qc A' B' ca cb (ndT 0 s) (ndT 0 t) bo fc rb (fun _ _ => 0) wr w') := Lib.hid (refAbv_all (rb := rb) (ndT_ok 0 s) (ndT_ok 0 t) (fun i u ku h => nd_known hks i u ku h) (fun i u ku h => nd_known hkt i u ku h) (s.size + t.size) 0 0 s _ t _ _ wr (ndT_head 0 s) (ndT_head 0 t) (Nat.le_refl _) (fun i k u ku x kx _ _ _ => .inl rfl) hPW)
        have HPW := Lib.hid hPW
        clear hPW hnz
        go_wp2_with (first
          | (go_at_call 74; (with_reducible refine HC.out.mono ?_); go_must (rintro e w5 ⟨rfl, hP5⟩; have HP5 := Lib.hid hP5; clear hP5))
          | fail)
        go_ret
        refine ⟨rfl, ?_⟩
        have hkp : Below bp w1 wr := H.out.keep.below (by omega) fun g hg e => by omega
        have h5 : Below bp wr w5 := HP5.out.1.below (by omega) fun g hg ⟨i, hi, e⟩ => by have := (HPW.out.rr i hi).1; omega
        exact (hB.trans hbs0.out).trans ((hkp.trans h5).mono hbp)
end Go.Proofs.YthgglobfkkcdgaaGreat
namespace Go.Proofs.YthgglobfkkcdgaaGreat
open Go Go.RowKit Go.Shelf
set_option maxRecDepth 100000
theorem box_ott10 {w W : World} {o : Odr} {s t : Tm} {P Q A A2 : Option Addr} {pc qc c c2 : Nat} (hW : (((w.alloc (.cells #[.bool o.lpo, .slice P o.prec.length pc, .slice Q o.wts.length qc, .int .i64 o.var] 24)).alloc (.cells #[.int .i64 s.fn, .slice A s.args.length c] 36)).alloc (.cells #[.int .i64 t.fn, .slice A2 t.args.length c2] 36)) = W) :
    Below w.heap.size w W ∧ W.heap[w.heap.size]? = some (.cells #[.bool o.lpo, .slice P o.prec.length pc, .slice Q o.wts.length qc, .int .i64 o.var] 24) ∧ W.heap[w.heap.size + 1]? = some (.cells #[.int .i64 s.fn, .slice A s.args.length c] 36) ∧ W.heap[w.heap.size + 2]? = some (.cells #[.int .i64 t.fn, .slice A2 t.args.length c2] 36) := by
  obtain ⟨q0, q1, q2⟩ := heap3o w (.cells #[.bool o.lpo, .slice P o.prec.length pc, .slice Q o.wts.length qc, .int .i64 o.var] 24) (.cells #[.int .i64 s.fn, .slice A s.args.length c] 36) (.cells #[.int .i64 t.fn, .slice A2 t.args.length c2] 36)
  rw [hW] at q0 q1 q2
  refine ⟨?_, q0, q1, q2⟩
  rw [← hW]
  exact (((Below.refl _ _).alloc (Nat.le_refl _) _).alloc (by simp) _).alloc (by simp; omega) _
theorem refCmp10_any (o : Odr) (s t : Tm) (P Q A A2 : Option Addr) (pc qc c c2 : Nat) (w : World) (hM : OdrM w w.heap.size o P Q) (hs : TmK w s A c) (ht : TmK w t A2 c2) (hzs : s.size ≤ 536870912) (hzt : t.size ≤ 536870912) :
    Calls Tryz.prog 14 #[.agg #[.bool o.lpo, .slice P o.prec.length pc, .slice Q o.wts.length qc, .int .i64 o.var], .agg #[.int .i64 s.fn, .slice A s.args.length c], .agg #[.int .i64 t.fn, .slice A2 t.args.length c2]] w fun e w' => e = .returned (.int .i64 (ordV o s t)) ∧ Below w.heap.size w w' := by
  obtain ⟨W, hW⟩ : ∃ W, (((w.alloc (.cells #[.bool o.lpo, .slice P o.prec.length pc, .slice Q o.wts.length qc, .int .i64 o.var] 24)).alloc (.cells #[.int .i64 s.fn, .slice A s.args.length c] 36)).alloc (.cells #[.int .i64 t.fn, .slice A2 t.args.length c2] 36)) = W := ⟨_, rfl⟩
  obtain ⟨hB, q0, q1, q2⟩ := box_ott10 hW
  have HL := Lib.hid (refCmp9_any o (refOver9_any o) s t P Q A A2 pc qc c c2 W (by omega) (by omega) (hM.on hB) hs.i64 ht.i64 (hs.on hB).args.toA (ht.on hB).args.toA)
  have HK := Lib.hid (refCmp8_any o s t P Q A A2 pc qc c c2 W (hM.on hB) hs.i64 ht.i64 (by omega) (by omega) (hs.on hB).args.toA (ht.on hB).args.toA)
  have HW := Lib.hid hW
  obtain ⟨a0, a1, a2, a3⟩ := cells_four q0
  obtain ⟨b0, b1, _, _⟩ := cells_two q1
  obtain ⟨c0, c1, _, _⟩ := cells_two q2
  clear hW hM hs ht q0 q1 q2 hzs hzt
  unfold ordV
  cases hl : o.lpo with
  | true =>
    rw [hl] at a0 HL
    go_enter Tryz.func14, Tryz.ntmps14
    go_upto_region 1 with fail
    rw [hl] at HW
    rw [HW.out]
    go_wp2_with (first
      | (go_at_call 32; (with_reducible refine HL.out.mono ?_); go_must (rintro e w1 ⟨rfl, hb1⟩))
      | fail)
    go_ret
    exact ⟨rfl, hB.trans (hb1.mono hB.size)⟩
  | false =>
    rw [hl] at a0 HK
    go_enter Tryz.func14, Tryz.ntmps14
    go_upto_region 1 with fail
    rw [hl] at HW
    rw [HW.out]
    go_wp2_with (first
      | (go_at_call 33; (with_reducible refine HK.out.mono ?_); go_must (rintro e w1 ⟨rfl, hb1⟩))
      | fail)
    go_ret
    exact ⟨rfl, hB.trans (hb1.mono hB.size)⟩
structure TabM (w : World) (bx n m N g1 g2 g3 : Nat) (bs ba bb : List Bool) : Prop where
  box : w.heap[bx]? = some (.cells #[.int .i64 (n : Int), .int .i64 (m : Int), .slice (some ⟨g1, 0, none⟩) N N, .slice (some ⟨g2, 0, none⟩) N N, .slice (some ⟨g3, 0, none⟩) N N] 54)
  r1 : w.heap[g1]? = some (.cells (bC bs) 4)
  r2 : w.heap[g2]? = some (.cells (bC ba) 4)
  r3 : w.heap[g3]? = some (.cells (bC bb) 4)
  n12 : g1 ≠ g2
  n13 : g1 ≠ g3
  n23 : g2 ≠ g3
  x1 : bx ≠ g1
  x2 : bx ≠ g2
  x3 : bx ≠ g3
section
variable {w w' : World} {bx n m N g1 g2 g3 : Nat} {bs ba bb : List Bool}
theorem TabM.on (h : TabM w bx n m N g1 g2 g3 bs ba bb) (hb : Below w.heap.size w w') : TabM w' bx n m N g1 g2 g3 bs ba bb :=
  have k := fun {i : Nat} {ob : Obj} (e : w.heap[i]? = some ob) => (hb.block i (Array.getElem?_eq_some_iff.1 e).1).trans e
  ⟨k h.box, k h.r1, k h.r2, k h.r3, h.n12, h.n13, h.n23, h.x1, h.x2, h.x3⟩
theorem TabM.set1 (h : TabM w bx n m N g1 g2 g3 bs ba bb) (p : Nat) (s : Bool) : TabM (w.setCell ⟨g1, p, none⟩ (.bool s)) bx n m N g1 g2 g3 (bs.set p s) ba bb :=
  ⟨(heap_setCell_other w ⟨g1, p, none⟩ bx _ h.x1).trans h.box, bC_set h.r1 p s, (heap_setCell_other w ⟨g1, p, none⟩ g2 _ (Ne.symm h.n12)).trans h.r2, (heap_setCell_other w ⟨g1, p, none⟩ g3 _ (Ne.symm h.n13)).trans h.r3, h.n12, h.n13, h.n23, h.x1, h.x2, h.x3⟩
theorem TabM.set2 (h : TabM w bx n m N g1 g2 g3 bs ba bb) (p : Nat) (s : Bool) : TabM (w.setCell ⟨g2, p, none⟩ (.bool s)) bx n m N g1 g2 g3 bs (ba.set p s) bb :=
  ⟨(heap_setCell_other w ⟨g2, p, none⟩ bx _ h.x2).trans h.box, (heap_setCell_other w ⟨g2, p, none⟩ g1 _ h.n12).trans h.r1, bC_set h.r2 p s, (heap_setCell_other w ⟨g2, p, none⟩ g3 _ (Ne.symm h.n23)).trans h.r3, h.n12, h.n13, h.n23, h.x1, h.x2, h.x3⟩
theorem TabM.set3 (h : TabM w bx n m N g1 g2 g3 bs ba bb) (p : Nat) (s : Bool) : TabM (w.setCell ⟨g3, p, none⟩ (.bool s)) bx n m N g1 g2 g3 bs ba (bb.set p s) :=
  ⟨(heap_setCell_other w ⟨g3, p, none⟩ bx _ h.x3).trans h.box, (heap_setCell_other w ⟨g3, p, none⟩ g1 _ h.n13).trans h.r1, (heap_setCell_other w ⟨g3, p, none⟩ g2 _ h.n23).trans h.r2, bC_set h.r3 p s, h.n12, h.n13, h.n23, h.x1, h.x2, h.x3⟩
theorem TabM.cells (h : TabM w bx n m N g1 g2 g3 bs ba bb) : w.cell? ⟨bx, 0, none⟩ = some (.int .i64 (n : Int)) ∧ w.cell? ⟨bx, 1, none⟩ = some (.int .i64 (m : Int)) ∧ w.cell? ⟨bx, 2, none⟩ = some (.slice (some ⟨g1, 0, none⟩) N N) ∧ w.cell? ⟨bx, 3, none⟩ = some (.slice (some ⟨g2, 0, none⟩) N N) ∧ w.cell? ⟨bx, 4, none⟩ = some (.slice (some ⟨g3, 0, none⟩) N N) := by
  have q := h.box
  refine ⟨?_, ?_, ?_, ?_, ?_⟩ <;> simp [World.cell?, q]
end
structure TabF (m N : Nat) (f : Nat → Nat → Bool) (p : Nat) (bs : List Bool) : Prop where
  len : bs.length = N
  at' : ∀ i j, j < m → i * m + j < p → bs[i * m + j]? = some (f i j)
theorem TabF.start (m N : Nat) (f : Nat → Nat → Bool) : TabF m N f 0 (List.replicate N false) := ⟨by simp, fun i j _ h => by omega⟩
theorem plc_inj {m i j i' j' : Nat} (hj : j < m) (hj' : j' < m) (h : i * m + j = i' * m + j') : i = i' ∧ j = j' := by
  have hm : 0 < m := by omega
  have e1 : (i * m + j) / m = i := by rw [Nat.mul_comm, Nat.mul_add_div hm, Nat.div_eq_of_lt hj, Nat.add_zero]
  have e2 : (i' * m + j') / m = i' := by rw [Nat.mul_comm, Nat.mul_add_div hm, Nat.div_eq_of_lt hj', Nat.add_zero]
  have e : i = i' := by rw [← e1, h, e2]
  subst e
  exact ⟨rfl, by omega⟩
theorem TabF.put {m N : Nat} {f : Nat → Nat → Bool} {p i j : Nat} {bs : List Bool} (h : TabF m N f p bs) (hp : i * m + j = p) (hj : j < m) (hN : p < N) {s : Bool} (hs : f i j = s) : TabF m N f (p + 1) (bs.set p s) := by
  refine ⟨by rw [List.length_set]; exact h.len, fun i' j' hj' hlt => ?_⟩
  by_cases e : i' * m + j' = p
  · obtain ⟨rfl, rfl⟩ := plc_inj hj' hj (e.trans hp.symm)
    rw [e, List.getElem?_set_self (by rw [h.len]; exact hN), hs]
  · rw [List.getElem?_set_ne (fun e' => e e'.symm)]
    exact h.at' i' j' hj' (by omega)
structure TabG (m N : Nat) (r : Nat → Nat → Int) (p : Nat) (bs ba bb : List Bool) : Prop where
  s : TabF m N (fun i j => r i j == 2) p bs
  a : TabF m N (fun i j => r i j == 3) p ba
  b : TabF m N (fun i j => r i j == 1) p bb
theorem TabG.start (m N : Nat) (r : Nat → Nat → Int) : TabG m N r 0 (List.replicate N false) (List.replicate N false) (List.replicate N false) := ⟨TabF.start _ _ _, TabF.start _ _ _, TabF.start _ _ _⟩
theorem TabG.put {m N : Nat} {r : Nat → Nat → Int} {p i j : Nat} {bs ba bb : List Bool} (h : TabG m N r p bs ba bb) (hp : i * m + j = p) (hj : j < m) (hN : p < N) {s a b : Bool} (hs : (r i j == 2) = s) (ha : (r i j == 3) = a) (hb : (r i j == 1) = b) : TabG m N r (p + 1) (bs.set p s) (ba.set p a) (bb.set p b) :=
  ⟨h.s.put hp hj hN hs, h.a.put hp hj hN ha, h.b.put hp hj hN hb⟩
theorem TabG.all {n m : Nat} {r : Nat → Nat → Int} {bs ba bb : List Bool} (h : TabG m (n * m) r (n * m) bs ba bb) : (∀ i j, i < n → j < m → bs[i * m + j]? = some (r i j == 2)) ∧ (∀ i j, i < n → j < m → ba[i * m + j]? = some (r i j == 3)) ∧ (∀ i j, i < n → j < m → bb[i * m + j]? = some (r i j == 1)) :=
  ⟨fun i j hi hj => h.s.at' i j hj (plc_lt hi hj), fun i j hi hj => h.a.at' i j hj (plc_lt hi hj), fun i j hi hj => h.b.at' i j hj (plc_lt hi hj)⟩
theorem tabF_all {n m N : Nat} {r : Nat → Nat → Int} {bs : List Bool} (h3 : ∀ i j, (r i j == 3) = false ∧ (r i j == 1) = false) (h : TabF m (n * m) (fun i j => r i j == 2) (n * m) bs) (hN : N = n * m) : (∀ i j, i < n → j < m → bs[i * m + j]? = some (r i j == 2)) ∧ (∀ i j, i < n → j < m → (List.replicate N false)[i * m + j]? = some (r i j == 3)) ∧ (∀ i j, i < n → j < m → (List.replicate N false)[i * m + j]? = some (r i j == 1)) := by
  subst hN
  refine ⟨fun i j hi hj => h.at' i j hj (plc_lt hi hj), fun i j hi hj => ?_, fun i j hi hj => ?_⟩
  · rw [List.getElem?_replicate, if_pos (plc_lt hi hj), (h3 i j).1]
  · rw [List.getElem?_replicate, if_pos (plc_lt hi hj), (h3 i j).2]
end Go.Proofs.YthgglobfkkcdgaaGreat
namespace Go.Proofs.YthgglobfkkcdgaaGreat
open Go Go.RowKit Go.Shelf
set_option maxRecDepth 100000
set_option maxHeartbeats 8000000 in
theorem sameTerms_any (a b : List Tm) (A B : Option Addr) (ca cb : Nat) (W : World) (ha : RowTm (· < W.heap.size) W A a) (hb : RowTm (· < W.heap.size) W B b) (hla : a.length ≤ 1000) (hlb : b.length ≤ 1000) :
    Calls Tryz.prog 29 #[.slice A a.length ca, .slice B b.length cb] W fun e w' => e = .returned (.bool (mulR tmS a b == 2)) ∧ Below W.heap.size W w' := by
  have HB := Lib.hid (Below.refl W.heap.size W)
  by_cases hl : a.length = b.length
  case neg =>
    have g : ((a.length : Int) == (b.length : Int)) = false := by simpa using (by omega : ¬ (a.length : Int) = (b.length : Int))
    have HU := Lib.hid (mul_uneq (rel := tmS) hl)
    clear ha hb hl
    go_enter Tryz.func29, Tryz.ntmps29
    go_wp2
    go_ret
    exact ⟨ret_bool HU.out.symm, HB.out⟩
  case pos =>
    have g : ((a.length : Int) == (b.length : Int)) = true := by simp [hl]
    obtain ⟨r, hr⟩ : ∃ r : Nat → Nat → Int, r = fun i j => tmS (a.getD i (.node 0 [])) (b.getD j (.node 0 [])) := ⟨_, rfl⟩
    have hrr : ∀ (i j : Nat) (x y : Tm), a[i]? = some x → b[j]? = some y → tmS x y = r i j := fun i j x y e1 e2 => by
      rw [hr]; simp only [List.getD_eq_getElem?_getD, e1, e2, Option.getD_some]
    have Hno : Hid (∀ i j, (r i j == 3) = false ∧ (r i j == 1) = false) := Lib.hid fun i j => by rw [hr]; exact tmS_31 _ _
    have Hmul := Lib.hid (mul_rows a b hrr)
    have HRR := Lib.hid hrr
    have HA := Lib.hid ha
    have HBr := Lib.hid hb
    obtain ⟨N, hN⟩ : ∃ N, N = a.length * b.length := ⟨_, rfl⟩
    have hN6 : N ≤ 1000000 := by rw [hN]; exact Nat.mul_le_mul hla hlb
    have HOf := Lib.hid (tabOf_any a.length b.length N W hla hlb hN)
    have HN := Lib.hid hN
    clear hr hrr ha hb hN hl
    go_enter Tryz.func29, Tryz.ntmps29
    go_upto_region 3 with fail
    go_upto_region 4 with (first
      | (go_at_call 23; (with_reducible refine HOf.out.mono ?_); go_must (rintro e w1 ⟨g1, g2, g3, rfl, hT⟩; have HT := Lib.hid hT; clear hT))
      | fail)
    obtain ⟨V, hV⟩ : ∃ V, w1.alloc (.cells #[.int .i64 (a.length : Int), .int .i64 (b.length : Int), .slice (some ⟨g1, 0, none⟩) N N, .slice (some ⟨g2, 0, none⟩) N N, .slice (some ⟨g3, 0, none⟩) N N] 54) = V := ⟨_, rfl⟩
    have hbV : Below w1.heap.size w1 V := by rw [← hV]; exact (Below.refl _ _).alloc (Nat.le_refl _) _
    have HTM : Hid (TabM V w1.heap.size a.length b.length N g1 g2 g3 (List.replicate N false) (List.replicate N false) (List.replicate N false)) := Lib.hid (by
      have k := fun {i : Nat} {ob : Obj} (e : w1.heap[i]? = some ob) => (hbV.block i (Array.getElem?_eq_some_iff.1 e).1).trans e
      have z1 := (Array.getElem?_eq_some_iff.1 HT.out.r1).1
      have z2 := (Array.getElem?_eq_some_iff.1 HT.out.r2).1
      have z3 := (Array.getElem?_eq_some_iff.1 HT.out.r3).1
      exact ⟨by rw [← hV]; exact heap_alloc_new _ _, k HT.out.r1, k HT.out.r2, k HT.out.r3, HT.out.n12, HT.out.n13, HT.out.n23, by omega, by omega, by omega⟩)
    have hBV : Below W.heap.size W V := HT.out.bl.trans (hbV.mono HT.out.bl.size)
    have hlo : W.heap.size ≤ g1 ∧ W.heap.size ≤ g2 ∧ W.heap.size ≤ g3 := ⟨Nat.le_trans (Nat.le_refl _) HT.out.l1, Nat.le_trans (Nat.le_refl _) HT.out.l2, Nat.le_trans (Nat.le_refl _) HT.out.l3⟩
    obtain ⟨hlo1, hlo2, hlo3⟩ := hlo
    obtain ⟨bx, hbx⟩ : ∃ bx, w1.heap.size = bx := ⟨_, rfl⟩
    have n12 := HT.out.n12
    have n13 := HT.out.n13
    have n23 := HT.out.n23
    have hxw : W.heap.size ≤ bx := by rw [← hbx]; exact HT.out.bl.size
    have HV := Lib.hid hV
    have HTG0 := Lib.hid (TabF.start b.length N (fun i j => r i j == 2))
    clear hV hbV
    rw [HV.out]
    rw [hbx] at HTM ⊢
    clear hbx HV
    go_wp2
    go_loopw [6] (fun i wr => ∃ (k : Nat) (bs : List Bool), k ≤ a.length ∧ i = .int .i64 (k : Int) ∧ Hid (TabF b.length N (fun i j => r i j == 2) (k * b.length) bs) ∧ Hid (TabM wr bx a.length b.length N g1 g2 g3 bs (List.replicate N false) (List.replicate N false)) ∧ Below W.heap.size W wr) (fun i _ => a.length - (intOf i).toNat)
    case atStart => exact ⟨0, _, Nat.zero_le _, rfl, by rw [Nat.zero_mul]; exact HTG0, HTM, hBV⟩
    case round =>
      obtain ⟨k, bs, hk, rfl, HG, HM1, hBr⟩ := hrel
      by_cases hkn : k < a.length
      case neg =>
        obtain rfl : k = a.length := by omega
        obtain ⟨y0, y1, y2, y3, y4⟩ := HM1.out.cells
        have hall := tabF_all Hno.out (show TabF b.length (a.length * b.length) (fun i j => r i j == 2) (a.length * b.length) bs by rw [← HN.out]; rw [← HN.out] at HG; exact HG.out) HN.out
        have HR := Lib.hid (tabRel_any r a.length b.length N g1 g2 g3 N N N bs (List.replicate N false) (List.replicate N false) wr hla hlb HN.out HM1.out.r1 HM1.out.r2 HM1.out.r3 hall.1 hall.2.1 hall.2.2)
        clear hall
        go_wp2_with (first
          | (go_at_call 25; (with_reducible refine HR.out.mono ?_); go_must (rintro e w9 ⟨rfl, hb9⟩))
          | fail)
        go_ret
        exact ⟨ret_bool (by rw [Hmul.out]), HB.out.trans ((hBr.trans (hb9.mono hBr.size)).mono HB.out.size)⟩
      case pos =>
        obtain ⟨x, hx⟩ : ∃ x, a[k]? = some x := ⟨_, List.getElem?_eq_getElem (hkn)⟩
        have Hx := Lib.hid hx
        clear hx
        go_wp2
        go_loopw [7] (fun j wi => ∃ (l : Nat) (bs : List Bool), l ≤ b.length ∧ j = .int .i64 (l : Int) ∧ Hid (TabF b.length N (fun i j => r i j == 2) (k * b.length + l) bs) ∧ Hid (TabM wi bx a.length b.length N g1 g2 g3 bs (List.replicate N false) (List.replicate N false)) ∧ Below W.heap.size W wi) (fun j _ => b.length - (intOf j).toNat)
        case atStart => exact ⟨0, _, Nat.zero_le _, rfl, HG, HM1, hBr⟩
        case round =>
          clear HG HM1 hBr
          obtain ⟨l, bs, hl, rfl, HG, HM1, hBr⟩ := hrel
          by_cases hlm : l < b.length
          case neg =>
            obtain rfl : l = b.length := by omega
            go_wp2
            go_roundw
            case rel => exact ⟨k + 1, bs, by omega, by go_num, by rw [Nat.add_mul, Nat.one_mul]; exact HG, HM1, hBr⟩
            case measure => simp [intOf]; omega
          case pos =>
            obtain ⟨y, hy⟩ : ∃ y, b[l]? = some y := ⟨_, List.getElem?_eq_getElem (hlm)⟩
            have hpl := plc_lt hkn hlm
            rw [← HN.out] at hpl
            obtain ⟨q, hq⟩ : ∃ q, k * b.length = q := ⟨_, rfl⟩
            rw [hq] at hpl HG
            have hw1 : IntKind.i64.wrap ((k : Int) * (b.length : Int)) = (q : Int) := by
              have : (k : Int) * (b.length : Int) = (q : Int) := by rw [← hq]; simp
              rw [this, IntKind.wrap_i64]; omega
            obtain ⟨pp, hpp⟩ : ∃ pp, q + l = pp := ⟨_, rfl⟩
            rw [hpp] at hpl HG
            have hw2 : IntKind.i64.wrap ((q : Int) + (l : Int)) = (pp : Int) := by rw [IntKind.wrap_i64]; omega
            have Hplc := Lib.hid (show k * b.length + l = pp by rw [hq, hpp])
            have hppN : (pp : Int) < (N : Int) := by omega
            have hpN := Lib.hid hpl
            have hkn2 : (k : Int) < (a.length : Int) := by omega
            have hlm2 : (l : Int) < (b.length : Int) := by omega
            obtain ⟨s, hs⟩ : ∃ s, (r k l == 2) = s := ⟨_, rfl⟩
            have Hr := Lib.hid (HRR.out k l x y Hx.out hy)
            have Hs2 := Lib.hid (show decide (cmpT x y = 0) = s by rw [← hs, ← Hr.out, tmS_2])
            obtain ⟨bA, oA, X1, xc, hAe, hbA0, x0, x1v, X1', xc', hxv, hxi, hxK, hxz⟩ := HA.out.get Hx.out
            obtain ⟨rfl, rfl⟩ : X1' = X1 ∧ xc' = xc := by injection hxv with h1; simp at h1; exact ⟨h1.1.symm, h1.2.symm⟩
            obtain ⟨bB, oB, Y1, yc, hBe, hbB0, y0, y1v, Y1', yc', hyv, hyi, hyK, hyz⟩ := HBr.out.get hy
            obtain ⟨rfl, rfl⟩ : Y1' = Y1 ∧ yc' = yc := by injection hyv with h1; simp at h1; exact ⟨h1.1.symm, h1.2.symm⟩
            subst hAe hBe
            have HNX := Lib.hid (HG.out.put Hplc.out hlm hpN.out hs)
            obtain ⟨b1, hb1⟩ : ∃ b, bs[pp]? = some b := ⟨_, List.getElem?_eq_getElem (by rw [HG.out.len]; exact hpl)⟩
            have Hbs := Lib.hid (And.intro hb1 trivial)
            clear hy hq hpp hpl hs hb1
            have hbA := hBr
            have HMA := HM1
            obtain ⟨wA, hwA⟩ : ∃ wA : World, wA = wr := ⟨_, rfl⟩
            rw [← hwA] at hbA HMA ⊢
            clear hwA
            have HSS : Hid (∀ w' : World, Below wA.heap.size wA w' → w'.cell? ⟨bx, 1, none⟩ = some (.int .i64 (b.length : Int)) ∧ w'.cell? ⟨bx, 2, none⟩ = some (.slice (some ⟨g1, 0, none⟩) N N) ∧ w'.cell? ⟨bA, oA + k * 2, none⟩ = some (.int .i64 x.fn) ∧ w'.cell? ⟨bA, oA + k * 2 + 1, none⟩ = some (.slice X1' x.args.length xc') ∧ w'.cell? ⟨bB, oB + l * 2, none⟩ = some (.int .i64 y.fn) ∧ w'.cell? ⟨bB, oB + l * 2 + 1, none⟩ = some (.slice Y1' y.args.length yc')) := Lib.hid fun w' h => by
              have hT := HMA.out.on h
              obtain ⟨_, z1, z2, _, _⟩ := hT.cells
              have hbw := hbA.trans (h.mono hbA.size)
              exact ⟨z1, z2, cell_on hbw hbA0 x0, cell_on hbw hbA0 x1v, cell_on hbw hbB0 y0, cell_on hbw hbB0 y1v⟩
            have HSG : Hid (∀ w' : World, Below wA.heap.size wA w' → w'.cell? ⟨g1, pp, none⟩ = some (.bool b1) ∧ w'.frozen? ⟨g1, pp, none⟩ = false) := Lib.hid fun w' h => bC_cell (HMA.out.on h).r1 Hbs.out.1
            go_upto_region 10 with fail
            have hbd : Below wA.heap.size wA wA.drew := bl_drewN (Below.refl _ _) 1
            obtain ⟨f0, f1, f2, f3, f4, f5⟩ := HSS.out wA.drew hbd
            obtain ⟨h0, h1, h2, h3, h4, h5⟩ := HSS.out wA (Below.refl _ _)
            have hbAd := hbA.trans (hbd.mono hbA.size)
            have C2 := Lib.hid (ref2Same_any' x y X1' Y1' xc' yc' wA.drew hxi hyi ((hxK.keep fun g e => hbAd.block g e).wide fun g e => Nat.lt_of_lt_of_le e hbAd.size).toA ((hyK.keep fun g e => hbAd.block g e).wide fun g e => Nat.lt_of_lt_of_le e hbAd.size).toA)
            rw [Hs2.out] at C2
            have HD := Lib.hid hbd
            clear hbd hbAd
            go_region_held3 (fun w' : World => w'.cell? ⟨bx, 1, none⟩ = some (.int .i64 (b.length : Int)) ∧ w'.cell? ⟨bx, 2, none⟩ = some (.slice (some ⟨g1, 0, none⟩) N N) ∧ w'.cell? ⟨bA, oA + k * 2, none⟩ = some (.int .i64 x.fn) ∧ w'.cell? ⟨bA, oA + k * 2 + 1, none⟩ = some (.slice X1' x.args.length xc') ∧ w'.cell? ⟨bB, oB + l * 2, none⟩ = some (.int .i64 y.fn) ∧ w'.cell? ⟨bB, oB + l * 2 + 1, none⟩ = some (.slice Y1' y.args.length yc'))
              (first | (with_reducible exact ⟨f0, f1, f2, f3, f4, f5⟩) | (with_reducible exact ⟨h0, h1, h2, h3, h4, h5⟩) | (with_reducible exact ⟨t0, t1, t2, t3, t4, t5⟩) | exact HSS.out _ hBB | fail)
              (first
                | (go_at_call 43; (with_reducible refine C2.out.mono ?_); go_must (rintro e wB ⟨rfl, hb'⟩; have hBB := HD.out.trans (hb'.mono HD.out.size); have hTB := HMA.out.on hBB; have HTB := Lib.hid (hTB.set1 pp s); have HBB2 := Lib.hid (hbA.trans (hBB.mono hbA.size)); clear hTB hb'; obtain ⟨_, t0, t1, _, _⟩ := HTB.out.cells; have hbS := HBB2.out.setCell (p := ⟨g1, pp, none⟩) hlo1 (.bool s); have t2 := cell_on hbS hbA0 x0; have t3 := cell_on hbS hbA0 x1v; have t4 := cell_on hbS hbB0 y0; have t5 := cell_on hbS hbB0 y1v; obtain ⟨n6, n7⟩ := HSG.out _ hBB))
                | fail)
            go_wp2
            go_roundw
            case rel => exact ⟨l + 1, _, by omega, by go_num, by rw [← Nat.add_assoc, Hplc.out]; exact HNX, HTB, HBB2.out.setCell hlo1 _⟩
            case measure => simp [intOf]; omega
end Go.Proofs.YthgglobfkkcdgaaGreat
namespace Go.Proofs.YthgglobfkkcdgaaGreat
open Go.RowKit Go.Shelf
set_option maxRecDepth 100000
theorem refMembersK_any (x : Li) (A1 A2 : Option Addr) (c1 c2 : Nat) (w : World) (C : Nat → Prop) (hC : ∀ g, C g → g < w.heap.size) (h : LiK w (fun g => g < w.heap.size ∧ ¬ C g) x A1 c1 A2 c2) :
    Calls Tryz.prog 27 #[.agg #[.bool x.neg, .int .i64 x.l.fn, .slice A1 x.l.args.length c1, .int .i64 x.r.fn, .slice A2 x.r.args.length c2]] w fun e w' => ∃ A c, e = .returned (.slice A x.mb.length c) ∧ Rp2 (fun g => g < w'.heap.size ∧ ¬ C g) w' x.mb (.slice A x.mb.length c) ∧ Below w.heap.size w w' := by
  have q0 := heap_alloc_new w (.cells #[.bool x.neg, .int .i64 x.l.fn, .slice A1 x.l.args.length c1, .int .i64 x.r.fn, .slice A2 x.r.args.length c2] 38)
  obtain ⟨W, hW⟩ : ∃ W, w.alloc (.cells #[.bool x.neg, .int .i64 x.l.fn, .slice A1 x.l.args.length c1, .int .i64 x.r.fn, .slice A2 x.r.args.length c2] 38) = W := ⟨_, rfl⟩
  have hB : Below w.heap.size w W := by rw [← hW]; exact (Below.refl _ _).alloc (Nat.le_refl _) _
  rw [hW] at q0
  have hq := (Array.getElem?_eq_some_iff.1 q0).1
  obtain ⟨a0, a1, a2, a3, a4⟩ := cells_5o q0
  have H := Lib.hid (h.to (M := fun g => g < W.heap.size ∧ ¬ C g) (fun g e => hB.block g e.1) fun _ e => ⟨Nat.lt_of_lt_of_le e.1 hB.size, e.2⟩)
  have HC := Lib.hid fun g (e : C g) => Nat.lt_of_lt_of_le (hC g e) hB.size
  have HW := Lib.hid hW
  clear h q0 hW hC
  cases hn : x.neg with
  | true =>
    have hl : Hid (x.mb.length = 1) := Lib.hid (by unfold Li.mb membs; rw [hn]; rfl)
    have Hn := Lib.hid hn
    rw [hn] at a0 HW
    clear hn
    go_enter Tryz.func27, Tryz.ntmps27
    go_upto_region 1 with fail
    rw [HW.out]
    go_wp2
    go_ret
    obtain ⟨h1, h2⟩ := mb_neg HC.out H.out rfl Hn.out
    exact ⟨some ⟨W.heap.size + 1, 0, none⟩, 1, by rw [hl.out]; rfl, by rw [hl.out]; exact h1, hB.trans (h2.mono hB.size)⟩
  | false =>
    have hl : Hid (x.mb.length = 2) := Lib.hid (by unfold Li.mb membs; rw [hn]; rfl)
    have Hn := Lib.hid hn
    rw [hn] at a0 HW
    clear hn
    go_enter Tryz.func27, Tryz.ntmps27
    go_upto_region 1 with fail
    rw [HW.out]
    go_wp2
    go_ret
    obtain ⟨h1, h2⟩ := mb_pos HC.out H.out rfl Hn.out
    exact ⟨some ⟨W.heap.size + 2, 0, none⟩, 2, by rw [hl.out]; rfl, by rw [hl.out]; exact h1, hB.trans (h2.mono hB.size)⟩
theorem refMembers_any (x : Li) (A1 A2 : Option Addr) (c1 c2 : Nat) (w : World) (h : LiK w (· < w.heap.size) x A1 c1 A2 c2) :
    Calls Tryz.prog 27 #[.agg #[.bool x.neg, .int .i64 x.l.fn, .slice A1 x.l.args.length c1, .int .i64 x.r.fn, .slice A2 x.r.args.length c2]] w fun e w' => ∃ A c, e = .returned (.slice A x.mb.length c) ∧ Rp2 (· < w'.heap.size) w' x.mb (.slice A x.mb.length c) ∧ Below w.heap.size w w' :=
  (refMembersK_any x A1 A2 c1 c2 w (fun _ => False) (fun _ e => e.elim) (h.to (fun _ _ => rfl) fun _ e => ⟨e, id⟩)).mono fun _ _ ⟨A, c, he, hR, hb⟩ => ⟨A, c, he, hR.to (fun _ _ => rfl) fun _ e => e.1, hb⟩
section
variable {Fs : List Fct} {a0 : Act} {W : World} {dst : Option Tmp} {ty : TypeId} {pos : String} {after : Array Edge} {guard : Option (Nat × Bool)}
theorem st_membersT {x : Li} {A1 A2 : Option Addr} {c1 c2 s j : Nat} (hg : ∀ j want, guard = some (j, want) → ∀ v w, (Fs.getD j Fct.any).p v w → v = .bool want) (hK : LiK W (· < W.heap.size) x A1 c1 A2 c2) (hF : Fs.getD j Fct.any = Fct.eq (.agg #[.bool x.neg, .int .i64 x.l.fn, .slice A1 x.l.args.length c1, .int .i64 x.r.fn, .slice A2 x.r.args.length c2])) :
    stepF Tryz.prog Fs a0 W ⟨dst, .call ⟨.value (.func 27), #[.tmp s], #[38]⟩, ty, pos, after, guard⟩ [(s, some j)] (mbF x) := by
  refine .inl ⟨hg, fun a w hb hl => ?_⟩
  have h0 := hl.1
  rw [hF] at h0
  have h1 := ev_get h0
  simp [go_sem, leaves, h1]
  refine (refMembers_any x A1 A2 c1 c2 w (hK.on hb)).mono fun e w' h => ?_
  obtain ⟨A, c, he, hR, hbw⟩ := h
  exact ⟨_, he, hbw, A, c, rfl, hR⟩
theorem st_assignT {x : Li} {s j : Nat} (hg : ∀ j want, guard = some (j, want) → ∀ v w, (Fs.getD j Fct.any).p v w → v = .bool want) (hF : Fs.getD j Fct.any = mbF x) :
    stepF Tryz.prog Fs a0 W ⟨dst, .assign (.tmp s), ty, pos, after, guard⟩ [(s, some j)] (mbF x) := by
  refine .inl ⟨hg, fun a w hb hl => ?_⟩
  have h0 := hl.1
  rw [hF] at h0
  obtain ⟨A, c, hv, hR⟩ := h0
  have h1 := ev_get hv
  simp [go_sem, leaves, h1]
  exact ⟨Below.refl _ _, A, c, rfl, hR⟩
end
end Go.Proofs.YthgglobfkkcdgaaGreat
namespace Go.Proofs.YthgglobfkkcdgaaGreat
open Go Go.RowKit Go.Shelf
set_option maxRecDepth 100000
theorem rowtm_two {w : World} {N : Nat → Prop} {b : Nat} {t u : Tm} {A B : Option Addr} {c d : Nat} {ty : TypeId} (h : w.heap[b]? = some (.cells #[.int .i64 t.fn, .slice A t.args.length c, .int .i64 u.fn, .slice B u.args.length d] ty)) (hN : N b) (h1 : I64 t.fn) (h2 : ArgsK w N A c t.args) (h3 : t.size ≤ 536870912) (g1 : I64 u.fn) (g2 : ArgsK w N B d u.args) (g3 : u.size ≤ 536870912) : RowTm N w (some ⟨b, 0, none⟩) [t, u] := by
  obtain ⟨A', c', e, h⟩ := rp1_two h hN h1 h2 h3 g1 g2 g3
  injection e with e1 e2 e3
  subst e1
  exact h
set_option maxHeartbeats 4000000 in
theorem sameLits_any (x y : Li) (A1 A2 B1 B2 : Option Addr) (c1 c2 d1 d2 : Nat) (w : World) (hx : LiK w (· < w.heap.size) x A1 c1 A2 c2) (hy : LiK w (· < w.heap.size) y B1 d1 B2 d2) :
    Calls Tryz.prog 24 #[.agg #[.bool x.neg, .int .i64 x.l.fn, .slice A1 x.l.args.length c1, .int .i64 x.r.fn, .slice A2 x.r.args.length c2], .agg #[.bool y.neg, .int .i64 y.l.fn, .slice B1 y.l.args.length d1, .int .i64 y.r.fn, .slice B2 y.r.args.length d2]] w fun e w' => e = .returned (.bool (slB x y)) ∧ Below w.heap.size w w' := by
  obtain ⟨q0, q1⟩ := heap2 w (.cells #[.bool x.neg, .int .i64 x.l.fn, .slice A1 x.l.args.length c1, .int .i64 x.r.fn, .slice A2 x.r.args.length c2] 38) (.cells #[.bool y.neg, .int .i64 y.l.fn, .slice B1 y.l.args.length d1, .int .i64 y.r.fn, .slice B2 y.r.args.length d2] 38)
  obtain ⟨W, hW⟩ : ∃ W, (w.alloc (.cells #[.bool x.neg, .int .i64 x.l.fn, .slice A1 x.l.args.length c1, .int .i64 x.r.fn, .slice A2 x.r.args.length c2] 38)).alloc (.cells #[.bool y.neg, .int .i64 y.l.fn, .slice B1 y.l.args.length d1, .int .i64 y.r.fn, .slice B2 y.r.args.length d2] 38) = W := ⟨_, rfl⟩
  have hB : Below w.heap.size w W := by rw [← hW]; exact ((Below.refl _ _).alloc (Nat.le_refl _) _).alloc (by simp) _
  rw [hW] at q0 q1
  obtain ⟨U, hU⟩ : ∃ U, W.alloc (.cells #[.int .i64 x.l.fn, .slice A1 x.l.args.length c1, .int .i64 x.r.fn, .slice A2 x.r.args.length c2] 36) = U := ⟨_, rfl⟩
  have hbU : Below W.heap.size W U := by rw [← hU]; exact (Below.refl _ _).alloc (Nat.le_refl _) _
  have hUs : U.heap.size = W.heap.size + 1 := by rw [← hU]; simp
  have p0 : U.heap[W.heap.size]? = some (.cells #[.int .i64 x.l.fn, .slice A1 x.l.args.length c1, .int .i64 x.r.fn, .slice A2 x.r.args.length c2] 36) := by rw [← hU]; exact heap_alloc_new W _
  obtain ⟨V, hV⟩ : ∃ V, U.alloc (.cells #[.int .i64 y.l.fn, .slice B1 y.l.args.length d1, .int .i64 y.r.fn, .slice B2 y.r.args.length d2] 36) = V := ⟨_, rfl⟩
  have hbV : Below U.heap.size U V := by rw [← hV]; exact (Below.refl _ _).alloc (Nat.le_refl _) _
  have p1 : V.heap[W.heap.size + 1]? = some (.cells #[.int .i64 y.l.fn, .slice B1 y.l.args.length d1, .int .i64 y.r.fn, .slice B2 y.r.args.length d2] 36) := by rw [← hV, ← hUs]; exact heap_alloc_new U _
  have p0' : V.heap[W.heap.size]? = some (.cells #[.int .i64 x.l.fn, .slice A1 x.l.args.length c1, .int .i64 x.r.fn, .slice A2 x.r.args.length c2] 36) := (hbV.block _ (by omega)).trans p0
  have hWV : Below W.heap.size W V := hbU.trans (hbV.mono hbU.size)
  have hxV := (hx.on hB).on hWV
  have hyV := (hy.on hB).on hWV
  have hVs := hbV.size
  have C : Calls Tryz.prog 29 #[.slice (some ⟨W.heap.size, 0, none⟩) 2 2, .slice (some ⟨W.heap.size + 1, 0, none⟩) 2 2] V fun e w' => e = .returned (.bool (mulR tmS [x.l, x.r] [y.l, y.r] == 2)) ∧ Below V.heap.size V w' :=
    sameTerms_any [x.l, x.r] [y.l, y.r] (some ⟨W.heap.size, 0, none⟩) (some ⟨W.heap.size + 1, 0, none⟩) 2 2 V (rowtm_two p0' (by have := (Array.getElem?_eq_some_iff.1 p0').1; exact this) hxV.il hxV.sl hxV.zl hxV.ir hxV.sr hxV.zr) (rowtm_two p1 (by have := (Array.getElem?_eq_some_iff.1 p1).1; exact this) hyV.il hyV.sl hyV.zl hyV.ir hyV.sr hyV.zr) (by simp) (by simp)
  obtain ⟨a0, a1, a2, a3, a4⟩ := cells_5o q0
  obtain ⟨b0, b1, b2, b3, b4⟩ := cells_5o q1
  obtain ⟨v0, v1, v2, v3, v4⟩ := cells_5o ((hbU.block _ (Array.getElem?_eq_some_iff.1 q1).1).trans q1)
  rw [← hU] at v0 v1 v2 v3 v4
  have HV := Lib.hid (show (W.alloc (.cells #[.int .i64 x.l.fn, .slice A1 x.l.args.length c1, .int .i64 x.r.fn, .slice A2 x.r.args.length c2] 36)).alloc (.cells #[.int .i64 y.l.fn, .slice B1 y.l.args.length d1, .int .i64 y.r.fn, .slice B2 y.r.args.length d2] 36) = V by rw [hU, hV])
  have HWV := Lib.hid (hB.trans (hWV.mono hB.size))
  have HW := Lib.hid hW
  have HB := Lib.hid hB
  have HC := Lib.hid C
  obtain ⟨n, hn⟩ : ∃ n, (x.neg == y.neg) = n := ⟨_, rfl⟩
  have HSL := Lib.hid (show slB x y = (n && (mulR tmS [x.l, x.r] [y.l, y.r] == 2)) by unfold slB; rw [hn])
  clear hx hy hW hB q0 q1 hU hbU hUs p0 hV hbV p1 p0' hWV hxV hyV hVs C
  cases n with
  | false =>
    go_enter Tryz.func24, Tryz.ntmps24
    go_upto_region 1 with fail
    rw [HW.out]
    go_wp2
    go_ret
    exact ⟨ret_bool (by rw [HSL.out]; rfl), HB.out⟩
  | true =>
    have HC2 := HC.out
    rw [← HV.out] at HC2
    have HC3 := Lib.hid HC2
    clear HC2
    go_enter Tryz.func24, Tryz.ntmps24
    go_upto_region 1 with fail
    rw [HW.out]
    go_wp2_with (first
      | (go_at_call 29; (with_reducible refine HC3.out.mono ?_); go_must (rintro e w9 ⟨rfl, hb9⟩; rw [HV.out] at hb9))
      | fail)
    go_ret
    exact ⟨ret_bool (by rw [HSL.out]; rfl), HWV.out.trans (hb9.mono HWV.out.size)⟩
end Go.Proofs.YthgglobfkkcdgaaGreat
namespace Go.Proofs.YthgglobfkkcdgaaGreat
open Go Go.RowKit Go.Shelf
set_option maxRecDepth 100000
set_option maxHeartbeats 8000000 in
theorem tabTerms_any (o : Odr) (a b : List Tm) (P Q A B : Option Addr) (pc qc ca cb : Nat) (w : World) (hM : OdrM w w.heap.size o P Q) (ha : RowTm (· < w.heap.size) w A a) (hb : RowTm (· < w.heap.size) w B b) (hla : a.length ≤ 1000) (hlb : b.length ≤ 1000) :
    Calls Tryz.prog 28 #[.agg #[.bool o.lpo, .slice P o.prec.length pc, .slice Q o.wts.length qc, .int .i64 o.var], .slice A a.length ca, .slice B b.length cb] w fun e w' => e = .returned (.int .i64 (mulR (tmI o) a b)) ∧ Below w.heap.size w w' := by
  obtain ⟨r, hr⟩ : ∃ r : Nat → Nat → Int, r = fun i j => tmI o (a.getD i (.node 0 [])) (b.getD j (.node 0 [])) := ⟨_, rfl⟩
  have hrr : ∀ (i j : Nat) (x y : Tm), a[i]? = some x → b[j]? = some y → tmI o x y = r i j := fun i j x y e1 e2 => by
    rw [hr]; simp only [List.getD_eq_getElem?_getD, e1, e2, Option.getD_some]
  have Hmul := Lib.hid (mul_rows a b hrr)
  have HRR := Lib.hid hrr
  clear hr hrr
  have q0 := heap_alloc_new w (.cells #[.bool o.lpo, .slice P o.prec.length pc, .slice Q o.wts.length qc, .int .i64 o.var] 24)
  obtain ⟨W, hW⟩ : ∃ W, w.alloc (.cells #[.bool o.lpo, .slice P o.prec.length pc, .slice Q o.wts.length qc, .int .i64 o.var] 24) = W := ⟨_, rfl⟩
  have hB : Below w.heap.size w W := by rw [← hW]; exact (Below.refl _ _).alloc (Nat.le_refl _) _
  rw [hW] at q0
  have HX : Hid (∀ w', Below W.heap.size W w' → w'.cell? ⟨w.heap.size, 0, none⟩ = some (.bool o.lpo) ∧ w'.cell? ⟨w.heap.size, 1, none⟩ = some (.slice P o.prec.length pc) ∧ w'.cell? ⟨w.heap.size, 2, none⟩ = some (.slice Q o.wts.length qc) ∧ w'.cell? ⟨w.heap.size, 3, none⟩ = some (.int .i64 o.var)) := Lib.hid fun w' h => cells_four ((h.block _ (Array.getElem?_eq_some_iff.1 q0).1).trans q0)
  have HMW := Lib.hid (hM.on hB)
  have HA := Lib.hid (RowTm.to (M := (· < W.heap.size)) ha (fun g e => hB.block g e) fun _ e => Nat.lt_of_lt_of_le e hB.size)
  have HBr := Lib.hid (RowTm.to (M := (· < W.heap.size)) hb (fun g e => hB.block g e) fun _ e => Nat.lt_of_lt_of_le e hB.size)
  obtain ⟨N, hN⟩ : ∃ N, N = a.length * b.length := ⟨_, rfl⟩
  have hN6 : N ≤ 1000000 := by rw [hN]; exact Nat.mul_le_mul hla hlb
  have HOf := Lib.hid (tabOf_any a.length b.length N W hla hlb hN)
  have HN := Lib.hid hN
  have HW := Lib.hid hW
  have HB := Lib.hid hB
  clear hM ha hb hW hB hN q0
  go_enter Tryz.func28, Tryz.ntmps28
  go_upto_region 1 with fail
  rw [HW.out]
  go_upto_region 2 with (first
    | (go_at_call 23; (with_reducible refine HOf.out.mono ?_); go_must (rintro e w1 ⟨g1, g2, g3, rfl, hT⟩; have HT := Lib.hid hT; clear hT))
    | fail)
  obtain ⟨V, hV⟩ : ∃ V, w1.alloc (.cells #[.int .i64 (a.length : Int), .int .i64 (b.length : Int), .slice (some ⟨g1, 0, none⟩) N N, .slice (some ⟨g2, 0, none⟩) N N, .slice (some ⟨g3, 0, none⟩) N N] 54) = V := ⟨_, rfl⟩
  have hbV : Below w1.heap.size w1 V := by rw [← hV]; exact (Below.refl _ _).alloc (Nat.le_refl _) _
  have HTM : Hid (TabM V w1.heap.size a.length b.length N g1 g2 g3 (List.replicate N false) (List.replicate N false) (List.replicate N false)) := Lib.hid (by
    have k := fun {i : Nat} {ob : Obj} (e : w1.heap[i]? = some ob) => (hbV.block i (Array.getElem?_eq_some_iff.1 e).1).trans e
    have z1 := (Array.getElem?_eq_some_iff.1 HT.out.r1).1
    have z2 := (Array.getElem?_eq_some_iff.1 HT.out.r2).1
    have z3 := (Array.getElem?_eq_some_iff.1 HT.out.r3).1
    exact ⟨by rw [← hV]; exact heap_alloc_new _ _, k HT.out.r1, k HT.out.r2, k HT.out.r3, HT.out.n12, HT.out.n13, HT.out.n23, by omega, by omega, by omega⟩)
  have hBV : Below W.heap.size W V := HT.out.bl.trans (hbV.mono HT.out.bl.size)
  have hlo : W.heap.size ≤ g1 ∧ W.heap.size ≤ g2 ∧ W.heap.size ≤ g3 := ⟨Nat.le_trans (Nat.le_refl _) HT.out.l1, Nat.le_trans (Nat.le_refl _) HT.out.l2, Nat.le_trans (Nat.le_refl _) HT.out.l3⟩
  obtain ⟨hlo1, hlo2, hlo3⟩ := hlo
  obtain ⟨bx, hbx⟩ : ∃ bx, w1.heap.size = bx := ⟨_, rfl⟩
  have n12 := HT.out.n12
  have n13 := HT.out.n13
  have n23 := HT.out.n23
  have hxw : W.heap.size ≤ bx := by rw [← hbx]; exact HT.out.bl.size
  have HV := Lib.hid hV
  have HTG0 := Lib.hid (TabG.start b.length N r)
  clear hV hbV
  rw [HV.out]
  rw [hbx] at HTM ⊢
  clear hbx HV
  go_wp2
  go_loopw [8] (fun i wr => ∃ (k : Nat) (bs ba bb : List Bool), k ≤ a.length ∧ i = .int .i64 (k : Int) ∧ Hid (TabG b.length N r (k * b.length) bs ba bb) ∧ Hid (TabM wr bx a.length b.length N g1 g2 g3 bs ba bb) ∧ Below W.heap.size W wr) (fun i _ => a.length - (intOf i).toNat)
  case atStart => exact ⟨0, _, _, _, Nat.zero_le _, rfl, by rw [Nat.zero_mul]; exact HTG0, HTM, hBV⟩
  case round =>
    obtain ⟨k, bs, ba, bb, hk, rfl, HG, HM1, hBr⟩ := hrel
    by_cases hkn : k < a.length
    case neg =>
      obtain rfl : k = a.length := by omega
      obtain ⟨y0, y1, y2, y3, y4⟩ := HM1.out.cells
      have hall := (show TabG b.length (a.length * b.length) r (a.length * b.length) bs ba bb by rw [← HN.out]; rw [← HN.out] at HG; exact HG.out).all
      have HR := Lib.hid (tabRel_any r a.length b.length N g1 g2 g3 N N N bs ba bb wr hla hlb HN.out HM1.out.r1 HM1.out.r2 HM1.out.r3 hall.1 hall.2.1 hall.2.2)
      clear hall
      go_wp2_with (first
        | (go_at_call 25; (with_reducible refine HR.out.mono ?_); go_must (rintro e w9 ⟨rfl, hb9⟩))
        | fail)
      go_ret
      exact ⟨ret_int Hmul.out, HB.out.trans ((hBr.trans (hb9.mono hBr.size)).mono HB.out.size)⟩
    case pos =>
      obtain ⟨x, hx⟩ : ∃ x, a[k]? = some x := ⟨_, List.getElem?_eq_getElem (hkn)⟩
      have Hx := Lib.hid hx
      clear hx
      go_wp2
      go_loopw [9] (fun j wi => ∃ (l : Nat) (bs ba bb : List Bool), l ≤ b.length ∧ j = .int .i64 (l : Int) ∧ Hid (TabG b.length N r (k * b.length + l) bs ba bb) ∧ Hid (TabM wi bx a.length b.length N g1 g2 g3 bs ba bb) ∧ Below W.heap.size W wi) (fun j _ => b.length - (intOf j).toNat)
      case atStart => exact ⟨0, _, _, _, Nat.zero_le _, rfl, HG, HM1, hBr⟩
      case round =>
        clear HG HM1 hBr
        obtain ⟨l, bs, ba, bb, hl, rfl, HG, HM1, hBr⟩ := hrel
        by_cases hlm : l < b.length
        case neg =>
          obtain rfl : l = b.length := by omega
          go_wp2
          go_roundw
          case rel => exact ⟨k + 1, bs, ba, bb, by omega, by go_num, by rw [Nat.add_mul, Nat.one_mul]; exact HG, HM1, hBr⟩
          case measure => simp [intOf]; omega
        case pos =>
          obtain ⟨y, hy⟩ : ∃ y, b[l]? = some y := ⟨_, List.getElem?_eq_getElem (hlm)⟩
          have hpl := plc_lt hkn hlm
          rw [← HN.out] at hpl
          obtain ⟨q, hq⟩ : ∃ q, k * b.length = q := ⟨_, rfl⟩
          rw [hq] at hpl HG
          have hw1 : IntKind.i64.wrap ((k : Int) * (b.length : Int)) = (q : Int) := by
            have : (k : Int) * (b.length : Int) = (q : Int) := by rw [← hq]; simp
            rw [this, IntKind.wrap_i64]; omega
          obtain ⟨pp, hpp⟩ : ∃ pp, q + l = pp := ⟨_, rfl⟩
          rw [hpp] at hpl HG
          have hw2 : IntKind.i64.wrap ((q : Int) + (l : Int)) = (pp : Int) := by rw [IntKind.wrap_i64]; omega
          have Hplc := Lib.hid (show k * b.length + l = pp by rw [hq, hpp])
          have hppN : (pp : Int) < (N : Int) := by omega
          have hpN := Lib.hid hpl
          have hkn2 : (k : Int) < (a.length : Int) := by omega
          have hlm2 : (l : Int) < (b.length : Int) := by omega
          obtain ⟨s, hs⟩ : ∃ s, (r k l == 2) = s := ⟨_, rfl⟩
          have Hr := Lib.hid (HRR.out k l x y Hx.out hy)
          obtain ⟨rv, hrv⟩ : ∃ rv, ordV o x y = rv := ⟨_, rfl⟩
          have HRV := Lib.hid hrv
          have H3 := Lib.hid (show (r k l == 3) = (rv == 3) by rw [← Hr.out, tmI_3, hrv])
          have H1' := Lib.hid (show (r k l == 1) = (rv == 1) by rw [← Hr.out, tmI_1, hrv])
          have Hs2 := Lib.hid (show decide (cmpT x y = 0) = s by rw [← hs, ← Hr.out, tmI_2])
          obtain ⟨bA, oA, X1, xc, hAe, hbA0, x0, x1v, X1', xc', hxv, hxi, hxK, hxz⟩ := HA.out.get Hx.out
          obtain ⟨rfl, rfl⟩ : X1' = X1 ∧ xc' = xc := by injection hxv with h1; simp at h1; exact ⟨h1.1.symm, h1.2.symm⟩
          obtain ⟨bB, oB, Y1, yc, hBe, hbB0, y0, y1v, Y1', yc', hyv, hyi, hyK, hyz⟩ := HBr.out.get hy
          obtain ⟨rfl, rfl⟩ : Y1' = Y1 ∧ yc' = yc := by injection hyv with h1; simp at h1; exact ⟨h1.1.symm, h1.2.symm⟩
          subst hAe hBe
          have HNX := Lib.hid (HG.out.put Hplc.out hlm hpN.out hs H3.out H1'.out)
          obtain ⟨b1, hb1⟩ : ∃ b, bs[pp]? = some b := ⟨_, List.getElem?_eq_getElem (by rw [HG.out.s.len]; exact hpl)⟩
          obtain ⟨b2, hb2⟩ : ∃ b, ba[pp]? = some b := ⟨_, List.getElem?_eq_getElem (by rw [HG.out.a.len]; exact hpl)⟩
          obtain ⟨b3, hb3⟩ : ∃ b, bb[pp]? = some b := ⟨_, List.getElem?_eq_getElem (by rw [HG.out.b.len]; exact hpl)⟩
          have Hbs := Lib.hid (And.intro hb1 (And.intro hb2 hb3))
          clear hy hq hpp hpl hs hrv hb1 hb2 hb3
          have hBz := fun zz : Later wr.heap.size wr => hBr.trans (zz.h.mono hBr.size)
          have m0 := fun zz : Later wr.heap.size wr => (HX.out zz.w (hBz zz)).1
          have m1 := fun zz : Later wr.heap.size wr => (HX.out zz.w (hBz zz)).2.1
          have m2 := fun zz : Later wr.heap.size wr => (HX.out zz.w (hBz zz)).2.2.1
          have m3 := fun zz : Later wr.heap.size wr => (HX.out zz.w (hBz zz)).2.2.2
          have m4 := fun zz : Later wr.heap.size wr => cell_on (hBz zz) hbA0 x0
          have m5 := fun zz : Later wr.heap.size wr => cell_on (hBz zz) hbA0 x1v
          have m6 := fun zz : Later wr.heap.size wr => cell_on (hBz zz) hbB0 y0
          have m7 := fun zz : Later wr.heap.size wr => cell_on (hBz zz) hbB0 y1v
          have C1 : Hid (∀ zz : Later wr.heap.size wr, Calls Tryz.prog 14 #[.agg #[.bool o.lpo, .slice P o.prec.length pc, .slice Q o.wts.length qc, .int .i64 o.var], .agg #[.int .i64 x.fn, .slice X1' x.args.length xc'], .agg #[.int .i64 y.fn, .slice Y1' y.args.length yc']] zz.w fun e w' => e = .returned (.int .i64 rv) ∧ Below zz.w.heap.size zz.w w') := Lib.hid fun zz => by
            rw [← HRV.out]
            exact refCmp10_any o x y P Q X1' Y1' pc qc xc' yc' zz.w (HMW.out.on (hBz zz)) ⟨hxi, (hxK.keep fun g e => (hBz zz).block g e).wide fun g e => Nat.lt_of_lt_of_le e (hBz zz).size⟩ ⟨hyi, (hyK.keep fun g e => (hBz zz).block g e).wide fun g e => Nat.lt_of_lt_of_le e (hBz zz).size⟩ hxz hyz
          clear hxz hyz
          clear hBz
          go_upto_region 8 with fail
          refine wp_region_later wr.heap.size wr (by kernel_rfl) (by kernel_rfl) (bl_drewN (Below.refl _ _) 1) ?_
          repeat (go_big_quiet_step (first
            | (go_at_call 14; with_reducible refine calls_later _ (Nat.le_refl _) (C1.out _))
            | fail))
          refine wpQuiet_nil ?_
          rintro _ ⟨zz, rfl⟩
          have hbA := hBr.trans (zz.h.mono hBr.size)
          have HMA := Lib.hid (HM1.out.on zz.h)
          obtain ⟨wA, hwA⟩ : ∃ wA, zz.w = wA := ⟨_, rfl⟩
          rw [hwA] at hbA HMA ⊢
          clear hwA C1 m0 m1 m2 m3 m4 m5 m6 m7
          have HSS : Hid (∀ w' : World, Below wA.heap.size wA w' → w'.cell? ⟨bx, 1, none⟩ = some (.int .i64 (b.length : Int)) ∧ w'.cell? ⟨bx, 2, none⟩ = some (.slice (some ⟨g1, 0, none⟩) N N) ∧ w'.cell? ⟨bA, oA + k * 2, none⟩ = some (.int .i64 x.fn) ∧ w'.cell? ⟨bA, oA + k * 2 + 1, none⟩ = some (.slice X1' x.args.length xc') ∧ w'.cell? ⟨bB, oB + l * 2, none⟩ = some (.int .i64 y.fn) ∧ w'.cell? ⟨bB, oB + l * 2 + 1, none⟩ = some (.slice Y1' y.args.length yc')) := Lib.hid fun w' h => by
            have hT := HMA.out.on h
            obtain ⟨_, z1, z2, _, _⟩ := hT.cells
            have hbw := hbA.trans (h.mono hbA.size)
            exact ⟨z1, z2, cell_on hbw hbA0 x0, cell_on hbw hbA0 x1v, cell_on hbw hbB0 y0, cell_on hbw hbB0 y1v⟩
          have HSG : Hid (∀ w' : World, Below wA.heap.size wA w' → w'.cell? ⟨g1, pp, none⟩ = some (.bool b1) ∧ w'.frozen? ⟨g1, pp, none⟩ = false) := Lib.hid fun w' h => bC_cell (HMA.out.on h).r1 Hbs.out.1
          go_upto_region 9 with fail
          go_cut [] from 22 to 77 (fun wx => Hid (TabM wx bx a.length b.length N g1 g2 g3 (bs.set pp s) ba bb) ∧ Below W.heap.size W wx)
          case first =>
            have hbd : Below wA.heap.size wA wA.drew := bl_drewN (Below.refl _ _) 1
            obtain ⟨f0, f1, f2, f3, f4, f5⟩ := HSS.out wA.drew hbd
            obtain ⟨h0, h1, h2, h3, h4, h5⟩ := HSS.out wA (Below.refl _ _)
            have hbAd := hbA.trans (hbd.mono hbA.size)
            have C2 := Lib.hid (ref2Same_any' x y X1' Y1' xc' yc' wA.drew hxi hyi ((hxK.keep fun g e => hbAd.block g e).wide fun g e => Nat.lt_of_lt_of_le e hbAd.size).toA ((hyK.keep fun g e => hbAd.block g e).wide fun g e => Nat.lt_of_lt_of_le e hbAd.size).toA)
            rw [Hs2.out] at C2
            have HD := Lib.hid hbd
            clear hbd hbAd
            go_region_held3 (fun w' : World => w'.cell? ⟨bx, 1, none⟩ = some (.int .i64 (b.length : Int)) ∧ w'.cell? ⟨bx, 2, none⟩ = some (.slice (some ⟨g1, 0, none⟩) N N) ∧ w'.cell? ⟨bA, oA + k * 2, none⟩ = some (.int .i64 x.fn) ∧ w'.cell? ⟨bA, oA + k * 2 + 1, none⟩ = some (.slice X1' x.args.length xc') ∧ w'.cell? ⟨bB, oB + l * 2, none⟩ = some (.int .i64 y.fn) ∧ w'.cell? ⟨bB, oB + l * 2 + 1, none⟩ = some (.slice Y1' y.args.length yc'))
              (first | (with_reducible exact ⟨f0, f1, f2, f3, f4, f5⟩) | (with_reducible exact ⟨h0, h1, h2, h3, h4, h5⟩) | (with_reducible exact ⟨t0, t1, t2, t3, t4, t5⟩) | exact HSS.out _ hBB | fail)
              (first
                | (go_at_call 43; (with_reducible refine C2.out.mono ?_); go_must (rintro e wB ⟨rfl, hb'⟩; have hBB := HD.out.trans (hb'.mono HD.out.size); have hTB := HMA.out.on hBB; have HTB := Lib.hid (hTB.set1 pp s); have HBB2 := Lib.hid (hbA.trans (hBB.mono hbA.size)); clear hTB hb'; obtain ⟨_, t0, t1, _, _⟩ := HTB.out.cells; have hbS := HBB2.out.setCell (p := ⟨g1, pp, none⟩) hlo1 (.bool s); have t2 := cell_on hbS hbA0 x0; have t3 := cell_on hbS hbA0 x1v; have t4 := cell_on hbS hbB0 y0; have t5 := cell_on hbS hbB0 y1v; obtain ⟨n6, n7⟩ := HSG.out _ hBB))
                | fail)
            go_wp2
            go_meet
            exact ⟨HTB, HBB2.out.setCell hlo1 _⟩
          case rest =>
            obtain ⟨HTc, hbc⟩ := hcut
            obtain ⟨_, z1, z2, z3, z4⟩ := HTc.out.cells
            obtain ⟨e1, e2⟩ := bC_cell HTc.out.r2 Hbs.out.2.1
            obtain ⟨e3, e4⟩ := bC_cell HTc.out.r3 Hbs.out.2.2
            have x1 := HTc.out.x1
            have x2 := HTc.out.x2
            have x3 := HTc.out.x3
            have HF2 := Lib.hid ((HTc.out.set2 pp (rv == 3)).set3 pp (rv == 1))
            have hbz : Below W.heap.size W ((wc.setCell ⟨g2, pp, none⟩ (.bool (rv == 3))).setCell ⟨g3, pp, none⟩ (.bool (rv == 1))) := (hbc.setCell hlo2 _).setCell hlo3 _
            go_wp2
            go_roundw
            case rel => exact ⟨l + 1, _, _, _, by omega, by go_num, by rw [← Nat.add_assoc, Hplc.out]; exact HNX, HF2, hbz⟩
            case measure => simp [intOf]; omega
end Go.Proofs.YthgglobfkkcdgaaGreat
namespace Go.Proofs.YthgglobfkkcdgaaGreat
open Go Go.RowKit Go.Shelf
set_option maxRecDepth 100000
theorem mb_len2 {x : Li} {i : Nat} {m : List Tm} (h : x.mb[i]? = some m) : m.length ≤ 2 := by
  have hm := List.mem_of_getElem? h
  unfold Li.mb membs at hm
  split at hm
  · simp at hm; subst hm; simp
  · simp at hm; rcases hm with rfl | rfl <;> simp
theorem mb_cnt (x : Li) : x.mb.length ≤ 2 := by
  unfold Li.mb membs
  split <;> simp
set_option maxHeartbeats 8000000 in
theorem refLits_any (o : Odr) (x0L y0L : Li) (P Q A1 A2 B1 B2 : Option Addr) (pc qc c1 c2 d1 d2 : Nat) (w : World) (hM : OdrM w w.heap.size o P Q) (hx : LiK w (· < w.heap.size) x0L A1 c1 A2 c2) (hy : LiK w (· < w.heap.size) y0L B1 d1 B2 d2) :
    Calls Tryz.prog 12 #[.agg #[.bool o.lpo, .slice P o.prec.length pc, .slice Q o.wts.length qc, .int .i64 o.var], .agg #[.bool x0L.neg, .int .i64 x0L.l.fn, .slice A1 x0L.l.args.length c1, .int .i64 x0L.r.fn, .slice A2 x0L.r.args.length c2], .agg #[.bool y0L.neg, .int .i64 y0L.l.fn, .slice B1 y0L.l.args.length d1, .int .i64 y0L.r.fn, .slice B2 y0L.r.args.length d2]] w fun e w' => e = .returned (.int .i64 (litsO o x0L y0L)) ∧ Below w.heap.size w w' := by
  obtain ⟨q0, q1, q2⟩ := heap3o w (.cells #[.bool o.lpo, .slice P o.prec.length pc, .slice Q o.wts.length qc, .int .i64 o.var] 24) (.cells #[.bool x0L.neg, .int .i64 x0L.l.fn, .slice A1 x0L.l.args.length c1, .int .i64 x0L.r.fn, .slice A2 x0L.r.args.length c2] 38) (.cells #[.bool y0L.neg, .int .i64 y0L.l.fn, .slice B1 y0L.l.args.length d1, .int .i64 y0L.r.fn, .slice B2 y0L.r.args.length d2] 38)
  obtain ⟨Z, hZ⟩ : ∃ Z, ((w.alloc (.cells #[.bool o.lpo, .slice P o.prec.length pc, .slice Q o.wts.length qc, .int .i64 o.var] 24)).alloc (.cells #[.bool x0L.neg, .int .i64 x0L.l.fn, .slice A1 x0L.l.args.length c1, .int .i64 x0L.r.fn, .slice A2 x0L.r.args.length c2] 38)).alloc (.cells #[.bool y0L.neg, .int .i64 y0L.l.fn, .slice B1 y0L.l.args.length d1, .int .i64 y0L.r.fn, .slice B2 y0L.r.args.length d2] 38) = Z := ⟨_, rfl⟩
  have hB : Below w.heap.size w Z := by rw [← hZ]; exact (((Below.refl _ _).alloc (Nat.le_refl _) _).alloc (by simp) _).alloc (by simp; omega) _
  rw [hZ] at q0 q1 q2
  have hxd := (hx.on hB).on (Below.refl _ _).drew
  have hyd := (hy.on hB).on (Below.refl _ _).drew
  have HMZ := Lib.hid (hM.on hB)
  have HQ := Lib.hid (And.intro q0 (And.intro q1 (And.intro q2 (And.intro hxd hyd))))
  have HZ := Lib.hid hZ
  have HBZ := Lib.hid hB
  clear hM hx hy hZ hB q0 q1 q2 hxd hyd
  obtain ⟨a, ha⟩ : ∃ a, x0L.mb = a := ⟨_, rfl⟩
  obtain ⟨b, hb⟩ : ∃ b, y0L.mb = b := ⟨_, rfl⟩
  have hla : a.length ≤ 1000 := by rw [← ha]; have := mb_cnt x0L; omega
  have hlb : b.length ≤ 1000 := by rw [← hb]; have := mb_cnt y0L; omega
  have HMA1 := Lib.hid ha
  have HMB1 := Lib.hid hb
  obtain ⟨r, hr⟩ : ∃ r : Nat → Nat → Int, r = fun i j => sdR o (a.getD i []) (b.getD j []) := ⟨_, rfl⟩
  have hrr : ∀ (i j : Nat) (x y : List Tm), a[i]? = some x → b[j]? = some y → sdR o x y = r i j := fun i j x y e1 e2 => by
    rw [hr]; simp only [List.getD_eq_getElem?_getD, e1, e2, Option.getD_some]
  have Hmul := Lib.hid (show mulR r (List.range a.length) (List.range b.length) = litsO o x0L y0L by
    rw [mul_rows a b hrr]; unfold litsO ltR; rw [ha, hb])
  have HRR := Lib.hid hrr
  clear hr hrr ha hb
  obtain ⟨N, hN⟩ : ∃ N, N = a.length * b.length := ⟨_, rfl⟩
  have hN6 : N ≤ 1000000 := by rw [hN]; exact Nat.mul_le_mul hla hlb
  have HN := Lib.hid hN
  clear hN
  go_enter Tryz.func12, Tryz.ntmps12
  go_upto_region 1 with fail
  rw [HZ.out]
  obtain ⟨_, h1, h2, hxd, hyd⟩ := HQ.out
  refine wp_region_factsS 86 [[(4, none)], [(13, some 0)], [(5, none)], [(15, some 2)], [(14, some 1)], [(16, some 3)]]
    [Fct.eq (.agg #[.bool x0L.neg, .int .i64 x0L.l.fn, .slice A1 x0L.l.args.length c1, .int .i64 x0L.r.fn, .slice A2 x0L.r.args.length c2]), mbF x0L, Fct.eq (.agg #[.bool y0L.neg, .int .i64 y0L.l.fn, .slice B1 y0L.l.args.length d1, .int .i64 y0L.r.fn, .slice B2 y0L.r.args.length d2]), mbF y0L, mbF x0L, mbF y0L] (by kernel_rfl) (by decide +kernel) (by kernel_rfl) ?_ ?_
  · exact ⟨st_load5 gd_none rfl h1, st_membersT gd_none hxd rfl, st_load5 gd_none rfl h2, st_membersT gd_none hyd rfl, st_assignT gd_none rfl, st_assignT gd_none rfl, trivial⟩
  intro W hW4
  have hBZ4 : Below Z.heap.size Z W := (Below.refl _ _).drew.trans (hW4.mono (Nat.le_refl _))
  generalize hA0 : ({ tmps := _, defers := _ } : Act) = aa
  refine FinS.some rfl (fun u0 _ => ?_)
  refine FinS.some rfl (fun u1 _ => ?_)
  refine FinS.some rfl (fun u2 _ => ?_)
  refine FinS.some rfl (fun u3 _ => ?_)
  refine FinS.some rfl (fun u4 e4 => ?_)
  refine FinS.some rfl (fun u5 e5 => ?_)
  refine FinS.nil ?_
  obtain ⟨A, ca, hv4, hR4⟩ := e4
  obtain ⟨B, cb, hv5, hR5⟩ := e5
  subst hv4 hv5
  subst hA0
  clear h1 h2 hxd hyd hW4
  rw [HMA1.out] at hR4 ⊢
  rw [HMB1.out] at hR5 ⊢
  obtain ⟨A', ca', hv4, ha⟩ := hR4
  obtain ⟨rfl, rfl⟩ : A' = A ∧ ca' = ca := by injection hv4 with h1 h2 h3; exact ⟨h1.symm, h3.symm⟩
  obtain ⟨B', cb', hv5, hb⟩ := hR5
  obtain ⟨rfl, rfl⟩ : B' = B ∧ cb' = cb := by injection hv5 with h1 h2 h3; exact ⟨h1.symm, h3.symm⟩
  have HA := Lib.hid ha
  have HBr := Lib.hid hb
  have HX : Hid (∀ w', Below W.heap.size W w' → w'.cell? ⟨w.heap.size, 0, none⟩ = some (.bool o.lpo) ∧ w'.cell? ⟨w.heap.size, 1, none⟩ = some (.slice P o.prec.length pc) ∧ w'.cell? ⟨w.heap.size, 2, none⟩ = some (.slice Q o.wts.length qc) ∧ w'.cell? ⟨w.heap.size, 3, none⟩ = some (.int .i64 o.var)) := Lib.hid fun w' h => by
    have hZ' := hBZ4.trans (h.mono hBZ4.size)
    exact cells_four ((hZ'.block _ (Array.getElem?_eq_some_iff.1 HQ.out.1).1).trans HQ.out.1)
  have HMW := Lib.hid (HMZ.out.on hBZ4)
  have HB := Lib.hid (HBZ.out.trans (hBZ4.mono HBZ.out.size))
  have HOf := Lib.hid (tabOf_any a.length b.length N W hla hlb HN.out)
  clear ha hb hv4 hv5 hBZ4 HMZ HQ HZ HBZ
  simp only [Act.put, List.setIfInBounds_toArray, List.set_cons_succ, List.set_cons_zero]
  go_upto_region 3 with (first
    | (go_at_call 23; (with_reducible refine HOf.out.mono ?_); go_must (rintro e w1 ⟨g1, g2, g3, rfl, hT⟩; have HT := Lib.hid hT; clear hT))
    | fail)
  obtain ⟨V, hV⟩ : ∃ V, w1.alloc (.cells #[.int .i64 (a.length : Int), .int .i64 (b.length : Int), .slice (some ⟨g1, 0, none⟩) N N, .slice (some ⟨g2, 0, none⟩) N N, .slice (some ⟨g3, 0, none⟩) N N] 54) = V := ⟨_, rfl⟩
  have hbV : Below w1.heap.size w1 V := by rw [← hV]; exact (Below.refl _ _).alloc (Nat.le_refl _) _
  have HTM : Hid (TabM V w1.heap.size a.length b.length N g1 g2 g3 (List.replicate N false) (List.replicate N false) (List.replicate N false)) := Lib.hid (by
    have k := fun {i : Nat} {ob : Obj} (e : w1.heap[i]? = some ob) => (hbV.block i (Array.getElem?_eq_some_iff.1 e).1).trans e
    have z1 := (Array.getElem?_eq_some_iff.1 HT.out.r1).1
    have z2 := (Array.getElem?_eq_some_iff.1 HT.out.r2).1
    have z3 := (Array.getElem?_eq_some_iff.1 HT.out.r3).1
    exact ⟨by rw [← hV]; exact heap_alloc_new _ _, k HT.out.r1, k HT.out.r2, k HT.out.r3, HT.out.n12, HT.out.n13, HT.out.n23, by omega, by omega, by omega⟩)
  have hBV : Below W.heap.size W V := HT.out.bl.trans (hbV.mono HT.out.bl.size)
  have hlo : W.heap.size ≤ g1 ∧ W.heap.size ≤ g2 ∧ W.heap.size ≤ g3 := ⟨Nat.le_trans (Nat.le_refl _) HT.out.l1, Nat.le_trans (Nat.le_refl _) HT.out.l2, Nat.le_trans (Nat.le_refl _) HT.out.l3⟩
  obtain ⟨hlo1, hlo2, hlo3⟩ := hlo
  obtain ⟨bx, hbx⟩ : ∃ bx, w1.heap.size = bx := ⟨_, rfl⟩
  have n12 := HT.out.n12
  have n13 := HT.out.n13
  have n23 := HT.out.n23
  have hxw : W.heap.size ≤ bx := by rw [← hbx]; exact HT.out.bl.size
  have HV := Lib.hid hV
  have HTG0 := Lib.hid (TabG.start b.length N r)
  clear hV hbV
  rw [HV.out]
  rw [hbx] at HTM ⊢
  clear hbx HV
  go_wp2
  go_loopw [10] (fun i wr => ∃ (k : Nat) (bs ba bb : List Bool), k ≤ a.length ∧ i = .int .i64 (k : Int) ∧ Hid (TabG b.length N r (k * b.length) bs ba bb) ∧ Hid (TabM wr bx a.length b.length N g1 g2 g3 bs ba bb) ∧ Below W.heap.size W wr) (fun i _ => a.length - (intOf i).toNat)
  case atStart => exact ⟨0, _, _, _, Nat.zero_le _, rfl, by rw [Nat.zero_mul]; exact HTG0, HTM, hBV⟩
  case round =>
    obtain ⟨k, bs, ba, bb, hk, rfl, HG, HM1, hBr⟩ := hrel
    by_cases hkn : k < a.length
    case neg =>
      obtain rfl : k = a.length := by omega
      obtain ⟨y0, y1, y2, y3, y4⟩ := HM1.out.cells
      have hall := (show TabG b.length (a.length * b.length) r (a.length * b.length) bs ba bb by rw [← HN.out]; rw [← HN.out] at HG; exact HG.out).all
      have HR := Lib.hid (tabRel_any r a.length b.length N g1 g2 g3 N N N bs ba bb wr hla hlb HN.out HM1.out.r1 HM1.out.r2 HM1.out.r3 hall.1 hall.2.1 hall.2.2)
      clear hall
      go_wp2_with (first
        | (go_at_call 25; (with_reducible refine HR.out.mono ?_); go_must (rintro e w9 ⟨rfl, hb9⟩))
        | fail)
      go_ret
      exact ⟨ret_int Hmul.out, HB.out.trans ((hBr.trans (hb9.mono hBr.size)).mono HB.out.size)⟩
    case pos =>
      obtain ⟨x, hx⟩ : ∃ x, a[k]? = some x := ⟨_, List.getElem?_eq_getElem (hkn)⟩
      have Hx := Lib.hid hx
      clear hx
      go_wp2
      go_loopw [11] (fun j wi => ∃ (l : Nat) (bs ba bb : List Bool), l ≤ b.length ∧ j = .int .i64 (l : Int) ∧ Hid (TabG b.length N r (k * b.length + l) bs ba bb) ∧ Hid (TabM wi bx a.length b.length N g1 g2 g3 bs ba bb) ∧ Below W.heap.size W wi) (fun j _ => b.length - (intOf j).toNat)
      case atStart => exact ⟨0, _, _, _, Nat.zero_le _, rfl, HG, HM1, hBr⟩
      case round =>
        clear HG HM1 hBr
        obtain ⟨l, bs, ba, bb, hl, rfl, HG, HM1, hBr⟩ := hrel
        by_cases hlm : l < b.length
        case neg =>
          obtain rfl : l = b.length := by omega
          go_wp2
          go_roundw
          case rel => exact ⟨k + 1, bs, ba, bb, by omega, by go_num, by rw [Nat.add_mul, Nat.one_mul]; exact HG, HM1, hBr⟩
          case measure => simp [intOf]; omega
        case pos =>
          obtain ⟨y, hy⟩ : ∃ y, b[l]? = some y := ⟨_, List.getElem?_eq_getElem (hlm)⟩
          have hpl := plc_lt hkn hlm
          rw [← HN.out] at hpl
          obtain ⟨q, hq⟩ : ∃ q, k * b.length = q := ⟨_, rfl⟩
          rw [hq] at hpl HG
          have hw1 : IntKind.i64.wrap ((k : Int) * (b.length : Int)) = (q : Int) := by
            have : (k : Int) * (b.length : Int) = (q : Int) := by rw [← hq]; simp
            rw [this, IntKind.wrap_i64]; omega
          obtain ⟨pp, hpp⟩ : ∃ pp, q + l = pp := ⟨_, rfl⟩
          rw [hpp] at hpl HG
          have hw2 : IntKind.i64.wrap ((q : Int) + (l : Int)) = (pp : Int) := by rw [IntKind.wrap_i64]; omega
          have Hplc := Lib.hid (show k * b.length + l = pp by rw [hq, hpp])
          have hppN : (pp : Int) < (N : Int) := by omega
          have hpN := Lib.hid hpl
          have hkn2 : (k : Int) < (a.length : Int) := by omega
          have hlm2 : (l : Int) < (b.length : Int) := by omega
          obtain ⟨s, hs⟩ : ∃ s, (r k l == 2) = s := ⟨_, rfl⟩
          have Hr := Lib.hid (HRR.out k l x y Hx.out hy)
          obtain ⟨rv, hrv⟩ : ∃ rv, sdR o x y = rv := ⟨_, rfl⟩
          have HRV := Lib.hid hrv
          have H3 := Lib.hid (show (r k l == 3) = (rv == 3) by rw [← Hr.out, hrv])
          have H1' := Lib.hid (show (r k l == 1) = (rv == 1) by rw [← Hr.out, hrv])
          have Hs2 := Lib.hid (show (mulR tmS x y == 2) = s by rw [← hs, ← Hr.out]; exact mulS_eq o x y)
          obtain ⟨bA, oA, X1, xc, hAe, hbA0, x0, X1', xc', hxv, hxK⟩ := HA.out.get Hx.out
          obtain ⟨rfl, rfl⟩ : X1' = X1 ∧ xc' = xc := by injection hxv with h1 h2 h3; exact ⟨h1.symm, h3.symm⟩
          obtain ⟨bB, oB, Y1, yc, hBe, hbB0, y0, Y1', yc', hyv, hyK⟩ := HBr.out.get hy
          obtain ⟨rfl, rfl⟩ : Y1' = Y1 ∧ yc' = yc := by injection hyv with h1 h2 h3; exact ⟨h1.symm, h3.symm⟩
          have hxl := mb_len2 (x := x0L) (by rw [HMA1.out]; exact Hx.out)
          have hyl := mb_len2 (x := y0L) (by rw [HMB1.out]; exact hy)
          subst hAe hBe
          have HNX := Lib.hid (HG.out.put Hplc.out hlm hpN.out hs H3.out H1'.out)
          obtain ⟨b1, hb1⟩ : ∃ b, bs[pp]? = some b := ⟨_, List.getElem?_eq_getElem (by rw [HG.out.s.len]; exact hpl)⟩
          obtain ⟨b2, hb2⟩ : ∃ b, ba[pp]? = some b := ⟨_, List.getElem?_eq_getElem (by rw [HG.out.a.len]; exact hpl)⟩
          obtain ⟨b3, hb3⟩ : ∃ b, bb[pp]? = some b := ⟨_, List.getElem?_eq_getElem (by rw [HG.out.b.len]; exact hpl)⟩
          have Hbs := Lib.hid (And.intro hb1 (And.intro hb2 hb3))
          clear hy hq hpp hpl hs hrv hb1 hb2 hb3
          have hBz := fun zz : Later wr.heap.size wr => hBr.trans (zz.h.mono hBr.size)
          have m0 := fun zz : Later wr.heap.size wr => (HX.out zz.w (hBz zz)).1
          have m1 := fun zz : Later wr.heap.size wr => (HX.out zz.w (hBz zz)).2.1
          have m2 := fun zz : Later wr.heap.size wr => (HX.out zz.w (hBz zz)).2.2.1
          have m3 := fun zz : Later wr.heap.size wr => (HX.out zz.w (hBz zz)).2.2.2
          have m4 := fun zz : Later wr.heap.size wr => cell_on (hBz zz) hbA0 x0
          have m5 := fun zz : Later wr.heap.size wr => cell_on (hBz zz) hbB0 y0
          have C1 : Hid (∀ zz : Later wr.heap.size wr, Calls Tryz.prog 28 #[.agg #[.bool o.lpo, .slice P o.prec.length pc, .slice Q o.wts.length qc, .int .i64 o.var], .slice X1' x.length xc', .slice Y1' y.length yc'] zz.w fun e w' => e = .returned (.int .i64 rv) ∧ Below zz.w.heap.size zz.w w') := Lib.hid fun zz => by
            rw [← HRV.out]
            exact tabTerms_any o x y P Q X1' Y1' pc qc xc' yc' zz.w (HMW.out.on (hBz zz)) (hxK.to (fun g e => (hBz zz).block g e) fun _ e => Nat.lt_of_lt_of_le e (hBz zz).size) (hyK.to (fun g e => (hBz zz).block g e) fun _ e => Nat.lt_of_lt_of_le e (hBz zz).size) (by omega) (by omega)
          clear hBz
          go_upto_region 9 with fail
          refine wp_region_later wr.heap.size wr (by kernel_rfl) (by kernel_rfl) (bl_drewN (Below.refl _ _) 1) ?_
          repeat (go_big_quiet_step (first
            | (go_at_call 28; with_reducible refine calls_later _ (Nat.le_refl _) (C1.out _))
            | fail))
          refine wpQuiet_nil ?_
          rintro _ ⟨zz, rfl⟩
          have hbA := hBr.trans (zz.h.mono hBr.size)
          have HMA := Lib.hid (HM1.out.on zz.h)
          obtain ⟨wA, hwA⟩ : ∃ wA, zz.w = wA := ⟨_, rfl⟩
          rw [hwA] at hbA HMA ⊢
          clear hwA C1 m0 m1 m2 m3 m4 m5
          have HSS : Hid (∀ w' : World, Below wA.heap.size wA w' → w'.cell? ⟨bx, 1, none⟩ = some (.int .i64 (b.length : Int)) ∧ w'.cell? ⟨bx, 2, none⟩ = some (.slice (some ⟨g1, 0, none⟩) N N) ∧ w'.cell? ⟨bA, oA + k, none⟩ = some (.slice X1' x.length xc') ∧ w'.cell? ⟨bB, oB + l, none⟩ = some (.slice Y1' y.length yc')) := Lib.hid fun w' h => by
            have hT := HMA.out.on h
            obtain ⟨_, z1, z2, _, _⟩ := hT.cells
            have hbw := hbA.trans (h.mono hbA.size)
            exact ⟨z1, z2, cell_on hbw hbA0 x0, cell_on hbw hbB0 y0⟩
          have HSG : Hid (∀ w' : World, Below wA.heap.size wA w' → w'.cell? ⟨g1, pp, none⟩ = some (.bool b1) ∧ w'.frozen? ⟨g1, pp, none⟩ = false) := Lib.hid fun w' h => bC_cell (HMA.out.on h).r1 Hbs.out.1
          go_upto_region 10 with fail
          go_cut [] from 28 to 83 (fun wx => Hid (TabM wx bx a.length b.length N g1 g2 g3 (bs.set pp s) ba bb) ∧ Below W.heap.size W wx)
          case first =>
            have hbd : Below wA.heap.size wA wA.drew := bl_drewN (Below.refl _ _) 1
            obtain ⟨f0, f1, f2, f3⟩ := HSS.out wA.drew hbd
            obtain ⟨h0, h1, h2, h3⟩ := HSS.out wA (Below.refl _ _)
            have hbAd := hbA.trans (hbd.mono hbA.size)
            have C2 := Lib.hid (sameTerms_any x y X1' Y1' xc' yc' wA.drew (hxK.to (fun g e => hbAd.block g e) fun _ e => Nat.lt_of_lt_of_le e hbAd.size) (hyK.to (fun g e => hbAd.block g e) fun _ e => Nat.lt_of_lt_of_le e hbAd.size) (by omega) (by omega))
            rw [Hs2.out] at C2
            have HD := Lib.hid hbd
            clear hbd hbAd
            go_region_held3 (fun w' : World => w'.cell? ⟨bx, 1, none⟩ = some (.int .i64 (b.length : Int)) ∧ w'.cell? ⟨bx, 2, none⟩ = some (.slice (some ⟨g1, 0, none⟩) N N) ∧ w'.cell? ⟨bA, oA + k, none⟩ = some (.slice X1' x.length xc') ∧ w'.cell? ⟨bB, oB + l, none⟩ = some (.slice Y1' y.length yc'))
              (first | (with_reducible exact ⟨f0, f1, f2, f3⟩) | (with_reducible exact ⟨h0, h1, h2, h3⟩) | (with_reducible exact ⟨t0, t1, t2, t3⟩) | exact HSS.out _ hBB | fail)
              (first
                | (go_at_call 29; (with_reducible refine C2.out.mono ?_); go_must (rintro e wB ⟨rfl, hb'⟩; have hBB := HD.out.trans (hb'.mono HD.out.size); have hTB := HMA.out.on hBB; have HTB := Lib.hid (hTB.set1 pp s); have HBB2 := Lib.hid (hbA.trans (hBB.mono hbA.size)); clear hTB hb'; obtain ⟨_, t0, t1, _, _⟩ := HTB.out.cells; have hbS := HBB2.out.setCell (p := ⟨g1, pp, none⟩) hlo1 (.bool s); have t2 := cell_on hbS hbA0 x0; have t3 := cell_on hbS hbB0 y0; obtain ⟨n6, n7⟩ := HSG.out _ hBB))
                | fail)
            go_wp2
            go_meet
            exact ⟨HTB, HBB2.out.setCell hlo1 _⟩
          case rest =>
            obtain ⟨HTc, hbc⟩ := hcut
            obtain ⟨_, z1, z2, z3, z4⟩ := HTc.out.cells
            obtain ⟨e1, e2⟩ := bC_cell HTc.out.r2 Hbs.out.2.1
            obtain ⟨e3, e4⟩ := bC_cell HTc.out.r3 Hbs.out.2.2
            have x1 := HTc.out.x1
            have x2 := HTc.out.x2
            have x3 := HTc.out.x3
            have HF2 := Lib.hid ((HTc.out.set2 pp (rv == 3)).set3 pp (rv == 1))
            have hbz : Below W.heap.size W ((wc.setCell ⟨g2, pp, none⟩ (.bool (rv == 3))).setCell ⟨g3, pp, none⟩ (.bool (rv == 1))) := (hbc.setCell hlo2 _).setCell hlo3 _
            go_wp2
            go_roundw
            case rel => exact ⟨l + 1, _, _, _, by omega, by go_num, by rw [← Nat.add_assoc, Hplc.out]; exact HNX, HF2, hbz⟩
            case measure => simp [intOf]; omega
end Go.Proofs.YthgglobfkkcdgaaGreat
namespace Go.Proofs.YthgglobfkkcdgaaGreat
open Go Go.RowKit Go.Shelf
set_option maxRecDepth 100000
set_option maxHeartbeats 8000000 in
theorem refClauses_any (o : Odr) (a b : List Li) (P Q A B : Option Addr) (pc qc ca cb : Nat) (w : World) (hM : OdrM w w.heap.size o P Q) (ha : ClsK w (· < w.heap.size) A a) (hb : ClsK w (· < w.heap.size) B b) (hla : a.length ≤ 1000) (hlb : b.length ≤ 1000) :
    Calls Tryz.prog 8 #[.agg #[.bool o.lpo, .slice P o.prec.length pc, .slice Q o.wts.length qc, .int .i64 o.var], .slice A a.length ca, .slice B b.length cb] w fun e w' => e = .returned (.int .i64 (clsO o a b)) ∧ Below w.heap.size w w' := by
  obtain ⟨r, hr⟩ : ∃ r : Nat → Nat → Int, r = fun i j => litsO o (a.getD i ⟨false, .node 0 [], .node 0 []⟩) (b.getD j ⟨false, .node 0 [], .node 0 []⟩) := ⟨_, rfl⟩
  have hrr : ∀ (i j : Nat) (x y : Li), a[i]? = some x → b[j]? = some y → litsO o x y = r i j := fun i j x y e1 e2 => by
    rw [hr]; simp only [List.getD_eq_getElem?_getD, e1, e2, Option.getD_some]
  have Hmul := Lib.hid (show mulR r (List.range a.length) (List.range b.length) = clsO o a b by
    rw [mul_rows a b hrr]; unfold clsO clR; exact (mul_map3 (rel := ltR o) (r := litsO o) (f := Li.mb) (fun _ _ => rfl) a b).symm)
  have HRR := Lib.hid hrr
  clear hr hrr
  have q0 := heap_alloc_new w (.cells #[.bool o.lpo, .slice P o.prec.length pc, .slice Q o.wts.length qc, .int .i64 o.var] 24)
  obtain ⟨W, hW⟩ : ∃ W, w.alloc (.cells #[.bool o.lpo, .slice P o.prec.length pc, .slice Q o.wts.length qc, .int .i64 o.var] 24) = W := ⟨_, rfl⟩
  have hB : Below w.heap.size w W := by rw [← hW]; exact (Below.refl _ _).alloc (Nat.le_refl _) _
  rw [hW] at q0
  have HX : Hid (∀ w', Below W.heap.size W w' → w'.cell? ⟨w.heap.size, 0, none⟩ = some (.bool o.lpo) ∧ w'.cell? ⟨w.heap.size, 1, none⟩ = some (.slice P o.prec.length pc) ∧ w'.cell? ⟨w.heap.size, 2, none⟩ = some (.slice Q o.wts.length qc) ∧ w'.cell? ⟨w.heap.size, 3, none⟩ = some (.int .i64 o.var)) := Lib.hid fun w' h => cells_four ((h.block _ (Array.getElem?_eq_some_iff.1 q0).1).trans q0)
  have HMW := Lib.hid (hM.on hB)
  have HA := Lib.hid (ha.on hB)
  have HBr := Lib.hid (hb.on hB)
  obtain ⟨N, hN⟩ : ∃ N, N = a.length * b.length := ⟨_, rfl⟩
  have hN6 : N ≤ 1000000 := by rw [hN]; exact Nat.mul_le_mul hla hlb
  have HOf := Lib.hid (tabOf_any a.length b.length N W hla hlb hN)
  have HN := Lib.hid hN
  have HW := Lib.hid hW
  have HB := Lib.hid hB
  clear hM ha hb hW hB hN q0
  go_enter Tryz.func8, Tryz.ntmps8
  go_upto_region 1 with fail
  rw [HW.out]
  go_upto_region 2 with (first
    | (go_at_call 23; (with_reducible refine HOf.out.mono ?_); go_must (rintro e w1 ⟨g1, g2, g3, rfl, hT⟩; have HT := Lib.hid hT; clear hT))
    | fail)
  obtain ⟨V, hV⟩ : ∃ V, w1.alloc (.cells #[.int .i64 (a.length : Int), .int .i64 (b.length : Int), .slice (some ⟨g1, 0, none⟩) N N, .slice (some ⟨g2, 0, none⟩) N N, .slice (some ⟨g3, 0, none⟩) N N] 54) = V := ⟨_, rfl⟩
  have hbV : Below w1.heap.size w1 V := by rw [← hV]; exact (Below.refl _ _).alloc (Nat.le_refl _) _
  have HTM : Hid (TabM V w1.heap.size a.length b.length N g1 g2 g3 (List.replicate N false) (List.replicate N false) (List.replicate N false)) := Lib.hid (by
    have k := fun {i : Nat} {ob : Obj} (e : w1.heap[i]? = some ob) => (hbV.block i (Array.getElem?_eq_some_iff.1 e).1).trans e
    have z1 := (Array.getElem?_eq_some_iff.1 HT.out.r1).1
    have z2 := (Array.getElem?_eq_some_iff.1 HT.out.r2).1
    have z3 := (Array.getElem?_eq_some_iff.1 HT.out.r3).1
    exact ⟨by rw [← hV]; exact heap_alloc_new _ _, k HT.out.r1, k HT.out.r2, k HT.out.r3, HT.out.n12, HT.out.n13, HT.out.n23, by omega, by omega, by omega⟩)
  have hBV : Below W.heap.size W V := HT.out.bl.trans (hbV.mono HT.out.bl.size)
  have hlo : W.heap.size ≤ g1 ∧ W.heap.size ≤ g2 ∧ W.heap.size ≤ g3 := ⟨Nat.le_trans (Nat.le_refl _) HT.out.l1, Nat.le_trans (Nat.le_refl _) HT.out.l2, Nat.le_trans (Nat.le_refl _) HT.out.l3⟩
  obtain ⟨hlo1, hlo2, hlo3⟩ := hlo
  obtain ⟨bx, hbx⟩ : ∃ bx, w1.heap.size = bx := ⟨_, rfl⟩
  have n12 := HT.out.n12
  have n13 := HT.out.n13
  have n23 := HT.out.n23
  have hxw : W.heap.size ≤ bx := by rw [← hbx]; exact HT.out.bl.size
  have HV := Lib.hid hV
  have HTG0 := Lib.hid (TabG.start b.length N r)
  clear hV hbV
  rw [HV.out]
  rw [hbx] at HTM ⊢
  clear hbx HV
  go_wp2
  go_loopw [8] (fun i wr => ∃ (k : Nat) (bs ba bb : List Bool), k ≤ a.length ∧ i = .int .i64 (k : Int) ∧ Hid (TabG b.length N r (k * b.length) bs ba bb) ∧ Hid (TabM wr bx a.length b.length N g1 g2 g3 bs ba bb) ∧ Below W.heap.size W wr) (fun i _ => a.length - (intOf i).toNat)
  case atStart => exact ⟨0, _, _, _, Nat.zero_le _, rfl, by rw [Nat.zero_mul]; exact HTG0, HTM, hBV⟩
  case round =>
    obtain ⟨k, bs, ba, bb, hk, rfl, HG, HM1, hBr⟩ := hrel
    by_cases hkn : k < a.length
    case neg =>
      obtain rfl : k = a.length := by omega
      obtain ⟨y0, y1, y2, y3, y4⟩ := HM1.out.cells
      have hall := (show TabG b.length (a.length * b.length) r (a.length * b.length) bs ba bb by rw [← HN.out]; rw [← HN.out] at HG; exact HG.out).all
      have HR := Lib.hid (tabRel_any r a.length b.length N g1 g2 g3 N N N bs ba bb wr hla hlb HN.out HM1.out.r1 HM1.out.r2 HM1.out.r3 hall.1 hall.2.1 hall.2.2)
      clear hall
      go_wp2_with (first
        | (go_at_call 25; (with_reducible refine HR.out.mono ?_); go_must (rintro e w9 ⟨rfl, hb9⟩))
        | fail)
      go_ret
      exact ⟨ret_int Hmul.out, HB.out.trans ((hBr.trans (hb9.mono hBr.size)).mono HB.out.size)⟩
    case pos =>
      obtain ⟨x, hx⟩ : ∃ x, a[k]? = some x := ⟨_, List.getElem?_eq_getElem (hkn)⟩
      have Hx := Lib.hid hx
      clear hx
      go_wp2
      go_loopw [9] (fun j wi => ∃ (l : Nat) (bs ba bb : List Bool), l ≤ b.length ∧ j = .int .i64 (l : Int) ∧ Hid (TabG b.length N r (k * b.length + l) bs ba bb) ∧ Hid (TabM wi bx a.length b.length N g1 g2 g3 bs ba bb) ∧ Below W.heap.size W wi) (fun j _ => b.length - (intOf j).toNat)
      case atStart => exact ⟨0, _, _, _, Nat.zero_le _, rfl, HG, HM1, hBr⟩
      case round =>
        clear HG HM1 hBr
        obtain ⟨l, bs, ba, bb, hl, rfl, HG, HM1, hBr⟩ := hrel
        by_cases hlm : l < b.length
        case neg =>
          obtain rfl : l = b.length := by omega
          go_wp2
          go_roundw
          case rel => exact ⟨k + 1, bs, ba, bb, by omega, by go_num, by rw [Nat.add_mul, Nat.one_mul]; exact HG, HM1, hBr⟩
          case measure => simp [intOf]; omega
        case pos =>
          obtain ⟨y, hy⟩ : ∃ y, b[l]? = some y := ⟨_, List.getElem?_eq_getElem (hlm)⟩
          have hpl := plc_lt hkn hlm
          rw [← HN.out] at hpl
          obtain ⟨q, hq⟩ : ∃ q, k * b.length = q := ⟨_, rfl⟩
          rw [hq] at hpl HG
          have hw1 : IntKind.i64.wrap ((k : Int) * (b.length : Int)) = (q : Int) := by
            have : (k : Int) * (b.length : Int) = (q : Int) := by rw [← hq]; simp
            rw [this, IntKind.wrap_i64]; omega
          obtain ⟨pp, hpp⟩ : ∃ pp, q + l = pp := ⟨_, rfl⟩
          rw [hpp] at hpl HG
          have hw2 : IntKind.i64.wrap ((q : Int) + (l : Int)) = (pp : Int) := by rw [IntKind.wrap_i64]; omega
          have Hplc := Lib.hid (show k * b.length + l = pp by rw [hq, hpp])
          have hppN : (pp : Int) < (N : Int) := by omega
          have hpN := Lib.hid hpl
          have hkn2 : (k : Int) < (a.length : Int) := by omega
          have hlm2 : (l : Int) < (b.length : Int) := by omega
          obtain ⟨s, hs⟩ : ∃ s, (r k l == 2) = s := ⟨_, rfl⟩
          have Hr := Lib.hid (HRR.out k l x y Hx.out hy)
          obtain ⟨rv, hrv⟩ : ∃ rv, litsO o x y = rv := ⟨_, rfl⟩
          have HRV := Lib.hid hrv
          have H3 := Lib.hid (show (r k l == 3) = (rv == 3) by rw [← Hr.out, hrv])
          have H1' := Lib.hid (show (r k l == 1) = (rv == 1) by rw [← Hr.out, hrv])
          have Hs2 := Lib.hid (show slB x y = s by rw [← hs, ← Hr.out, slB_eq o])
          obtain ⟨bA, oA, X1, xc1, X2, xc2, hAe, hbA0, x0, x1', x2', x3', x4', hxK⟩ := HA.out.get Hx.out
          obtain ⟨bB, oB, Y1, yc1, Y2, yc2, hBe, hbB0, y0, y1', y2', y3', y4', hyK⟩ := HBr.out.get hy
          subst hAe hBe
          have HNX := Lib.hid (HG.out.put Hplc.out hlm hpN.out hs H3.out H1'.out)
          obtain ⟨b1, hb1⟩ : ∃ b, bs[pp]? = some b := ⟨_, List.getElem?_eq_getElem (by rw [HG.out.s.len]; exact hpl)⟩
          obtain ⟨b2, hb2⟩ : ∃ b, ba[pp]? = some b := ⟨_, List.getElem?_eq_getElem (by rw [HG.out.a.len]; exact hpl)⟩
          obtain ⟨b3, hb3⟩ : ∃ b, bb[pp]? = some b := ⟨_, List.getElem?_eq_getElem (by rw [HG.out.b.len]; exact hpl)⟩
          have Hbs := Lib.hid (And.intro hb1 (And.intro hb2 hb3))
          clear hy hq hpp hpl hs hrv hb1 hb2 hb3
          have hBz := fun zz : Later wr.heap.size wr => hBr.trans (zz.h.mono hBr.size)
          have m0 := fun zz : Later wr.heap.size wr => (HX.out zz.w (hBz zz)).1
          have m1 := fun zz : Later wr.heap.size wr => (HX.out zz.w (hBz zz)).2.1
          have m2 := fun zz : Later wr.heap.size wr => (HX.out zz.w (hBz zz)).2.2.1
          have m3 := fun zz : Later wr.heap.size wr => (HX.out zz.w (hBz zz)).2.2.2
          have m4 := fun zz : Later wr.heap.size wr => cell_on (hBz zz) hbA0 x0
          have m5 := fun zz : Later wr.heap.size wr => cell_on (hBz zz) hbA0 x1'
          have m6 := fun zz : Later wr.heap.size wr => cell_on (hBz zz) hbA0 x2'
          have m7 := fun zz : Later wr.heap.size wr => cell_on (hBz zz) hbA0 x3'
          have m8 := fun zz : Later wr.heap.size wr => cell_on (hBz zz) hbA0 x4'
          have m9 := fun zz : Later wr.heap.size wr => cell_on (hBz zz) hbB0 y0
          have m10 := fun zz : Later wr.heap.size wr => cell_on (hBz zz) hbB0 y1'
          have m11 := fun zz : Later wr.heap.size wr => cell_on (hBz zz) hbB0 y2'
          have m12 := fun zz : Later wr.heap.size wr => cell_on (hBz zz) hbB0 y3'
          have m13 := fun zz : Later wr.heap.size wr => cell_on (hBz zz) hbB0 y4'
          have C1 : Hid (∀ zz : Later wr.heap.size wr, Calls Tryz.prog 12 #[.agg #[.bool o.lpo, .slice P o.prec.length pc, .slice Q o.wts.length qc, .int .i64 o.var], .agg #[.bool x.neg, .int .i64 x.l.fn, .slice X1 x.l.args.length xc1, .int .i64 x.r.fn, .slice X2 x.r.args.length xc2], .agg #[.bool y.neg, .int .i64 y.l.fn, .slice Y1 y.l.args.length yc1, .int .i64 y.r.fn, .slice Y2 y.r.args.length yc2]] zz.w fun e w' => e = .returned (.int .i64 rv) ∧ Below zz.w.heap.size zz.w w') := Lib.hid fun zz => by
            rw [← HRV.out]
            exact refLits_any o x y P Q X1 X2 Y1 Y2 pc qc xc1 xc2 yc1 yc2 zz.w (HMW.out.on (hBz zz)) (hxK.on (hBz zz)) (hyK.on (hBz zz))
          clear hBz
          go_upto_region 8 with fail
          refine wp_region_later wr.heap.size wr (by kernel_rfl) (by kernel_rfl) (bl_drewN (Below.refl _ _) 1) ?_
          repeat (go_big_quiet_step (first
            | (go_at_call 12; with_reducible refine calls_later _ (Nat.le_refl _) (C1.out _))
            | fail))
          refine wpQuiet_nil ?_
          rintro _ ⟨zz, rfl⟩
          have hbA := hBr.trans (zz.h.mono hBr.size)
          have HMA := Lib.hid (HM1.out.on zz.h)
          obtain ⟨wA, hwA⟩ : ∃ wA, zz.w = wA := ⟨_, rfl⟩
          rw [hwA] at hbA HMA ⊢
          clear hwA C1 m0 m1 m2 m3 m4 m5 m6 m7 m8 m9 m10 m11 m12 m13
          have HSS : Hid (∀ w' : World, Below wA.heap.size wA w' → w'.cell? ⟨bx, 1, none⟩ = some (.int .i64 (b.length : Int)) ∧ w'.cell? ⟨bx, 2, none⟩ = some (.slice (some ⟨g1, 0, none⟩) N N) ∧ w'.cell? ⟨bA, oA + k * 5, none⟩ = some (.bool x.neg) ∧ w'.cell? ⟨bA, oA + k * 5 + 1, none⟩ = some (.int .i64 x.l.fn) ∧ w'.cell? ⟨bA, oA + k * 5 + 2, none⟩ = some (.slice X1 x.l.args.length xc1) ∧ w'.cell? ⟨bA, oA + k * 5 + 3, none⟩ = some (.int .i64 x.r.fn) ∧ w'.cell? ⟨bA, oA + k * 5 + 4, none⟩ = some (.slice X2 x.r.args.length xc2) ∧ w'.cell? ⟨bB, oB + l * 5, none⟩ = some (.bool y.neg) ∧ w'.cell? ⟨bB, oB + l * 5 + 1, none⟩ = some (.int .i64 y.l.fn) ∧ w'.cell? ⟨bB, oB + l * 5 + 2, none⟩ = some (.slice Y1 y.l.args.length yc1) ∧ w'.cell? ⟨bB, oB + l * 5 + 3, none⟩ = some (.int .i64 y.r.fn) ∧ w'.cell? ⟨bB, oB + l * 5 + 4, none⟩ = some (.slice Y2 y.r.args.length yc2)) := Lib.hid fun w' h => by
            have hT := HMA.out.on h
            obtain ⟨_, z1, z2, _, _⟩ := hT.cells
            have hbw := hbA.trans (h.mono hbA.size)
            exact ⟨z1, z2, cell_on hbw hbA0 x0, cell_on hbw hbA0 x1', cell_on hbw hbA0 x2', cell_on hbw hbA0 x3', cell_on hbw hbA0 x4', cell_on hbw hbB0 y0, cell_on hbw hbB0 y1', cell_on hbw hbB0 y2', cell_on hbw hbB0 y3', cell_on hbw hbB0 y4'⟩
          have HSG : Hid (∀ w' : World, Below wA.heap.size wA w' → w'.cell? ⟨g1, pp, none⟩ = some (.bool b1) ∧ w'.frozen? ⟨g1, pp, none⟩ = false) := Lib.hid fun w' h => bC_cell (HMA.out.on h).r1 Hbs.out.1
          go_upto_region 9 with fail
          go_cut [] from 22 to 77 (fun wx => Hid (TabM wx bx a.length b.length N g1 g2 g3 (bs.set pp s) ba bb) ∧ Below W.heap.size W wx)
          case first =>
            have hbd : Below wA.heap.size wA wA.drew := bl_drewN (Below.refl _ _) 1
            obtain ⟨f0, f1, f2, f3, f4, f5, f6, f7, f8, f9, f10, f11⟩ := HSS.out wA.drew hbd
            obtain ⟨h0, h1, h2, h3, h4, h5, h6, h7, h8, h9, h10, h11⟩ := HSS.out wA (Below.refl _ _)
            have hbAd := hbA.trans (hbd.mono hbA.size)
            have C2 := Lib.hid (sameLits_any x y X1 X2 Y1 Y2 xc1 xc2 yc1 yc2 wA.drew (hxK.on hbAd) (hyK.on hbAd))
            rw [Hs2.out] at C2
            have HD := Lib.hid hbd
            clear hbd hbAd
            go_region_held3 (fun w' : World => w'.cell? ⟨bx, 1, none⟩ = some (.int .i64 (b.length : Int)) ∧ w'.cell? ⟨bx, 2, none⟩ = some (.slice (some ⟨g1, 0, none⟩) N N) ∧ w'.cell? ⟨bA, oA + k * 5, none⟩ = some (.bool x.neg) ∧ w'.cell? ⟨bA, oA + k * 5 + 1, none⟩ = some (.int .i64 x.l.fn) ∧ w'.cell? ⟨bA, oA + k * 5 + 2, none⟩ = some (.slice X1 x.l.args.length xc1) ∧ w'.cell? ⟨bA, oA + k * 5 + 3, none⟩ = some (.int .i64 x.r.fn) ∧ w'.cell? ⟨bA, oA + k * 5 + 4, none⟩ = some (.slice X2 x.r.args.length xc2) ∧ w'.cell? ⟨bB, oB + l * 5, none⟩ = some (.bool y.neg) ∧ w'.cell? ⟨bB, oB + l * 5 + 1, none⟩ = some (.int .i64 y.l.fn) ∧ w'.cell? ⟨bB, oB + l * 5 + 2, none⟩ = some (.slice Y1 y.l.args.length yc1) ∧ w'.cell? ⟨bB, oB + l * 5 + 3, none⟩ = some (.int .i64 y.r.fn) ∧ w'.cell? ⟨bB, oB + l * 5 + 4, none⟩ = some (.slice Y2 y.r.args.length yc2))
              (first | (with_reducible exact ⟨f0, f1, f2, f3, f4, f5, f6, f7, f8, f9, f10, f11⟩) | (with_reducible exact ⟨h0, h1, h2, h3, h4, h5, h6, h7, h8, h9, h10, h11⟩) | (with_reducible exact ⟨t0, t1, t2, t3, t4, t5, t6, t7, t8, t9, t10, t11⟩) | exact HSS.out _ hBB | fail)
              (first
                | (go_at_call 24; (with_reducible refine C2.out.mono ?_); go_must (rintro e wB ⟨rfl, hb'⟩; have hBB := HD.out.trans (hb'.mono HD.out.size); have hTB := HMA.out.on hBB; have HTB := Lib.hid (hTB.set1 pp s); have HBB2 := Lib.hid (hbA.trans (hBB.mono hbA.size)); clear hTB hb'; obtain ⟨_, t0, t1, _, _⟩ := HTB.out.cells; have hbS := HBB2.out.setCell (p := ⟨g1, pp, none⟩) hlo1 (.bool s); have t2 := cell_on hbS hbA0 x0; have t3 := cell_on hbS hbA0 x1'; have t4 := cell_on hbS hbA0 x2'; have t5 := cell_on hbS hbA0 x3'; have t6 := cell_on hbS hbA0 x4'; have t7 := cell_on hbS hbB0 y0; have t8 := cell_on hbS hbB0 y1'; have t9 := cell_on hbS hbB0 y2'; have t10 := cell_on hbS hbB0 y3'; have t11 := cell_on hbS hbB0 y4'; obtain ⟨n6, n7⟩ := HSG.out _ hBB))
                | fail)
            go_wp2
            go_meet
            exact ⟨HTB, HBB2.out.setCell hlo1 _⟩
          case rest =>
            obtain ⟨HTc, hbc⟩ := hcut
            obtain ⟨_, z1, z2, z3, z4⟩ := HTc.out.cells
            obtain ⟨e1, e2⟩ := bC_cell HTc.out.r2 Hbs.out.2.1
            obtain ⟨e3, e4⟩ := bC_cell HTc.out.r3 Hbs.out.2.2
            have x1 := HTc.out.x1
            have x2 := HTc.out.x2
            have x3 := HTc.out.x3
            have HF2 := Lib.hid ((HTc.out.set2 pp (rv == 3)).set3 pp (rv == 1))
            have hbz : Below W.heap.size W ((wc.setCell ⟨g2, pp, none⟩ (.bool (rv == 3))).setCell ⟨g3, pp, none⟩ (.bool (rv == 1))) := (hbc.setCell hlo2 _).setCell hlo3 _
            go_wp2
            go_roundw
            case rel => exact ⟨l + 1, _, _, _, by omega, by go_num, by rw [← Nat.add_assoc, Hplc.out]; exact HNX, HF2, hbz⟩
            case measure => simp [intOf]; omega
end Go.Proofs.YthgglobfkkcdgaaGreat
