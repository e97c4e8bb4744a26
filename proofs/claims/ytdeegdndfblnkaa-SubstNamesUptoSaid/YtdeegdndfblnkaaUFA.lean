/- Binds in memory; how two stand; which is itself. finder, at rows that rise; halve. halve: the first bind of a variable. finder$1: what a variable is bound to. put: what stands for the variables is put in, anew each time. put, at binds that rise. putter and Apply. -/
import Derived.Test.YtdeegdndfblnkaaU4
import Derived.Test.YtdeegdndfblnkaaE1
import Derived.Test.YtdeegdndfblnkaaT1
import Derived.Test.YtdeegdndfblnkaaF1
import Derived.Deep.RegionHeld3
namespace Go.Proofs.Ytdeegdndfblnkaa
open Go.RowKit Go.Shelf
set_option maxRecDepth 100000

/-- What stands for a variable, in plain words. -/
structure Bd where
  v : Int
  t : Tm
/-- The slice at A holds the binds; they, and their terms, lie in N's blocks. -/
structure Binds (w : World) (N : Nat → Prop) (A : Option Addr) (l : List Bd) : Prop where
  len : l.length ≤ 9223372036854775807
  ad : 0 < l.length → ∃ b off, A = some ⟨b, off, none⟩ ∧ N b ∧ ∀ (i : Nat) (x : Bd), l[i]? = some x → ∃ A' c', w.cell? ⟨b, off + i * 3, none⟩ = some (.int .i64 x.v) ∧ w.cell? ⟨b, off + i * 3 + 1, none⟩ = some (.int .i64 x.t.fn) ∧ w.cell? ⟨b, off + i * 3 + 2, none⟩ = some (.slice A' x.t.args.length c') ∧ I64 x.v ∧ I64 x.t.fn ∧ ArgsN w N A' x.t.args
section
variable {w w' : World} {N M : Nat → Prop} {A : Option Addr} {l : List Bd}
theorem Binds.keep (h : Binds w N A l) (hk : ∀ g, N g → w'.heap[g]? = w.heap[g]?) : Binds w' N A l :=
  ⟨h.len, fun hn => by
    obtain ⟨b, off, hA, hb, hc⟩ := h.ad hn
    refine ⟨b, off, hA, hb, fun i x hx => ?_⟩
    obtain ⟨A', c', h0, h1, h2, h3, h4, h5⟩ := hc i x hx
    exact ⟨A', c', (cell_of_heap (hk b hb)).trans h0, (cell_of_heap (hk b hb)).trans h1, (cell_of_heap (hk b hb)).trans h2, h3, h4, h5.keep hk⟩⟩
theorem Binds.wide (h : Binds w N A l) (hk : ∀ g, N g → M g) : Binds w M A l :=
  ⟨h.len, fun hn => by
    obtain ⟨b, off, hA, hb, hc⟩ := h.ad hn
    refine ⟨b, off, hA, hk b hb, fun i x hx => ?_⟩
    obtain ⟨A', c', h0, h1, h2, h3, h4, h5⟩ := hc i x hx
    exact ⟨A', c', h0, h1, h2, h3, h4, h5.wide hk⟩⟩
theorem Binds.nil_ (w : World) (N : Nat → Prop) (A : Option Addr) : Binds w N A [] := ⟨by simp, fun h => by simp at h⟩
/-- One of them. -/
structure BdAt (w : World) (N : Nat → Prop) (b off i : Nat) (x : Bd) (A' : Option Addr) (c' : Nat) : Prop where
  hb : N b
  c0 : w.cell? ⟨b, off + i * 3, none⟩ = some (.int .i64 x.v)
  c1 : w.cell? ⟨b, off + i * 3 + 1, none⟩ = some (.int .i64 x.t.fn)
  c2 : w.cell? ⟨b, off + i * 3 + 2, none⟩ = some (.slice A' x.t.args.length c')
  iv : I64 x.v
  it : I64 x.t.fn
  sub : ArgsN w N A' x.t.args
theorem Binds.get (h : Binds w N A l) {i : Nat} {x : Bd} (hx : l[i]? = some x) : ∃ b off A' c', A = some ⟨b, off, none⟩ ∧ BdAt w N b off i x A' c' := by
  have hlt := (List.getElem?_eq_some_iff.1 hx).1
  obtain ⟨b, off, hA, hb, hc⟩ := h.ad (by omega)
  obtain ⟨A', c', h0, h1, h2, h3, h4, h5⟩ := hc i x hx
  exact ⟨b, off, A', c', hA, hb, h0, h1, h2, h3, h4, h5⟩
end

theorem cells_three {W : World} {b : Nat} {x y z : Value} {t : TypeId} (h : W.heap[b]? = some (.cells #[x, y, z] t)) : W.cell? ⟨b, 0, none⟩ = some x ∧ W.cell? ⟨b, 1, none⟩ = some y ∧ W.cell? ⟨b, 2, none⟩ = some z ∧ W.frozen? ⟨b, 0, none⟩ = false ∧ W.frozen? ⟨b, 1, none⟩ = false ∧ W.frozen? ⟨b, 2, none⟩ = false := by
  refine ⟨?_, ?_, ?_, ?_, ?_, ?_⟩ <;> simp [World.cell?, World.frozen?, h]

theorem byVariable_any (x y : Bd) (A A2 : Option Addr) (c c2 : Nat) (w : World) :
    Calls Try.prog 86 #[.agg #[.int .i64 x.v, .int .i64 x.t.fn, .slice A x.t.args.length c], .agg #[.int .i64 y.v, .int .i64 y.t.fn, .slice A2 y.t.args.length c2]] w fun e w' => e = .returned (.int .i64 (numI x.v y.v)) ∧ Below w.heap.size w w' := by
  have hWB : Below w.heap.size w ((w.alloc (.cells #[.int .i64 x.v, .int .i64 x.t.fn, .slice A x.t.args.length c] 77)).alloc (.cells #[.int .i64 y.v, .int .i64 y.t.fn, .slice A2 y.t.args.length c2] 77)) := ((Below.refl _ _).alloc (Nat.le_refl _) _).alloc (by simp) _
  go_enter Try.func86, Try.ntmps86
  go_wp2_with (first
    | (go_at_call 94; refine (cmpNum_any x.v y.v _).mono ?_; go_must (rintro e w1 ⟨rfl, hb1⟩; have hB1 := bl_step hWB hb1))
    | fail)
  go_ret
  exact ⟨rfl, hB1⟩

/-- Does a bind bind a variable to itself? -/
def selfB (x : Bd) : Prop := x.t.fn = -1 - x.v ∧ x.t.args.length = 0
instance (x : Bd) : Decidable (selfB x) := inferInstanceAs (Decidable (_ ∧ _))
theorem itself_any (x : Bd) (A : Option Addr) (c : Nat) (w : World) (hv : I64 x.v) :
    Calls Try.prog 50 #[.agg #[.int .i64 x.v, .int .i64 x.t.fn, .slice A x.t.args.length c]] w fun e w' => e = .returned (.bool (decide (selfB x))) ∧ Below w.heap.size w w' := by
  have hWB : Below w.heap.size w (w.alloc (.cells #[.int .i64 x.v, .int .i64 x.t.fn, .slice A x.t.args.length c] 77)) := (Below.refl _ _).alloc (Nat.le_refl _) _
  have hlo := hv.1
  have hhi := hv.2
  by_cases h1 : x.t.fn = -1 - x.v
  · go_enter Try.func50, Try.ntmps50
    go_wp2
    go_ret
    exact ⟨ret_bool (by rw [Bool.eq_iff_iff, beq_iff_eq, decide_eq_true_iff]; unfold selfB; exact ⟨fun h => ⟨h1, by omega⟩, fun h => by have := h.2; omega⟩), by rwa [h1] at hWB⟩
  · go_enter Try.func50, Try.ntmps50
    go_wp2
    go_ret
    exact ⟨ret_bool (by unfold selfB; simp [h1]), hWB⟩

/-- No bind of a variable to itself: IndexFunc tells -1. -/
theorem indexSelf_none (l : List Bd) (A : Option Addr) (c : Nat) (w : World) (hA : Binds w (· < w.heap.size) A l) (hn : ∀ x ∈ l, ¬ selfB x) :
    Calls Try.prog 121 #[.slice A l.length c, .func (.func 50) #[] #[]] w fun e w' => e = .returned (.int .i64 (-1)) ∧ Below w.heap.size w w' := by
  have hlen := hA.len
  have HA := Lib.hid hA
  have Hn := Lib.hid hn
  clear hA hn
  go_enter Try.func121, Try.ntmps121
  go_wp2
  go_loopw [8] (fun i wr => ∃ k : Nat, k ≤ l.length ∧ i = .int .i64 (k : Int) ∧ Below w.heap.size w wr) (fun i _ => l.length - (intOf i).toNat)
  case atStart => exact ⟨0, Nat.zero_le _, rfl, Below.refl _ _⟩
  case round =>
    obtain ⟨k, hk, rfl, hBr⟩ := hrel
    by_cases hlt : k < l.length
    · obtain ⟨x, hx⟩ : ∃ x, l[k]? = some x := ⟨_, List.getElem?_eq_getElem hlt⟩
      obtain ⟨b, off, A', c', rfl, h⟩ := HA.out.get hx
      have e0 := cell_on hBr h.hb h.c0
      have e1 := cell_on hBr h.hb h.c1
      have e2 := cell_on hBr h.hb h.c2
      have hiv := h.iv
      have hns := Lib.hid (decide_eq_false (Hn.out x (List.mem_of_getElem? hx)))
      clear hx h
      go_wp2_with (first
        | (go_at_call 50; refine (itself_any x A' c' wr hiv).mono ?_; go_must (rintro e w1 ⟨rfl, hb1⟩; rw [hns.out]; have hB1 := hBr.trans (hb1.mono hBr.size)))
        | fail)
      go_roundw
      case rel => exact ⟨k + 1, by omega, by go_num, hB1⟩
      case measure => simp [intOf]; omega
    · obtain rfl : k = l.length := by omega
      go_wp2
      go_ret
      exact ⟨rfl, hBr⟩

theorem deleteSelf_none (l : List Bd) (A : Option Addr) (c : Nat) (w : World) (hA : Binds w (· < w.heap.size) A l) (hn : ∀ x ∈ l, ¬ selfB x) :
    Calls Try.prog 87 #[.slice A l.length c, .func (.func 50) #[] #[]] w fun e w' => e = .returned (.slice A l.length c) ∧ Below w.heap.size w w' := by
  have H := Lib.hid (indexSelf_none l A c w hA hn)
  clear hA hn
  go_enter Try.func87, Try.ntmps87
  go_wp2_with (first
    | (go_at_call 121; refine H.out.mono ?_; go_must (rintro e w1 ⟨rfl, hb1⟩))
    | fail)
  go_ret
  exact ⟨rfl, hb1⟩

end Go.Proofs.Ytdeegdndfblnkaa

namespace Go.Proofs.Ytdeegdndfblnkaa
open Go.RowKit Go.Shelf
set_option maxRecDepth 100000

/-- Variables do not fall. -/
def Rise (l : List Bd) : Prop := ∀ (i j : Nat) (x y : Bd), i ≤ j → l[i]? = some x → l[j]? = some y → x.v ≤ y.v

set_option maxHeartbeats 1000000 in
theorem isSorted_yes (l : List Bd) (A : Option Addr) (c : Nat) (w : World) (hl : l.length ≤ 9223372036854775806) (hA : Binds w (· < w.heap.size) A l) (hr : Rise l) :
    Calls Try.prog 88 #[.slice A l.length c, .func (.func 86) #[] #[]] w fun e w' => e = .returned (.bool true) ∧ Below w.heap.size w w' := by
  have HA := Lib.hid hA
  have HR := Lib.hid hr
  clear hA hr
  go_enter Try.func88, Try.ntmps88
  go_wp2
  go_loopw [5] (fun i wr => ∃ k : Nat, k ≤ l.length ∧ i = .int .i64 ((k : Int) - 1) ∧ Below w.heap.size w wr) (fun i _ => (intOf i).toNat)
  case atStart => exact ⟨l.length, Nat.le_refl _, rfl, Below.refl _ _⟩
  case round =>
    obtain ⟨k, hk, rfl, hBr⟩ := hrel
    by_cases hlt : 2 ≤ k
    · obtain ⟨m, rfl⟩ : ∃ m, k = m + 2 := ⟨k - 2, by omega⟩
      obtain ⟨x, hx⟩ : ∃ x, l[m + 1]? = some x := ⟨_, List.getElem?_eq_getElem (by omega)⟩
      obtain ⟨y, hy⟩ : ∃ y, l[m]? = some y := ⟨_, List.getElem?_eq_getElem (by omega)⟩
      obtain ⟨b, off, A', c', rfl, h⟩ := HA.out.get hx
      obtain ⟨b2, off2, A2, c2, e, h2⟩ := HA.out.get hy
      injection e with e
      injection e with e1 e2 _
      subst e1; subst e2
      have hle := HR.out m (m + 1) y x (by omega) hy hx
      have hnum : ¬ numI x.v y.v < 0 := by unfold numI; split <;> (try split) <;> omega
      have hnum := Lib.hid hnum
      have hki : ((m + 2 : Nat) : Int) - 1 = (m : Int) + 1 := by omega
      rw [hki]
      have hSS : ∀ w', Below wr.heap.size wr w' → w'.cell? ⟨b, off + (m + 1) * 3, none⟩ = some (.int .i64 x.v) ∧ w'.cell? ⟨b, off + (m + 1) * 3 + 1, none⟩ = some (.int .i64 x.t.fn) ∧ w'.cell? ⟨b, off + (m + 1) * 3 + 2, none⟩ = some (.slice A' x.t.args.length c') ∧ w'.cell? ⟨b, off + m * 3, none⟩ = some (.int .i64 y.v) ∧ w'.cell? ⟨b, off + m * 3 + 1, none⟩ = some (.int .i64 y.t.fn) ∧ w'.cell? ⟨b, off + m * 3 + 2, none⟩ = some (.slice A2 y.t.args.length c2) := fun w' hb =>
        have hB := hBr.trans (hb.mono hBr.size)
        ⟨cell_on hB h.hb h.c0, cell_on hB h.hb h.c1, cell_on hB h.hb h.c2, cell_on hB h.hb h2.c0, cell_on hB h.hb h2.c1, cell_on hB h.hb h2.c2⟩
      obtain ⟨d0, d1, d2, d3, d4, d5⟩ := hSS wr (Below.refl _ _)
      have hm1 : m + 1 < l.length := by omega
      have hm0 : m < l.length := by omega
      have f1 : (0 : Int) ≤ (m : Int) + 1 := by omega
      have f2 : (m : Int) + 1 < (l.length : Int) := by omega
      have f3 : ((m : Int) + 1).toNat = m + 1 := by omega
      have f4 : (m : Int) < (l.length : Int) := by omega
      have f5 : (m : Int) + 1 ≤ 9223372036854775807 := by omega
      have f6 : (m : Int) + 1 > 0 := by omega
      have f7 : IntKind.i64.wrap (m : Int) = (m : Int) := by rw [IntKind.wrap_i64]; omega
      clear hx hy h h2
      go_wp2
      go_region_held3 (fun w' => w'.cell? ⟨b, off + (m + 1) * 3, none⟩ = some (.int .i64 x.v) ∧ w'.cell? ⟨b, off + (m + 1) * 3 + 1, none⟩ = some (.int .i64 x.t.fn) ∧ w'.cell? ⟨b, off + (m + 1) * 3 + 2, none⟩ = some (.slice A' x.t.args.length c') ∧ w'.cell? ⟨b, off + m * 3, none⟩ = some (.int .i64 y.v) ∧ w'.cell? ⟨b, off + m * 3 + 1, none⟩ = some (.int .i64 y.t.fn) ∧ w'.cell? ⟨b, off + m * 3 + 2, none⟩ = some (.slice A2 y.t.args.length c2))
        (first | exact ⟨d0, d1, d2, d3, d4, d5⟩ | exact hSS _ hB1 | fail)
        (first
          | (go_at_call 86; refine (byVariable_any x y A' A2 c' c2 wr.drew).mono ?_; go_must (rintro e w1 ⟨rfl, hb1⟩; have hB1 : Below wr.heap.size wr w1 := ⟨hb1.os, hb1.tape, hb1.output, hb1.size, hb1.block⟩))
          | fail)
      have hnum := hnum.out
      clear f1 f2 f3 f4 f5 f6 f7 hki hm0 hm1 hle hSS d0 d1 d2 d3 d4 d5
      go_wp2
      go_roundw
      case rel => exact ⟨m + 1, by omega, by go_num, hBr.trans (hB1.mono hBr.size)⟩
      case measure => simp [intOf]
    · have hk2 : ¬ ((k : Int) - 1 > 0) := by omega
      go_wp2
      go_ret
      exact ⟨rfl, hBr⟩

set_option maxHeartbeats 1000000 in
theorem finder_any (l : List Bd) (A : Option Addr) (c : Nat) (w : World) (hl : l.length ≤ 9223372036854775806) (hA : Binds w (· < w.heap.size) A l) (hr : Rise l) :
    Calls Try.prog 47 #[.slice A l.length c] w fun e w' => e = .returned (.func (.func 91) #[] #[.pointer (some ⟨w.heap.size, 0, none⟩)]) ∧ Boxed w' w.heap.size 23 (.slice A l.length c) ∧ Below w.heap.size w w' := by
  obtain ⟨W, hW⟩ : ∃ W, w.alloc (.cells #[.slice A l.length c] 23) = W := ⟨_, rfl⟩
  have hB : Below w.heap.size w W := by rw [← hW]; exact (Below.refl _ _).alloc (Nat.le_refl _) _
  have q0 : Boxed W w.heap.size 23 (.slice A l.length c) := by rw [← hW]; exact heap_alloc_new _ _
  have hc := Boxed.cell q0
  have H := Lib.hid (isSorted_yes l A c W hl ((hA.keep fun g e => hB.block g e).wide fun g e => Nat.lt_of_lt_of_le e hB.size) hr)
  have HW := Lib.hid hW
  clear hW hA hr
  go_enter Try.func47, Try.ntmps47
  go_upto_region 1 with fail
  rw [HW.out]
  go_wp2_with (first
    | (go_at_call 88; refine H.out.mono ?_; go_must (rintro e w1 ⟨rfl, hb1⟩))
    | fail)
  go_ret
  exact ⟨rfl, (hb1.block _ q0.lt).trans q0, hB.trans (hb1.mono hB.size)⟩

theorem finder11_any (x : Bd) (A : Option Addr) (c : Nat) (v : Int) (bx : Nat) (w : World) (hbx : Boxed w bx 3 (.int .i64 v)) :
    Calls Try.prog 93 #[.agg #[.int .i64 x.v, .int .i64 x.t.fn, .slice A x.t.args.length c], .pointer (some ⟨bx, 0, none⟩)] w fun e w' => e = .returned (.int .i64 (numI x.v v)) ∧ Below w.heap.size w w' := by
  obtain ⟨W, hW⟩ : ∃ W, w.alloc (.cells #[.int .i64 x.v, .int .i64 x.t.fn, .slice A x.t.args.length c] 77) = W := ⟨_, rfl⟩
  have hB : Below w.heap.size w W := by rw [← hW]; exact (Below.refl _ _).alloc (Nat.le_refl _) _
  have q0 : W.heap[w.heap.size]? = some (.cells #[.int .i64 x.v, .int .i64 x.t.fn, .slice A x.t.args.length c] 77) := by rw [← hW]; exact heap_alloc_new _ _
  obtain ⟨c0, _, _, _, _, _⟩ := cells_three q0
  have hcb := Boxed.cell (show Boxed W bx _ _ from (hB.block _ hbx.lt).trans hbx)
  have HW := Lib.hid hW
  clear hW
  go_enter Try.func93, Try.ntmps93
  go_upto_region 1 with fail
  rw [HW.out]
  go_wp2_with (first
    | (go_at_call 94; refine (cmpNum_any x.v v W).mono ?_; go_must (rintro e w1 ⟨rfl, hb1⟩))
    | fail)
  go_ret
  exact ⟨rfl, hB.trans (hb1.mono hB.size)⟩

end Go.Proofs.Ytdeegdndfblnkaa

namespace Go.Proofs.Ytdeegdndfblnkaa
open Go.RowKit Go.Shelf
set_option maxRecDepth 100000

theorem info_bind : (Try.prog.info? 77).map (fun i => (i.zero, i.size, i.bytes)) = some (some (.agg #[.int .i64 0, .int .i64 0, .slice none 0 0]), 3, 40) := by kernel_rfl

/-- What a variable is bound to, by the first bind of it. -/
def findB (l : List Bd) (v : Int) : Option Bd := l.find? fun x => decide (x.v = v)
theorem findB_at {l : List Bd} {v : Int} {k : Nat} {x : Bd} (hx : l[k]? = some x) (hv : x.v = v) (hlow : ∀ (i : Nat) (y : Bd), i < k → l[i]? = some y → y.v < v) : findB l v = some x := by
  unfold findB
  rw [List.find?_eq_some_iff_getElem]
  obtain ⟨hlt, he⟩ := List.getElem?_eq_some_iff.1 hx
  refine ⟨by simpa using hv, k, hlt, he, fun j hj => ?_⟩
  have := hlow j _ hj (List.getElem?_eq_getElem (by omega))
  simp
  omega
theorem findB_none {l : List Bd} {v : Int} (h : ∀ (i : Nat) (y : Bd), l[i]? = some y → y.v ≠ v) : findB l v = none := by
  unfold findB
  rw [List.find?_eq_none]
  intro x hx
  obtain ⟨i, hi⟩ := List.mem_iff_getElem?.1 hx
  simpa using h i x hi

def HalvePost (l : List Bd) (v : Int) (N : Nat → Prop) (w : World) (e : Ending) (w' : World) : Prop := Below w.heap.size w w' ∧
  match findB l v with
  | none => e = .returned (.tuple #[.agg #[.int .i64 0, .int .i64 0, .slice none 0 0], .bool false])
  | some x => ∃ A' c', e = .returned (.tuple #[.agg #[.int .i64 x.v, .int .i64 x.t.fn, .slice A' x.t.args.length c'], .bool true]) ∧ I64 x.v ∧ I64 x.t.fn ∧ ArgsN w N A' x.t.args

structure HvI (l : List Bd) (v : Int) (lo hi : Nat) : Prop where
  le : lo ≤ hi
  len : hi ≤ l.length
  low : ∀ (i : Nat) (y : Bd), i < lo → l[i]? = some y → y.v < v
  high : ∀ (i : Nat) (y : Bd), hi ≤ i → l[i]? = some y → v ≤ y.v

theorem set3_three {W : World} {b : Nat} {x y z u v t : Value} {ty : TypeId} (h : W.heap[b]? = some (.cells #[x, y, z] ty)) : (((W.setCell ⟨b, 0, none⟩ u).setCell ⟨b, 1, none⟩ v).setCell ⟨b, 2, none⟩ t).heap[b]? = some (.cells #[u, v, t] ty) :=
  have h1 : (W.setCell ⟨b, 0, none⟩ u).heap[b]? = some (.cells #[u, y, z] ty) := heap_setCell_same W _ 0 _ _ _ h
  have h2 : ((W.setCell ⟨b, 0, none⟩ u).setCell ⟨b, 1, none⟩ v).heap[b]? = some (.cells #[u, v, z] ty) := heap_setCell_same _ _ 1 _ _ _ h1
  heap_setCell_same _ _ 2 _ _ _ h2

set_option maxHeartbeats 2000000 in
theorem halve_any (l : List Bd) (v : Int) (A : Option Addr) (c bx : Nat) (N : Nat → Prop) (w : World) (hl : l.length ≤ 4611686018427387904) (hN : ∀ g, N g → g < w.heap.size) (hA : Binds w N A l) (hr : Rise l) (hbx : Boxed w bx 3 (.int .i64 v)) :
    Calls Try.prog 92 #[.slice A l.length c, .func (.func 93) #[] #[.pointer (some ⟨bx, 0, none⟩)]] w (HalvePost l v N w) := by
  have HA := Lib.hid hA
  have HN := Lib.hid hN
  have HR := Lib.hid hr
  have q0 := heap_alloc_new w (.cells #[.int .i64 0, .int .i64 0, .slice none 0 0] 77)
  obtain ⟨W, hW⟩ : ∃ W, w.alloc (.cells #[.int .i64 0, .int .i64 0, .slice none 0 0] 77) = W := ⟨_, rfl⟩
  have hB : Below w.heap.size w W := by rw [← hW]; exact (Below.refl _ _).alloc (Nat.le_refl _) _
  rw [hW] at q0
  have hWs : w.heap.size < W.heap.size := (Array.getElem?_eq_some_iff.1 q0).1
  have hbW : Boxed W bx 3 (.int .i64 v) := (hB.block _ hbx.lt).trans hbx
  have HW := Lib.hid hW
  have hI0 : Hid (HvI l v 0 l.length) := ⟨Nat.zero_le _, Nat.le_refl _, fun i y h => by omega, fun i y h1 h2 => by have := (List.getElem?_eq_some_iff.1 h2).1; omega⟩
  clear hA hr hW hN
  go_enter Try.func92, Try.ntmps92
  go_upto_region 1 with fail
  rw [HW.out]
  go_wp2
  go_loopw [6, 7] (fun p q wr => ∃ lo hi : Nat, p = .int .i64 (lo : Int) ∧ q = .int .i64 (hi : Int) ∧ Below W.heap.size W wr ∧ Hid (HvI l v lo hi)) (fun p q _ => (intOf q).toNat - (intOf p).toNat)
  case atStart => exact ⟨0, l.length, rfl, rfl, Below.refl _ _, hI0⟩
  case round =>
    obtain ⟨lo, hi, rfl, rfl, hBr, H⟩ := hrel
    have hle := H.out.le
    have hln := H.out.len
    have hBw : Below w.heap.size w wr := hB.trans (hBr.mono hB.size)
    have hbr : Boxed wr bx 3 (.int .i64 v) := (hBr.block _ hbW.lt).trans hbW
    by_cases hlt : lo < hi
    · obtain ⟨d, hd⟩ : ∃ d, d = (hi - lo) / 2 := ⟨_, rfl⟩
      have g1 : ((hi : Int) - (lo : Int)).tdiv 2 = (d : Int) := by rw [Int.tdiv_eq_ediv_of_nonneg (by omega)]; omega
      have g2 : IntKind.i64.wrap (d : Int) = (d : Int) := by rw [IntKind.wrap_i64]; omega
      have g3 : (lo : Int) + (d : Int) < (l.length : Int) := by omega
      have g4 : (0 : Int) ≤ (lo : Int) + (d : Int) := by omega
      have g5 : ((lo : Int) + (d : Int)).toNat = lo + d := by omega
      have g6 : (lo : Int) < (hi : Int) := by omega
      have g7 : lo + d < hi := by omega
      have g8 : IntKind.i64.wrap ((lo : Int) + (d : Int)) = (lo : Int) + (d : Int) := by rw [IntKind.wrap_i64]; omega
      clear hd
      obtain ⟨x, hx⟩ : ∃ x, l[lo + d]? = some x := ⟨_, List.getElem?_eq_getElem (by omega)⟩
      obtain ⟨b, off, A', c', rfl, h⟩ := HA.out.get hx
      have e0 := cell_on hBw (HN.out _ h.hb) h.c0
      have e1 := cell_on hBw (HN.out _ h.hb) h.c1
      have e2 := cell_on hBw (HN.out _ h.hb) h.c2
      have Hx := Lib.hid hx
      clear hx h
      by_cases hc : x.v < v
      · have hn : Hid (numI x.v v < 0) := by unfold Hid numI; rw [if_pos hc]; omega
        go_wp2_with (first
          | (go_at_call 93; refine (finder11_any x A' c' v bx wr hbr).mono ?_; go_must (rintro e w1 ⟨rfl, hb1⟩; have hn := hn.out; have hB1 := hBr.trans (hb1.mono hBr.size)))
          | fail)
        clear g1 g2 g3 g4 g5 g6 g8 e0 e1 e2
        have hI : Hid (HvI l v (lo + d + 1) hi) := ⟨by omega, hln, fun i y h1 h2 => by have := HR.out i (lo + d) y x (by omega) h2 Hx.out; omega, H.out.high⟩
        refine ⟨⟨lo + d + 1, hi, by go_num, rfl, hB1, hI⟩, ?_⟩
        simp [intOf]
        omega
      · have hn : Hid (¬ numI x.v v < 0) := by unfold Hid numI; rw [if_neg hc]; split <;> omega
        go_wp2_with (first
          | (go_at_call 93; refine (finder11_any x A' c' v bx wr hbr).mono ?_; go_must (rintro e w1 ⟨rfl, hb1⟩; have hn := hn.out; have hB1 := hBr.trans (hb1.mono hBr.size)))
          | fail)
        clear g1 g2 g3 g4 g5 g6 g8 e0 e1 e2
        have hI : Hid (HvI l v lo (lo + d)) := ⟨by omega, by omega, H.out.low, fun i y h1 h2 => by have := HR.out (lo + d) i x y h1 Hx.out h2; omega⟩
        refine ⟨⟨lo, lo + d, rfl, by go_num, hB1, hI⟩, ?_⟩
        simp [intOf]
        omega
    · obtain rfl : lo = hi := by omega
      have q1 := (hBr.block _ hWs).trans q0
      obtain ⟨r0, r1, r2, fr0, fr1, fr2⟩ := cells_three q1
      by_cases hin : lo < l.length
      · obtain ⟨x, hx⟩ : ∃ x, l[lo]? = some x := ⟨_, List.getElem?_eq_getElem hin⟩
        obtain ⟨b, off, A', c', rfl, h⟩ := HA.out.get hx
        have e0 := cell_on hBw (HN.out _ h.hb) h.c0
        have e1 := cell_on hBw (HN.out _ h.hb) h.c1
        have e2 := cell_on hBw (HN.out _ h.hb) h.c2
        have hhb := HN.out _ h.hb
        have hvx := H.out.high lo x (Nat.le_refl _) hx
        have hin' : (lo : Int) < (l.length : Int) := by omega
        by_cases he : x.v = v
        · have hfind := Lib.hid (findB_at hx he H.out.low)
          have hn : Hid (numI x.v v = 0) := by unfold Hid numI; rw [if_neg (by omega), if_neg (by omega)]
          clear he
          have hres := Lib.hid (show I64 x.v ∧ I64 x.t.fn ∧ ArgsN w N A' x.t.args from ⟨h.iv, h.it, h.sub⟩)
          clear hx h
          go_wp2_with (first
            | (go_at_call 93; refine (finder11_any x A' c' v bx wr hbr).mono ?_; go_must (rintro e w1 ⟨rfl, hb1⟩; have hn := hn.out; have hb1w := hBw.trans (hb1.mono hBw.size); have q2 := (hb1.block _ (by have := hBr.size; omega)).trans q1; obtain ⟨t0, t1, t2, ft0, ft1, ft2⟩ := cells_three q2; have i0 := cell_on hb1 (by have := hBw.size; have e : b < w.heap.size := hhb; omega) e0; have i1 := cell_on hb1 (by have := hBw.size; have e : b < w.heap.size := hhb; omega) e1; have i2 := cell_on hb1 (by have := hBw.size; have e : b < w.heap.size := hhb; omega) e2))
            | fail)
          obtain ⟨p0, p1, p2, _, _, _⟩ := cells_three (set3_three (u := .int .i64 x.v) (v := .int .i64 x.t.fn) (t := .slice A' x.t.args.length c') q2)
          refine bodyPost_ret (v := .tuple #[.agg #[.int .i64 x.v, .int .i64 x.t.fn, .slice A' x.t.args.length c'], .bool true]) (by simp [results, Try.results92, go_sem, p0, p1, p2]) rfl ⟨((hb1w.setCell (by show _ ≤ w.heap.size; omega) _).setCell (by show _ ≤ w.heap.size; omega) _).setCell (by show _ ≤ w.heap.size; omega) _, ?_⟩
          rw [hfind.out]
          exact ⟨A', c', rfl, hres.out⟩
        · have hfind := Lib.hid (findB_none (l := l) (v := v) fun i y hy => by
            rcases Nat.lt_or_ge i lo with h1 | h1
            · have := H.out.low i y h1 hy; omega
            · have := HR.out lo i x y h1 hx hy; omega)
          have hn : Hid (¬ numI x.v v = 0) := by unfold Hid numI; rw [if_neg (by omega), if_pos (by omega)]; omega
          clear hx h
          go_wp2_with (first
            | (go_at_call 93; refine (finder11_any x A' c' v bx wr hbr).mono ?_; go_must (rintro e w1 ⟨rfl, hb1⟩; have hn := hn.out; have hb1w := hBw.trans (hb1.mono hBw.size); have q2 := (hb1.block _ (by have := hBr.size; omega)).trans q1; have hz := (Below.refl w1.heap.size w1).alloc (Nat.le_refl _) (Obj.cells #[.int .i64 0, .int .i64 0, .slice none 0 0] 77); have zq := heap_alloc_new w1 (Obj.cells #[.int .i64 0, .int .i64 0, .slice none 0 0] 77); obtain ⟨z0, z1, z2, _, _, _⟩ := cells_three zq; have q4 := (hz.block _ (Array.getElem?_eq_some_iff.1 q2).1).trans q2; obtain ⟨t0, t1, t2, ft0, ft1, ft2⟩ := cells_three q4; have hb2w := hb1w.trans (hz.mono hb1w.size)))
            | fail)
          obtain ⟨p0, p1, p2, _, _, _⟩ := cells_three (set3_three (u := .int .i64 0) (v := .int .i64 0) (t := .slice none 0 0) q4)
          refine bodyPost_ret (v := .tuple #[.agg #[.int .i64 0, .int .i64 0, .slice none 0 0], .bool false]) (by simp [results, Try.results92, go_sem, p0, p1, p2]) rfl ⟨((hb2w.setCell (by show _ ≤ w.heap.size; omega) _).setCell (by show _ ≤ w.heap.size; omega) _).setCell (by show _ ≤ w.heap.size; omega) _, ?_⟩
          rw [hfind.out]
      · have hfind := Lib.hid (findB_none (l := l) (v := v) fun i y hy => by
          have hi := (List.getElem?_eq_some_iff.1 hy).1
          have := H.out.low i y (by omega) hy; omega)
        have hin' : ¬ (lo : Int) < (l.length : Int) := by omega
        have q2 := q1
        have hz := (Below.refl wr.heap.size wr).alloc (Nat.le_refl _) (Obj.cells #[.int .i64 0, .int .i64 0, .slice none 0 0] 77); have zq := heap_alloc_new wr (Obj.cells #[.int .i64 0, .int .i64 0, .slice none 0 0] 77); obtain ⟨z0, z1, z2, _, _, _⟩ := cells_three zq; have q4 := (hz.block _ (Array.getElem?_eq_some_iff.1 q2).1).trans q2; obtain ⟨t0, t1, t2, ft0, ft1, ft2⟩ := cells_three q4
        have hb2w := hBw.trans (hz.mono hBw.size)
        go_wp2
        obtain ⟨p0, p1, p2, _, _, _⟩ := cells_three (set3_three (u := .int .i64 0) (v := .int .i64 0) (t := .slice none 0 0) q4)
        refine bodyPost_ret (v := .tuple #[.agg #[.int .i64 0, .int .i64 0, .slice none 0 0], .bool false]) (by simp [results, Try.results92, go_sem, p0, p1, p2]) rfl ⟨((hb2w.setCell (by show _ ≤ w.heap.size; omega) _).setCell (by show _ ≤ w.heap.size; omega) _).setCell (by show _ ≤ w.heap.size; omega) _, ?_⟩
        rw [hfind.out]

end Go.Proofs.Ytdeegdndfblnkaa

namespace Go.Proofs.Ytdeegdndfblnkaa
open Go.RowKit Go.Shelf
set_option maxRecDepth 100000

def FinderPost (l : List Bd) (v : Int) (w : World) (e : Ending) (w' : World) : Prop := Below w.heap.size w w' ∧
  match findB l v with
  | none => e = .returned (.tuple #[.agg #[.int .i64 0, .slice none 0 0], .bool false])
  | some x => ∃ A' c', e = .returned (.tuple #[.agg #[.int .i64 x.t.fn, .slice A' x.t.args.length c'], .bool true]) ∧ I64 x.t.fn ∧ Args w w.heap.size A' x.t.args

theorem alloc_old {W : World} {b : Nat} {x o : Obj} (h : W.heap[b]? = some x) : (W.alloc o).heap[b]? = some x :=
  (((Below.refl W.heap.size W).alloc (Nat.le_refl _) o).block _ (Array.getElem?_eq_some_iff.1 h).1).trans h

set_option maxHeartbeats 2000000 in
theorem finder1_any (l : List Bd) (v : Int) (A : Option Addr) (c bs : Nat) (w : World) (hl : l.length ≤ 4611686018427387904) (hA : Binds w (· < w.heap.size) A l) (hr : Rise l) (hbs : Boxed w bs 23 (.slice A l.length c)) :
    Calls Try.prog 91 #[.int .i64 v, .pointer (some ⟨bs, 0, none⟩)] w (FinderPost l v w) := by
  obtain ⟨W, hW⟩ : ∃ W, (w.alloc (.cells #[.int .i64 v] 3)).alloc (.cells #[.int .i64 0, .slice none 0 0] 31) = W := ⟨_, rfl⟩
  have hB : Below w.heap.size w W := by rw [← hW]; exact ((Below.refl _ _).alloc (Nat.le_refl _) _).alloc (by simp) _
  have qv : Boxed W w.heap.size 3 (.int .i64 v) := by
    have h1 := heap_alloc_new w (.cells #[.int .i64 v] 3)
    have h2 := ((Below.refl (w.heap.size + 1) (w.alloc (.cells #[.int .i64 v] 3))).alloc (by simp) (.cells #[.int .i64 0, .slice none 0 0] 31)).block w.heap.size (by omega)
    rw [← hW]
    exact h2.trans h1
  have qr : W.heap[w.heap.size + 1]? = some (.cells #[.int .i64 0, .slice none 0 0] 31) := by
    have h1 := heap_alloc_new (w.alloc (.cells #[.int .i64 v] 3)) (.cells #[.int .i64 0, .slice none 0 0] 31)
    have h2 : (w.alloc (.cells #[.int .i64 v] 3)).heap.size = w.heap.size + 1 := by simp
    rw [← hW]
    rwa [h2] at h1
  have hWs : w.heap.size + 1 < W.heap.size := (Array.getElem?_eq_some_iff.1 qr).1
  have hcb := Boxed.cell (show Boxed W bs _ _ from (hB.block _ hbs.lt).trans hbs)
  have H := Lib.hid (halve_any l v A c w.heap.size (· < w.heap.size) W hl (fun g e => Nat.lt_of_lt_of_le e hB.size) (hA.keep fun g e => hB.block g e) hr qv)
  have HW := Lib.hid hW
  clear hW hA hr
  unfold FinderPost
  rcases hfo : findB l v with _ | x
  · have hfo := Lib.hid hfo
    go_enter Try.func91, Try.ntmps91
    go_upto_region 1 with fail
    rw [HW.out]
    go_wp2_with (first
      | (go_at_call 92; refine H.out.mono ?_; go_must (rintro e w1 ⟨hb1, he⟩; rw [hfo.out] at he; obtain rfl := he; have q2 := (hb1.block _ hWs).trans qr; have hq2 := (Array.getElem?_eq_some_iff.1 q2).1; have zq := heap_alloc_new w1 (Obj.cells #[.int .i64 0, .int .i64 0, .slice none 0 0] 77); obtain ⟨p0, p1, p2, _, _, _⟩ := cells_three zq; have r2 := alloc_old (o := (Obj.cells #[.int .i64 0, .int .i64 0, .slice none 0 0] 77)) q2; obtain ⟨d0, d1, fd0, fd1⟩ := cells_two r2; obtain ⟨m0, m1⟩ := set2_two (u := .int .i64 0) (v := .slice none 0 0) q2; obtain ⟨d2, d3, fd2, fd3⟩ := cells_two (alloc_old (o := (Obj.cells #[.int .i64 0, .int .i64 0, .slice none 0 0] 77)) m0); have r4 := alloc_old (o := (Obj.cells #[.int .i64 0, .int .i64 0, .slice none 0 0] 77)) m1; have hb1w := hB.trans (hb1.mono hB.size); have hs1 := hb1w.size))
      | fail)
    obtain ⟨k0, k1, _, _⟩ := cells_two r4
    refine bodyPost_ret (v := .tuple #[.agg #[.int .i64 0, .slice none 0 0], .bool false]) (by simp [results, Try.results91, go_sem, k0, k1]) rfl ⟨((hb1w.setCell (by show _ ≤ w.heap.size + 1; omega) _).setCell (by show _ ≤ w.heap.size + 1; omega) _).alloc (by simp; omega) _, ?_⟩
    rfl
  · have hfo := Lib.hid hfo
    go_enter Try.func91, Try.ntmps91
    go_upto_region 1 with fail
    rw [HW.out]
    go_wp2_with (first
      | (go_at_call 92; refine H.out.mono ?_; go_must (rintro e w1 ⟨hb1, he⟩; rw [hfo.out] at he; obtain ⟨A', c', rfl, _, hit, hsub⟩ := he; have hit := Lib.hid hit; have hsub := Lib.hid hsub; have q2 := (hb1.block _ hWs).trans qr; have hq2 := (Array.getElem?_eq_some_iff.1 q2).1; have zq := heap_alloc_new w1 (Obj.cells #[.int .i64 x.v, .int .i64 x.t.fn, .slice A' x.t.args.length c'] 77); obtain ⟨p0, p1, p2, _, _, _⟩ := cells_three zq; have r2 := alloc_old (o := (Obj.cells #[.int .i64 x.v, .int .i64 x.t.fn, .slice A' x.t.args.length c'] 77)) q2; obtain ⟨d0, d1, fd0, fd1⟩ := cells_two r2; obtain ⟨m0, m1⟩ := set2_two (u := .int .i64 x.t.fn) (v := .slice A' x.t.args.length c') q2; obtain ⟨d2, d3, fd2, fd3⟩ := cells_two (alloc_old (o := (Obj.cells #[.int .i64 x.v, .int .i64 x.t.fn, .slice A' x.t.args.length c'] 77)) m0); have r4 := alloc_old (o := (Obj.cells #[.int .i64 x.v, .int .i64 x.t.fn, .slice A' x.t.args.length c'] 77)) m1; have hb1w := hB.trans (hb1.mono hB.size); have hs1 := hb1w.size))
      | fail)
    obtain ⟨k0, k1, _, _⟩ := cells_two r4
    refine bodyPost_ret (v := .tuple #[.agg #[.int .i64 x.t.fn, .slice A' x.t.args.length c'], .bool true]) (by simp [results, Try.results91, go_sem, k0, k1]) rfl ⟨((hb1w.setCell (by show _ ≤ w.heap.size + 1; omega) _).setCell (by show _ ≤ w.heap.size + 1; omega) _).alloc (by simp; omega) _, ?_⟩
    exact ⟨A', c', rfl, hit.out, (hsub.out.keep fun g e => (hB.block g e).symm).args fun g e => e⟩

end Go.Proofs.Ytdeegdndfblnkaa

namespace Go.Proofs.Ytdeegdndfblnkaa
open Go.RowKit Go.Shelf
set_option maxRecDepth 100000

mutual
def appT (g : Int → Option Tm) : Tm → Tm
  | .node f xs => (if f < 0 then g (-1 - f) else none).getD (.node f (appL g xs))
def appL (g : Int → Option Tm) : List Tm → List Tm
  | [] => []
  | t :: ts => appT g t :: appL g ts
end
theorem appL_eq (g : Int → Option Tm) : ∀ xs : List Tm, appL g xs = xs.map (appT g)
  | [] => by simp only [appL, List.map_nil]
  | t :: ts => by simp only [appL, appL_eq g ts, List.map_cons]
/-- What is put in for a variable. -/
def bdT (l : List Bd) (v : Int) : Option Tm := (findB l v).map Bd.t

/-- The binds, in blocks under B0, and the box that holds them. -/
structure PutC (l : List Bd) (A : Option Addr) (c bs B0 : Nat) (w : World) : Prop where
  len : l.length ≤ 4611686018427387904
  binds : Binds w (· < B0) A l
  rise : Rise l
  small : ∀ x ∈ l, x.t.size ≤ 4398046511104
  lt : bs < B0
  box : Boxed w bs 23 (.slice A l.length c)
theorem PutC.keep {l : List Bd} {A : Option Addr} {c bs B0 : Nat} {w w' : World} (h : PutC l A c bs B0 w) (hk : Keeps (· < B0) w w') : PutC l A c bs B0 w' :=
  ⟨h.len, h.binds.keep fun g e => hk.block g e, h.rise, h.small, h.lt, (hk.block _ h.lt).trans h.box⟩

/-- A term of memory of its own. -/
def NewPost (t : Tm) (w : World) (e : Ending) (w' : World) : Prop :=
  ∃ A' c', e = .returned (.agg #[.int .i64 t.fn, .slice A' t.args.length c']) ∧ I64 t.fn ∧ OwnT w' w.heap.size w'.heap.size A' t.args ∧ Below w.heap.size w w'
def PutAt (l : List Bd) (A : Option Addr) (c bs B0 : Nat) (t : Tm) : Prop :=
  t.size ≤ 4398046511104 → ∀ (At : Option Addr) (ct : Nat) (w : World), B0 ≤ w.heap.size → PutC l A c bs B0 w → I64 t.fn → Args w w.heap.size At t.args →
    Calls Try.prog 59 #[.agg #[.int .i64 t.fn, .slice At t.args.length ct], .func (.func 91) #[] #[.pointer (some ⟨bs, 0, none⟩)]] w (NewPost (appT (bdT l) t) w)

set_option maxHeartbeats 1000000 in
theorem put1_any (l : List Bd) (A : Option Addr) (c bs B0 : Nat) (t : Tm) (hsz : t.size ≤ 4398046511104) (hrec : PutAt l A c bs B0 t) (At : Option Addr) (ct bx : Nat) (W : World) (hB0 : B0 ≤ W.heap.size) (hb : Boxed W bx 81 (.func (.func 91) #[] #[.pointer (some ⟨bs, 0, none⟩)])) (hs : PutC l A c bs B0 W) (hf : I64 t.fn) (hA : Args W W.heap.size At t.args) :
    Calls Try.prog 99 #[.agg #[.int .i64 t.fn, .slice At t.args.length ct], .pointer (some ⟨bx, 0, none⟩)] W (NewPost (appT (bdT l) t) W) := by
  obtain ⟨q0, q1⟩ := heap2 W (.cells #[.int .i64 t.fn, .slice At t.args.length ct] 31) (.cells #[.int .i64 0, .slice none 0 0] 31)
  obtain ⟨W2, hW2⟩ : ∃ W2, ((W.alloc (.cells #[.int .i64 t.fn, .slice At t.args.length ct] 31)).alloc (.cells #[.int .i64 0, .slice none 0 0] 31)) = W2 := ⟨_, rfl⟩
  have hB : Below W.heap.size W W2 := by rw [← hW2]; exact ((Below.refl _ _).alloc (Nat.le_refl _) _).alloc (by simp) _
  rw [hW2] at q0 q1
  have hWs : W.heap.size + 1 < W2.heap.size := (Array.getElem?_eq_some_iff.1 q1).1
  have hcb := Boxed.cell (show Boxed W2 bx _ _ from (hB.block _ hb.lt).trans hb)
  have hrec' := Lib.hid (hrec hsz At ct W2 (by omega) (hs.keep ((Keeps.of_below hB).mono fun g e => by show g < W.heap.size; omega)) hf (hA.on hB))
  have HW := Lib.hid hW2
  obtain ⟨a0, a1, _, _⟩ := cells_two q0
  clear hW2 hA hs hrec
  go_enter Try.func99, Try.ntmps99
  go_upto_region 1 with fail
  rw [HW.out]
  go_wp2_with (first
    | (go_at_call 59; refine hrec'.out.mono ?_; go_must (rintro e w3 ⟨A3, c3, rfl, hi3, hO3, hk3⟩; have y3 := (hk3.block _ hWs).trans q1; obtain ⟨b0, b1, g0, g1⟩ := cells_two y3; have hO3 := Lib.hid hO3))
    | fail)
  obtain ⟨z0, z1⟩ := set2_two (u := .int .i64 (appT (bdT l) t).fn) (v := .slice A3 (appT (bdT l) t).args.length c3) y3
  have p0 := (cells_two z0).1
  have p1 := (cells_two z1).2.1
  have hoth : ∀ g, g ≠ W.heap.size + 1 → ((w3.setCell ⟨W.heap.size + 1, 0, none⟩ (.int .i64 (appT (bdT l) t).fn)).setCell ⟨W.heap.size + 1, 1, none⟩ (.slice A3 (appT (bdT l) t).args.length c3)).heap[g]? = w3.heap[g]? := fun g e => (heap_setCell_other _ _ _ _ e).trans (heap_setCell_other _ _ _ _ e)
  refine bodyPost_ret (v := .agg #[.int .i64 (appT (bdT l) t).fn, .slice A3 (appT (bdT l) t).args.length c3]) (by simp [results, Try.results99, go_sem, p0, p1]) rfl ⟨A3, c3, rfl, hi3, ?_, ?_⟩
  · exact OwnT.wide (lo := W2.heap.size) (hi := w3.heap.size) (hO3.out.keep fun g h1 _ => hoth g (by omega)) (by omega) (by simp)
  · exact ((hB.trans (hk3.mono (by omega))).setCell (by show _ ≤ W.heap.size + 1; omega) _).setCell (by show _ ≤ W.heap.size + 1; omega) _

end Go.Proofs.Ytdeegdndfblnkaa

namespace Go.Proofs.Ytdeegdndfblnkaa
open Go.RowKit Go.Shelf
set_option maxRecDepth 100000

theorem put_fin {y : Tm} {A3 : Option Addr} {c3 n : Nat} {w w1 w3 : World} (hb : Below w.heap.size w w1) (hk : Below w1.heap.size w1 w3) (hO : OwnT w3 w1.heap.size w3.heap.size A3 y.args) (hi : I64 y.fn) (hn1 : w.heap.size ≤ n) (hn2 : n < w1.heap.size) :
    NewPost y w (.returned (.agg #[.int .i64 y.fn, .slice A3 y.args.length c3])) ((w3.setCell ⟨n, 0, none⟩ (.int .i64 y.fn)).setCell ⟨n, 1, none⟩ (.slice A3 y.args.length c3)) := by
  have hoth : ∀ g, g ≠ n → ((w3.setCell ⟨n, 0, none⟩ (.int .i64 y.fn)).setCell ⟨n, 1, none⟩ (.slice A3 y.args.length c3)).heap[g]? = w3.heap[g]? := fun g e => (heap_setCell_other _ _ _ _ e).trans (heap_setCell_other _ _ _ _ e)
  have hs := hb.size
  exact ⟨A3, c3, rfl, hi, OwnT.wide (lo := w1.heap.size) (hi := w3.heap.size) (hO.keep fun g h1 _ => hoth g (by omega)) (by omega) (by simp), ((hb.trans (hk.mono hs)).setCell (by show _ ≤ n; omega) _).setCell (by show _ ≤ n; omega) _⟩

set_option maxHeartbeats 2000000 in
theorem put_any (l : List Bd) (A : Option Addr) (c bs B0 : Nat) (t : Tm) : PutAt l A c bs B0 t := by
  refine Tm.ind (P := PutAt l A c bs B0) (fun f xs ih => ?_) t
  intro hsz At ct w hB0 hs hf hA
  simp only [Tm.fn, Tm.args] at hf hA ⊢
  have hlen : xs.length ≤ 4398046511104 := by have := sizes_len xs; simp only [Tm.size] at hsz; omega
  obtain ⟨q0, q1, q2⟩ := heap3 w (.cells #[.int .i64 f, .slice At xs.length ct] 31) (.cells #[.func (.func 91) #[] #[.pointer (some ⟨bs, 0, none⟩)]] 81) (.cells #[.int .i64 0, .slice none 0 0] 31)
  obtain ⟨W, hW⟩ : ∃ W, (((w.alloc (.cells #[.int .i64 f, .slice At xs.length ct] 31)).alloc (.cells #[.func (.func 91) #[] #[.pointer (some ⟨bs, 0, none⟩)]] 81)).alloc (.cells #[.int .i64 0, .slice none 0 0] 31)) = W := ⟨_, rfl⟩
  have hB : Below w.heap.size w W := by rw [← hW]; exact (((Below.refl _ _).alloc (Nat.le_refl _) _).alloc (by simp) _).alloc (by simp; omega) _
  rw [hW] at q0 q1 q2
  have hWs : w.heap.size + 2 < W.heap.size := (Array.getElem?_eq_some_iff.1 q2).1
  have HW := Lib.hid hW
  have HA := Lib.hid (hA.on hB)
  have hsW := Lib.hid (hs.keep ((Keeps.of_below hB).mono fun g e => by show g < w.heap.size; omega))
  obtain ⟨a0, a1, _, _⟩ := cells_two q0
  have hcn := Boxed.cell (show Boxed W (w.heap.size + 1) _ _ from q1)
  clear hW hA hs
  have key : ∀ (W1 : World), Below W.heap.size W W1 → Calls Try.prog 98 #[.slice At xs.length ct, .func (.func 99) #[] #[.pointer (some ⟨w.heap.size + 1, 0, none⟩)]] W1 fun e w' => ∃ A' c', e = .returned (.slice A' (appL (bdT l) xs).length c') ∧ OwnT w' W1.heap.size w'.heap.size A' (appL (bdT l) xs) ∧ Below W1.heap.size W1 w' := by
    intro W1 hb1
    have hz1 := hb1.size
    have hyl : xs.length = (appL (bdT l) xs).length := by rw [appL_eq, List.length_map]
    refine (eachT_any 99 (enters_of Try.func99 (by kernel_rfl) rfl) (.pointer (some ⟨w.heap.size + 1, 0, none⟩)) (fun _ => False) (· < W.heap.size) (· < W.heap.size) (fun _ Wi => PutC l A c bs B0 Wi ∧ Boxed Wi (w.heap.size + 1) 81 (.func (.func 91) #[] #[.pointer (some ⟨bs, 0, none⟩)])) xs (appL (bdT l) xs) At ct W1 (by omega) hyl
      (HA.out.toN.keep fun g e => hb1.block g e) (fun g e => Nat.lt_of_lt_of_le e hz1) (fun _ _ e => e) (fun _ e => e.elim) (fun g e => Nat.lt_of_lt_of_le e hz1) (fun i Wa Wb h hk => ⟨h.1.keep (hk.mono fun g e => by show g < W.heap.size; omega), (hk.block _ (by show _ < W.heap.size; omega)).trans h.2⟩)
      ⟨hsW.out.keep ((Keeps.of_below hb1).mono fun g e => by show g < W.heap.size; omega), (hb1.block _ (by omega)).trans q1⟩ ?_).mono ?_
    · intro i t y A' c' Wi ht hy hsz1 _ hIi hi64 hAi
      obtain rfl : y = appT (bdT l) t := by rw [appL_eq, List.getElem?_map, ht] at hy; simpa using hy.symm
      have hmem := List.mem_of_getElem? ht
      have hts : t.size ≤ 4398046511104 := by have := size_mem hmem; simp only [Tm.size] at hsz; omega
      refine (put1_any l A c bs B0 t hts (ih t hmem) A' c' (w.heap.size + 1) Wi (by omega) hIi.2 hIi.1 hi64 (hAi.args fun g e => Nat.lt_of_lt_of_le e (by omega))).mono ?_
      rintro e w' ⟨A2, c2, rfl, h1, h2, h3⟩
      exact ⟨A2, c2, rfl, h1, h2, ⟨hIi.1.keep ((Keeps.of_below h3).mono fun g e => by show g < Wi.heap.size; omega), (h3.block _ hIi.2.lt).trans hIi.2⟩, KeepsC.of_below h3⟩
    · rintro e w' ⟨A', c', rfl, h1, h2, h3⟩
      exact ⟨A', c', rfl, h1, h3.none⟩
  have hkey := Lib.hid key
  clear key ih
  have hlo := hf.1
  have hhi := hf.2
  by_cases hneg : f < 0
  · have hfind := Lib.hid (finder1_any l (-1 - f) A c bs W hsW.out.len (hsW.out.binds.wide fun g e => by show g < W.heap.size; omega) hsW.out.rise hsW.out.box)
    rcases hfo : findB l (-1 - f) with _ | x
    · have happ : appT (bdT l) (.node f xs) = .node f (appL (bdT l) xs) := by simp only [appT, if_pos hneg, bdT, hfo, Option.map_none, Option.getD_none]
      rw [happ]
      have hSS : ∀ w', Below (w.heap.size + 1) W w' → w'.cell? ⟨w.heap.size, 0, none⟩ = some (.int .i64 f) ∧ w'.cell? ⟨w.heap.size, 1, none⟩ = some (.slice At xs.length ct) := fun w' hb => ⟨cell_on hb (by omega) a0, cell_on hb (by omega) a1⟩
      have hfo := Lib.hid hfo
      clear happ
      go_enter Try.func59, Try.ntmps59
      go_upto_region 1 with fail
      rw [HW.out]
      go_wp2_with (first
        | ((with_reducible refine hfind.out.mono ?_); go_must (rintro e w1 ⟨hb1, he⟩; rw [hfo.out] at he; obtain rfl := he; have hz := (Below.refl w1.heap.size w1).alloc (Nat.le_refl _) (Obj.cells #[.int .i64 0, .slice none 0 0] 31); obtain ⟨p0, p1, _, _⟩ := cells_two (heap_alloc_new w1 (Obj.cells #[.int .i64 0, .slice none 0 0] 31)); have hbW := hb1.trans (hz.mono hb1.size); obtain ⟨e0, e1⟩ := hSS _ (hbW.mono (by omega)); have y1 := (hbW.block _ hWs).trans q2))
        | fail)
      go_region_held3 (fun w' => w'.cell? ⟨w.heap.size, 0, none⟩ = some (.int .i64 f) ∧ w'.cell? ⟨w.heap.size, 1, none⟩ = some (.slice At xs.length ct))
        (first | exact ⟨e0, e1⟩ | exact hSS _ (hB1.mono (by omega)) | exact hSS _ (((hB1.mono (by omega)).setCell (by show w.heap.size + 1 ≤ w.heap.size + 1 + 1; omega) _).setCell (by show w.heap.size + 1 ≤ w.heap.size + 1 + 1; omega) _) | fail)
        (first
          | (go_at_call 98; refine (hkey.out (w1.alloc (Obj.cells #[.int .i64 0, .slice none 0 0] 31)).drew ⟨hbW.os, hbW.tape, hbW.output, hbW.size, hbW.block⟩).mono ?_; go_must (rintro e w3 ⟨A3, c3, rfl, hO3, hk3⟩; have hB3 : Below (w1.alloc (Obj.cells #[.int .i64 0, .slice none 0 0] 31)).heap.size (w1.alloc (Obj.cells #[.int .i64 0, .slice none 0 0] 31)) w3 := ⟨hk3.os, hk3.tape, hk3.output, hk3.size, hk3.block⟩; have hB1 := hbW.trans (hB3.mono hbW.size); have y3 := (hB1.block _ hWs).trans q2; obtain ⟨d0, d1, g0, g1⟩ := cells_two y3; have hO3 := Lib.hid hO3))
          | fail)
      go_wp2
      obtain ⟨z0, z1⟩ := set2_two (u := .int .i64 f) (v := .slice A3 (appL (bdT l) xs).length c3) y3
      have k0 := (cells_two z0).1
      have k1 := (cells_two z1).2.1
      exact bodyPost_ret (v := .agg #[.int .i64 f, .slice A3 (appL (bdT l) xs).length c3]) (by simp [results, Try.results59, go_sem, k0, k1]) rfl (put_fin (y := .node f (appL (bdT l) xs)) (hB.trans (hbW.mono hB.size)) hB3 hO3.out hf (by omega) (Nat.lt_of_lt_of_le hWs hbW.size))
    · have happ : appT (bdT l) (.node f xs) = x.t := by simp only [appT, if_pos hneg, bdT, hfo, Option.map_some, Option.getD_some]
      rw [happ]
      have hxs := hsW.out.small x (List.mem_of_find?_eq_some hfo)
      have hfo := Lib.hid hfo
      clear happ
      go_enter Try.func59, Try.ntmps59
      go_upto_region 1 with fail
      rw [HW.out]
      go_wp2_with (first
        | (go_at_call 48; refine (subClone_any x.t hxs A' c' _ hit.out ((hsub.out.on hb1).on hz)).mono ?_; go_must (rintro e w3 ⟨A3, c3, rfl, hO3, hk3⟩; have y3 := (hk3.block _ (Array.getElem?_eq_some_iff.1 y1).1).trans y1; obtain ⟨d0, d1, g0, g1⟩ := cells_two y3; have hO3 := Lib.hid hO3))
        | ((with_reducible refine hfind.out.mono ?_); go_must (rintro e w1 ⟨hb1, he⟩; rw [hfo.out] at he; obtain ⟨A', c', rfl, hit, hsub⟩ := he; have hit := Lib.hid hit; have hsub := Lib.hid hsub; have hz := (Below.refl w1.heap.size w1).alloc (Nat.le_refl _) (Obj.cells #[.int .i64 x.t.fn, .slice A' x.t.args.length c'] 31); obtain ⟨p0, p1, _, _⟩ := cells_two (heap_alloc_new w1 (Obj.cells #[.int .i64 x.t.fn, .slice A' x.t.args.length c'] 31)); have y1 := alloc_old (o := Obj.cells #[.int .i64 x.t.fn, .slice A' x.t.args.length c'] 31) ((hb1.block _ hWs).trans q2)))
        | fail)
      obtain ⟨z0, z1⟩ := set2_two (u := .int .i64 x.t.fn) (v := .slice A3 x.t.args.length c3) y3
      have k0 := (cells_two z0).1
      have k1 := (cells_two z1).2.1
      exact bodyPost_ret (v := .agg #[.int .i64 x.t.fn, .slice A3 x.t.args.length c3]) (by simp [results, Try.results59, go_sem, k0, k1]) rfl (put_fin ((hB.trans (hb1.mono hB.size)).trans (hz.mono (by have := hb1.size; omega))) hk3 hO3.out hit.out (by omega) (Array.getElem?_eq_some_iff.1 y1).1)
  · have happ : appT (bdT l) (.node f xs) = .node f (appL (bdT l) xs) := by simp only [appT, if_neg hneg, Option.getD_none]
    rw [happ]
    have hSS : ∀ w', Below (w.heap.size + 1) W w' → w'.cell? ⟨w.heap.size, 0, none⟩ = some (.int .i64 f) ∧ w'.cell? ⟨w.heap.size, 1, none⟩ = some (.slice At xs.length ct) := fun w' hb => ⟨cell_on hb (by omega) a0, cell_on hb (by omega) a1⟩
    clear happ
    go_enter Try.func59, Try.ntmps59
    go_upto_region 1 with fail
    rw [HW.out]
    go_wp2
    go_region_held3 (fun w' => w'.cell? ⟨w.heap.size, 0, none⟩ = some (.int .i64 f) ∧ w'.cell? ⟨w.heap.size, 1, none⟩ = some (.slice At xs.length ct))
      (first | exact ⟨a0, a1⟩ | exact hSS _ (hB1.mono (by omega)) | exact hSS _ (((hB1.mono (by omega)).setCell (by show w.heap.size + 1 ≤ w.heap.size + 1 + 1; omega) _).setCell (by show w.heap.size + 1 ≤ w.heap.size + 1 + 1; omega) _) | fail)
      (first
        | (go_at_call 98; refine (hkey.out W.drew ⟨rfl, rfl, rfl, Nat.le_refl _, fun _ _ => rfl⟩).mono ?_; go_must (rintro e w3 ⟨A3, c3, rfl, hO3, hk3⟩; have hB1 : Below W.heap.size W w3 := ⟨hk3.os, hk3.tape, hk3.output, hk3.size, hk3.block⟩; have y3 := (hB1.block _ hWs).trans q2; obtain ⟨d0, d1, g0, g1⟩ := cells_two y3; have hO3 := Lib.hid hO3))
        | fail)
    go_wp2
    obtain ⟨z0, z1⟩ := set2_two (u := .int .i64 f) (v := .slice A3 (appL (bdT l) xs).length c3) y3
    have k0 := (cells_two z0).1
    have k1 := (cells_two z1).2.1
    exact bodyPost_ret (v := .agg #[.int .i64 f, .slice A3 (appL (bdT l) xs).length c3]) (by simp [results, Try.results59, go_sem, k0, k1]) rfl (put_fin (y := .node f (appL (bdT l) xs)) hB hB1 hO3.out hf (by omega) hWs)

end Go.Proofs.Ytdeegdndfblnkaa

namespace Go.Proofs.Ytdeegdndfblnkaa
open Go.RowKit Go.Shelf
set_option maxRecDepth 100000

set_option maxHeartbeats 1000000 in
theorem putter1_any (l : List Bd) (A : Option Addr) (c bs B0 : Nat) (t : Tm) (hsz : t.size ≤ 4398046511104) (At : Option Addr) (ct bx : Nat) (W : World) (hB0 : B0 ≤ W.heap.size) (hb : Boxed W bx 81 (.func (.func 91) #[] #[.pointer (some ⟨bs, 0, none⟩)])) (hs : PutC l A c bs B0 W) (hf : I64 t.fn) (hA : Args W W.heap.size At t.args) :
    Calls Try.prog 97 #[.agg #[.int .i64 t.fn, .slice At t.args.length ct], .pointer (some ⟨bx, 0, none⟩)] W (NewPost (appT (bdT l) t) W) := by
  obtain ⟨q0, q1⟩ := heap2 W (.cells #[.int .i64 t.fn, .slice At t.args.length ct] 31) (.cells #[.int .i64 0, .slice none 0 0] 31)
  obtain ⟨W2, hW2⟩ : ∃ W2, ((W.alloc (.cells #[.int .i64 t.fn, .slice At t.args.length ct] 31)).alloc (.cells #[.int .i64 0, .slice none 0 0] 31)) = W2 := ⟨_, rfl⟩
  have hB : Below W.heap.size W W2 := by rw [← hW2]; exact ((Below.refl _ _).alloc (Nat.le_refl _) _).alloc (by simp) _
  rw [hW2] at q0 q1
  have hWs : W.heap.size + 1 < W2.heap.size := (Array.getElem?_eq_some_iff.1 q1).1
  have hcb := Boxed.cell (show Boxed W2 bx _ _ from (hB.block _ hb.lt).trans hb)
  have hrec' := Lib.hid (put_any l A c bs B0 t hsz At ct W2 (by omega) (hs.keep ((Keeps.of_below hB).mono fun g e => by show g < W.heap.size; omega)) hf (hA.on hB))
  have HW := Lib.hid hW2
  obtain ⟨a0, a1, _, _⟩ := cells_two q0
  clear hW2 hA hs
  go_enter Try.func97, Try.ntmps97
  go_upto_region 1 with fail
  rw [HW.out]
  go_wp2_with (first
    | (go_at_call 59; refine hrec'.out.mono ?_; go_must (rintro e w3 ⟨A3, c3, rfl, hi3, hO3, hk3⟩; have y3 := (hk3.block _ hWs).trans q1; obtain ⟨b0, b1, g0, g1⟩ := cells_two y3; have hO3 := Lib.hid hO3))
    | fail)
  obtain ⟨z0, z1⟩ := set2_two (u := .int .i64 (appT (bdT l) t).fn) (v := .slice A3 (appT (bdT l) t).args.length c3) y3
  have p0 := (cells_two z0).1
  have p1 := (cells_two z1).2.1
  have hoth : ∀ g, g ≠ W.heap.size + 1 → ((w3.setCell ⟨W.heap.size + 1, 0, none⟩ (.int .i64 (appT (bdT l) t).fn)).setCell ⟨W.heap.size + 1, 1, none⟩ (.slice A3 (appT (bdT l) t).args.length c3)).heap[g]? = w3.heap[g]? := fun g e => (heap_setCell_other _ _ _ _ e).trans (heap_setCell_other _ _ _ _ e)
  refine bodyPost_ret (v := .agg #[.int .i64 (appT (bdT l) t).fn, .slice A3 (appT (bdT l) t).args.length c3]) (by simp [results, Try.results97, go_sem, p0, p1]) rfl ⟨A3, c3, rfl, hi3, ?_, ?_⟩
  · exact OwnT.wide (lo := W2.heap.size) (hi := w3.heap.size) (hO3.out.keep fun g h1 _ => hoth g (by omega)) (by omega) (by simp)
  · exact ((hB.trans (hk3.mono (by omega))).setCell (by show _ ≤ W.heap.size + 1; omega) _).setCell (by show _ ≤ W.heap.size + 1; omega) _

@[local go_sem] theorem run_store_func {P : Program} {w : World} {a : Addr} {m : Mode} (f : Fn) (ts cs : Array Value) : (store a (.func f ts cs) m).run P w = stored P w a (.func f ts cs) m := run_store P w a _ m rfl

theorem putter_any (l : List Bd) (A : Option Addr) (c : Nat) (w : World) (hl : l.length ≤ 9223372036854775806) (hA : Binds w (· < w.heap.size) A l) (hr : Rise l) :
    Calls Try.prog 57 #[.slice A l.length c] w fun e w' => ∃ n, e = .returned (.func (.func 97) #[] #[.pointer (some ⟨n, 0, none⟩)]) ∧ w.heap.size ≤ n ∧ Boxed w' n 81 (.func (.func 91) #[] #[.pointer (some ⟨w.heap.size, 0, none⟩)]) ∧ Boxed w' w.heap.size 23 (.slice A l.length c) ∧ Below w.heap.size w w' := by
  have H := Lib.hid (finder_any l A c w hl hA hr)
  clear hA hr
  go_enter Try.func57, Try.ntmps57
  go_wp2_with (first
    | (go_at_call 47; refine H.out.mono ?_; go_must (rintro e w1 ⟨rfl, hbx, hb1⟩; have hbx := Lib.hid hbx))
    | fail)
  go_ret
  exact ⟨w1.heap.size, rfl, hb1.size, heap_alloc_new _ _, alloc_old hbx.out, hb1.alloc hb1.size _⟩

set_option maxHeartbeats 1000000 in
theorem apply_any (l : List Bd) (A : Option Addr) (c : Nat) (t : Tm) (At : Option Addr) (ct : Nat) (w : World) (hsz : t.size ≤ 4398046511104) (hl : l.length ≤ 4611686018427387904) (hA : Binds w (· < w.heap.size) A l) (hr : Rise l) (hsm : ∀ x ∈ l, x.t.size ≤ 4398046511104) (hf : I64 t.fn) (hT : Args w w.heap.size At t.args) :
    Calls Try.prog 24 #[.slice A l.length c, .agg #[.int .i64 t.fn, .slice At t.args.length ct]] w (NewPost (appT (bdT l) t) w) := by
  obtain ⟨q0, q1⟩ := heap2 w (.cells #[.int .i64 t.fn, .slice At t.args.length ct] 31) (.cells #[.int .i64 0, .slice none 0 0] 31)
  obtain ⟨W, hW⟩ : ∃ W, ((w.alloc (.cells #[.int .i64 t.fn, .slice At t.args.length ct] 31)).alloc (.cells #[.int .i64 0, .slice none 0 0] 31)) = W := ⟨_, rfl⟩
  have hB : Below w.heap.size w W := by rw [← hW]; exact ((Below.refl _ _).alloc (Nat.le_refl _) _).alloc (by simp) _
  rw [hW] at q0 q1
  have hWs : w.heap.size + 1 < W.heap.size := (Array.getElem?_eq_some_iff.1 q1).1
  have hAW : Binds W (· < W.heap.size) A l := (hA.keep fun g e => hB.block g e).wide fun g e => Nat.lt_of_lt_of_le e hB.size
  have hAd : Binds W.drew (· < W.drew.heap.size) A l := hAW.keep fun _ _ => rfl
  have hfin := Lib.hid (finder_any l A c W.drew (by omega) hAd hr)
  have hput : ∀ w1 : World, Below W.heap.size W w1 → Boxed w1 W.heap.size 23 (.slice A l.length c) → Calls Try.prog 59 #[.agg #[.int .i64 t.fn, .slice At t.args.length ct], .func (.func 91) #[] #[.pointer (some ⟨W.heap.size, 0, none⟩)]] w1 (NewPost (appT (bdT l) t) w1) := fun w1 hb hx =>
    put_any l A c W.heap.size w1.heap.size t hsz At ct w1 (Nat.le_refl _) ⟨hl, (hAW.keep fun g e => hb.block g e).wide fun g e => Nat.lt_of_lt_of_le e hb.size, hr, hsm, hx.lt, hx⟩ hf ((hT.on hB).on hb)
  have hput := Lib.hid hput
  have HW := Lib.hid hW
  obtain ⟨a0, a1, _, _⟩ := cells_two q0
  have hSS : ∀ w', Below (w.heap.size + 1) W w' → w'.cell? ⟨w.heap.size, 0, none⟩ = some (.int .i64 t.fn) ∧ w'.cell? ⟨w.heap.size, 1, none⟩ = some (.slice At t.args.length ct) := fun w' hb => ⟨cell_on hb (by omega) a0, cell_on hb (by omega) a1⟩
  clear hW hA hAW hAd hT
  go_enter Try.func24, Try.ntmps24
  go_upto_region 1 with fail
  rw [HW.out]
  go_region_held3 (fun w' => w'.cell? ⟨w.heap.size, 0, none⟩ = some (.int .i64 t.fn) ∧ w'.cell? ⟨w.heap.size, 1, none⟩ = some (.slice At t.args.length ct))
    (first | exact ⟨a0, a1⟩ | exact hSS _ (hB3.mono (by omega)) | exact hSS _ (hB1.mono (by omega)) | exact hSS _ (((hB3.mono (by omega)).setCell (by show w.heap.size + 1 ≤ w.heap.size + 1; omega) _).setCell (by show w.heap.size + 1 ≤ w.heap.size + 1; omega) _) | fail)
    (first
      | (go_at_call 47; refine hfin.out.mono ?_; go_must (rintro e w1 ⟨rfl, hbx, hb1⟩; have hB1 : Below W.heap.size W w1 := ⟨hb1.os, hb1.tape, hb1.output, hb1.size, hb1.block⟩; have hbx := Lib.hid hbx))
      | (go_at_call 59; refine (hput.out w1 hB1 hbx.out).mono ?_; go_must (rintro e w3 ⟨A3, c3, rfl, hi3, hO3, hk3⟩; have hB3 := hB1.trans (hk3.mono hB1.size); have y3 := (hB3.block _ hWs).trans q1; obtain ⟨d0, d1, g0, g1⟩ := cells_two y3; have hO3 := Lib.hid hO3))
      | fail)
  go_wp2
  obtain ⟨z0, z1⟩ := set2_two (u := .int .i64 (appT (bdT l) t).fn) (v := .slice A3 (appT (bdT l) t).args.length c3) y3
  have k0 := (cells_two z0).1
  have k1 := (cells_two z1).2.1
  exact bodyPost_ret (v := .agg #[.int .i64 (appT (bdT l) t).fn, .slice A3 (appT (bdT l) t).args.length c3]) (by simp [results, Try.results24, go_sem, k0, k1]) rfl (put_fin (hB.trans (hB1.mono hB.size)) hk3 hO3.out hi3 (by omega) (Nat.lt_of_lt_of_le hWs hB1.size))

end Go.Proofs.Ytdeegdndfblnkaa
