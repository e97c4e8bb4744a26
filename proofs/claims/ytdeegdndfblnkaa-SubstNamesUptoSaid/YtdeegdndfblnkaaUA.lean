/- The document's own answer: Same of substitutions; great, large. great, large. The document's own answer: Get. -/
import Derived.Test.YtdeegdndfblnkaaU23
namespace Go.Proofs.Ytdeegdndfblnkaa
open Go.RowKit Go.Shelf
set_option maxRecDepth 100000

/-- Two substitutions, bind by bind. -/
def sameB : List Bd → List Bd → Bool
  | [], [] => true
  | x :: xs, y :: ys => decide (x.v = y.v) && (decide (cmpT x.t y.t = 0) && sameB xs ys)
  | _, _ => false
theorem sameB_len : ∀ {a b : List Bd}, sameB a b = true → a.length = b.length
  | [], [], _ => rfl
  | [], _ :: _, h => by simp [sameB] at h
  | _ :: _, [], h => by simp [sameB] at h
  | x :: xs, y :: ys, h => by
    simp only [sameB, Bool.and_eq_true] at h
    have := sameB_len h.2.2
    simp only [List.length_cons]; omega
theorem sameB_refl : ∀ a : List Bd, sameB a a = true
  | [] => rfl
  | x :: xs => by simp only [sameB, Bool.and_eq_true, decide_eq_true_eq]; exact ⟨trivial, cmp_refl _, sameB_refl xs⟩
structure SameI (a b : List Bd) (k : Nat) : Prop where
  len : a.length = b.length
  rest : sameB (a.drop k) (b.drop k) = sameB a b
section
variable {a b : List Bd} {k : Nat} {x y : Bd}
theorem SameI.cons (h : SameI a b k) (hx : a[k]? = some x) (hy : b[k]? = some y) : sameB a b = (decide (x.v = y.v) && (decide (cmpT x.t y.t = 0) && sameB (a.drop (k + 1)) (b.drop (k + 1)))) := by
  obtain ⟨h1, hx'⟩ := List.getElem?_eq_some_iff.1 hx
  obtain ⟨h2, hy'⟩ := List.getElem?_eq_some_iff.1 hy
  rw [← h.rest, List.drop_eq_getElem_cons h1, List.drop_eq_getElem_cons h2, hx', hy']
  rfl
theorem SameI.start (h : a.length = b.length) : SameI a b 0 := ⟨h, rfl⟩
theorem SameI.done (h : SameI a b k) (hk : a.length ≤ k) : sameB a b = true := by
  rw [← h.rest, List.drop_eq_nil_of_le hk, List.drop_eq_nil_of_le (by rw [← h.len]; exact hk)]; rfl
theorem SameI.no1 (h : SameI a b k) (hx : a[k]? = some x) (hy : b[k]? = some y) (hn : ¬ x.v = y.v) : sameB a b = false := by rw [h.cons hx hy, decide_eq_false hn]; rfl
theorem SameI.no2 (h : SameI a b k) (hx : a[k]? = some x) (hy : b[k]? = some y) (hn : ¬ cmpT x.t y.t = 0) : sameB a b = false := by rw [h.cons hx hy, decide_eq_false hn]; simp
theorem SameI.next (h : SameI a b k) (hx : a[k]? = some x) (hy : b[k]? = some y) (h1 : x.v = y.v) (h2 : cmpT x.t y.t = 0) : SameI a b (k + 1) := ⟨h.len, by rw [h.cons hx hy, decide_eq_true h1, decide_eq_true h2]; rfl⟩
end

set_option maxHeartbeats 2000000 in
theorem refSubSame_any (la lb : List Bd) (A A2 : Option Addr) (c c2 : Nat) (w : World) (hA : Binds w (· < w.heap.size) A la) (hA2 : Binds w (· < w.heap.size) A2 lb) :
    Calls Try.prog 19 #[.slice A la.length c, .slice A2 lb.length c2] w fun e w' => e = .returned (.bool (sameB la lb)) ∧ Below w.heap.size w w' := by
  have hl1 := hA.len
  have hl2 := hA2.len
  by_cases hlen : la.length = lb.length
  · have HA := Lib.hid hA
    have HA2 := Lib.hid hA2
    have HI0 := Lib.hid (SameI.start hlen)
    have HL := Lib.hid hlen
    have hne : ((la.length : Int) != (lb.length : Int)) = false := by rw [hlen]; simp
    clear hA hA2 hlen
    go_enter Try.func19, Try.ntmps19
    go_wp2
    go_loopw [5] (fun i wr => ∃ k : Nat, k ≤ la.length ∧ i = .int .i64 (k : Int) ∧ Below w.heap.size w wr ∧ Hid (SameI la lb k)) (fun i _ => la.length - (intOf i).toNat)
    case atStart => exact ⟨0, Nat.zero_le _, rfl, Below.refl _ _, HI0⟩
    case round =>
      obtain ⟨k, hk, rfl, hBr, H⟩ := hrel
      by_cases hlt : k < la.length
      · obtain ⟨x, hx⟩ : ∃ x, la[k]? = some x := ⟨_, List.getElem?_eq_getElem hlt⟩
        obtain ⟨y, hy⟩ : ∃ y, lb[k]? = some y := ⟨_, List.getElem?_eq_getElem (by have := HL.out; omega)⟩
        obtain ⟨b, off, A', c', rfl, h⟩ := HA.out.get hx
        obtain ⟨b2, off2, A2', c2', rfl, h2⟩ := HA2.out.get hy
        have hB : ∀ x' : Later wr.heap.size wr, Below w.heap.size w x'.w := fun x' => hBr.trans (x'.h.mono hBr.size)
        have r0 : ∀ x' : Later wr.heap.size wr, x'.w.cell? ⟨b, off + k * 3, none⟩ = some (.int .i64 x.v) := fun x' => cell_on (hB x') h.hb h.c0
        have r1 : ∀ x' : Later wr.heap.size wr, x'.w.cell? ⟨b, off + k * 3 + 1, none⟩ = some (.int .i64 x.t.fn) := fun x' => cell_on (hB x') h.hb h.c1
        have r2 : ∀ x' : Later wr.heap.size wr, x'.w.cell? ⟨b, off + k * 3 + 1 + 1, none⟩ = some (.slice A' x.t.args.length c') := fun x' => cell_on (hB x') h.hb h.c2
        have r3 : ∀ x' : Later wr.heap.size wr, x'.w.cell? ⟨b2, off2 + k * 3, none⟩ = some (.int .i64 y.v) := fun x' => cell_on (hB x') h2.hb h2.c0
        have r4 : ∀ x' : Later wr.heap.size wr, x'.w.cell? ⟨b2, off2 + k * 3 + 1, none⟩ = some (.int .i64 y.t.fn) := fun x' => cell_on (hB x') h2.hb h2.c1
        have r5 : ∀ x' : Later wr.heap.size wr, x'.w.cell? ⟨b2, off2 + k * 3 + 1 + 1, none⟩ = some (.slice A2' y.t.args.length c2') := fun x' => cell_on (hB x') h2.hb h2.c2
        have hsame : ∀ x' : Later wr.heap.size wr, Calls Try.prog 20 #[.agg #[.int .i64 x.t.fn, .slice A' x.t.args.length c'], .agg #[.int .i64 y.t.fn, .slice A2' y.t.args.length c2']] x'.w fun e w' => e = .returned (.bool (decide (cmpT x.t y.t = 0))) ∧ Below x'.w.heap.size x'.w w' := fun x' =>
          ref2Same_any' x.t y.t A' A2' c' c2' x'.w h.it h2.it ((h.sub.keep fun g e => (hB x').block g e).args fun g e => Nat.lt_of_lt_of_le e (hB x').size) ((h2.sub.keep fun g e => (hB x').block g e).args fun g e => Nat.lt_of_lt_of_le e (hB x').size)
        have hsame := Lib.hid hsame
        have Hx := Lib.hid hx
        have Hy := Lib.hid hy
        have hkl : (k : Int) < (la.length : Int) := by omega
        have hkl2 : (k : Int) < (lb.length : Int) := by have := HL.out; omega
        clear hx hy h h2 hB
        by_cases hv : x.v = y.v
        · have hv' : ((x.v : Int) != y.v) = false := by simp [hv]
          by_cases hc : cmpT x.t y.t = 0
          · have hc' := decide_eq_true hc
            have hnx := Lib.hid (H.out.next Hx.out Hy.out hv hc)
            clear hv hc
            go_upto_region 6 with fail
            refine wp_region_later wr.heap.size wr (by kernel_rfl) (by kernel_rfl) (bl_drewN (Below.refl _ _) 1) ?_
            repeat (go_big_quiet_step (first | (go_at_call 20; exact calls_later _ (Nat.le_refl _) (hsame.out _)) | fail))
            refine wpQuiet_nil ?_
            rintro _ ⟨z, rfl⟩
            have hBz := hBr.trans (z.h.mono hBr.size)
            go_wp2
            go_roundw
            case rel => exact ⟨k + 1, by omega, by go_num, hBz, hnx⟩
            case measure => simp [intOf]; omega
          · have hc' := decide_eq_false hc
            have hres := Lib.hid (H.out.no2 Hx.out Hy.out hc)
            clear hv hc
            go_upto_region 6 with fail
            refine wp_region_later wr.heap.size wr (by kernel_rfl) (by kernel_rfl) (bl_drewN (Below.refl _ _) 1) ?_
            repeat (go_big_quiet_step (first | (go_at_call 20; exact calls_later _ (Nat.le_refl _) (hsame.out _)) | fail))
            refine wpQuiet_nil ?_
            rintro _ ⟨z, rfl⟩
            have hBz := hBr.trans (z.h.mono hBr.size)
            go_wp2
            go_ret
            exact ⟨ret_bool hres.out.symm, hBz⟩
        · have hv' : ((x.v : Int) != y.v) = true := by simp [hv]
          have hres := Lib.hid (H.out.no1 Hx.out Hy.out hv)
          clear hv
          go_upto_region 6 with fail
          refine wp_region_later wr.heap.size wr (by kernel_rfl) (by kernel_rfl) (bl_drewN (Below.refl _ _) 1) ?_
          repeat (go_big_quiet_step (fail))
          refine wpQuiet_nil ?_
          rintro _ ⟨z, rfl⟩
          have hBz := hBr.trans (z.h.mono hBr.size)
          go_wp2
          go_ret
          exact ⟨ret_bool hres.out.symm, hBz⟩
      · obtain rfl : k = la.length := by omega
        have hres := Lib.hid (H.out.done (Nat.le_refl _))
        have hkl2 : ¬ (la.length : Int) < (la.length : Int) := by omega
        go_wp2
        go_ret
        exact ⟨ret_bool hres.out.symm, hBr⟩
  · have hne : ((la.length : Int) != (lb.length : Int)) = true := by
      simp only [bne_iff_ne, ne_eq]; omega
    have hres : Hid (sameB la lb = false) := Lib.hid (by
      rcases h : sameB la lb with _ | _
      · rfl
      · exact absurd (sameB_len h) hlen)
    clear hlen hA hA2
    go_enter Try.func19, Try.ntmps19
    go_wp2
    go_ret
    exact ⟨ret_bool hres.out.symm, Below.refl _ _⟩
end Go.Proofs.Ytdeegdndfblnkaa

namespace Go.Proofs.Ytdeegdndfblnkaa
open Go.RowKit Go.Shelf
set_option maxRecDepth 100000

theorem subGreat_any (t : Tm) (m : Int) (A : Option Addr) (c : Nat) (w : World) (hsz : t.size ≤ 4611686018427387904) (hf : I64 t.fn) (hA : Args w w.heap.size A t.args) :
    Calls Try.prog 13 #[.agg #[.int .i64 t.fn, .slice A t.args.length c], .int .i64 m] w fun e w' => e = .returned (.bool (decide (m < (t.size : Int)))) ∧ Below w.heap.size w w' := by
  have hWB : Below w.heap.size w (w.alloc (.cells #[.int .i64 t.fn, .slice A t.args.length c] 31)) := (Below.refl _ _).alloc (Nat.le_refl _) _
  have HS := Lib.hid (refSize_any t hsz A c (w.alloc (.cells #[.int .i64 t.fn, .slice A t.args.length c] 31)) hf (hA.on hWB))
  clear hA
  go_enter Try.func13, Try.ntmps13
  go_wp2_with (first
    | (go_at_call 46; refine HS.out.mono ?_; go_must (rintro e w1 ⟨rfl, hb1⟩))
    | fail)
  go_ret
  exact ⟨rfl, hWB.trans (hb1.mono hWB.size)⟩

/-- Has one of the terms more than m parts, or are there more than 60 binds? -/
def largeB (m : Nat) (l : List Bd) : Bool := (l.any fun x => decide (m < x.t.size)) || decide (60 < l.length)
theorem largeB_small {m : Nat} {l : List Bd} (h : largeB m l = false) : l.length ≤ 60 ∧ ∀ x ∈ l, x.t.size ≤ m := by
  unfold largeB at h
  simp only [Bool.or_eq_false_iff, List.any_eq_false, decide_eq_false_iff_not, decide_eq_true_eq] at h
  exact ⟨by omega, fun x hx => by have := h.1 x hx; omega⟩

set_option maxHeartbeats 1000000 in
theorem large_any (m : Nat) (l : List Bd) (A : Option Addr) (c : Nat) (w : World) (hsm : ∀ x ∈ l, x.t.size ≤ 4611686018427387904) (hA : Binds w (· < w.heap.size) A l) :
    Calls Try.prog 11 #[.slice A l.length c, .int .i64 (m : Int)] w fun e w' => e = .returned (.bool (largeB m l)) ∧ Below w.heap.size w w' := by
  have hlen := hA.len
  have HA := Lib.hid hA
  have Hsm := Lib.hid hsm
  clear hA hsm
  go_enter Try.func11, Try.ntmps11
  go_wp2
  go_loopw [8] (fun i wr => ∃ k : Nat, k ≤ l.length ∧ i = .int .i64 (k : Int) ∧ Below w.heap.size w wr ∧ Hid (∀ x ∈ l.take k, ¬ m < x.t.size)) (fun i _ => l.length - (intOf i).toNat)
  case atStart => exact ⟨0, Nat.zero_le _, rfl, Below.refl _ _, Lib.hid fun x hx => by simp at hx⟩
  case round =>
    obtain ⟨k, hk, rfl, hBr, Hn⟩ := hrel
    by_cases hlt : k < l.length
    · obtain ⟨x, hx⟩ : ∃ x, l[k]? = some x := ⟨_, List.getElem?_eq_getElem hlt⟩
      obtain ⟨b, off, A', c', rfl, h⟩ := HA.out.get hx
      have e1 := cell_on hBr h.hb h.c1
      have e2 := cell_on hBr h.hb h.c2
      have HG := Lib.hid (subGreat_any x.t m A' c' wr (Hsm.out x (List.mem_of_getElem? hx)) h.it ((h.sub.keep fun g e => hBr.block g e).args fun g e => Nat.lt_of_lt_of_le e hBr.size))
      have Hx := Lib.hid hx
      clear hx h
      by_cases hs : m < x.t.size
      · have hs' := Lib.hid (decide_eq_true (show (m : Int) < (x.t.size : Int) by omega))
        have hres : Hid (largeB m l = true) := Lib.hid (by
          unfold largeB
          rw [List.any_eq_true.2 ⟨x, List.mem_of_getElem? Hx.out, decide_eq_true hs⟩]
          rfl)
        clear hs
        go_wp2_with (first
          | (go_at_call 13; (with_reducible refine HG.out.mono ?_); go_must (rintro e w1 ⟨rfl, hb1⟩; rw [hs'.out]))
          | fail)
        go_ret
        exact ⟨ret_bool hres.out.symm, hBr.trans (hb1.mono hBr.size)⟩
      · have hs' := Lib.hid (decide_eq_false (show ¬ (m : Int) < (x.t.size : Int) by omega))
        have hn2 : Hid (∀ y ∈ l.take (k + 1), ¬ m < y.t.size) := Lib.hid fun y hy => by
          rw [List.take_add_one, Hx.out] at hy
          rcases List.mem_append.1 hy with hy | hy
          · exact Hn.out y hy
          · simp at hy; subst hy; exact hs
        clear hs
        go_wp2_with (first
          | (go_at_call 13; (with_reducible refine HG.out.mono ?_); go_must (rintro e w1 ⟨rfl, hb1⟩; rw [hs'.out]))
          | fail)
        go_roundw
        case rel => exact ⟨k + 1, by omega, by go_num, hBr.trans (hb1.mono hBr.size), hn2⟩
        case measure => simp [intOf]; omega
    · obtain rfl : k = l.length := by omega
      have hres : Hid (largeB m l = decide ((l.length : Int) > 60)) := Lib.hid (by
        have hn := Hn.out
        rw [List.take_length] at hn
        unfold largeB
        rw [show (l.any fun x => decide (m < x.t.size)) = false from List.any_eq_false.2 fun x hx => by simpa using hn x hx, Bool.false_or, Bool.eq_iff_iff]
        simp
        omega)
      go_wp2
      go_ret
      exact ⟨ret_bool hres.out.symm, hBr⟩
end Go.Proofs.Ytdeegdndfblnkaa

namespace Go.Proofs.Ytdeegdndfblnkaa
open Go.RowKit Go.Shelf
set_option maxRecDepth 100000

/-- A term of memory of its own; the row of its arguments is the call's own. -/
def OwnRow (t : Tm) (w : World) (v : Value) (w' : World) : Prop := ∃ l, l.map Ti.t = t.args ∧ RowT w' w.heap.size v l (Apart w.heap.size v w')
def RGetPost (l : List Bd) (v : Int) (w : World) (e : Ending) (w' : World) : Prop := Below w.heap.size w w' ∧
  match findB l v with
  | none => e = .returned (.tuple #[.agg #[.int .i64 0, .slice none 0 0], .bool false])
  | some x => ∃ v4, e = .returned (.tuple #[.agg #[.int .i64 x.t.fn, v4], .bool true]) ∧ I64 x.t.fn ∧ OwnRow x.t w v4 w'

theorem rget_yes {l : List Bd} {v : Int} {x : Bd} {w w1 w2 : World} {v4 : Value} (hf : findB l v = some x) (hi : I64 x.t.fn) {b : Nat} (hb0 : w.heap.size ≤ b) (hb : b < w1.heap.size) (h1 : Below w.heap.size w w1) {l4 : List Ti} (hl : l4.map Ti.t = x.t.args) (hR : RowT w2 w1.heap.size v4 l4 (Apart w1.heap.size v4 w2)) (h2 : Below w1.heap.size w1 w2) :
    RGetPost l v w (.returned (.tuple #[.agg #[.int .i64 x.t.fn, v4], .bool true])) ((w2.setCell ⟨b, 0, none⟩ (.int .i64 x.t.fn)).setCell ⟨b, 1, none⟩ v4) := by
  have hoth : ∀ g, g ≠ b → ((w2.setCell ⟨b, 0, none⟩ (.int .i64 x.t.fn)).setCell ⟨b, 1, none⟩ v4).heap[g]? = w2.heap[g]? := fun g e => (heap_setCell_other _ _ _ _ e).trans (heap_setCell_other _ _ _ _ e)
  have hs := h1.size
  refine ⟨((h1.trans (h2.mono hs)).setCell (by show _ ≤ b; omega) _).setCell (by show _ ≤ b; omega) _, ?_⟩
  rw [hf]
  refine ⟨v4, rfl, hi, l4, hl, ?_⟩
  have hk := (hR.keep (fun g e => hoth g (by have := (row_lt hR.row g e).1; omega)) (fun g e => hoth g (by have := e.1; omega))).base (base' := w.heap.size) hs
  exact hk.wide fun g e => ⟨Nat.le_trans hs e.1, by have := e.2.1; simpa using this, e.2.2⟩

set_option maxHeartbeats 2000000 in
theorem refGet_any (l : List Bd) (v : Int) (A : Option Addr) (c : Nat) (w : World) (hsm : ∀ x ∈ l, x.t.size ≤ 4398046511104) (hA : Binds w (· < w.heap.size) A l) :
    Calls Try.prog 15 #[.slice A l.length c, .int .i64 v] w (RGetPost l v w) := by
  obtain ⟨W, hW⟩ : ∃ W, w.alloc (.cells #[.int .i64 0, .slice none 0 0] 31) = W := ⟨_, rfl⟩
  have hB : Below w.heap.size w W := by rw [← hW]; exact (Below.refl _ _).alloc (Nat.le_refl _) _
  have q0 := heap_alloc_new w (.cells #[.int .i64 0, .slice none 0 0] 31)
  rw [hW] at q0
  have hWs : w.heap.size < W.heap.size := (Array.getElem?_eq_some_iff.1 q0).1
  have hlen := hA.len
  have HA := Lib.hid hA
  have Hsm := Lib.hid hsm
  have HW := Lib.hid hW
  clear hA hW hsm
  go_enter Try.func15, Try.ntmps15
  go_upto_region 1 with fail
  rw [HW.out]
  go_wp2
  go_loopw [6] (fun i wr => ∃ k : Nat, k ≤ l.length ∧ i = .int .i64 (k : Int) ∧ wr = W ∧ Hid (∀ j, j < k → ∀ x, l[j]? = some x → ¬ x.v = v)) (fun i _ => l.length - (intOf i).toNat)
  case atStart => exact ⟨0, Nat.zero_le _, rfl, rfl, Lib.hid fun j hj => by omega⟩
  case round =>
    obtain ⟨k, hk, rfl, rfl, Hn⟩ := hrel
    by_cases hlt : k < l.length
    · obtain ⟨x, hx⟩ : ∃ x, l[k]? = some x := ⟨_, List.getElem?_eq_getElem hlt⟩
      obtain ⟨b, off, A', c', rfl, h⟩ := HA.out.get hx
      have e0 := cell_on hB h.hb h.c0
      have e1 := cell_on hB h.hb h.c1
      have e2 := cell_on hB h.hb h.c2
      have Hx := Lib.hid hx
      by_cases hv : x.v = v
      · have hfind : Hid (findB l v = some x) := Lib.hid (by
          unfold findB
          rw [List.find?_eq_some_iff_getElem]
          obtain ⟨h1, h2⟩ := List.getElem?_eq_some_iff.1 hx
          exact ⟨decide_eq_true hv, k, h1, h2, fun j hj => by have := Hn.out j hj _ (List.getElem?_eq_getElem (by omega)); simpa using this⟩)
        have hv' : ((x.v : Int) == v) = true := by simp [hv]
        have HC := Lib.hid (refCopy_any x.t (Hsm.out x (List.mem_of_getElem? hx)) A' c' wr h.it ((h.sub.keep fun g e => hB.block g e).args fun g e => Nat.lt_of_lt_of_le e hB.size))
        have hit := Lib.hid h.it
        clear hx h hv
        go_wp2_with (first
          | (go_at_call 49; (with_reducible refine HC.out.mono ?_); go_must (rintro e w2 ⟨v4, l4, rfl, hl4, hR4, hb4⟩; obtain ⟨Av, cv, hv4⟩ := row_own hR4.row; subst hv4; have hl4 := Lib.hid hl4; have hR4 := Lib.hid hR4; have y3 := (hb4.block _ hWs).trans q0; obtain ⟨d0, d1, g0, g1⟩ := cells_two y3))
          | fail)
        obtain ⟨z0, z1⟩ := set2_two (u := .int .i64 x.t.fn) (v := .slice Av l4.length cv) y3
        have k0 := (cells_two z0).1
        have k1 := (cells_two z1).2.1
        exact bodyPost_ret (v := .tuple #[.agg #[.int .i64 x.t.fn, .slice Av l4.length cv], .bool true]) (by simp [results, Try.results15, go_sem, k0, k1]) rfl (rget_yes hfind.out hit.out (Nat.le_refl _) hWs hB hl4.out hR4.out hb4)
      · have hv' : ((x.v : Int) == v) = false := by simp [hv]
        clear hx h
        go_wp2
        go_roundw
        case rel => exact ⟨k + 1, by omega, by go_num, trivial, Lib.hid fun j hj y hy => by
          rcases Nat.lt_or_ge j k with h | h
          · exact Hn.out j h y hy
          · obtain rfl : j = k := by omega
            rw [Hx.out] at hy; injection hy with hy; rw [← hy]; exact hv⟩
        case measure => simp [intOf]; omega
    · obtain rfl : k = l.length := by omega
      have hfind : Hid (findB l v = none) := Lib.hid (findB_none fun i y hy => Hn.out i (List.getElem?_eq_some_iff.1 hy).1 y hy)
      obtain ⟨a0, a1, f0, f1⟩ := cells_two q0
      go_wp2
      obtain ⟨z0, z1⟩ := set2_two (u := .int .i64 0) (v := .slice none 0 0) q0
      have k0 := (cells_two z0).1
      have k1 := (cells_two z1).2.1
      refine bodyPost_ret (v := .tuple #[.agg #[.int .i64 0, .slice none 0 0], .bool false]) (by simp [results, Try.results15, go_sem, k0, k1]) rfl ⟨(hB.setCell (by show _ ≤ w.heap.size; omega) _).setCell (by show _ ≤ w.heap.size; omega) _, ?_⟩
      rw [hfind.out]
end Go.Proofs.Ytdeegdndfblnkaa
