import Derived.Test.YtglfjmbclimeeaaP35Z2
import Derived.Test.YtglfjmbclimeeaaP35Z1
import Derived.Deep.DeepCutAuto
import Derived.RangeFuncBox
import Derived.Laws.EntriesVeiled
import Derived.Lib.SlicesCompact
import Derived.Maps.OwnSet
import Derived.WideMake
import Derived.Deep.RegionLaw
import Derived.Deep.OwnRows
import Derived.WalkMore
import Derived.Deep.LoopGhost
/- The document's own answers: itself, Check, Same of substitutions. -/

namespace Go.Proofs.Ytglfjmbclimeeaa

open Go.RowKit Go.Shelf
set_option maxRecDepth 100000

theorem refItself_any (t : Tm) (v : Int) (A : Option Addr) (c : Nat) (w : World) (hv : I64 v) :
    Calls Try.prog 47 #[.agg #[.int .i64 t.fn, .slice A t.args.length c], .int .i64 v] w fun e w' => e = .returned (.bool (decide (selfB ⟨v, t⟩))) ∧ Below w.heap.size w w' := by
  have hWB : Below w.heap.size w (w.alloc (.cells #[.int .i64 t.fn, .slice A t.args.length c] 31)) := (Below.refl _ _).alloc (Nat.le_refl _) _
  have hlo := hv.1
  have hhi := hv.2
  by_cases h1 : t.fn = -1 - v
  · go_enter Try.func47, Try.ntmps47
    go_wp2
    go_ret
    exact ⟨ret_bool (by rw [Bool.eq_iff_iff, beq_iff_eq, decide_eq_true_iff]; unfold selfB; exact ⟨fun h => ⟨h1, by show t.args.length = 0; omega⟩, fun h => by have h2 : t.args.length = 0 := h.2; omega⟩), by rwa [h1] at hWB⟩
  · go_enter Try.func47, Try.ntmps47
    go_wp2
    go_ret
    exact ⟨ret_bool (by unfold selfB; simp [h1]), hWB⟩

theorem refItself_bd (x : Bd) (A : Option Addr) (c : Nat) (w : World) (hv : I64 x.v) :
    Calls Try.prog 47 #[.agg #[.int .i64 x.t.fn, .slice A x.t.args.length c], .int .i64 x.v] w fun e w' => e = .returned (.bool (decide (selfB x))) ∧ Below w.heap.size w w' :=
  refItself_any x.t x.v A c w hv

set_option maxHeartbeats 2000000 in
theorem refCheck_any (l : List Bd) (A : Option Addr) (c : Nat) (w : World) (hl : l.length ≤ 9223372036854775806) (hA : Binds w (· < w.heap.size) A l) :
    Calls Try.prog 26 #[.slice A l.length c] w fun e w' => e = .returned (.int .i64 (chkN l)) ∧ Below w.heap.size w w' := by
  have HA := Lib.hid hA
  have HI0 := Lib.hid (ChkI.start l)
  clear hA
  go_enter Try.func26, Try.ntmps26
  go_wp2
  go_loopw [3] (fun i wr => ∃ (k : Nat) (lo : Int), k ≤ l.length ∧ i = .int .i64 (k : Int) ∧ Below w.heap.size w wr ∧ Hid (ChkI l k lo)) (fun i _ => l.length - (intOf i).toNat)
  case atStart => exact ⟨0, _, Nat.zero_le _, rfl, Below.refl _ _, HI0⟩
  case round =>
    obtain ⟨k, lo, hk, rfl, hBr, H⟩ := hrel
    by_cases hlt : k < l.length
    · obtain ⟨x, hx⟩ : ∃ x, l[k]? = some x := ⟨_, List.getElem?_eq_getElem hlt⟩
      obtain ⟨b, off, A', c', rfl, h⟩ := HA.out.get hx
      have e0 := cell_on hBr h.hb h.c0
      have e1 := cell_on hBr h.hb h.c1
      have e2 := cell_on hBr h.hb h.c2
      have hiv := h.iv
      have hbw : b < w.heap.size := h.hb
      have Hx := Lib.hid hx
      clear hx
      have hge := H.out.ge
      have hkl : (k : Int) < (l.length : Int) := by omega
      go_upto_region 4 with fail
      have r0 : ∀ x' : Later wr.heap.size wr, x'.w.cell? ⟨b, off + k * 3, none⟩ = some (.int .i64 x.v) := fun x' => cell_on (hBr.trans (x'.h.mono hBr.size)) h.hb h.c0
      have r1 : ∀ x' : Later wr.heap.size wr, x'.w.cell? ⟨b, off + k * 3 + 1, none⟩ = some (.int .i64 x.t.fn) := fun x' => cell_on (hBr.trans (x'.h.mono hBr.size)) h.hb h.c1
      have r2 : ∀ x' : Later wr.heap.size wr, x'.w.cell? ⟨b, off + k * 3 + 2, none⟩ = some (.slice A' x.t.args.length c') := fun x' => cell_on (hBr.trans (x'.h.mono hBr.size)) h.hb h.c2
      by_cases hneg : x.v < 0
      · have hres := Lib.hid (chkN_no (H.out.low Hx.out (by omega)))
        refine wp_region_later wr.heap.size wr (by kernel_rfl) (by kernel_rfl) (bl_drewN (Below.refl _ _) 1) ?_
        repeat (go_big_quiet_step (fail))
        refine wpQuiet_nil ?_
        rintro _ ⟨y, rfl⟩
        have hBz := hBr.trans (y.h.mono hBr.size)
        go_wp2
        go_ret
        exact ⟨ret_int hres.out.symm, hBz⟩
      · have hneg' : decide (x.v < 0) = false := decide_eq_false hneg
        rcases k with _ | m
        · have hlo := H.out.first rfl
          subst hlo
          have hk0 : decide (((0 : Nat) : Int) > 0) = false := by decide
          by_cases hs : selfB x
          · have hres := Lib.hid (chkN_no (H.out.self Hx.out hs))
            have hs' := decide_eq_true hs
            simp only [Nat.zero_mul, Nat.add_zero] at *
            refine wp_region_later wr.heap.size wr (by kernel_rfl) (by kernel_rfl) (bl_drewN (Below.refl _ _) 1) ?_
            repeat (go_big_quiet_step (first | (go_at_call 47; exact calls_later _ (Nat.le_refl _) (refItself_bd x A' c' _ hiv)) | fail))
            refine wpQuiet_nil ?_
            rintro _ ⟨y, rfl⟩
            have hBz := hBr.trans (y.h.mono hBr.size)
            go_wp2
            go_ret
            exact ⟨ret_int hres.out.symm, hBz⟩
          · have hnext := Lib.hid (H.out.next Hx.out (by omega) hs)
            have hs' := decide_eq_false hs
            simp only [Nat.zero_mul, Nat.add_zero] at *
            refine wp_region_later wr.heap.size wr (by kernel_rfl) (by kernel_rfl) (bl_drewN (Below.refl _ _) 1) ?_
            repeat (go_big_quiet_step (first | (go_at_call 47; exact calls_later _ (Nat.le_refl _) (refItself_bd x A' c' _ hiv)) | fail))
            refine wpQuiet_nil ?_
            rintro _ ⟨y, rfl⟩
            have hBz := hBr.trans (y.h.mono hBr.size)
            go_wp2
            go_roundw
            case rel => exact ⟨_, x.v, hlt, by go_num, hBz, hnext⟩
            case measure => simp [intOf]; omega
        · obtain ⟨y0, hy⟩ : ∃ y, l[m]? = some y := ⟨_, List.getElem?_eq_getElem (by omega)⟩
          obtain ⟨bb, off2, A2, c2, e, h2⟩ := HA.out.get hy
          injection e with e
          injection e with e1 e2 _
          subst e1; subst e2
          have hlo := H.out.last m y0 rfl hy
          have s0 : ∀ x' : Later wr.heap.size wr, x'.w.cell? ⟨b, off + m * 3, none⟩ = some (.int .i64 y0.v) := fun x' => cell_on (hBr.trans (x'.h.mono hBr.size)) h2.hb h2.c0
          have f0 : IntKind.i64.wrap (((m + 1 : Nat) : Int) - 1) = (m : Int) := by rw [IntKind.wrap_i64]; omega
          have f1 : decide (((m + 1 : Nat) : Int) > 0) = true := decide_eq_true (by omega)
          have f2 : (m : Int) < (l.length : Int) := by omega
          have f4 : (0 : Int) ≤ (m : Int) := by omega
          have f3 : (m : Int).toNat = m := by omega
          clear hy h2
          by_cases hle : x.v ≤ y0.v
          · have hres := Lib.hid (chkN_no (H.out.low Hx.out (by omega)))
            have hle' := decide_eq_true hle
            clear hlo
            refine wp_region_later wr.heap.size wr (by kernel_rfl) (by kernel_rfl) (bl_drewN (Below.refl _ _) 1) ?_
            repeat (go_big_quiet_step (first | (go_at_call 47; exact calls_later _ (Nat.le_refl _) (refItself_bd x A' c' _ hiv)) | fail))
            refine wpQuiet_nil ?_
            rintro _ ⟨y, rfl⟩
            have hBz := hBr.trans (y.h.mono hBr.size)
            go_wp2
            go_ret
            exact ⟨ret_int hres.out.symm, hBz⟩
          · have hle' := decide_eq_false hle
            have hlt2 : lo < x.v := by omega
            clear hlo
            by_cases hs : selfB x
            · have hres := Lib.hid (chkN_no (H.out.self Hx.out hs))
              have hs' := decide_eq_true hs
              refine wp_region_later wr.heap.size wr (by kernel_rfl) (by kernel_rfl) (bl_drewN (Below.refl _ _) 1) ?_
              repeat (go_big_quiet_step (first | (go_at_call 47; exact calls_later _ (Nat.le_refl _) (refItself_bd x A' c' _ hiv)) | fail))
              refine wpQuiet_nil ?_
              rintro _ ⟨y, rfl⟩
              have hBz := hBr.trans (y.h.mono hBr.size)
              go_wp2
              go_ret
              exact ⟨ret_int hres.out.symm, hBz⟩
            · have hnext := Lib.hid (H.out.next Hx.out hlt2 hs)
              have hs' := decide_eq_false hs
              refine wp_region_later wr.heap.size wr (by kernel_rfl) (by kernel_rfl) (bl_drewN (Below.refl _ _) 1) ?_
              repeat (go_big_quiet_step (first | (go_at_call 47; exact calls_later _ (Nat.le_refl _) (refItself_bd x A' c' _ hiv)) | fail))
              refine wpQuiet_nil ?_
              rintro _ ⟨y, rfl⟩
              have hBz := hBr.trans (y.h.mono hBr.size)
              go_wp2
              go_roundw
              case rel => exact ⟨_, x.v, hlt, by go_num, hBz, hnext⟩
              case measure => simp [intOf]; omega
    · obtain rfl : k = l.length := by omega
      have hd := Lib.hid (chkN_yes (H.out.done (Nat.le_refl _)))
      go_wp2
      go_ret
      exact ⟨ret_int hd.out.symm, hBr⟩

end Go.Proofs.Ytglfjmbclimeeaa

/- The document's own answer: Same of substitutions; great, large. great, large. The document's own answer: Get. -/

namespace Go.Proofs.Ytglfjmbclimeeaa

open Go.RowKit Go.Shelf
set_option maxRecDepth 100000

/-- Two substitutions, bind by bind. -/
def sameB : List Bd → List Bd → Bool
  | [], [] => true
  | x :: xs, y :: ys => decide (x.v = y.v) && (decide (cmpT x.t y.t = 0) && sameB xs ys)
  | _, _ => false

theorem sameB_len : ∀ {a b : List Bd}, sameB a b = true → a.length = b.length
  | [], [], _ => rfl
  | [], _ :: _, h => by simp [sameB] at h
  | _ :: _, [], h => by simp [sameB] at h
  | x :: xs, y :: ys, h => by
    simp only [sameB, Bool.and_eq_true] at h
    have := sameB_len h.2.2
    simp only [List.length_cons]; omega

theorem sameB_refl : ∀ a : List Bd, sameB a a = true
  | [] => rfl
  | x :: xs => by simp only [sameB, Bool.and_eq_true, decide_eq_true_eq]; exact ⟨trivial, cmp_refl _, sameB_refl xs⟩

structure SameI (a b : List Bd) (k : Nat) : Prop where
  len : a.length = b.length
  rest : sameB (a.drop k) (b.drop k) = sameB a b

section

variable {a b : List Bd} {k : Nat} {x y : Bd}

theorem SameI.cons (h : SameI a b k) (hx : a[k]? = some x) (hy : b[k]? = some y) : sameB a b = (decide (x.v = y.v) && (decide (cmpT x.t y.t = 0) && sameB (a.drop (k + 1)) (b.drop (k + 1)))) := by
  obtain ⟨h1, hx'⟩ := List.getElem?_eq_some_iff.1 hx
  obtain ⟨h2, hy'⟩ := List.getElem?_eq_some_iff.1 hy
  rw [← h.rest, List.drop_eq_getElem_cons h1, List.drop_eq_getElem_cons h2, hx', hy']
  rfl

theorem SameI.start (h : a.length = b.length) : SameI a b 0 := ⟨h, rfl⟩

theorem SameI.done (h : SameI a b k) (hk : a.length ≤ k) : sameB a b = true := by
  rw [← h.rest, List.drop_eq_nil_of_le hk, List.drop_eq_nil_of_le (by rw [← h.len]; exact hk)]; rfl

theorem SameI.no1 (h : SameI a b k) (hx : a[k]? = some x) (hy : b[k]? = some y) (hn : ¬ x.v = y.v) : sameB a b = false := by rw [h.cons hx hy, decide_eq_false hn]; rfl

theorem SameI.no2 (h : SameI a b k) (hx : a[k]? = some x) (hy : b[k]? = some y) (hn : ¬ cmpT x.t y.t = 0) : sameB a b = false := by rw [h.cons hx hy, decide_eq_false hn]; simp

theorem SameI.next (h : SameI a b k) (hx : a[k]? = some x) (hy : b[k]? = some y) (h1 : x.v = y.v) (h2 : cmpT x.t y.t = 0) : SameI a b (k + 1) := ⟨h.len, by rw [h.cons hx hy, decide_eq_true h1, decide_eq_true h2]; rfl⟩

end

set_option maxHeartbeats 2000000 in
theorem refSubSame_any (la lb : List Bd) (A A2 : Option Addr) (c c2 : Nat) (w : World) (hA : Binds w (· < w.heap.size) A la) (hA2 : Binds w (· < w.heap.size) A2 lb) :
    Calls Try.prog 17 #[.slice A la.length c, .slice A2 lb.length c2] w fun e w' => e = .returned (.bool (sameB la lb)) ∧ Below w.heap.size w w' := by
  have hl1 := hA.len
  have hl2 := hA2.len
  by_cases hlen : la.length = lb.length
  · have HA := Lib.hid hA
    have HA2 := Lib.hid hA2
    have HI0 := Lib.hid (SameI.start hlen)
    have HL := Lib.hid hlen
    have hne : ((la.length : Int) != (lb.length : Int)) = false := by rw [hlen]; simp
    clear hA hA2 hlen
    go_enter Try.func17, Try.ntmps17
    go_wp2
    go_loopw [5] (fun i wr => ∃ k : Nat, k ≤ la.length ∧ i = .int .i64 (k : Int) ∧ Below w.heap.size w wr ∧ Hid (SameI la lb k)) (fun i _ => la.length - (intOf i).toNat)
    case atStart => exact ⟨0, Nat.zero_le _, rfl, Below.refl _ _, HI0⟩
    case round =>
      obtain ⟨k, hk, rfl, hBr, H⟩ := hrel
      by_cases hlt : k < la.length
      · obtain ⟨x, hx⟩ : ∃ x, la[k]? = some x := ⟨_, List.getElem?_eq_getElem hlt⟩
        obtain ⟨y, hy⟩ : ∃ y, lb[k]? = some y := ⟨_, List.getElem?_eq_getElem (by have := HL.out; omega)⟩
        obtain ⟨b, off, A', c', rfl, h⟩ := HA.out.get hx
        obtain ⟨b2, off2, A2', c2', rfl, h2⟩ := HA2.out.get hy
        have hB : ∀ x' : Later wr.heap.size wr, Below w.heap.size w x'.w := fun x' => hBr.trans (x'.h.mono hBr.size)
        have r0 : ∀ x' : Later wr.heap.size wr, x'.w.cell? ⟨b, off + k * 3, none⟩ = some (.int .i64 x.v) := fun x' => cell_on (hB x') h.hb h.c0
        have r1 : ∀ x' : Later wr.heap.size wr, x'.w.cell? ⟨b, off + k * 3 + 1, none⟩ = some (.int .i64 x.t.fn) := fun x' => cell_on (hB x') h.hb h.c1
        have r2 : ∀ x' : Later wr.heap.size wr, x'.w.cell? ⟨b, off + k * 3 + 1 + 1, none⟩ = some (.slice A' x.t.args.length c') := fun x' => cell_on (hB x') h.hb h.c2
        have r3 : ∀ x' : Later wr.heap.size wr, x'.w.cell? ⟨b2, off2 + k * 3, none⟩ = some (.int .i64 y.v) := fun x' => cell_on (hB x') h2.hb h2.c0
        have r4 : ∀ x' : Later wr.heap.size wr, x'.w.cell? ⟨b2, off2 + k * 3 + 1, none⟩ = some (.int .i64 y.t.fn) := fun x' => cell_on (hB x') h2.hb h2.c1
        have r5 : ∀ x' : Later wr.heap.size wr, x'.w.cell? ⟨b2, off2 + k * 3 + 1 + 1, none⟩ = some (.slice A2' y.t.args.length c2') := fun x' => cell_on (hB x') h2.hb h2.c2
        have hsame : ∀ x' : Later wr.heap.size wr, Calls Try.prog 27 #[.agg #[.int .i64 x.t.fn, .slice A' x.t.args.length c'], .agg #[.int .i64 y.t.fn, .slice A2' y.t.args.length c2']] x'.w fun e w' => e = .returned (.bool (decide (cmpT x.t y.t = 0))) ∧ Below x'.w.heap.size x'.w w' := fun x' =>
          ref2Same_any' x.t y.t A' A2' c' c2' x'.w h.it h2.it ((h.sub.keep fun g e => (hB x').block g e).args fun g e => Nat.lt_of_lt_of_le e (hB x').size) ((h2.sub.keep fun g e => (hB x').block g e).args fun g e => Nat.lt_of_lt_of_le e (hB x').size)
        have hsame := Lib.hid hsame
        have Hx := Lib.hid hx
        have Hy := Lib.hid hy
        have hkl : (k : Int) < (la.length : Int) := by omega
        have hkl2 : (k : Int) < (lb.length : Int) := by have := HL.out; omega
        clear hx hy h h2 hB
        by_cases hv : x.v = y.v
        · have hv' : ((x.v : Int) != y.v) = false := by simp [hv]
          by_cases hc : cmpT x.t y.t = 0
          · have hc' := decide_eq_true hc
            have hnx := Lib.hid (H.out.next Hx.out Hy.out hv hc)
            clear hv hc
            go_upto_region 6 with fail
            refine wp_region_later wr.heap.size wr (by kernel_rfl) (by kernel_rfl) (bl_drewN (Below.refl _ _) 1) ?_
            repeat (go_big_quiet_step (first | (go_at_call 27; exact calls_later _ (Nat.le_refl _) (hsame.out _)) | fail))
            refine wpQuiet_nil ?_
            rintro _ ⟨z, rfl⟩
            have hBz := hBr.trans (z.h.mono hBr.size)
            go_wp2
            go_roundw
            case rel => exact ⟨k + 1, by omega, by go_num, hBz, hnx⟩
            case measure => simp [intOf]; omega
          · have hc' := decide_eq_false hc
            have hres := Lib.hid (H.out.no2 Hx.out Hy.out hc)
            clear hv hc
            go_upto_region 6 with fail
            refine wp_region_later wr.heap.size wr (by kernel_rfl) (by kernel_rfl) (bl_drewN (Below.refl _ _) 1) ?_
            repeat (go_big_quiet_step (first | (go_at_call 27; exact calls_later _ (Nat.le_refl _) (hsame.out _)) | fail))
            refine wpQuiet_nil ?_
            rintro _ ⟨z, rfl⟩
            have hBz := hBr.trans (z.h.mono hBr.size)
            go_wp2
            go_ret
            exact ⟨ret_bool hres.out.symm, hBz⟩
        · have hv' : ((x.v : Int) != y.v) = true := by simp [hv]
          have hres := Lib.hid (H.out.no1 Hx.out Hy.out hv)
          clear hv
          go_upto_region 6 with fail
          refine wp_region_later wr.heap.size wr (by kernel_rfl) (by kernel_rfl) (bl_drewN (Below.refl _ _) 1) ?_
          repeat (go_big_quiet_step (fail))
          refine wpQuiet_nil ?_
          rintro _ ⟨z, rfl⟩
          have hBz := hBr.trans (z.h.mono hBr.size)
          go_wp2
          go_ret
          exact ⟨ret_bool hres.out.symm, hBz⟩
      · obtain rfl : k = la.length := by omega
        have hres := Lib.hid (H.out.done (Nat.le_refl _))
        have hkl2 : ¬ (la.length : Int) < (la.length : Int) := by omega
        go_wp2
        go_ret
        exact ⟨ret_bool hres.out.symm, hBr⟩
  · have hne : ((la.length : Int) != (lb.length : Int)) = true := by
      simp only [bne_iff_ne, ne_eq]; omega
    have hres : Hid (sameB la lb = false) := Lib.hid (by
      rcases h : sameB la lb with _ | _
      · rfl
      · exact absurd (sameB_len h) hlen)
    clear hlen hA hA2
    go_enter Try.func17, Try.ntmps17
    go_wp2
    go_ret
    exact ⟨ret_bool hres.out.symm, Below.refl _ _⟩

end Go.Proofs.Ytglfjmbclimeeaa

namespace Go.Proofs.Ytglfjmbclimeeaa

open Go.RowKit Go.Shelf
set_option maxRecDepth 100000

/-- Has one of the terms more than m parts, or are there more than 60 binds? -/
def largeB (m : Nat) (l : List Bd) : Bool := (l.any fun x => decide (m < x.t.size)) || decide (60 < l.length)

theorem largeB_small {m : Nat} {l : List Bd} (h : largeB m l = false) : l.length ≤ 60 ∧ ∀ x ∈ l, x.t.size ≤ m := by
  unfold largeB at h
  simp only [Bool.or_eq_false_iff, List.any_eq_false, decide_eq_false_iff_not, decide_eq_true_eq] at h
  exact ⟨by omega, fun x hx => by have := h.1 x hx; omega⟩

end Go.Proofs.Ytglfjmbclimeeaa

namespace Go.Proofs.Ytglfjmbclimeeaa

open Go.RowKit Go.Shelf
set_option maxRecDepth 100000

/-- A term of memory of its own; the row of its arguments is the call's own. -/
def OwnRow (t : Tm) (w : World) (v : Value) (w' : World) : Prop := ∃ l, l.map Ti.t = t.args ∧ RowT w' w.heap.size v l (Apart w.heap.size v w')

def RGetPost (l : List Bd) (v : Int) (w : World) (e : Ending) (w' : World) : Prop := Below w.heap.size w w' ∧
  match findB l v with
  | none => e = .returned (.tuple #[.agg #[.int .i64 0, .slice none 0 0], .bool false])
  | some x => ∃ v4, e = .returned (.tuple #[.agg #[.int .i64 x.t.fn, v4], .bool true]) ∧ I64 x.t.fn ∧ OwnRow x.t w v4 w'

theorem rget_yes {l : List Bd} {v : Int} {x : Bd} {w w1 w2 : World} {v4 : Value} (hf : findB l v = some x) (hi : I64 x.t.fn) {b : Nat} (hb0 : w.heap.size ≤ b) (hb : b < w1.heap.size) (h1 : Below w.heap.size w w1) {l4 : List Ti} (hl : l4.map Ti.t = x.t.args) (hR : RowT w2 w1.heap.size v4 l4 (Apart w1.heap.size v4 w2)) (h2 : Below w1.heap.size w1 w2) :
    RGetPost l v w (.returned (.tuple #[.agg #[.int .i64 x.t.fn, v4], .bool true])) ((w2.setCell ⟨b, 0, none⟩ (.int .i64 x.t.fn)).setCell ⟨b, 1, none⟩ v4) := by
  have hoth : ∀ g, g ≠ b → ((w2.setCell ⟨b, 0, none⟩ (.int .i64 x.t.fn)).setCell ⟨b, 1, none⟩ v4).heap[g]? = w2.heap[g]? := fun g e => (heap_setCell_other _ _ _ _ e).trans (heap_setCell_other _ _ _ _ e)
  have hs := h1.size
  refine ⟨((h1.trans (h2.mono hs)).setCell (by show _ ≤ b; omega) _).setCell (by show _ ≤ b; omega) _, ?_⟩
  rw [hf]
  refine ⟨v4, rfl, hi, l4, hl, ?_⟩
  have hk := (hR.keep (fun g e => hoth g (by have := (row_lt hR.row g e).1; omega)) (fun g e => hoth g (by have := e.1; omega))).base (base' := w.heap.size) hs
  exact hk.wide fun g e => ⟨Nat.le_trans hs e.1, by have := e.2.1; simpa using this, e.2.2⟩

set_option maxHeartbeats 2000000 in
theorem refGet_any (l : List Bd) (v : Int) (A : Option Addr) (c : Nat) (w : World) (hsm : ∀ x ∈ l, x.t.size ≤ 4398046511104) (hA : Binds w (· < w.heap.size) A l) :
    Calls Try.prog 51 #[.slice A l.length c, .int .i64 v] w (RGetPost l v w) := by
  obtain ⟨W, hW⟩ : ∃ W, w.alloc (.cells #[.int .i64 0, .slice none 0 0] 31) = W := ⟨_, rfl⟩
  have hB : Below w.heap.size w W := by rw [← hW]; exact (Below.refl _ _).alloc (Nat.le_refl _) _
  have q0 := heap_alloc_new w (.cells #[.int .i64 0, .slice none 0 0] 31)
  rw [hW] at q0
  have hWs : w.heap.size < W.heap.size := (Array.getElem?_eq_some_iff.1 q0).1
  have hlen := hA.len
  have HA := Lib.hid hA
  have Hsm := Lib.hid hsm
  have HW := Lib.hid hW
  clear hA hW hsm
  go_enter Try.func51, Try.ntmps51
  go_upto_region 1 with fail
  rw [HW.out]
  go_wp2
  go_loopw [6] (fun i wr => ∃ k : Nat, k ≤ l.length ∧ i = .int .i64 (k : Int) ∧ wr = W ∧ Hid (∀ j, j < k → ∀ x, l[j]? = some x → ¬ x.v = v)) (fun i _ => l.length - (intOf i).toNat)
  case atStart => exact ⟨0, Nat.zero_le _, rfl, rfl, Lib.hid fun j hj => by omega⟩
  case round =>
    obtain ⟨k, hk, rfl, rfl, Hn⟩ := hrel
    by_cases hlt : k < l.length
    · obtain ⟨x, hx⟩ : ∃ x, l[k]? = some x := ⟨_, List.getElem?_eq_getElem hlt⟩
      obtain ⟨b, off, A', c', rfl, h⟩ := HA.out.get hx
      have e0 := cell_on hB h.hb h.c0
      have e1 := cell_on hB h.hb h.c1
      have e2 := cell_on hB h.hb h.c2
      have Hx := Lib.hid hx
      by_cases hv : x.v = v
      · have hfind : Hid (findB l v = some x) := Lib.hid (by
          unfold findB
          rw [List.find?_eq_some_iff_getElem]
          obtain ⟨h1, h2⟩ := List.getElem?_eq_some_iff.1 hx
          exact ⟨decide_eq_true hv, k, h1, h2, fun j hj => by have := Hn.out j hj _ (List.getElem?_eq_getElem (by omega)); simpa using this⟩)
        have hv' : ((x.v : Int) == v) = true := by simp [hv]
        have HC := Lib.hid (refCopy_any x.t (Hsm.out x (List.mem_of_getElem? hx)) A' c' wr h.it ((h.sub.keep fun g e => hB.block g e).args fun g e => Nat.lt_of_lt_of_le e hB.size))
        have hit := Lib.hid h.it
        clear hx h hv
        go_wp2_with (first
          | (go_at_call 43; (with_reducible refine HC.out.mono ?_); go_must (rintro e w2 ⟨v4, l4, rfl, hl4, hR4, hb4⟩; obtain ⟨Av, cv, hv4⟩ := row_own hR4.row; subst hv4; have hl4 := Lib.hid hl4; have hR4 := Lib.hid hR4; have y3 := (hb4.block _ hWs).trans q0; obtain ⟨d0, d1, g0, g1⟩ := cells_two y3))
          | fail)
        obtain ⟨z0, z1⟩ := set2_two (u := .int .i64 x.t.fn) (v := .slice Av l4.length cv) y3
        have k0 := (cells_two z0).1
        have k1 := (cells_two z1).2.1
        exact bodyPost_ret (v := .tuple #[.agg #[.int .i64 x.t.fn, .slice Av l4.length cv], .bool true]) (by simp [results, Try.results51, go_sem, k0, k1]) rfl (rget_yes hfind.out hit.out (Nat.le_refl _) hWs hB hl4.out hR4.out hb4)
      · have hv' : ((x.v : Int) == v) = false := by simp [hv]
        clear hx h
        go_wp2
        go_roundw
        case rel => exact ⟨k + 1, by omega, by go_num, trivial, Lib.hid fun j hj y hy => by
          rcases Nat.lt_or_ge j k with h | h
          · exact Hn.out j h y hy
          · obtain rfl : j = k := by omega
            rw [Hx.out] at hy; injection hy with hy; rw [← hy]; exact hv⟩
        case measure => simp [intOf]; omega
    · obtain rfl : k = l.length := by omega
      have hfind : Hid (findB l v = none) := Lib.hid (findB_none fun i y hy => Hn.out i (List.getElem?_eq_some_iff.1 hy).1 y hy)
      obtain ⟨a0, a1, f0, f1⟩ := cells_two q0
      go_wp2
      obtain ⟨z0, z1⟩ := set2_two (u := .int .i64 0) (v := .slice none 0 0) q0
      have k0 := (cells_two z0).1
      have k1 := (cells_two z1).2.1
      refine bodyPost_ret (v := .tuple #[.agg #[.int .i64 0, .slice none 0 0], .bool false]) (by simp [results, Try.results51, go_sem, k0, k1]) rfl ⟨(hB.setCell (by show _ ≤ w.heap.size; omega) _).setCell (by show _ ≤ w.heap.size; omega) _, ?_⟩
      rw [hfind.out]

end Go.Proofs.Ytglfjmbclimeeaa

/- Same of substitutions; plain, plainIn. plain, plainIn: no variable has arguments. -/

namespace Go.Proofs.Ytglfjmbclimeeaa

open Go.RowKit Go.Shelf
set_option maxRecDepth 100000

end Go.Proofs.Ytglfjmbclimeeaa

namespace Go.Proofs.Ytglfjmbclimeeaa

open Go.RowKit Go.Shelf
set_option maxRecDepth 100000

mutual
/-- No variable has arguments. -/
def plainT : Tm → Bool
  | .node f xs => plainL xs && (decide (0 ≤ f) || decide (xs.length = 0))
def plainL : List Tm → Bool
  | [] => true
  | t :: ts => plainT t && plainL ts
end

theorem plainL_eq : ∀ xs : List Tm, plainL xs = xs.all plainT
  | [] => by simp only [plainL, List.all_nil]
  | t :: ts => by simp only [plainL, plainL_eq ts, List.all_cons]

end Go.Proofs.Ytglfjmbclimeeaa

/- match: in plain words: what the document's own matcher binds, and the program's walk. -/

namespace Go.Proofs.Ytglfjmbclimeeaa

open Go.RowKit
set_option maxRecDepth 100000

mutual
/-- The document's: p is to become u, under what is bound. -/
def mtT : Tm → List Bd → Tm → Option (List Bd)
  | .node f xs, M, u => if f < 0 then (match findB M (-1 - f) with | some x => if cmpT x.t u = 0 then some M else none | none => some (M ++ [⟨-1 - f, u⟩])) else if f = u.fn ∧ xs.length = u.args.length then mtL xs M u.args else none
def mtL : List Tm → List Bd → List Tm → Option (List Bd)
  | [], M, _ => some M
  | t :: ts, M, us => match us with
    | [] => some M
    | u :: us => (mtT t M u).bind fun M' => mtL ts M' us
end

mutual
/-- The program's. -/
def wkT : Tm → List Bd → Tm → Option (List Bd)
  | .node f xs, M, u => if f < 0 then (if xs.length = 0 then (match findB M (-1 - f) with | some x => if cmpT x.t u = 0 then some M else none | none => if plainT u = true then some (M ++ [⟨-1 - f, u⟩]) else none) else none) else if f = u.fn ∧ xs.length = u.args.length then wkL xs M u.args else none
def wkL : List Tm → List Bd → List Tm → Option (List Bd)
  | [], M, _ => some M
  | t :: ts, M, us => match us with
    | [] => some M
    | u :: us => (wkT t M u).bind fun M' => wkL ts M' us
end

/-- A variable, bound. -/
def bndM (M : List Bd) (v : Int) (u : Tm) : Option (List Bd) := match findB M v with
  | some x => if cmpT x.t u = 0 then some M else none
  | none => if plainT u = true then some (M ++ [⟨v, u⟩]) else none

theorem wkT_var {f : Int} {xs : List Tm} (hf : f < 0) (M : List Bd) (u : Tm) : wkT (.node f xs) M u = if xs.length = 0 then bndM M (-1 - f) u else none := by
  simp only [wkT, if_pos hf]; rfl

theorem wkT_sym {f : Int} {xs : List Tm} (hf : ¬ f < 0) (M : List Bd) (u : Tm) : wkT (.node f xs) M u = if f = u.fn ∧ xs.length = u.args.length then wkL xs M u.args else none := by
  simp only [wkT, if_neg hf]

theorem mtT_var {f : Int} {xs : List Tm} (hf : f < 0) (M : List Bd) (u : Tm) : mtT (.node f xs) M u = match findB M (-1 - f) with | some x => if cmpT x.t u = 0 then some M else none | none => some (M ++ [⟨-1 - f, u⟩]) := by
  simp only [mtT, if_pos hf]

theorem mtT_sym {f : Int} {xs : List Tm} (hf : ¬ f < 0) (M : List Bd) (u : Tm) : mtT (.node f xs) M u = if f = u.fn ∧ xs.length = u.args.length then mtL xs M u.args else none := by
  simp only [mtT, if_neg hf]

/-- A row of pairs, one behind the other. -/
def wkS : List (Tm × Tm) → List Bd → Option (List Bd)
  | [], M => some M
  | p :: s, M => (wkT p.1 M p.2).bind (wkS s)

theorem wkS_zip : ∀ (xs us : List Tm) (M : List Bd), wkL xs M us = wkS (xs.zip us) M
  | [], us, M => by simp only [wkL, List.zip_nil_left, wkS]
  | x :: xs, [], M => by simp only [wkL, List.zip_nil_right, wkS]
  | x :: xs, u :: us, M => by
    simp only [wkL, List.zip_cons_cons, wkS]
    congr 1
    funext M'
    exact wkS_zip xs us M'

theorem wkS_app : ∀ (a b : List (Tm × Tm)) (M : List Bd), wkS (a ++ b) M = (wkS a M).bind (wkS b)
  | [], b, M => by simp only [List.nil_append, wkS, Option.bind_some]
  | p :: a, b, M => by
    simp only [List.cons_append, wkS, Option.bind_assoc]
    congr 1
    funext M'
    exact wkS_app a b M'

theorem wkS_one (p u : Tm) (M : List Bd) : wkS [(p, u)] M = wkT p M u := by
  simp only [wkS]
  rcases wkT p M u with _ | M' <;> rfl

theorem wkS_node {f : Int} {xs : List Tm} {u : Tm} (hf : ¬ f < 0) (h1 : f = u.fn) (h2 : xs.length = u.args.length) (s : List (Tm × Tm)) (M : List Bd) : wkS ((.node f xs, u) :: s) M = wkS (xs.zip u.args ++ s) M := by
  rw [wkS_app, ← wkS_zip]
  simp only [wkS]
  rw [wkT_sym hf, if_pos ⟨h1, h2⟩]

theorem wkS_bad {f : Int} {xs : List Tm} {u : Tm} (hf : ¬ f < 0) (h : ¬ (f = u.fn ∧ xs.length = u.args.length)) (s : List (Tm × Tm)) (M : List Bd) : wkS ((.node f xs, u) :: s) M = none := by
  simp only [wkS]
  rw [wkT_sym hf, if_neg h]; rfl

/-- All that is bound is plain, each variable once. -/
structure MOk (M : List Bd) : Prop where
  plain : ∀ x ∈ M, plainT x.t = true
  nd : M.Pairwise fun x y => x.v ≠ y.v
  ge : ∀ x ∈ M, 0 ≤ x.v

theorem MOk.nil_ : MOk [] := ⟨fun x hx => by simp at hx, .nil, fun x hx => by simp at hx⟩

theorem MOk.push {M : List Bd} (h : MOk M) {v : Int} {u : Tm} (hv : 0 ≤ v) (hf : findB M v = none) (hu : plainT u = true) : MOk (M ++ [⟨v, u⟩]) := by
  refine ⟨fun x hx => ?_, ?_, fun x hx => ?_⟩
  · rcases List.mem_append.1 hx with hx | hx
    · exact h.plain x hx
    · simp at hx; subst hx; exact hu
  · rw [List.pairwise_append]
    refine ⟨h.nd, List.pairwise_singleton _ _, fun x hx y hy => ?_⟩
    simp at hy; subst hy
    unfold findB at hf
    rw [List.find?_eq_none] at hf
    simpa using hf x hx
  · rcases List.mem_append.1 hx with hx | hx
    · exact h.ge x hx
    · simp at hx; subst hx; exact hv

theorem MOk.take {M : List Bd} (h : MOk M) (n : Nat) : MOk (M.take n) := ⟨fun x hx => h.plain x (List.mem_of_mem_take hx), h.nd.sublist (List.take_sublist _ _), fun x hx => h.ge x (List.mem_of_mem_take hx)⟩

theorem findB_mem {M : List Bd} {v : Int} {x : Bd} (h : findB M v = some x) : x ∈ M ∧ x.v = v := ⟨List.mem_of_find?_eq_some h, by have := List.find?_some h; simpa using this⟩

/-- What the program's walk makes: as the document's, of plain terms. -/
structure WkR (p : Tm) (M : List Bd) (u : Tm) : Prop where
  eq : wkT p M u = if plainT p = true ∧ plainT u = true then mtT p M u else none
  ext : ∀ M', wkT p M u = some M' → MOk M' ∧ (∃ E, M' = M ++ E) ∧ M'.length ≤ M.length + p.size

theorem wk_mt (p : Tm) : ∀ (M : List Bd) (u : Tm), MOk M → WkR p M u := by
  refine Tm.ind (P := fun p => ∀ (M : List Bd) (u : Tm), MOk M → WkR p M u) (fun f xs ih => ?_) p
  intro M u hM
  by_cases hf : f < 0
  · by_cases hx : xs.length = 0
    · obtain rfl := List.eq_nil_of_length_eq_zero hx
      have hp : plainT (.node f []) = true := by simp [plainT, plainL]
      have hs : (Tm.node f []).size = 1 := by simp [Tm.size, sizes]
      rcases hb : findB M (-1 - f) with _ | x
      · refine ⟨?_, fun M' h => ?_⟩
        · rw [wkT_var hf, if_pos hx, mtT_var hf, hp]
          unfold bndM
          rw [hb]
          rcases hu : plainT u with _ | _ <;> simp
        · rw [wkT_var hf, if_pos hx] at h
          unfold bndM at h
          rw [hb] at h
          simp only at h
          split at h
          · rename_i hu
            injection h with h; subst h
            exact ⟨hM.push (by omega) hb hu, ⟨_, rfl⟩, by rw [List.length_append, hs]; simp⟩
          · cases h
      · have hxp := hM.plain x (findB_mem hb).1
        refine ⟨?_, fun M' h => ?_⟩
        · rw [wkT_var hf, if_pos hx, mtT_var hf, hp]
          unfold bndM
          rw [hb]
          by_cases hc : cmpT x.t u = 0
          · have hu : plainT u = true := by rw [← cmp_zero_iff.1 hc]; exact hxp
            simp [hc, hu]
          · simp [hc]
        · rw [wkT_var hf, if_pos hx] at h
          unfold bndM at h
          rw [hb] at h
          simp only at h
          split at h
          · injection h with h; subst h
            exact ⟨hM, ⟨[], by simp⟩, by omega⟩
          · cases h
    · have hp : plainT (.node f xs) = false := by
        rw [plainT, decide_eq_false (by omega), decide_eq_false hx]; simp
      have hn : wkT (.node f xs) M u = none := by rw [wkT_var hf, if_neg hx]
      refine ⟨?_, fun M' h => ?_⟩
      · rw [hn, hp]; simp
      · rw [hn] at h; cases h
  · have key : ∀ (ys us : List Tm) (M : List Bd), (∀ t ∈ ys, t ∈ xs) → ys.length = us.length → MOk M →
        (wkL ys M us = if ys.all plainT = true ∧ us.all plainT = true then mtL ys M us else none) ∧ (∀ M', wkL ys M us = some M' → MOk M' ∧ (∃ E, M' = M ++ E) ∧ M'.length ≤ M.length + sizes ys) := by
      intro ys
      induction ys with
      | nil =>
        intro us M _ hl hM
        obtain rfl := List.eq_nil_of_length_eq_zero hl.symm
        refine ⟨by simp [wkL, mtL], fun M' h => ?_⟩
        simp only [wkL] at h
        injection h with h; subst h
        exact ⟨hM, ⟨[], by simp⟩, by omega⟩
      | cons y ys ihy =>
        intro us M hsub hl hM
        rcases us with _ | ⟨u, us⟩
        · simp at hl
        · have hr := ih y (hsub y (by simp)) M u hM
          have hl' : ys.length = us.length := by simpa using hl
          refine ⟨?_, fun M' h => ?_⟩
          · simp only [wkL, mtL, List.all_cons]
            rw [hr.eq]
            by_cases hp : plainT y = true ∧ plainT u = true
            · rw [if_pos hp]
              rcases hm : mtT y M u with _ | M1
              · simp
              · have hw : wkT y M u = some M1 := by rw [hr.eq, if_pos hp, hm]
                have h1 := (ihy us M1 (fun t ht => hsub t (by simp [ht])) hl' (hr.ext M1 hw).1).1
                simp only [Option.bind_some]
                rw [h1]
                simp only [hp.1, hp.2, Bool.true_and]
            · rw [if_neg hp]
              simp only [Option.bind_none]
              refine (if_neg ?_).symm
              rintro ⟨h1, h2⟩
              rw [Bool.and_eq_true] at h1 h2
              exact hp ⟨h1.1, h2.1⟩
          · simp only [wkL] at h
            rcases hw : wkT y M u with _ | M1
            · rw [hw] at h; cases h
            · rw [hw] at h
              obtain ⟨h1, ⟨E, rfl⟩, h3⟩ := hr.ext M1 hw
              obtain ⟨h4, ⟨E2, rfl⟩, h6⟩ := (ihy us _ (fun t ht => hsub t (by simp [ht])) hl' h1).2 M' h
              exact ⟨h4, ⟨E ++ E2, by simp⟩, by simp only [sizes]; omega⟩
    by_cases hc : f = u.fn ∧ xs.length = u.args.length
    · obtain ⟨h1, h2⟩ := key xs u.args M (fun t h => h) hc.2 hM
      have hp : plainT (.node f xs) = xs.all plainT := by rw [plainT, plainL_eq, decide_eq_true (show (0 : Int) ≤ f by omega)]; simp
      have hu : plainT u = u.args.all plainT := by
        obtain ⟨g, us⟩ := u
        have hc1 : f = g := hc.1
        rw [plainT, plainL_eq, decide_eq_true (show (0 : Int) ≤ g by omega)]; simp [Tm.args]
      refine ⟨?_, fun M' h => ?_⟩
      · rw [wkT_sym hf, if_pos hc, mtT_sym hf, if_pos hc, h1, hp, hu]
      · rw [wkT_sym hf, if_pos hc] at h
        obtain ⟨h3, h4, h5⟩ := h2 M' h
        exact ⟨h3, h4, by simp only [Tm.size]; omega⟩
    · have hn : wkT (.node f xs) M u = none := by rw [wkT_sym hf, if_neg hc]
      refine ⟨?_, fun M' h => ?_⟩
      · rw [hn, mtT_sym hf, if_neg hc]; simp
      · rw [hn] at h; cases h

/-- Term: what is bound behind it, and whether it matched. -/
def trmM (M : List Bd) (p u : Tm) : List Bd := (wkT p M u).getD M

def trmB (M : List Bd) (p u : Tm) : Bool := (wkT p M u).isSome

/-- Does the pattern match the term? Are two terms variants? -/
def matB (p u : Tm) : Bool := (wkT p [] u).isSome

def varB (a b : Tm) : Bool := matB a b && matB b a

/-- Sizes of patterns, together. -/
def stkN (s : List (Tm × Tm)) : Nat := sizes (s.map Prod.fst)

theorem sizes_app : ∀ (xs ys : List Tm), sizes (xs ++ ys) = sizes xs + sizes ys
  | [], ys => by simp [sizes]
  | x :: xs, ys => by simp only [List.cons_append, sizes, sizes_app xs ys]; omega

theorem zip_fst : ∀ (xs us : List Tm), xs.length = us.length → (xs.zip us).map Prod.fst = xs
  | [], _, _ => by simp
  | x :: xs, [], h => by simp at h
  | x :: xs, u :: us, h => by simp only [List.zip_cons_cons, List.map_cons]; rw [zip_fst xs us (by simpa using h)]

theorem stk_app (a b : List (Tm × Tm)) : stkN (a ++ b) = stkN a + stkN b := by unfold stkN; rw [List.map_append, sizes_app]

theorem stk_cons (p u : Tm) (s : List (Tm × Tm)) : stkN ((p, u) :: s) = p.size + stkN s := by unfold stkN; simp only [List.map_cons, sizes]

theorem stk_zip {xs us : List Tm} (h : xs.length = us.length) : stkN (xs.zip us) = sizes xs := by unfold stkN; rw [zip_fst xs us h]

end Go.Proofs.Ytglfjmbclimeeaa

/- rows of numbers in memory -/

namespace Go.Proofs.Ytglfjmbclimeeaa

open Go.RowKit Go.Shelf
set_option maxRecDepth 100000
set_option maxRecDepth 100000

/-- The slice v is the call's own; it holds the numbers. -/
structure IntsR (w : World) (base : Nat) (v : Value) (l : List Int) : Prop where
  row : w.ownsRow base 3 1 v l.length (l.map (Value.int .i64))
  i64 : ∀ x ∈ l, I64 x

theorem IntsR.get {w : World} {base : Nat} {v : Value} {l : List Int} (h : IntsR w base v l) {i : Nat} {x : Int} (hx : l[i]? = some x) : ∃ g c, v = .slice (some ⟨g, 0, none⟩) l.length c ∧ g < w.heap.size ∧ w.cell? ⟨g, i, none⟩ = some (.int .i64 x) := by
  have hlt := (List.getElem?_eq_some_iff.1 hx).1
  rcases h.row.2 with ⟨_, h0⟩ | ⟨g, cap, cur, rfl, hb, hg, _⟩
  · omega
  · refine ⟨g, cap, rfl, (Array.getElem?_eq_some_iff.1 hg).1, ?_⟩
    rw [h.row.cellAt i (by simpa using hlt)]
    simp [hx]

theorem IntsR.on {w w' : World} {base : Nat} {v : Value} {l : List Int} (h : IntsR w base v l) (hb : Below w.heap.size w w') : IntsR w' base v l := ⟨row_keep h.row fun g e => hb.block g (row_lt h.row g e).2, h.i64⟩

theorem row_slice {W : World} {base n : Nat} {e : TypeId} {size : Nat} {v : Value} {vs : List Value} (h : W.ownsRow base e size v n vs) : ∃ A c, v = .slice A n c := by
  rcases h.2 with ⟨hv, h0⟩ | ⟨g, cap, cur, hv, _⟩
  · exact ⟨none, 0, by rw [hv, h0]⟩
  · exact ⟨_, cap, hv⟩

theorem frozen_9 {W : World} {b : Nat} {cs : Array Value} {t : TypeId} (h : W.heap[b]? = some (.cells cs t)) (o : Nat) : W.frozen? ⟨b, o, none⟩ = false := by simp [World.frozen?, h]

theorem info_int : (Try.prog.info? 3).map (fun i => (i.zero, i.size, i.bytes)) = some (some (.int .i64 0), 1, 8) := by kernel_rfl

end Go.Proofs.Ytglfjmbclimeeaa

/- rows of numbers that grow by a term -/

namespace Go.Proofs.Ytglfjmbclimeeaa

open Go.RowKit Go.Shelf
set_option maxRecDepth 100000
set_option maxRecDepth 100000

/-- The row that has grown: nothing else has turned. -/
structure OrdW (base : Nat) (v : Value) (w : World) (v' : Value) (l : List Int) (w' : World) : Prop where
  row : IntsR w' base v' l
  gr : w.grownBy w' v.ownBlock
  own : ∀ g, v'.ownBlock = some g → v.ownBlock = some g ∨ w.heap.size ≤ g

theorem ord_app {base : Nat} {v v5 : Value} {w wr w5 : World} {l : List Int} {x : Int} {o : Obj} (h : IntsR w base v l) (hb : Below w.heap.size w wr) (hx : I64 x) (hown : w5.ownsRow base 3 1 v5 (l.length + 1) (l.map (Value.int .i64) ++ [.int .i64 x])) (hgr : (wr.alloc o).grownBy w5 v.ownBlock) (hat : v5.ownBlock = v.ownBlock ∨ v5.ownBlock = some (wr.alloc o).heap.size) : OrdW base v w v5 (l ++ [x]) w5 := by
  have hs := hb.size
  have hs5 := hgr.size
  have hsz : wr.heap.size + 1 ≤ w5.heap.size := by simpa using hs5
  refine ⟨⟨by simpa using hown, fun y hy => ?_⟩, ⟨hgr.os.trans hb.os, hgr.tape.trans hb.tape, hgr.output.trans hb.output, by omega, fun g hg hn => ?_⟩, fun g e => ?_⟩
  · rcases List.mem_append.1 hy with hy | hy
    · exact h.i64 y hy
    · simp at hy; subst hy; exact hx
  · exact (hgr.block g (by simp; omega) hn).trans ((Below.heap_alloc wr o g (by omega)).trans (hb.block g hg))
  · rcases hat with h' | h'
    · rw [h'] at e; exact .inl e
    · rw [h'] at e; injection e with e; simp at e; exact .inr (by omega)

end Go.Proofs.Ytglfjmbclimeeaa

/- walk; Size. -/

namespace Go.Proofs.Ytglfjmbclimeeaa

open Go.RowKit Go.Shelf
attribute [local go_sem] Oper.semAt_some
set_option maxRecDepth 100000

end Go.Proofs.Ytglfjmbclimeeaa

/- Size. -/

namespace Go.Proofs.Ytglfjmbclimeeaa

open Go.RowKit Go.Shelf
attribute [local go_sem] Oper.semAt_some
set_option maxRecDepth 100000

theorem vis_len (t : Tm) : ∀ p, (vis p t).length = t.size := by
  have key : ∀ xs : List Tm, (∀ t ∈ xs, ∀ p, (vis p t).length = t.size) → ∀ (p : List Int) (i : Nat), (visL p i xs).length = sizes xs := by
    intro xs
    induction xs with
    | nil => intro _ p i; simp [visL, sizes]
    | cons x xs ih =>
      intro h p i
      simp only [visL, sizes, List.length_append, h x (by simp), ih (fun t ht => h t (by simp [ht]))]
  refine Tm.ind (P := fun t => ∀ p, (vis p t).length = t.size) (fun f xs ih p => ?_) t
  simp only [vis, Tm.size, List.length_cons, key xs ih]

theorem pre_len {t : Tm} {pre : List Vis} (h : pre.map Vis.key <+: vis [] t) : pre.length ≤ t.size := by
  have := h.length_le
  rw [vis_len, List.length_map] at this
  exact this

/-- What a range's record turns, where a body's cells are asked. -/
theorem put_block {W : World} {l g : Nat} {r : Loop} {o : Obj} {cs : Array Value} {t : TypeId} {z : Nat × Nat} (h : W.heap[g]? = some (.cells cs t z)) (hl : W.heap[l]? = some (.loop r)) : (W.putObj l o).heap[g]? = some (.cells cs t z) :=
  (World.putObj_heap_other (fun e => by subst e; rw [h] at hl; cases hl)).trans h

end Go.Proofs.Ytglfjmbclimeeaa

/- Depth, Ground. Ground. Rising rows of numbers, in plain words: sorted and made single, or put in one after the other. -/

namespace Go.Proofs.Ytglfjmbclimeeaa

open Go.RowKit Go.Shelf

attribute [local go_sem] Oper.semAt_some
set_option maxRecDepth 100000

/-- The longest place of these, and one more. -/
def maxP : List (List Int × Tm) → Nat
  | [] => 0
  | x :: l => max (1 + x.1.length) (maxP l)

theorem maxP_app : ∀ (a b : List (List Int × Tm)), maxP (a ++ b) = max (maxP a) (maxP b)
  | [], b => by simp [maxP]
  | x :: a, b => by simp only [List.cons_append, maxP, maxP_app a b]; omega

theorem maxP_vis (t : Tm) : ∀ p, maxP (vis p t) = p.length + t.depth := by
  have key : ∀ xs : List Tm, (∀ t ∈ xs, ∀ p, maxP (vis p t) = p.length + t.depth) → ∀ (p : List Int) (i : Nat), maxP (visL p i xs) = if xs = [] then 0 else p.length + 1 + depths xs := by
    intro xs
    induction xs with
    | nil => intro _ p i; simp [visL, maxP]
    | cons x xs ih =>
      intro h p i
      have h1 := h x (by simp) (p ++ [(i : Int)])
      have h2 := ih (fun t ht => h t (by simp [ht])) p (i + 1)
      simp only [visL, maxP_app, h1, h2, depths, List.length_append, List.length_cons, List.length_nil]
      rw [if_neg (show ¬ (x :: xs = []) by simp)]
      have := depth_pos x
      by_cases e : xs = []
      · rw [if_pos e, e]; simp only [depths]; omega
      · rw [if_neg e]; omega
  refine Tm.ind (P := fun t => ∀ p, maxP (vis p t) = p.length + t.depth) (fun f xs ih p => ?_) t
  simp only [vis, Tm.depth, maxP, key xs ih]
  by_cases e : xs = []
  · rw [if_pos e, e]; simp only [depths]; omega
  · rw [if_neg e]; omega

theorem maxP_mem {l : List (List Int × Tm)} {x : List Int × Tm} (h : x ∈ l) : 1 + x.1.length ≤ maxP l := by
  induction l with
  | nil => simp at h
  | cons y l ih =>
    simp only [List.mem_cons] at h
    simp only [maxP]
    rcases h with rfl | h
    · omega
    · have := ih h; omega

theorem maxP_pre {t : Tm} {pre : List Vis} (h : pre.map Vis.key <+: vis [] t) : maxP (pre.map Vis.key) ≤ maxP (vis [] t) := by
  obtain ⟨r, hr⟩ := h
  rw [← hr, maxP_app]; omega

theorem pre_mem {t : Tm} {pre : List Vis} {x : Vis} (h : (pre ++ [x]).map Vis.key <+: vis [] t) : x.key ∈ vis [] t := h.subset (by simp)

end Go.Proofs.Ytglfjmbclimeeaa

namespace Go.Proofs.Ytglfjmbclimeeaa

open Go.RowKit Go.Shelf

attribute [local go_sem] Oper.semAt_some
set_option maxRecDepth 100000

/-- The variables' numbers that stand in these, in order. -/
def vnums : List (List Int × Tm) → List Int
  | [] => []
  | x :: l => if x.2.fn < 0 then (-1 - x.2.fn) :: vnums l else vnums l

theorem vnums_app : ∀ (a b : List (List Int × Tm)), vnums (a ++ b) = vnums a ++ vnums b
  | [], b => by simp [vnums]
  | x :: a, b => by
    simp only [List.cons_append, vnums, vnums_app a b]
    split <;> simp

theorem vnums_snoc_neg {pre : List Vis} {x : Vis} (h : x.t.fn < 0) : vnums ((pre ++ [x]).map Vis.key) = vnums (pre.map Vis.key) ++ [-1 - x.t.fn] := by
  rw [List.map_append, vnums_app]
  simp only [List.map_cons, List.map_nil, vnums, Vis.key, if_pos h]

theorem vnums_snoc_pos {pre : List Vis} {x : Vis} (h : ¬ x.t.fn < 0) : vnums ((pre ++ [x]).map Vis.key) = vnums (pre.map Vis.key) := by
  rw [List.map_append, vnums_app]
  simp only [List.map_cons, List.map_nil, vnums, Vis.key, if_neg h, List.append_nil]

theorem vnums_pre {t : Tm} {pre : List Vis} (h : pre.map Vis.key <+: vis [] t) : vnums (pre.map Vis.key) <+: vnums (vis [] t) := by
  obtain ⟨r, hr⟩ := h
  rw [← hr, vnums_app]
  exact List.prefix_append _ _

theorem stp_alloc {N P : Nat → Prop} (W : World) (o : Obj) (hN : ∀ g, N g → g < W.heap.size) : Stp N (fun _ => P) W (W.alloc o) :=
  ⟨(Keeps.alloc W o).mono fun g hg => hg.elim (hN g) (fun e => e.1), fun _ e => .inl e⟩

end Go.Proofs.Ytglfjmbclimeeaa

namespace Go.Proofs.Ytglfjmbclimeeaa

open Go.RowKit

mutual
/-- The variables' numbers in a term, in order. -/
def vn : Tm → List Int
  | .node f xs => (if f < 0 then [-1 - f] else []) ++ vnL xs
def vnL : List Tm → List Int
  | [] => []
  | t :: ts => vn t ++ vnL ts
end

theorem vnums_vis (t : Tm) : ∀ p, vnums (vis p t) = vn t := by
  have key : ∀ xs : List Tm, (∀ t ∈ xs, ∀ p, vnums (vis p t) = vn t) → ∀ (p : List Int) (i : Nat), vnums (visL p i xs) = vnL xs := by
    intro xs
    induction xs with
    | nil => intro _ p i; simp [visL, vnums, vnL]
    | cons x xs ih =>
      intro h p i
      simp only [visL, vnL, vnums_app, h x (by simp), ih (fun t ht => h t (by simp [ht]))]
  refine Tm.ind (P := fun t => ∀ p, vnums (vis p t) = vn t) (fun f xs ih p => ?_) t
  simp only [vis, vn, vnums, key xs ih, Tm.fn]
  split <;> simp

theorem vnL_app : ∀ (a b : List Tm), vnL (a ++ b) = vnL a ++ vnL b
  | [], b => by simp [vnL]
  | x :: a, b => by simp only [List.cons_append, vnL, vnL_app a b, List.append_assoc]

theorem vnL_take {xs : List Tm} {k : Nat} {u : Tm} (h : xs[k]? = some u) : vnL (xs.take (k + 1)) = vnL (xs.take k) ++ vn u := by
  rw [List.take_add_one, h, vnL_app]
  simp [vnL]

theorem vn_len (t : Tm) : (vn t).length ≤ t.size := by
  have key : ∀ xs : List Tm, (∀ t ∈ xs, (vn t).length ≤ t.size) → (vnL xs).length ≤ sizes xs := by
    intro xs
    induction xs with
    | nil => intro _; simp [vnL]
    | cons x xs ih =>
      intro h
      have h1 := h x (by simp)
      have h2 := ih fun t ht => h t (by simp [ht])
      simp only [vnL, sizes, List.length_append]
      omega
  refine Tm.ind (P := fun t => (vn t).length ≤ t.size) (fun f xs ih => ?_) t
  have := key xs ih
  simp only [vn, Tm.size, List.length_append]
  split <;> simp <;> omega

/-- One number put into a row, from a place on: none, if it stands there. -/
def insGo (v : Int) : List Int → Bool → List Int → Option (List Int)
  | [], done, out => some (if done then out else out ++ [v])
  | x :: r, done, out => if x = v then none else if v < x ∧ done = false then insGo v r true (out ++ [v] ++ [x]) else insGo v r done (out ++ [x])

def insI (l : List Int) (v : Int) : List Int := (insGo v l false []).getD l

theorem insGo_true (v : Int) : ∀ (r out : List Int), v ∉ r → insGo v r true out = some (out ++ r)
  | [], out, _ => by simp [insGo]
  | x :: r, out, h => by
    simp only [List.mem_cons, not_or] at h
    simp only [insGo, if_neg (show ¬ x = v from fun e => h.1 e.symm)]
    rw [if_neg (by simp), insGo_true v r _ h.2]
    simp

theorem insGo_mem (v : Int) : ∀ (r : List Int) (d : Bool) (out : List Int), v ∈ r → insGo v r d out = none
  | x :: r, d, out, h => by
    simp only [insGo]
    by_cases e : x = v
    · rw [if_pos e]
    · rw [if_neg e]
      have h2 : v ∈ r := by
        rcases List.mem_cons.1 h with h | h
        · exact absurd h.symm e
        · exact h
      split
      · exact insGo_mem v r _ _ h2
      · exact insGo_mem v r _ _ h2

theorem insGo_false (v : Int) : ∀ (r out : List Int), r.Pairwise (· < ·) → v ∉ r → ∃ a b, r = a ++ b ∧ insGo v r false out = some (out ++ a ++ v :: b) ∧ (∀ x ∈ a, x < v) ∧ ∀ x ∈ b, v < x
  | [], out, _, _ => ⟨[], [], rfl, by simp [insGo], by simp, by simp⟩
  | x :: r, out, hp, h => by
    simp only [List.mem_cons, not_or] at h
    rw [List.pairwise_cons] at hp
    have hne : ¬ x = v := fun e => h.1 e.symm
    by_cases hx : v < x
    · refine ⟨[], x :: r, rfl, ?_, by simp, fun y hy => ?_⟩
      · simp only [insGo, if_neg hne]
        rw [if_pos ⟨hx, by trivial⟩, insGo_true v r _ h.2]
        simp
      · rcases List.mem_cons.1 hy with rfl | hy
        · exact hx
        · have := hp.1 y hy; omega
    · obtain ⟨a, b, e1, e2, e3, e4⟩ := insGo_false v r (out ++ [x]) hp.2 h.2
      refine ⟨x :: a, b, by rw [e1]; rfl, ?_, fun y hy => ?_, e4⟩
      · simp only [insGo, if_neg hne]
        rw [if_neg (by omega), e2]
        simp
      · rcases List.mem_cons.1 hy with rfl | hy
        · omega
        · exact e3 y hy

theorem insI_rise {l : List Int} (v : Int) (h : l.Pairwise (· < ·)) : (insI l v).Pairwise (· < ·) ∧ ∀ x, x ∈ insI l v ↔ x ∈ l ∨ x = v := by
  unfold insI
  by_cases hv : v ∈ l
  · rw [insGo_mem v l _ _ hv]
    refine ⟨h, fun x => ⟨.inl, fun e => e.elim id fun e => by rw [e]; exact hv⟩⟩
  · obtain ⟨a, b, e1, e2, e3, e4⟩ := insGo_false v l [] h hv
    rw [e2]
    simp only [Option.getD_some, List.nil_append]
    rw [e1] at h
    obtain ⟨ha, hb, hab⟩ := List.pairwise_append.1 h
    refine ⟨List.pairwise_append.2 ⟨ha, List.pairwise_cons.2 ⟨e4, hb⟩, fun x hx y hy => ?_⟩, fun x => ?_⟩
    · rcases List.mem_cons.1 hy with rfl | hy
      · exact e3 x hx
      · exact hab x hx y hy
    · rw [e1]
      simp only [List.mem_append, List.mem_cons]
      constructor
      · rintro (h | h | h)
        · exact .inl (.inl h)
        · exact .inr h
        · exact .inl (.inr h)
      · rintro ((h | h) | h)
        · exact .inl h
        · exact .inr (.inr h)
        · exact .inr (.inl h)

theorem insI_fold : ∀ (r l : List Int), l.Pairwise (· < ·) → (r.foldl insI l).Pairwise (· < ·) ∧ ∀ x, x ∈ r.foldl insI l ↔ x ∈ l ∨ x ∈ r
  | [], l, h => ⟨h, fun x => by simp⟩
  | v :: r, l, h => by
    obtain ⟨h1, h2⟩ := insI_rise v h
    obtain ⟨h3, h4⟩ := insI_fold r (insI l v) h1
    refine ⟨h3, fun x => ?_⟩
    rw [List.foldl_cons, h4, h2]
    simp only [List.mem_cons]
    constructor
    · rintro ((h | h) | h)
      · exact .inl h
      · exact .inr (.inl h)
      · exact .inr (.inr h)
    · rintro (h | h | h)
      · exact .inl (.inl h)
      · exact .inl (.inr h)
      · exact .inr h

/-- Rising rows of the same numbers are the same. -/
theorem rise_eq : ∀ {a b : List Int}, a.Pairwise (· < ·) → b.Pairwise (· < ·) → (∀ x, x ∈ a ↔ x ∈ b) → a = b
  | [], [], _, _, _ => rfl
  | [], y :: b, _, _, h => absurd ((h y).2 (by simp)) (by simp)
  | x :: a, [], _, _, h => absurd ((h x).1 (by simp)) (by simp)
  | x :: a, y :: b, ha, hb, h => by
    rw [List.pairwise_cons] at ha hb
    have e : x = y := by
      have h1 := (h x).1 (by simp)
      have h2 := (h y).2 (by simp)
      rcases List.mem_cons.1 h1 with h1 | h1
      · exact h1
      · rcases List.mem_cons.1 h2 with h2 | h2
        · exact h2.symm
        · have := hb.1 x h1; have := ha.1 y h2; omega
    subst e
    rw [rise_eq ha.2 hb.2 fun z => ?_]
    constructor
    · intro hz
      rcases List.mem_cons.1 ((h z).1 (by simp [hz])) with e | e
      · have := ha.1 z hz; omega
      · exact e
    · intro hz
      rcases List.mem_cons.1 ((h z).2 (by simp [hz])) with e | e
      · have := hb.1 z hz; omega
      · exact e

open Go.Lib in

theorem comp_rise (d : Array Int) (hs : ∀ i j, i ≤ j → j < d.size → d[i]! ≤ d[j]!) : ∀ m, m ≤ d.size → (compactUpTo d m).Pairwise (· < ·) ∧ ∀ x, x ∈ compactUpTo d m ↔ ∃ j, j < m ∧ d[j]! = x
  | 0, _ => by simp [compactUpTo]
  | m + 1, hm => by
    obtain ⟨h1, h2⟩ := comp_rise d hs m (by omega)
    rw [compactUpTo_succ]
    by_cases hk : keeps d m = true
    · rw [if_pos hk]
      refine ⟨List.pairwise_append.2 ⟨h1, by simp, fun x hx y hy => ?_⟩, fun x => ?_⟩
      · simp only [List.mem_cons, List.not_mem_nil, or_false] at hy
        subst hy
        obtain ⟨j, hj, rfl⟩ := (h2 x).1 hx
        have h3 := hs j (m - 1) (by omega) (by omega)
        have h4 := hs (m - 1) m (by omega) (by omega)
        simp only [keeps, decide_eq_true_eq] at hk
        rcases hk with hk | hk
        · omega
        · omega
      · rw [List.mem_append, h2]
        simp only [List.mem_cons, List.not_mem_nil, or_false]
        constructor
        · rintro (⟨j, hj, e⟩ | rfl)
          · exact ⟨j, by omega, e⟩
          · exact ⟨m, by omega, rfl⟩
        · rintro ⟨j, hj, e⟩
          by_cases e2 : j = m
          · subst e2; exact .inr e.symm
          · exact .inl ⟨j, by omega, e⟩
    · rw [if_neg hk, List.append_nil]
      simp only [keeps, decide_eq_true_eq, not_or, ne_eq, Classical.not_not] at hk
      refine ⟨h1, fun x => ?_⟩
      rw [h2]
      constructor
      · rintro ⟨j, hj, e⟩; exact ⟨j, by omega, e⟩
      · rintro ⟨j, hj, e⟩
        by_cases e2 : j = m
        · subst e2; exact ⟨j - 1, by omega, by rw [← hk.2]; exact e⟩
        · exact ⟨j, by omega, e⟩

open Go.Lib in

/-- Sorted and made single, or put in one after the other: the same row. -/
theorem sort_ins (r : List Int) : compact (r.mergeSort fun x y => decide (x ≤ y)) = r.foldl insI [] := by
  have hp : (r.mergeSort fun x y => decide (x ≤ y)).Pairwise (fun x y => decide (x ≤ y) = true) := List.pairwise_mergeSort (fun a b c h1 h2 => by simp at *; omega) (fun a b => by simp; omega) r
  have hmem : ∀ x, x ∈ r.mergeSort (fun x y => decide (x ≤ y)) ↔ x ∈ r := fun x => List.mem_mergeSort
  generalize r.mergeSort (fun x y => decide (x ≤ y)) = z at hp hmem
  obtain ⟨h1, h2⟩ := insI_fold r [] List.Pairwise.nil
  obtain ⟨h3, h4⟩ := comp_rise z.toArray (fun i j hij hj => by
    have hj' : j < z.length := by simpa using hj
    have ei : z.toArray[i]! = z[i]'(by omega) := by rw [getElem!_pos _ i (by simpa using (by omega : i < z.length))]; simp
    have ej : z.toArray[j]! = z[j]'hj' := by rw [getElem!_pos _ j (by simpa using hj')]; simp
    rw [ei, ej]
    by_cases e : i = j
    · subst e; omega
    · have := List.pairwise_iff_getElem.1 hp i j (by omega) hj' (by omega)
      simpa using this) z.length (by simp)
  refine rise_eq h3 h1 fun x => ?_
  rw [show (x ∈ compact z ↔ x ∈ compactUpTo z.toArray z.length) from Iff.rfl, h4, h2, ← hmem]
  simp only [List.not_mem_nil, false_or]
  constructor
  · rintro ⟨j, hj, e⟩
    rw [getElem!_pos _ j (by simpa using hj)] at e
    rw [← e]
    simp
  · intro hx
    obtain ⟨j, hj, e⟩ := List.mem_iff_getElem.1 hx
    exact ⟨j, hj, by rw [getElem!_pos _ j (by simpa using hj)]; simpa using e⟩

end Go.Proofs.Ytglfjmbclimeeaa

/- The document's own answer: order (of variables). rename, again: the function that tells the numbers is asked for those of some variables alone. A map from variables to places, of the call's own: the function that numbers variables in the order in which they are met. -/

namespace Go.Proofs.Ytglfjmbclimeeaa

open Go.RowKit Go.Shelf
set_option maxRecDepth 100000

/-- A number is put behind those that are there, if it is not. -/
def ordI (l : List Int) (v : Int) : List Int := if v ∈ l then l else l ++ [v]

theorem ordI_len (l : List Int) (v : Int) : (ordI l v).length ≤ l.length + 1 := by
  unfold ordI
  split
  · omega
  · simp

theorem ord_len : ∀ (r l : List Int), (r.foldl ordI l).length ≤ l.length + r.length
  | [], l => by simp
  | v :: r, l => by
    have h1 := ord_len r (ordI l v)
    have h2 := ordI_len l v
    simp only [List.foldl_cons, List.length_cons]
    omega

theorem vnL_le' (xs : List Tm) (k : Nat) : (vnL (xs.take k)).length ≤ (vnL xs).length := by
  have := congrArg List.length (vnL_app (xs.take k) (xs.drop k))
  rw [List.take_append_drop, List.length_append] at this
  omega

theorem OrdW.refl {base : Nat} {v : Value} {w : World} {l : List Int} (h : IntsR w base v l) : OrdW base v w v l w := ⟨h, World.grownBy.refl w _, fun _ e => .inl e⟩

theorem OrdW.old {base : Nat} {v v' : Value} {w w' : World} {l : List Int} (h : OrdW base v w v' l w') {g : Nat} (hg : g < w.heap.size) (hn : v.ownBlock ≠ some g) : w'.heap[g]? = w.heap[g]? := h.gr.block g hg fun e => hn e.symm

theorem OrdW.step {base : Nat} {v v1 v2 : Value} {w w1 w2 : World} {l1 l2 : List Int} (h : OrdW base v w v1 l1 w1) (h2 : OrdW base v1 w1 v2 l2 w2) : OrdW base v w v2 l2 w2 := by
  have hs := h.gr.size
  refine ⟨h2.row, ⟨h2.gr.os.trans h.gr.os, h2.gr.tape.trans h.gr.tape, h2.gr.output.trans h.gr.output, Nat.le_trans hs h2.gr.size, fun g hg hn => ?_⟩, fun g e => ?_⟩
  · refine (h2.gr.block g (Nat.lt_of_lt_of_le hg hs) fun e => ?_).trans (h.gr.block g hg hn)
    rcases h.own g e.symm with h' | h'
    · exact hn h'.symm
    · omega
  · rcases h2.own g e with h' | h'
    · exact h.own g h'
    · exact .inr (by omega)

theorem OrdW.below {base : Nat} {v : Value} {w w1 : World} {l : List Int} (h : IntsR w base v l) (hb : Below w.heap.size w w1) : OrdW base v w v l w1 :=
  ⟨⟨row_keep h.row fun g e => hb.block g (row_lt h.row g e).2, h.i64⟩, ⟨hb.os, hb.tape, hb.output, hb.size, fun k hk _ => hb.block k hk⟩, fun _ e => .inl e⟩

def OrdPost (base : Nat) (v : Value) (l : List Int) (w : World) (e : Ending) (w' : World) : Prop := ∃ v', e = .returned v' ∧ OrdW base v w v' l w'

end Go.Proofs.Ytglfjmbclimeeaa

namespace Go.Proofs.Ytglfjmbclimeeaa

open Go.RowKit Go.Shelf
set_option maxRecDepth 100000

mutual
/-- Each variable in the term is one of V's. -/
def VT (V : Int → Prop) : Tm → Prop
  | .node f xs => (f < 0 → V (-1 - f)) ∧ VL V xs
def VL (V : Int → Prop) : List Tm → Prop
  | [] => True
  | t :: ts => VT V t ∧ VL V ts
end

theorem VL_mem {V : Int → Prop} : ∀ {xs : List Tm} {t : Tm}, VL V xs → t ∈ xs → VT V t
  | [], _, _, h => by simp at h
  | x :: xs, t, hv, h => by
    simp only [VL] at hv
    rcases List.mem_cons.1 h with rfl | h
    · exact hv.1
    · exact VL_mem hv.2 h

/-- What is asked of the function that tells the numbers. -/
structure NumV {σ : Type} (V : Int → Prop) (nx : σ → Int → σ × Int) (kn : FuncId) (nc : Array Value) (C D N : Nat → Prop) (I : σ → World → Prop) (B0 : Nat) : Prop where
  ent : ∀ (args : Array Value) (w : World), (callFunc kn args).run Try.prog w = .ok (.enter kn args) w
  call : ∀ (s : σ) (v : Int) (W : World), B0 ≤ W.heap.size → I s W → 0 ≤ v → v ≤ 9223372036854775807 → V v → Calls Try.prog kn (#[.int .i64 v] ++ nc) W fun e W' => e = .returned (.int .i64 (nx s v).2) ∧ I64 (nx s v).2 ∧ I (nx s v).1 W' ∧ KeepsC C W W'
  stay : ∀ s W W', I s W → Keeps D W W' → I s W'
  cb : ∀ g, C g → g < B0
  db : ∀ g, D g → g < B0
  nb : ∀ g, N g → g < B0
  nc : ∀ g, N g → ¬ C g

def RenVAt {σ : Type} (V : Int → Prop) (nx : σ → Int → σ × Int) (kn : FuncId) (nc : Array Value) (C N : Nat → Prop) (I : σ → World → Prop) (B0 : Nat) (t : Tm) : Prop :=
  t.size ≤ 4398046511104 → ∀ (s : σ) (A : Option Addr) (c : Nat) (w : World), B0 ≤ w.heap.size → I s w → I64 t.fn → VT V t → ArgsN w N A t.args →
    Calls Try.prog 56 #[.agg #[.int .i64 t.fn, .slice A t.args.length c], .func (.func kn) #[] nc] w (RenPost C I (renT nx s t) w)

section

variable {σ : Type} {V : Int → Prop} {nx : σ → Int → σ × Int} {kn : FuncId} {nc : Array Value} {C D N : Nat → Prop} {I : σ → World → Prop} {B0 : Nat}

set_option maxHeartbeats 1000000 in
theorem renameV1_any (hN : NumV V nx kn nc C D N I B0) (t : Tm) (hsz : t.size ≤ 4398046511104) (hrec : RenVAt V nx kn nc C N I B0 t) (s : σ) (A : Option Addr) (c bx : Nat) (W : World) (hB0 : B0 ≤ W.heap.size) (hb : Boxed W bx 84 (.func (.func kn) #[] nc)) (hs : I s W) (hf : I64 t.fn) (hV : VT V t) (hA : ArgsN W N A t.args) :
    Calls Try.prog 83 #[.agg #[.int .i64 t.fn, .slice A t.args.length c], .pointer (some ⟨bx, 0, none⟩)] W (RenPost C I (renT nx s t) W) := by
  obtain ⟨q0, q1⟩ := heap2 W (.cells #[.int .i64 t.fn, .slice A t.args.length c] 31) (.cells #[.int .i64 0, .slice none 0 0] 31)
  obtain ⟨W2, hW2⟩ : ∃ W2, ((W.alloc (.cells #[.int .i64 t.fn, .slice A t.args.length c] 31)).alloc (.cells #[.int .i64 0, .slice none 0 0] 31)) = W2 := ⟨_, rfl⟩
  have hB : Below W.heap.size W W2 := by rw [← hW2]; exact ((Below.refl _ _).alloc (Nat.le_refl _) _).alloc (by simp) _
  rw [hW2] at q0 q1
  have hWs : W.heap.size + 1 < W2.heap.size := (Array.getElem?_eq_some_iff.1 q1).1
  have hcb := Boxed.cell (show Boxed W2 bx _ _ from (hB.block _ hb.lt).trans hb)
  have hrec' := Lib.hid (hrec hsz s A c W2 (by omega) (hN.stay s W W2 hs ((Keeps.of_below hB).mono fun g e => by have := hN.db g e; show g < W.heap.size; omega)) hf hV (hA.keep fun g e => hB.block g (by have := hN.nb g e; omega)))
  have HW := Lib.hid hW2
  have HN := Lib.hid hN
  obtain ⟨a0, a1, _, _⟩ := cells_two q0
  clear hW2 hA hs hrec hN
  go_enter Try.func83, Try.ntmps83
  go_upto_region 1 with fail
  rw [HW.out]
  go_wp2_with (first
    | (go_at_call 56; refine hrec'.out.mono ?_; go_must (rintro e w3 ⟨A3, c3, rfl, hi3, hO3, hI3, hk3⟩; have y3 := (hk3.block hWs (fun e => by have := HN.out.cb _ e; omega)).trans q1; obtain ⟨b0, b1, g0, g1⟩ := cells_two y3; have hO3 := Lib.hid hO3; have hI3 := Lib.hid hI3))
    | fail)
  obtain ⟨z0, z1⟩ := set2_two (u := .int .i64 (renT nx s t).2.fn) (v := .slice A3 (renT nx s t).2.args.length c3) y3
  have p0 := (cells_two z0).1
  have p1 := (cells_two z1).2.1
  have hoth : ∀ g, g ≠ W.heap.size + 1 → ((w3.setCell ⟨W.heap.size + 1, 0, none⟩ (.int .i64 (renT nx s t).2.fn)).setCell ⟨W.heap.size + 1, 1, none⟩ (.slice A3 (renT nx s t).2.args.length c3)).heap[g]? = w3.heap[g]? := fun g e => (heap_setCell_other _ _ _ _ e).trans (heap_setCell_other _ _ _ _ e)
  refine bodyPost_ret (v := .agg #[.int .i64 (renT nx s t).2.fn, .slice A3 (renT nx s t).2.args.length c3]) (by simp [results, Try.results83, go_sem, p0, p1]) rfl ⟨A3, c3, rfl, hi3, ?_, ?_, ?_⟩
  · exact OwnT.wide (lo := W2.heap.size) (hi := w3.heap.size) (hO3.out.keep fun g h1 _ => hoth g (by omega)) (by omega) (by simp)
  · exact HN.out.stay _ _ _ hI3.out ⟨rfl, rfl, rfl, by simp, fun g e => hoth g (by have := HN.out.db g e; omega)⟩
  · exact (((KeepsC.of_below hB).trans hk3).set (by show _ ≤ W.heap.size + 1; omega) _).set (by show _ ≤ W.heap.size + 1; omega) _

theorem renV_fin (hN : NumV V nx kn nc C D N I B0) {s s1 : σ} {f f' : Int} {xs : List Tm} {A3 : Option Addr} {c3 : Nat} {w W w1 w3 : World} (hB0 : B0 ≤ w.heap.size) (hB : Below w.heap.size w W) (hk1 : KeepsC C W w1) (hk3 : KeepsC C w1 w3)
    (hO3 : OwnT w3 w1.heap.size w3.heap.size A3 (renL nx s1 xs).2) (hI3 : I (renL nx s1 xs).1 w3) (hF : renF nx s f = (s1, f')) (h64 : I64 f') (hW : w.heap.size + 2 < W.heap.size) :
    RenPost C I (renT nx s (.node f xs)) w (.returned (.agg #[.int .i64 f', .slice A3 (renL nx s1 xs).2.length c3])) ((w3.setCell ⟨w.heap.size + 1 + 1, 0, none⟩ (.int .i64 f')).setCell ⟨w.heap.size + 1 + 1, 1, none⟩ (.slice A3 (renL nx s1 xs).2.length c3)) := by
  have hr : renT nx s (.node f xs) = ((renL nx s1 xs).1, .node f' (renL nx s1 xs).2) := by simp only [renT, hF]
  have hz1 := hk1.size
  have hoth : ∀ g, g ≠ w.heap.size + 1 + 1 → ((w3.setCell ⟨w.heap.size + 1 + 1, 0, none⟩ (.int .i64 f')).setCell ⟨w.heap.size + 1 + 1, 1, none⟩ (.slice A3 (renL nx s1 xs).2.length c3)).heap[g]? = w3.heap[g]? := fun g e => (heap_setCell_other _ _ _ _ e).trans (heap_setCell_other _ _ _ _ e)
  rw [hr]
  refine ⟨A3, c3, rfl, h64, ?_, ?_, ?_⟩
  · exact OwnT.wide (lo := w1.heap.size) (hi := w3.heap.size) (hO3.keep fun g h1 _ => hoth g (by omega)) (by omega) (by simp)
  · exact hN.stay _ _ _ hI3 ⟨rfl, rfl, rfl, by simp, fun g e => hoth g (by have := hN.db g e; omega)⟩
  · exact ((((KeepsC.of_below hB).trans hk1).trans hk3).set (by show _ ≤ w.heap.size + 1 + 1; omega) _).set (by show _ ≤ w.heap.size + 1 + 1; omega) _

set_option maxHeartbeats 2000000 in
theorem renameV_any (hN : NumV V nx kn nc C D N I B0) (t : Tm) : RenVAt V nx kn nc C N I B0 t := by
  refine Tm.ind (P := RenVAt V nx kn nc C N I B0) (fun f xs ih => ?_) t
  intro hsz s A c w hB0 hs hf hV hA
  simp only [VT] at hV
  obtain ⟨hVf, hVx⟩ := hV
  simp only [Tm.fn, Tm.args] at hf hA ⊢
  have hlen : xs.length ≤ 4398046511104 := by have := sizes_len xs; simp only [Tm.size] at hsz; omega
  obtain ⟨q0, q1, q2⟩ := heap3 w (.cells #[.int .i64 f, .slice A xs.length c] 31) (.cells #[.func (.func kn) #[] nc] 84) (.cells #[.int .i64 0, .slice none 0 0] 31)
  obtain ⟨W, hW⟩ : ∃ W, (((w.alloc (.cells #[.int .i64 f, .slice A xs.length c] 31)).alloc (.cells #[.func (.func kn) #[] nc] 84)).alloc (.cells #[.int .i64 0, .slice none 0 0] 31)) = W := ⟨_, rfl⟩
  have hB : Below w.heap.size w W := by rw [← hW]; exact (((Below.refl _ _).alloc (Nat.le_refl _) _).alloc (by simp) _).alloc (by simp; omega) _
  rw [hW] at q0 q1 q2
  have hWs : w.heap.size + 2 < W.heap.size := (Array.getElem?_eq_some_iff.1 q2).1
  have HW := Lib.hid hW
  have HN := Lib.hid hN
  have HA := Lib.hid hA
  have hent := hN.ent
  have hsW := Lib.hid (hN.stay s w W hs ((Keeps.of_below hB).mono fun g e => by have := hN.db g e; show g < w.heap.size; omega))
  obtain ⟨a0, a1, _, _⟩ := cells_two q0
  have hcn := Boxed.cell (show Boxed W (w.heap.size + 1) _ _ from q1)
  clear hW hA hs hN
  -- the row of the arguments, behind whatever the number's telling has left
  have key : ∀ (s1 : σ) (W1 : World), KeepsC C W W1 → I s1 W1 → Calls Try.prog 69 #[.slice A xs.length c, .func (.func 83) #[] #[.pointer (some ⟨w.heap.size + 1, 0, none⟩)]] W1 fun e w' => ∃ A' c', e = .returned (.slice A' (renL nx s1 xs).2.length c') ∧ OwnT w' W1.heap.size w'.heap.size A' (renL nx s1 xs).2 ∧ I (renL nx s1 xs).1 w' ∧ KeepsC C W1 w' := by
    intro s1 W1 hk1 hs1
    have hz1 := hk1.size
    have hncx : ¬ C (w.heap.size + 1) := fun e => by have := HN.out.cb _ e; omega
    refine (eachT_any 83 (enters_of Try.func83 (by kernel_rfl) rfl) (.pointer (some ⟨w.heap.size + 1, 0, none⟩)) C (fun g => D g ∨ g = w.heap.size + 1) N (fun i W => I (renL nx s1 (xs.take i)).1 W ∧ Boxed W (w.heap.size + 1) 84 (.func (.func kn) #[] nc)) xs (renL nx s1 xs).2 A c W1 (by rw [renL_len]; exact hlen) (by rw [renL_len])
      ((HA.out.keep fun g e => hB.block g (by have := HN.out.nb g e; omega)).keep fun g e => hk1.block (by have := HN.out.nb g e; omega) (HN.out.nc g e)) (fun g e => by have := HN.out.nb g e; omega) HN.out.nc (fun g e => by have := HN.out.cb g e; omega) (fun g e => by rcases e with e | e; have := HN.out.db g e; omega; omega) (fun i Wa Wb h hk => ⟨HN.out.stay _ _ _ h.1 (hk.mono fun g e => .inl e), (hk.block _ (.inr rfl)).trans h.2⟩) ⟨by simpa [renL] using hs1, (hk1.block (by omega) hncx).trans q1⟩ ?_).mono ?_
    · intro i t y A' c' Wi ht hy hsz1 _ hIi hi64 hAi
      obtain ⟨g1, g2⟩ := renL_get nx s1 xs i t ht
      rw [hy] at g1
      injection g1 with g1
      have hmem := List.mem_of_getElem? ht
      have hts : t.size ≤ 4398046511104 := by have := size_mem hmem; simp only [Tm.size] at hsz; omega
      refine (renameV1_any HN.out t hts (ih t hmem) _ A' c' (w.heap.size + 1) Wi (by omega) hIi.2 hIi.1 hi64 (VL_mem hVx hmem) hAi).mono ?_
      rintro e w' ⟨A2, c2, rfl, h1, h2, h3, h4⟩
      rw [← g1] at h1 h2 ⊢
      exact ⟨A2, c2, rfl, h1, h2, ⟨by rw [g2]; exact h3, (h4.block hIi.2.lt hncx).trans hIi.2⟩, h4⟩
    · rintro e w' ⟨A', c', rfl, h1, h2, h3⟩
      exact ⟨A', c', rfl, h1, by have := h2.1; rwa [renL_len, List.take_length] at this, h3⟩
  have hkey := Lib.hid key
  clear key ih
  have hlo := hf.1
  have hhi := hf.2
  have hnC : ∀ g, w.heap.size ≤ g → ¬ C g := fun g h e => by have := HN.out.cb _ e; omega
  have hnD : ∀ g, D g → g < w.heap.size := fun g e => by have := HN.out.db _ e; omega
  by_cases hneg : f < 0
  · have hF : renF nx s f = ((nx s (-1 - f)).1, -1 - (nx s (-1 - f)).2) := by unfold renF; rw [if_pos hneg]
    have hnum := Lib.hid (HN.out.call s (-1 - f) W (by omega) hsW.out (by omega) (by omega) (hVf hneg))
    have HF := Lib.hid hF
    clear hF
    go_enter Try.func56, Try.ntmps56
    go_upto_region 1 with fail
    rw [HW.out]
    go_wp2_with (first
      | (go_at_call 69; refine (hkey.out _ w1 hk1 hI1.out).mono ?_; go_must (rintro e w3 ⟨A3, c3, rfl, hO3, hI3, hk3⟩; have y3 := (hk3.block (by have := hk1.size; omega) (hnC _ (by omega))).trans y1; obtain ⟨b0, b1, g0, g1⟩ := cells_two y3; have hO3 := Lib.hid hO3; have hI3 := Lib.hid hI3))
      | ((with_reducible refine hnum.out.mono ?_); go_must (rintro e w1 ⟨rfl, hn64, hI1, hk1⟩; have hn1 := hn64.1; have hn2 := hn64.2; have y1 := (hk1.block hWs (hnC _ (by omega))).trans q2; obtain ⟨c0, c1, _, _⟩ := cells_two ((hk1.block (by omega) (hnC _ (Nat.le_refl _))).trans q0); have hI1 := Lib.hid hI1))
      | fail)
    obtain ⟨z0, z1⟩ := set2_two (u := .int .i64 (-1 - (nx s (-1 - f)).2)) (v := .slice A3 (renL nx (nx s (-1 - f)).1 xs).2.length c3) y3
    have p0 := (cells_two z0).1
    have p1 := (cells_two z1).2.1
    exact bodyPost_ret (v := .agg #[.int .i64 (-1 - (nx s (-1 - f)).2), .slice A3 (renL nx (nx s (-1 - f)).1 xs).2.length c3]) (by simp [results, Try.results56, go_sem, p0, p1]) rfl (renV_fin HN.out hB0 hB hk1 hk3 hO3.out hI3.out HF.out ⟨by omega, by omega⟩ hWs)
  · have hF : renF nx s f = (s, f) := by unfold renF; rw [if_neg hneg]
    have HF := Lib.hid hF
    clear hF
    go_enter Try.func56, Try.ntmps56
    go_upto_region 1 with fail
    rw [HW.out]
    go_wp2_with (first
      | (go_at_call 69; refine (hkey.out s W (KeepsC.refl _ _) hsW.out).mono ?_; go_must (rintro e w3 ⟨A3, c3, rfl, hO3, hI3, hk3⟩; have y3 := (hk3.block hWs (hnC _ (by omega))).trans q2; obtain ⟨b0, b1, g0, g1⟩ := cells_two y3; have hO3 := Lib.hid hO3; have hI3 := Lib.hid hI3))
      | fail)
    obtain ⟨z0, z1⟩ := set2_two (u := .int .i64 f) (v := .slice A3 (renL nx s xs).2.length c3) y3
    have p0 := (cells_two z0).1
    have p1 := (cells_two z1).2.1
    exact bodyPost_ret (v := .agg #[.int .i64 f, .slice A3 (renL nx s xs).2.length c3]) (by simp [results, Try.results56, go_sem, p0, p1]) rfl (renV_fin HN.out hB0 hB (KeepsC.refl _ _) hk3 hO3.out hI3.out HF.out hf hWs)

end

end Go.Proofs.Ytglfjmbclimeeaa

namespace Go.Proofs.Ytglfjmbclimeeaa

open Go.RowKit Go.Shelf Go.Maps
set_option maxRecDepth 100000

theorem intLaw : Keyed Try.prog 3 := int_keyed Try.underlying3

theorem zeroIntV (w : World) : (zeroValue 3).run Try.prog w = .ok (.int .i64 0) w := by kernel_rfl

theorem keyOf_v {x : Int} (hx : I64 x) : keyOf Try.prog 3 (.int .i64 x) = some (.int .i64 x) :=
  keyOf_int_mk Try.underlying3 (WalkArith.wf_i64 ⟨by have := hx.1; omega, by have := hx.2; omega⟩)

theorem nodup_le : ∀ {l U : List Int}, l.Nodup → (∀ x ∈ l, x ∈ U) → l.length ≤ U.length
  | [], _, _, _ => by simp
  | x :: l, U, hn, hs => by
    have hx := hs x (by simp)
    have h1 := List.length_erase_of_mem hx
    have h2 := List.length_pos_of_mem hx
    rw [List.nodup_cons] at hn
    have ih := nodup_le (l := l) (U := U.erase x) hn.2 fun y hy => (List.mem_erase_of_ne (fun (e : y = x) => hn.1 (by rw [← e]; exact hy))).2 (hs y (by simp [hy]))
    simp only [List.length_cons]
    omega

/-- Block b of w is a map that holds, for each of l, its place there; and nothing else. -/
def IMap (w : World) (b : Nat) (l : List Int) : Prop :=
  ∃ D : DataW Unit, w.ownsMap Try.prog 3 (plainElem Try.prog 3) b l.length D ∧ Maps.size D = l.length ∧ ∀ x, I64 x → ∀ z, D.atKey (.int .i64 x) z = if x ∈ l then .lit (.int .i64 (l.idxOf x : Nat)) else z

theorem IMap.made (w : World) : IMap (w.alloc (.map #[] 0)) w.heap.size [] :=
  ⟨_, World.ownsMap_made w _ _ _, rfl, fun _ _ _ => rfl⟩

theorem IMap.lt {w : World} {b : Nat} {l : List Int} (h : IMap w b l) : b < w.heap.size := h.elim fun _ h => h.1.lt

theorem IMap.kept {w w' : World} {b : Nat} {l : List Int} (h : IMap w b l) (hk : w'.heap[b]? = w.heap[b]?) : IMap w' b l := by
  obtain ⟨D, ⟨es, clock, hb, F, hs, hD⟩, hat⟩ := h
  exact ⟨D, ⟨es, clock, hk.trans hb, F, hs, hD⟩, hat⟩

theorem IMap.look {w : World} {b : Nat} {l : List Int} (h : IMap w b l) {x : Int} (hx : I64 x) :
    (Instr.lookup 82 (.map (some b)) (.int .i64 x) true).run Try.prog w = .ok (.tuple #[.int .i64 (if x ∈ l then (l.idxOf x : Int) else 0), .bool (decide (x ∈ l))]) w := by
  obtain ⟨D, hown, _, hat⟩ := h
  obtain ⟨v, ps, hrun, hv⟩ := hown.look_ok intLaw Try.underlying82 (zeroIntV w) (plainElem_int Try.underlying3 (by decide)) (keyOf_v hx)
  obtain ⟨c, rfl, hc, _⟩ := plainElem_int_inv Try.underlying3 hv
  have e := hat x hx
  have e0 := e (.lit (.int .i64 0))
  have hc' := congrArg Prod.fst hc
  simp only at hc'
  rw [hc'] at e0
  by_cases hm : x ∈ l
  · simp only [hm, if_true, decide_true] at e e0 ⊢
    injection e0 with e0; injection e0 with _ e0; subst e0
    rw [has_true_of_atKey (fun z => e z)] at hrun
    exact hrun
  · simp only [hm, if_false, decide_false] at e e0 ⊢
    injection e0 with e0; injection e0 with _ e0; subst e0
    rw [has_false_of_atKey (fun z => e z)] at hrun
    simpa using hrun

theorem IMap.put {w w0 : World} {b n0 : Nat} {D : DataW Unit} {l : List Int} {v : Int} (hv : I64 v) (hn : v ∉ l) (h0 : w0.ownsMap Try.prog 3 (plainElem Try.prog 3) b n0 D) (hs : Maps.size D = l.length)
    (hat : ∀ x, I64 x → ∀ z, D.atKey (.int .i64 x) z = if x ∈ l then .lit (.int .i64 (l.idxOf x : Nat)) else z)
    (h : w.ownsMap Try.prog 3 (plainElem Try.prog 3) b (l.length + 1) (D.put (.int .i64 v) (.lit (.int .i64 (l.length : Nat))))) : IMap w b (l ++ [v]) := by
  have hno : Maps.has D (.int .i64 v) = false := has_false_of_atKey fun z => by rw [hat v hv z, if_neg hn]
  refine ⟨_, by simpa using h, ?_, fun x hx z => ?_⟩
  · rw [size_put (h0.tidy intLaw), hno, hs]
    simp
  · by_cases e : x = v
    · subst e
      rw [atKey_put_same h0.isMap (intLaw.key (keyOf_v hx)), if_pos (by simp), List.idxOf_append, if_neg hn]
      simp
    · rw [atKey_put_other (fun h => e (by simpa using h)), hat x hx z]
      by_cases hm : x ∈ l
      · rw [if_pos hm, if_pos (by simp [hm]), List.idxOf_append, if_pos hm]
      · rw [if_neg hm, if_neg (by simp [hm, e])]

/-- A variable's number is its place among those that were met. -/
def nxI (l : List Int) (v : Int) : List Int × Int := (ordI l v, ((ordI l v).idxOf v : Nat))

/-- What the function knows. -/
structure NumI (U : List Int) (bx b : Nat) (l : List Int) (w : World) : Prop where
  box : Boxed w bx 82 (.map (some b))
  map : IMap w b l
  nd : l.Nodup
  sub : ∀ x ∈ l, x ∈ U

theorem nxI_in {l : List Int} {v : Int} (h : v ∈ l) : nxI l v = (l, ((l.idxOf v : Nat) : Int)) := by unfold nxI ordI; rw [if_pos h]

theorem nxI_out {l : List Int} {v : Int} (h : v ∉ l) : nxI l v = (l ++ [v], ((l.length : Nat) : Int)) := by
  unfold nxI ordI
  rw [if_neg h, List.idxOf_append, if_neg h]
  simp

theorem number_any (U : List Int) (hU : U.length ≤ 4611686018427387904) (bx b : Nat) (hne : bx ≠ b) (l : List Int) (v : Int) (W : World) (h : NumI U bx b l W) (h0 : 0 ≤ v) (h1 : v ≤ 9223372036854775807) (hv : v ∈ U) :
    Calls Try.prog 53 #[.int .i64 v, .pointer (some ⟨bx, 0, none⟩)] W fun e W' => e = .returned (.int .i64 (nxI l v).2) ∧ I64 (nxI l v).2 ∧ NumI U bx b (nxI l v).1 W' ∧ KeepsC (· = b) W W' := by
  have hv64 : I64 v := ⟨by omega, h1⟩
  have hlen := nodup_le h.nd h.sub
  have hc := h.box.cell
  have hlook := h.map.look hv64
  have H := Lib.hid h
  by_cases hm : v ∈ l
  · simp only [hm, if_true, decide_true] at hlook
    have hid := List.idxOf_lt_length_of_mem hm
    rw [nxI_in hm]
    have Hm := Lib.hid hm
    clear hm h
    go_enter Try.func53, Try.ntmps53
    go_wp2
    go_ret
    exact ⟨rfl, ⟨by omega, by omega⟩, H.out, KeepsC.refl _ _⟩
  · simp only [hm, if_false, decide_false] at hlook
    rw [nxI_out hm]
    obtain ⟨D, hown, hsz, hat⟩ := h.map
    have Hm := Lib.hid hm
    have Hat := Lib.hid hat
    have Hown := Lib.hid hown
    have Hsz := Lib.hid hsz
    clear hm h hat
    go_enter Try.func53, Try.ntmps53
    go_wp2_with (first
      | (at_len; refine wpList_len_own _ rfl _ 82 rfl 3 3 Try.underlying82 _ b _ D rfl Hown.out ?_; rw [Hsz.out])
      | (at_mapUpdate; refine wpList_mapUpdate_own _ rfl _ _ _ 82 rfl 3 3 intLaw Try.underlying82 _ b _ D rfl Hown.out (by unfold maxLen; omega) _ _ _ rfl rfl (keyOf_v hv64) _ [] (plainElem_int Try.underlying3 (WalkArith.wf_i64 ⟨by omega, by omega⟩)) ?_; intro w1 hown1 hgrow1)
      | fail)
    go_ret
    refine ⟨rfl, ⟨by omega, by omega⟩, ⟨H.out.box.kept hgrow1 (by simpa using hne), IMap.put hv64 Hm.out Hown.out Hsz.out Hat.out hown1, ?_, fun x hx => ?_⟩, ?_⟩
    · rw [List.nodup_append]
      exact ⟨H.out.nd, by simp, fun a ha c hc e => Hm.out (by simp at hc; rw [← hc, ← e]; exact ha)⟩
    · rcases List.mem_append.1 hx with hx | hx
      · exact H.out.sub x hx
      · simp at hx; rw [hx]; exact hv
    · exact (Keeps.of_grown hgrow1).mono fun g e => ⟨e.1, by simpa using e.2⟩

theorem number_num (U : List Int) (hU : U.length ≤ 4611686018427387904) (bx b B0 : Nat) (hne : bx ≠ b) (N : Nat → Prop) (hN : ∀ g, N g → g < B0) (hNb : ∀ g, N g → g ≠ b) (hbx : bx < B0) (hb : b < B0) :
    NumV (· ∈ U) nxI 53 #[.pointer (some ⟨bx, 0, none⟩)] (· = b) (fun g => g = bx ∨ g = b) N (NumI U bx b) B0 where
  ent := enters_of Try.func53 (by kernel_rfl) rfl
  call := fun s v W _ hI h0 h1 hv => number_any U hU bx b hne s v W hI h0 h1 hv
  stay := fun s W W' h hk => ⟨(hk.block bx (.inl rfl)).trans h.box, h.map.kept (hk.block b (.inr rfl)), h.nd, h.sub⟩
  cb := fun g e => by have e' : g = b := e; omega
  db := fun g e => by rcases e with e | e <;> omega
  nb := hN
  nc := hNb

end Go.Proofs.Ytglfjmbclimeeaa

/- match: a map from variables to terms, in memory; a matcher in memory. -/

namespace Go.Proofs.Ytglfjmbclimeeaa

open Go.RowKit Go.Shelf Go.Maps
set_option maxRecDepth 100000

/-- An element of a map, as it stands. -/
def rawElem (v : Value) : Option (DataW Value × List MemPlace) := some (.held v, [])

theorem zeroTermV (w : World) : (zeroValue 31).run Try.prog w = .ok (.agg #[.int .i64 0, .slice none 0 0]) w := by kernel_rfl

def zeroTm : Value := .agg #[.int .i64 0, .slice none 0 0]

/-- Block b of w is a map that tells just the values of V; n entries. -/
def TMap (w : World) (b n : Nat) (V : Int → Option Value) : Prop :=
  ∃ D : DataW Value, w.ownsMap Try.prog 3 rawElem b n D ∧ Maps.size D = n ∧ ∀ x, I64 x → Maps.has D (.int .i64 x) = (V x).isSome ∧ ∀ z, D.atKey (.int .i64 x) (.held z) = .held ((V x).getD z)

theorem TMap.lt {w : World} {b n : Nat} {V : Int → Option Value} (h : TMap w b n V) : b < w.heap.size := h.elim fun _ h => h.1.lt

theorem TMap.kept {w w' : World} {b n : Nat} {V : Int → Option Value} (h : TMap w b n V) (hk : w'.heap[b]? = w.heap[b]?) : TMap w' b n V := by
  obtain ⟨D, ⟨es, clock, hb, F, hs, hD⟩, hat⟩ := h
  exact ⟨D, ⟨es, clock, hk.trans hb, F, hs, hD⟩, hat⟩

theorem TMap.ext {w : World} {b n : Nat} {V V' : Int → Option Value} (h : TMap w b n V) (he : ∀ x, I64 x → V' x = V x) : TMap w b n V' := by
  obtain ⟨D, h1, h2, h3⟩ := h
  exact ⟨D, h1, h2, fun x hx => by rw [he x hx]; exact h3 x hx⟩

theorem TMap.made (w : World) : TMap (w.alloc (.map #[] 0)) w.heap.size 0 fun _ => none :=
  ⟨_, World.ownsMap_made w _ _ _, rfl, fun _ _ => ⟨rfl, fun _ => rfl⟩⟩

theorem TMap.look {w : World} {b n : Nat} {V : Int → Option Value} (h : TMap w b n V) {x : Int} (hx : I64 x) :
    (Instr.lookup 62 (.map (some b)) (.int .i64 x) true).run Try.prog w = .ok (.tuple #[(V x).getD zeroTm, .bool (V x).isSome]) w := by
  obtain ⟨D, hown, _, hat⟩ := h
  obtain ⟨v, ps, hrun, hv⟩ := hown.look_ok intLaw Try.underlying62 (zeroTermV w) (zd := .held zeroTm) (zp := []) rfl (keyOf_v hx)
  obtain ⟨h1, h2⟩ := hat x hx
  rw [h1] at hrun
  rw [h2 zeroTm] at hv
  simp only [rawElem, Option.some.injEq, Prod.mk.injEq, DataW.held.injEq] at hv
  rw [hv.1] at hrun
  exact hrun

theorem TMap.look1 {w : World} {b n : Nat} {V : Int → Option Value} (h : TMap w b n V) {x : Int} (hx : I64 x) :
    (Instr.lookup 62 (.map (some b)) (.int .i64 x) false).run Try.prog w = .ok ((V x).getD zeroTm) w := by
  obtain ⟨D, hown, _, hat⟩ := h
  obtain ⟨v, ps, hrun, hv⟩ := hown.lookup intLaw Try.underlying62 (zeroTermV w) (zd := .held zeroTm) (zp := []) rfl (keyOf_v hx)
  obtain ⟨h1, h2⟩ := hat x hx
  rw [h2 zeroTm] at hv
  simp only [rawElem, Option.some.injEq, Prod.mk.injEq, DataW.held.injEq] at hv
  rw [hv.1] at hrun
  exact hrun

theorem TMap.put {w : World} {b n : Nat} {V : Int → Option Value} (h : TMap w b n V) (hn : n < 9223372036854775807) {x : Int} {v : Value} (hx : I64 x) (hV : V x = none) :
    ∃ w', (Instr.mapUpdate 62 (.map (some b)) (.int .i64 x) v).run Try.prog w = .ok () w' ∧ TMap w' b (n + 1) (fun y => if y = x then some v else V y) ∧ w.grownBy w' (some b) := by
  obtain ⟨D, hown, hsz, hat⟩ := h
  obtain ⟨w', hrun, hown', hgr⟩ := hown.update (d := .held v) (ps := []) (val := v) intLaw Try.underlying62 (by unfold maxLen; omega) (keyOf_v hx) rfl
  refine ⟨w', hrun, ⟨_, hown', ?_, fun y hy => ?_⟩, hgr⟩
  · rw [size_put (hown.tidy intLaw), (hat x hx).1, hV, hsz]
    simp
  · by_cases e : y = x
    · subst e
      refine ⟨?_, fun z => ?_⟩
      · rw [has_put_same hown.isMap (intLaw.key (keyOf_v hx))]; simp
      · rw [atKey_put_same hown.isMap (intLaw.key (keyOf_v hx))]; simp
    · refine ⟨?_, fun z => ?_⟩
      · rw [has_put_other (fun h => e (by simpa using h)), (hat y hy).1]; simp [e]
      · rw [atKey_put_other (fun h => e (by simpa using h)), (hat y hy).2 z]; simp [e]

theorem ownsMap_tight {w : World} {k : TypeId} {R : Value → Option (DataW Value × List MemPlace)} {b n : Nat} {D : DataW Value} (h : w.ownsMap Try.prog k R b n D) : w.ownsMap Try.prog k R b (Maps.size D) D := by
  obtain ⟨es, clock, hb, F, hs, rfl⟩ := h
  refine ⟨es, clock, hb, F, ?_, rfl⟩
  simp [Maps.size, length_sorted]

theorem TMap.drop {w : World} {b n : Nat} {V : Int → Option Value} (h : TMap w b (n + 1) V) {x : Int} {v : Value} (hx : I64 x) (hV : V x = some v) (ty : TypeId) :
    ∃ w', (Builtin.delete_ #[62, 3] ty #[.map (some b), .int .i64 x]).run Try.prog w = .ok (.tuple #[]) w' ∧ TMap w' b n (fun y => if y = x then none else V y) ∧ w.grownBy w' (some b) := by
  obtain ⟨D, hown, hsz, hat⟩ := h
  obtain ⟨w', hrun, hown', htu⟩ := hown.drop intLaw Try.underlying62 (keyOf_v hx) ty
  have hs := size_del (k := .int .i64 x) (hown.tidy intLaw)
  rw [(hat x hx).1, hV, hsz] at hs
  simp at hs
  refine ⟨w', hrun, ⟨_, by have := ownsMap_tight hown'; rwa [hs] at this, hs, fun y hy => ?_⟩, htu.grown⟩
  by_cases e : y = x
  · subst e
    refine ⟨?_, fun z => ?_⟩
    · rw [has_del_same]; simp
    · rw [atKey_del_same]; simp
  · refine ⟨?_, fun z => ?_⟩
    · rw [has_del_other (fun h => e (by simpa using h)), (hat y hy).1]; simp [e]
    · rw [atKey_del_other (fun h => e (by simpa using h)), (hat y hy).2 z]; simp [e]

/-- What the map tells of a row of binds. -/
def Bi.tv (x : Bi) : Value := .agg #[.int .i64 x.t.fn, .slice x.A x.t.args.length x.c]

def biV (l : List Bi) (v : Int) : Option Value := (l.find? fun x => decide (x.v = v)).map Bi.tv

def bdsM (l : List Bi) : List Bd := l.map Bi.bd

theorem biV_none {l : List Bi} {v : Int} : biV l v = none ↔ findB (bdsM l) v = none := by
  unfold biV findB bdsM
  rw [Option.map_eq_none_iff, List.find?_eq_none, List.find?_eq_none]
  simp [Bi.bd]

theorem biV_some {l : List Bi} {v : Int} {x : Bd} (h : findB (bdsM l) v = some x) : ∃ y ∈ l, y.bd = x ∧ biV l v = some y.tv := by
  unfold findB bdsM at h
  rw [List.find?_map] at h
  rw [Option.map_eq_some_iff] at h
  obtain ⟨y, hy, rfl⟩ := h
  refine ⟨y, List.mem_of_find?_eq_some hy, rfl, ?_⟩
  unfold biV
  have e : (l.find? fun x => decide (x.v = v)) = some y := hy
  rw [e]; rfl

theorem biV_mem {l : List Bi} (nd : l.Pairwise fun x y => x.v ≠ y.v) {y : Bi} (hy : y ∈ l) : biV l y.v = some y.tv := by
  rcases hf : findB (bdsM l) y.v with _ | x
  · unfold findB bdsM at hf
    rw [List.find?_eq_none] at hf
    exact absurd (hf y.bd (List.mem_map.2 ⟨y, hy, rfl⟩)) (by simp [Bi.bd])
  · obtain ⟨z, hz, hzx, hv⟩ := biV_some hf
    have e : z.v = y.v := by have := (findB_mem hf).2; rw [← hzx] at this; exact this
    have hzy : z = y := by
      obtain ⟨i, hi⟩ := List.mem_iff_getElem?.1 hz
      obtain ⟨j, hj⟩ := List.mem_iff_getElem?.1 hy
      obtain ⟨hi1, hi2⟩ := List.getElem?_eq_some_iff.1 hi
      obtain ⟨hj1, hj2⟩ := List.getElem?_eq_some_iff.1 hj
      rcases Nat.lt_trichotomy i j with h' | h' | h'
      · have := List.pairwise_iff_getElem.1 nd i j hi1 hj1 h'
        rw [hi2, hj2] at this; exact absurd e this
      · subst h'; rw [← hi2, ← hj2]
      · have := List.pairwise_iff_getElem.1 nd j i hj1 hi1 h'
        rw [hi2, hj2] at this; exact absurd e.symm this
    rw [hv, hzy]

theorem biV_push {l : List Bi} {x : Bi} (h : biV l x.v = none) (v : Int) : biV (l ++ [x]) v = if v = x.v then some x.tv else biV l v := by
  unfold biV at h ⊢
  rw [List.find?_append]
  by_cases e : v = x.v
  · subst e
    rw [Option.map_eq_none_iff] at h
    rw [h]; simp
  · rw [if_neg e]
    have hn : ([x].find? fun y => decide (y.v = v)) = none := by simp; exact fun h => e h.symm
    rw [hn]; simp

theorem biV_pop {l : List Bi} {x : Bi} (nd : (l ++ [x]).Pairwise fun x y => x.v ≠ y.v) (v : Int) : biV l v = if v = x.v then none else biV (l ++ [x]) v := by
  have hx : biV l x.v = none := by
    rw [biV_none]
    unfold findB bdsM
    rw [List.find?_eq_none]
    intro y hy
    obtain ⟨z, hz, rfl⟩ := List.mem_map.1 hy
    have := (List.pairwise_append.1 nd).2.2 z hz x (by simp)
    exact fun h => this (of_decide_eq_true h)
  rw [biV_push hx]
  by_cases e : v = x.v
  · subst e; simp [hx]
  · simp [e]

/-- The matcher's own blocks that are written. -/
def OwnM (bx bm : Nat) (v : Value) (g : Nat) : Prop := g = bx ∨ g = bm ∨ v.ownBlock = some g

/-- The matcher in block bx: its map, its row; all that it owns lies in S's blocks. -/
structure MatW (w : World) (S : Nat → Prop) (bx bm : Nat) (v : Value) (l : List Bi) : Prop where
  box : w.heap[bx]? = some (.cells #[.map (some bm), v] 64)
  map : TMap w bm l.length (biV l)
  row : IntsR w 0 v (l.map Bi.v)
  fx : ∀ x ∈ l, BiFx w (fun g => S g ∧ ¬ OwnM bx bm v g) x
  ok : MOk (bdsM l)
  ne : bx ≠ bm
  av : ¬ v.ownBlock = some bx ∧ ¬ v.ownBlock = some bm
  own : ∀ g, OwnM bx bm v g → S g
  lt : ∀ g, S g → g < w.heap.size

section

variable {w w' : World} {S T : Nat → Prop} {bx bm : Nat} {v : Value} {l : List Bi}

theorem MatW.nd (h : MatW w S bx bm v l) : l.Pairwise fun x y => x.v ≠ y.v := by
  have := h.ok.nd
  unfold bdsM at this
  rw [List.pairwise_map] at this
  exact this

theorem MatW.keep (h : MatW w S bx bm v l) (hs : w.heap.size ≤ w'.heap.size) (hk : ∀ g, S g → w'.heap[g]? = w.heap[g]?) : MatW w' S bx bm v l where
  box := (hk bx (h.own _ (.inl rfl))).trans h.box
  map := h.map.kept (hk bm (h.own _ (.inr (.inl rfl))))
  row := ⟨row_keep h.row.row fun g e => hk g (h.own _ (.inr (.inr e))), h.row.i64⟩
  fx := fun x hx => (h.fx x hx).keep fun g e => hk g e.1
  ok := h.ok
  ne := h.ne
  av := h.av
  own := h.own
  lt := fun g e => Nat.lt_of_lt_of_le (h.lt g e) hs

theorem MatW.on (h : MatW w S bx bm v l) (hb : Below w.heap.size w w') : MatW w' S bx bm v l := h.keep hb.size fun g e => hb.block g (h.lt g e)

theorem MatW.wide (h : MatW w S bx bm v l) (hst : ∀ g, S g → T g) (hT : ∀ g, T g → g < w.heap.size) : MatW w T bx bm v l where
  box := h.box
  map := h.map
  row := h.row
  fx := fun x hx => (h.fx x hx).wide fun g e => ⟨hst g e.1, e.2⟩
  ok := h.ok
  ne := h.ne
  av := h.av
  own := fun g e => hst g (h.own g e)
  lt := hT

theorem MatW.slice (h : MatW w S bx bm v l) : ∃ A c, v = .slice A l.length c := by
  obtain ⟨A, c, e⟩ := row_slice h.row.row
  exact ⟨A, c, by simpa using e⟩

end

end Go.Proofs.Ytglfjmbclimeeaa

/- match: none, New, truth, atom, heads, walked. -/

namespace Go.Proofs.Ytglfjmbclimeeaa

open Go.RowKit Go.Shelf Go.Maps
set_option maxRecDepth 100000

theorem cells_n {W : World} {b : Nat} {cs : Array Value} {t : TypeId} (h : W.heap[b]? = some (.cells cs t)) (i : Nat) (v : Value) (hv : cs[i]? = some v) : W.cell? ⟨b, i, none⟩ = some v := by
  simp [World.cell?, h, hv]

theorem none_nil (w : World) : Calls Try.prog 33 #[.pointer none] w fun e w' => e = .returned (.bool true) ∧ w' = w := by
  go_enter Try.func33, Try.ntmps33
  go_wp2
  go_ret
  exact ⟨rfl, rfl⟩

theorem run_eql_map (b : Nat) (w : World) : (binOp .eql 62 (.map (some b)) (.map none)).run Try.prog w = .ok (.bool false) w := by
  have h : ∀ d, (Op.equalIn (d + 1) 62 (.map (some b)) (.map none)).run Try.prog w = .ok false w := fun d => by
    simp [Op.equalIn, run_underlying Try.underlying62]
  simp only [binOp]
  simp [Op.equal, Op.maxDepth, h 9999]

theorem none_no (bx bm : Nat) (v : Value) (w : World) (h : w.heap[bx]? = some (.cells #[.map (some bm), v] 64)) : Calls Try.prog 33 #[.pointer (some ⟨bx, 0, none⟩)] w fun e w' => e = .returned (.bool false) ∧ w' = w := by
  have c0 := (cells_two h).1
  have heqm := run_eql_map
  go_enter Try.func33, Try.ntmps33
  go_wp2
  go_ret
  exact ⟨rfl, rfl⟩

/-- A matcher that has bound nothing. -/
theorem MatW.new_ (w : World) : MatW ((w.alloc (.map #[] 0)).alloc (.cells #[.map (some w.heap.size), .slice none 0 0] 64)) (fun g => w.heap.size ≤ g ∧ g < w.heap.size + 2) (w.heap.size + 1) w.heap.size (.slice none 0 0) [] where
  box := by
    have := heap_alloc_new (w.alloc (.map #[] 0)) (.cells #[.map (some w.heap.size), .slice none 0 0] 64)
    simpa using this
  map := (TMap.made w).kept (Below.heap_alloc _ _ _ (by simp)) |>.ext fun x _ => rfl
  row := ⟨World.ownsRow_nil _ _ _ _, fun x hx => by simp at hx⟩
  fx := fun x hx => by simp at hx
  ok := .nil_
  ne := by omega
  av := ⟨by simp [Value.ownBlock], by simp [Value.ownBlock]⟩
  own := fun g h => by
    rcases h with rfl | rfl | h
    · omega
    · omega
    · simp [Value.ownBlock] at h
  lt := fun g h => by simp; omega

theorem new_any (w : World) : Calls Try.prog 8 #[] w fun e w' => e = .returned (.pointer (some ⟨w.heap.size + 1, 0, none⟩)) ∧ w' = (w.alloc (.map #[] 0)).alloc (.cells #[.map (some w.heap.size), .slice none 0 0] 64) := by
  have hmm : ∀ w : World, (Instr.makeMap 62 none).run Try.prog w = .ok (.map (some w.heap.size)) (w.alloc (.map #[] 0)) := fun _ => run_makeMap_plain (w := _) _
  go_enter Try.func8, Try.ntmps8
  go_wp2
  go_ret
  exact ⟨by simp, rfl⟩

/-- $true? -/
def truthT (t : Tm) : Bool := decide (t.fn = 0) && decide (t.args.length = 0)

theorem truth_any (t : Tm) (A : Option Addr) (c : Nat) (w : World) : Calls Try.prog 64 #[.agg #[.int .i64 t.fn, .slice A t.args.length c]] w fun e w' => e = .returned (.bool (truthT t)) ∧ Below w.heap.size w w' := by
  have hB : Below w.heap.size w (w.alloc (.cells #[.int .i64 t.fn, .slice A t.args.length c] 31)) := (Below.refl _ _).alloc (Nat.le_refl _) _
  by_cases h0 : t.fn = 0
  · by_cases h1 : t.args.length = 0
    · have hf := Lib.hid (show truthT t = true by simp [truthT, h0, h1])
      have e0 : ((t.fn : Int) == 0) = true := by simp [h0]
      have e1 : (((t.args.length : Nat) : Int) == 0) = true := by simp [h1]
      clear h0 h1
      go_enter Try.func64, Try.ntmps64
      go_wp2
      go_ret
      exact ⟨ret_bool hf.out.symm, hB⟩
    · have hf := Lib.hid (show truthT t = false by simp [truthT, h1])
      have e0 : ((t.fn : Int) == 0) = true := by simp [h0]
      have e1 : (((t.args.length : Nat) : Int) == 0) = false := by simpa using h1
      clear h0 h1
      go_enter Try.func64, Try.ntmps64
      go_wp2
      go_ret
      exact ⟨ret_bool hf.out.symm, hB⟩
  · have hf := Lib.hid (show truthT t = false by simp [truthT, h0])
    have e0 : ((t.fn : Int) == 0) = false := by simp [h0]
    clear h0
    go_enter Try.func64, Try.ntmps64
    go_wp2
    go_ret
    exact ⟨ret_bool hf.out.symm, hB⟩

/-- An atom? -/
def atomL (l r : Tm) : Bool := truthT l || truthT r

theorem atom_any (n : Bool) (l r : Tm) (A B : Option Addr) (c d : Nat) (w : World) : Calls Try.prog 37 #[.agg #[.bool n, .int .i64 l.fn, .slice A l.args.length c, .int .i64 r.fn, .slice B r.args.length d]] w fun e w' => e = .returned (.bool (atomL l r)) ∧ Below w.heap.size w w' := by
  obtain ⟨W, hW⟩ : ∃ W, w.alloc (.cells #[.bool n, .int .i64 l.fn, .slice A l.args.length c, .int .i64 r.fn, .slice B r.args.length d] 35) = W := ⟨_, rfl⟩
  have hB : Below w.heap.size w W := by rw [← hW]; exact (Below.refl _ _).alloc (Nat.le_refl _) _
  have q0 := heap_alloc_new w (.cells #[.bool n, .int .i64 l.fn, .slice A l.args.length c, .int .i64 r.fn, .slice B r.args.length d] 35)
  rw [hW] at q0
  have hWs : w.heap.size < W.heap.size := (Array.getElem?_eq_some_iff.1 q0).1
  have HS := Lib.hid (fun (w' : World) (hb : Below W.heap.size W w') => (show w'.cell? ⟨w.heap.size, 1, none⟩ = some (.int .i64 l.fn) ∧ w'.cell? ⟨w.heap.size, 2, none⟩ = some (.slice A l.args.length c) ∧ w'.cell? ⟨w.heap.size, 3, none⟩ = some (.int .i64 r.fn) ∧ w'.cell? ⟨w.heap.size, 4, none⟩ = some (.slice B r.args.length d) from by
    have q := (hb.block _ hWs).trans q0
    exact ⟨cells_n q 1 _ rfl, cells_n q 2 _ rfl, cells_n q 3 _ rfl, cells_n q 4 _ rfl⟩))
  obtain ⟨x1, x2, x3, x4⟩ := HS.out W (Below.refl _ _)
  have HW := Lib.hid hW
  clear hW q0
  rcases h1 : truthT l with _ | _
  · have hf := Lib.hid (show atomL l r = truthT r by unfold atomL; rw [h1]; rfl)
    have H1 := Lib.hid h1
    clear h1
    go_enter Try.func37, Try.ntmps37
    go_upto_region 1 with fail
    rw [HW.out]
    go_wp2_with (first
      | (go_at_call 64; (first | (with_reducible refine (truth_any l A c W).mono ?_; go_must (rintro e w1 ⟨rfl, hb1⟩; rw [H1.out]; obtain ⟨y1, y2, y3, y4⟩ := HS.out w1 hb1)) | (with_reducible refine (truth_any r B d w1).mono ?_; go_must (rintro e w2 ⟨rfl, hb2⟩))))
      | fail)
    go_ret
    exact ⟨ret_bool hf.out.symm, hB.trans ((hb1.trans (hb2.mono hb1.size)).mono hB.size)⟩
  · have hf := Lib.hid (show atomL l r = true by unfold atomL; rw [h1]; rfl)
    have H1 := Lib.hid h1
    clear h1
    go_enter Try.func37, Try.ntmps37
    go_upto_region 1 with fail
    rw [HW.out]
    go_wp2_with (first
      | (go_at_call 64; with_reducible refine (truth_any l A c W).mono ?_; go_must (rintro e w1 ⟨rfl, hb1⟩; rw [H1.out]))
      | fail)
    go_ret
    exact ⟨ret_bool hf.out.symm, hB.trans (hb1.mono hB.size)⟩

/-- Do the heads of two terms agree? -/
def headsB (p u : Tm) : Bool := decide (p.fn = u.fn) && decide (p.args.length = u.args.length)

theorem mheads_any (p u : Tm) (A B : Option Addr) (c d : Nat) (w : World) : Calls Try.prog 61 #[.agg #[.int .i64 p.fn, .slice A p.args.length c, .int .i64 u.fn, .slice B u.args.length d]] w fun e w' => e = .returned (.bool (headsB p u)) ∧ Below w.heap.size w w' := by
  have hB : Below w.heap.size w (w.alloc (.cells #[.int .i64 p.fn, .slice A p.args.length c, .int .i64 u.fn, .slice B u.args.length d] 90)) := (Below.refl _ _).alloc (Nat.le_refl _) _
  by_cases h0 : p.fn = u.fn
  · by_cases h1 : p.args.length = u.args.length
    · have hf := Lib.hid (show headsB p u = true by simp [headsB, h0, h1])
      have e0 : ((p.fn : Int) == u.fn) = true := by simp [h0]
      have e1 : (((p.args.length : Nat) : Int) == ((u.args.length : Nat) : Int)) = true := by simp [h1]
      clear h0 h1
      go_enter Try.func61, Try.ntmps61
      go_wp2
      go_ret
      exact ⟨ret_bool hf.out.symm, hB⟩
    · have hf := Lib.hid (show headsB p u = false by simp [headsB, h1])
      have e0 : ((p.fn : Int) == u.fn) = true := by simp [h0]
      have e1 : (((p.args.length : Nat) : Int) == ((u.args.length : Nat) : Int)) = false := by simp; omega
      clear h0 h1
      go_enter Try.func61, Try.ntmps61
      go_wp2
      go_ret
      exact ⟨ret_bool hf.out.symm, hB⟩
  · have hf := Lib.hid (show headsB p u = false by simp [headsB, h0])
    have e0 : ((p.fn : Int) == u.fn) = false := by simp [h0]
    clear h0
    go_enter Try.func61, Try.ntmps61
    go_wp2
    go_ret
    exact ⟨ret_bool hf.out.symm, hB⟩

end Go.Proofs.Ytglfjmbclimeeaa

/- match: copied, walked. -/

namespace Go.Proofs.Ytglfjmbclimeeaa

open Go.RowKit Go.Shelf
set_option maxRecDepth 100000

/-- A copy in new memory, of a plain term. -/
def CopPost (t : Tm) (w : World) (e : Ending) (w' : World) : Prop := Below w.heap.size w w' ∧
  (plainT t = true → ∃ A' c', e = .returned (.tuple #[.agg #[.int .i64 t.fn, .slice A' t.args.length c'], .bool true]) ∧ OwnT w' w.heap.size w'.heap.size A' t.args) ∧
  (plainT t = false → e = .returned (.tuple #[.agg #[.int .i64 0, .slice none 0 0], .bool false]))

def CopAt (t : Tm) : Prop := t.size ≤ 4398046511104 → ∀ (A : Option Addr) (c : Nat) (w : World), I64 t.fn → Args w w.heap.size A t.args → Calls Try.prog 42 #[.agg #[.int .i64 t.fn, .slice A t.args.length c]] w (CopPost t w)

theorem cop_yes {t : Tm} {w w' : World} {A' : Option Addr} {c' : Nat} (hp : plainT t = true) (hb : Below w.heap.size w w') (hO : OwnT w' w.heap.size w'.heap.size A' t.args) : CopPost t w (.returned (.tuple #[.agg #[.int .i64 t.fn, .slice A' t.args.length c'], .bool true])) w' :=
  ⟨hb, fun _ => ⟨A', c', rfl, hO⟩, fun h => (by rw [hp] at h; cases h)⟩

theorem cop_no {t : Tm} {w w' : World} (hp : plainT t = false) (hb : Below w.heap.size w w') : CopPost t w (.returned (.tuple #[.agg #[.int .i64 0, .slice none 0 0], .bool false])) w' :=
  ⟨hb, fun h => (by rw [hp] at h; cases h), fun _ => rfl⟩

theorem cop_at_no {t : Tm} {v : Value} {w : World} (hp : plainT t = false) (h : Calls Try.prog 42 #[v] w (CopPost t w)) : Calls Try.prog 42 #[v] w fun e w' => e = .returned (.tuple #[.agg #[.int .i64 0, .slice none 0 0], .bool false]) ∧ Below w.heap.size w w' :=
  h.mono fun _ _ h => ⟨h.2.2 hp, h.1⟩

theorem cop_at_yes {t : Tm} {v : Value} {w : World} (hp : plainT t = true) (h : Calls Try.prog 42 #[v] w (CopPost t w)) : Calls Try.prog 42 #[v] w fun e w' => ∃ A' c', e = .returned (.tuple #[.agg #[.int .i64 t.fn, .slice A' t.args.length c'], .bool true]) ∧ OwnT w' w.heap.size w'.heap.size A' t.args ∧ Below w.heap.size w w' :=
  h.mono fun _ _ h => by
    obtain ⟨A', c', he, hO⟩ := h.2.1 hp
    exact ⟨A', c', he, hO, h.1⟩

/-- Where copied has laid its box and its row. -/
structure CopW (w W : World) (b bo : Nat) (f : Int) (n : Nat) (A : Option Addr) (c : Nat) : Prop where
  B : Below w.heap.size w W
  hb : w.heap.size + 2 ≤ b
  hbo : w.heap.size + 2 ≤ bo
  ne : b ≠ bo
  x1 : W.heap[w.heap.size]? = some (.cells #[.int .i64 f, .slice A n c] 31)
  x2 : W.heap[w.heap.size + 1]? = some (.cells #[.int .i64 0, .slice none 0 0] 31)
  xo : W.heap[bo]? = some (.cells #[.int .i64 f, .slice (some ⟨b, 0, none⟩) n n] 31)
  row : ∃ vs, W.ownsRow b 31 2 (.slice (some ⟨b, 0, none⟩) n n) n vs

theorem made_row (w : World) (n : Nat) (hn : n ≤ 4398046511104) : ∃ vs, (w.alloc (.cells (madeCells #[.int .i64 0, .slice none 0 0] (n * 2)) 31)).ownsRow w.heap.size 31 2 (.slice (some ⟨w.heap.size, 0, none⟩) n n) n vs := by
  refine ⟨(madeCells #[.int .i64 0, .slice none 0 0] (n * 2)).toList, by simp [size_madeCells], .inr ⟨w.heap.size, n, _, rfl, Nat.le_refl _, heap_alloc_new w _, Nat.le_refl _, by unfold maxLen; omega, by rw [size_madeCells], ?_⟩⟩
  exact List.take_of_length_le (by simp [size_madeCells])

section

variable {w W : World} {f : Int} {n c : Nat} {A : Option Addr} {M : Obj}

theorem cop_wA (hn : n ≤ 4398046511104) (hB : Below w.heap.size w W) (hz : W.heap.size = w.heap.size + 2) (q0 : W.heap[w.heap.size]? = some (.cells #[.int .i64 f, .slice A n c] 31)) (q1 : W.heap[w.heap.size + 1]? = some (.cells #[.int .i64 0, .slice none 0 0] 31))
    (hM : Obj.cells (madeCells #[.int .i64 0, .slice none 0 0] (n * 2)) 31 = M) :
    CopW w ((W.alloc M).alloc (.cells #[.int .i64 f, .slice (some ⟨w.heap.size + 2, 0, none⟩) n n] 31)).drew (w.heap.size + 2) (w.heap.size + 2 + 1) f n A c where
  B := (Below.drew ((hB.alloc (by omega) _).alloc (by simp; omega) _))
  hb := Nat.le_refl _
  hbo := by omega
  ne := by omega
  x1 := ((Below.heap_alloc _ _ _ (by simp; omega)).trans (Below.heap_alloc _ _ _ (by omega))).trans q0
  x2 := ((Below.heap_alloc _ _ _ (by simp; omega)).trans (Below.heap_alloc _ _ _ (by omega))).trans q1
  xo := by
    have := heap_alloc_new (W.alloc M) (.cells #[.int .i64 f, .slice (some ⟨w.heap.size + 2, 0, none⟩) n n] 31)
    rw [show (W.alloc M).heap.size = w.heap.size + 2 + 1 by simp; omega] at this
    exact this
  row := by
    obtain ⟨vs, h⟩ := made_row W n hn
    rw [hz, hM] at h
    exact ⟨vs, row_keep h fun g e => by simp [Value.ownBlock] at e; subst e; exact Below.heap_alloc _ _ _ (by simp; omega)⟩

theorem cop_wB (hn : n ≤ 4398046511104) (hB : Below w.heap.size w W) (hz : W.heap.size = w.heap.size + 2) (q0 : W.heap[w.heap.size]? = some (.cells #[.int .i64 f, .slice A n c] 31)) (q1 : W.heap[w.heap.size + 1]? = some (.cells #[.int .i64 0, .slice none 0 0] 31))
    (hM : Obj.cells (madeCells #[.int .i64 0, .slice none 0 0] (n * 2)) 31 = M) :
    CopW w ((W.alloc (.cells #[.int .i64 f, .slice (some ⟨w.heap.size + 2 + 1, 0, none⟩) n n] 31)).alloc M).drew (w.heap.size + 2 + 1) (w.heap.size + 2) f n A c where
  B := (Below.drew ((hB.alloc (by omega) _).alloc (by simp; omega) _))
  hb := by omega
  hbo := Nat.le_refl _
  ne := by omega
  x1 := ((Below.heap_alloc _ _ _ (by simp; omega)).trans (Below.heap_alloc _ _ _ (by omega))).trans q0
  x2 := ((Below.heap_alloc _ _ _ (by simp; omega)).trans (Below.heap_alloc _ _ _ (by omega))).trans q1
  xo := by
    have := heap_alloc_new W (.cells #[.int .i64 f, .slice (some ⟨w.heap.size + 2 + 1, 0, none⟩) n n] 31)
    rw [hz] at this
    exact (Below.heap_alloc _ _ _ (by simp; omega)).trans this
  row := by
    obtain ⟨vs, h⟩ := made_row (W.alloc (.cells #[.int .i64 f, .slice (some ⟨w.heap.size + 2 + 1, 0, none⟩) n n] 31)) n hn
    rw [show (W.alloc (.cells #[.int .i64 f, .slice (some ⟨w.heap.size + 2 + 1, 0, none⟩) n n] 31)).heap.size = w.heap.size + 2 + 1 by simp; omega, hM] at h
    exact ⟨vs, h⟩

end

/-- A term that is not plain, by one of its arguments. -/
theorem plain_bad {f : Int} {xs : List Tm} {t : Tm} (ht : t ∈ xs) (h : plainT t = false) : plainT (.node f xs) = false := by
  rw [plainT, plainL_eq]
  have : xs.all plainT = false := by rw [List.all_eq_false]; exact ⟨t, ht, by simp [h]⟩
  rw [this]; rfl

set_option maxHeartbeats 2000000 in
theorem copied_any (t : Tm) : CopAt t := by
  refine Tm.ind (P := CopAt) (fun f xs ih => ?_) t
  intro hsz A c w hf hA
  simp only [Tm.fn, Tm.args] at hf hA ⊢
  have hlen : xs.length ≤ 4398046511104 := by have := sizes_len xs; simp only [Tm.size] at hsz; omega
  obtain ⟨i0, hi, hz0, hz1, hz2⟩ := info_parts info_term
  have q0 := heap_alloc_new w (.cells #[.int .i64 f, .slice A xs.length c] 31)
  have q1 := heap_alloc_new (w.alloc (.cells #[.int .i64 f, .slice A xs.length c] 31)) (.cells #[.int .i64 0, .slice none 0 0] 31)
  have hs1 : (w.alloc (.cells #[.int .i64 f, .slice A xs.length c] 31)).heap.size = w.heap.size + 1 := by simp
  rw [hs1] at q1
  have q0' := (Below.heap_alloc (w.alloc (.cells #[.int .i64 f, .slice A xs.length c] 31)) (.cells #[.int .i64 0, .slice none 0 0] 31) w.heap.size (by simp)).trans q0
  obtain ⟨W, hW⟩ : ∃ W, (w.alloc (.cells #[.int .i64 f, .slice A xs.length c] 31)).alloc (.cells #[.int .i64 0, .slice none 0 0] 31) = W := ⟨_, rfl⟩
  have hB : Below w.heap.size w W := by rw [← hW]; exact ((Below.refl _ _).alloc (Nat.le_refl _) _).alloc (by simp) _
  have hWz : W.heap.size = w.heap.size + 2 := by rw [← hW]; simp
  rw [hW] at q0' q1
  obtain ⟨x0, x1, _, _⟩ := cells_two q0'
  obtain ⟨y0, y1, g0, g1⟩ := cells_two q1
  have HW := Lib.hid hW
  clear hW q0 hs1
  rcases Nat.eq_zero_or_pos xs.length with h0 | h0
  · obtain rfl : xs = [] := List.eq_nil_of_length_eq_zero h0
    have hp : plainT (.node f []) = true := by simp [plainT, plainL]
    simp only [List.length_nil] at *
    go_enter Try.func42, Try.ntmps42
    go_upto_region 1 with fail
    rw [HW.out]
    go_wp2
    obtain ⟨z0, z1⟩ := set2_two (u := .int .i64 f) (v := .slice none 0 0) q1
    have k0 := (cells_two z0).1
    have k1 := (cells_two z1).2.1
    exact bodyPost_ret (v := .tuple #[.agg #[.int .i64 f, .slice none 0 0], .bool true]) (by simp [results, Try.results42, go_sem, k0, k1]) rfl (cop_yes hp ((hB.setCell (by show _ ≤ w.heap.size + 1; omega) _).setCell (by show _ ≤ w.heap.size + 1; omega) _) (.nil _ _ _))
  · by_cases hneg : f < 0
    · have hp : plainT (.node f xs) = false := by
        rw [plainT, decide_eq_false (by omega), decide_eq_false (by omega)]; simp
      have e0 : (((xs.length : Nat) : Int) == 0) = false := by simp; intro e; rw [e] at h0; simp at h0
      have e1 : decide (f < 0) = true := decide_eq_true hneg
      clear hneg
      go_enter Try.func42, Try.ntmps42
      go_upto_region 1 with fail
      rw [HW.out]
      go_wp2
      obtain ⟨z0, z1⟩ := set2_two (u := .int .i64 0) (v := .slice none 0 0) q1
      have k0 := (cells_two z0).1
      have k1 := (cells_two z1).2.1
      exact bodyPost_ret (v := .tuple #[.agg #[.int .i64 0, .slice none 0 0], .bool false]) (by simp [results, Try.results42, go_sem, k0, k1]) rfl (cop_no hp ((hB.setCell (by show _ ≤ w.heap.size + 1; omega) _).setCell (by show _ ≤ w.heap.size + 1; omega) _))
    · have hmk : ∀ w : World, (Instr.makeSlice 29 (.int .i64 (xs.length : Int)) (.int .i64 (xs.length : Int))).run Try.prog w = .ok (.slice (some ⟨w.heap.size, 0, none⟩) xs.length xs.length) (w.alloc (.cells (madeCells #[.int .i64 0, .slice none 0 0] (xs.length * 2)) 31)) := fun w => by
        have := run_make (P := Try.prog) w 29 31 i0 _ Try.underlying29 hi hz0 .i64 .i64 (xs.length : Int) (xs.length : Int) (by omega) (Int.le_refl _) (by rw [hz2]; omega) (by omega)
        rw [hz1] at this
        exact this
      have e0 : (((xs.length : Nat) : Int) == 0) = false := by simp; intro e; rw [e] at h0; simp at h0
      have e1 : decide (f < 0) = false := decide_eq_false hneg
      obtain ⟨M, hM⟩ : ∃ M, Obj.cells (madeCells #[.int .i64 0, .slice none 0 0] (xs.length * 2)) 31 = M := ⟨_, rfl⟩
      rw [hM] at hmk
      go_enter Try.func42, Try.ntmps42
      go_upto_region 1 with fail
      rw [HW.out]
      go_upto_region 5 with fail
      refine wp_mono (Q := Exit.then (fun a' w' => ∃ b bo, CopW w w' b bo f xs.length A c ∧ a' = { tmps := #[.agg #[.int .i64 f, .slice A xs.length c], .pointer (some ⟨w.heap.size, 0, none⟩), .pointer (some ⟨w.heap.size + 1, 0, none⟩), .bool false, .pointer (some ⟨bo, 0, none⟩), undef, undef, undef, undef, .pointer (some ⟨w.heap.size, 1, none⟩), .slice A xs.length c, .int .i64 xs.length, .bool false, undef, undef, undef, .pointer (some ⟨w.heap.size, 0, none⟩), .int .i64 f, .bool false, undef, .pointer (some ⟨w.heap.size, 0, none⟩), .int .i64 f, .pointer (some ⟨w.heap.size, 1, none⟩), .slice A xs.length c, .int .i64 xs.length, .slice (some ⟨b, 0, none⟩) xs.length xs.length, .agg #[.int .i64 f, .slice (some ⟨b, 0, none⟩) xs.length xs.length], undef, undef, undef, undef, undef, undef, undef, undef, undef, undef, undef, undef, undef, undef, undef, undef, undef, undef, undef, undef, undef, undef, undef], defers := [] }) (fun _ _ _ => False)) ?_ ?_
      · have CA := cop_wA hlen hB hWz q0' q1 hM
        have CB := cop_wB hlen hB hWz q0' q1 hM
        have CA := Lib.hid CA
        have CB := Lib.hid CB
        go_region_law (fail)
        all_goals first
          | exact ⟨_, _, CA.out, rfl⟩
          | exact ⟨_, _, CB.out, rfl⟩
      rintro e a' W2 hex
      cases e with
      | normal => ?_
      | _ => exact hex.elim
      obtain ⟨b, bo, hC, rfl⟩ := hex
      obtain ⟨vs0, hrow0⟩ := hC.row
      have hb2 := hC.hb
      have hbo2 := hC.hbo
      have hbne := hC.ne
      have hbW : b < W2.heap.size := (row_lt hrow0 b rfl).2
      have hboW : bo < W2.heap.size := (Array.getElem?_eq_some_iff.1 hC.xo).1
      have HR : ∃ vs A' c' m, RowK W2 b xs.length xs 0 vs A' c' m := ⟨vs0, fun _ => none, fun _ => 0, fun _ => W2.heap.size, hrow0, by omega, Nat.le_refl _, fun i h => by omega, fun i t h => by omega, fun i t h => by omega, fun i t h => by omega, fun i t h => by omega⟩
      have HC := Lib.hid hC
      have HR := Lib.hid HR
      have HA := Lib.hid hA
      have hxn : xs.length ≠ 0 := by omega
      clear hC hrow0 hA x0 x1 y0 y1 g0 g1 q0' q1 hB HW hmk hM e0 e1 h0
      dsimp only
      obtain ⟨u0, u1, _, _⟩ := cells_two HC.out.x1
      go_wp2
      go_loopw [30] (fun i wr => ∃ k : Nat, k ≤ xs.length ∧ i = .int .i64 (k : Int) ∧ KeepsC (· = b) W2 wr ∧ Hid (∃ vs A' c' m, RowK wr b xs.length xs k vs A' c' m) ∧ Hid (∀ t ∈ xs.take k, plainT t = true)) (fun i _ => xs.length - (intOf i).toNat)
      case atStart => exact ⟨0, Nat.zero_le _, rfl, KeepsC.refl _ _, HR, Lib.hid fun t ht => by simp at ht⟩
      case round =>
        obtain ⟨k, hk, rfl, hKr, H, HP⟩ := hrel
        have hwz := HC.out.B.size
        have hblk : ∀ g, g < W2.heap.size → g ≠ b → wr.heap[g]? = W2.heap[g]? := fun g h1 h2 => hKr.block h1 h2
        obtain ⟨b0, b1, g0, g1⟩ := cells_two ((hblk _ (by omega) (by omega)).trans HC.out.x2)
        obtain ⟨c0, c1, _, _⟩ := cells_two ((hblk _ hboW (fun e => hbne e.symm)).trans HC.out.xo)
        have hBw : Below w.heap.size w wr := HC.out.B.trans (hKr.below (by omega) fun g e => by omega)
        have hbs : b < wr.heap.size := Nat.lt_of_lt_of_le hbW hKr.size
        by_cases hlt : k < xs.length
        · obtain ⟨t, ht⟩ : ∃ t, xs[k]? = some t := ⟨_, List.getElem?_eq_getElem hlt⟩
          obtain ⟨bb, off, A1, c1', hAe, ha⟩ := (HA.out.on hBw).get ht
          subst hAe
          have e0 := ha.c0
          have e1 := ha.c1
          have hsub := Lib.hid (ha.sub)
          have hi64 := ha.hi
          have hmem := List.mem_of_getElem? ht
          have hszt : t.size ≤ 4398046511104 := by have := size_mem hmem; simp only [Tm.size] at hsz; omega
          have Ht := Lib.hid ht
          obtain ⟨vs, A', c', m, hR⟩ := H.out
          have hvl : vs.length = xs.length * 2 := hR.row.1
          have hR := Lib.hid hR
          obtain ⟨W3, hW3⟩ : ∃ W3, wr.alloc (.cells #[.int .i64 t.fn, .slice A1 t.args.length c1'] 31) = W3 := ⟨_, rfl⟩
          have hB3 : Below wr.heap.size wr W3 := by rw [← hW3]; exact (Below.refl _ _).alloc (Nat.le_refl _) _
          obtain ⟨f0, f1, _, _⟩ := cells_two (W := W3) (b := wr.heap.size) (x := .int .i64 t.fn) (y := .slice A1 t.args.length c1') (t := 31) (by rw [← hW3]; exact heap_alloc_new wr _)
          have hz3 : wr.heap.size < W3.heap.size := by rw [← hW3]; simp
          have hIH := ih t hmem hszt A1 c1' W3 hi64 (hsub.out.on hB3)
          have HW3 := Lib.hid hW3
          have hR3 := Lib.hid (hR.out.on hbs hB3)
          have Hcx := Lib.hid (fun (w' : World) (hb : Below W3.heap.size W3 w') => (show w'.cell? ⟨bo, 1, none⟩ = some (.slice (some ⟨b, 0, none⟩) xs.length xs.length) ∧ w'.heap[w.heap.size + 1]? = some (.cells #[.int .i64 0, .slice none 0 0] 31) from ⟨cell_on (hB3.trans (hb.mono hB3.size)) (by have := hKr.size; omega) c1, (hb.block _ (by have := hB3.size; have := hKr.size; omega)).trans ((hB3.block _ (by have := hKr.size; omega)).trans ((hblk _ (by omega) (by omega)).trans HC.out.x2))⟩))
          have hBz := Lib.hid (fun (w' : World) (hb : Below W3.heap.size W3 w') => (show Below wr.heap.size wr w' from hB3.trans (hb.mono hB3.size)))
          rcases hpl : plainT t with _ | _
          · have hbad := Lib.hid (plain_bad (f := f) hmem hpl)
            have HIH := Lib.hid (cop_at_no hpl hIH)
            clear ht ha H c0 c1 b0 b1 g0 g1 hIH hW3 hpl
            go_wp2_with (first
              | (go_at_call 42; rw [HW3.out]; with_reducible refine HIH.out.mono ?_; go_must (rintro e w4 ⟨rfl, hb4⟩; obtain ⟨d1, dx⟩ := Hcx.out w4 hb4; obtain ⟨b0, b1, g0, g1⟩ := cells_two dx; have hl1 : w.heap.size + 1 < w4.heap.size := (Array.getElem?_eq_some_iff.1 dx).1))
              | fail)
            have hB4 : Below w.heap.size w w4 := hBw.trans ((hBz.out w4 hb4).mono hBw.size)
            obtain ⟨z0, z1⟩ := set2_two (u := .int .i64 0) (v := .slice none 0 0) dx
            have z2 := (Below.heap_alloc ((w4.setCell ⟨w.heap.size + 1, 0, none⟩ (.int .i64 0)).setCell ⟨w.heap.size + 1, 1, none⟩ (.slice none 0 0)) (.cells #[.int .i64 0, .slice none 0 0] 31) (w.heap.size + 1) (by simpa using hl1)).trans z1
            have k0 := (cells_two z2).1
            have k1 := (cells_two z2).2.1
            exact bodyPost_ret (v := .tuple #[.agg #[.int .i64 0, .slice none 0 0], .bool false]) (by simp [results, Try.results42, go_sem, k0, k1]) rfl (cop_no hbad.out (((hB4.setCell (by show _ ≤ w.heap.size + 1; omega) _).setCell (by show _ ≤ w.heap.size + 1; omega) _).alloc (by simp; omega) _))
          · have HIH := Lib.hid (cop_at_yes hpl hIH)
            have Hpl := Lib.hid hpl
            clear ht ha H c0 c1 b0 b1 g0 g1 hIH hW3 hpl
            go_wp2_with (first
              | (go_at_call 42; rw [HW3.out]; with_reducible refine HIH.out.mono ?_; go_must (rintro e w4 ⟨A4, c4, rfl, hO4, hb4⟩; obtain ⟨d1, dx⟩ := Hcx.out w4 hb4; have hO4 := Lib.hid hO4; have hR4 := hR3.out.on (by omega) hb4; have s0 := hR4.row.frozenAt (k * 2); have s1 := hR4.row.frozenAt (k * 2 + 1); have r0 := (hR4.row.cellAt (k * 2) (by omega)).trans (List.getElem?_eq_getElem (by omega)); have r1 := (hR4.row.cellAt (k * 2 + 1) (by omega)).trans (List.getElem?_eq_getElem (by omega)); have hR4 := Lib.hid hR4; have hl1 : b < w4.heap.size := (by have := hb4.size; have := hB3.size; omega); have hl2 : bo < w4.heap.size := (by have := hb4.size; have := hB3.size; have := hKr.size; omega)))
              | fail)
            have hst := hR4.out.step (c1 := c4) Ht.out hi64 hO4.out (Nat.le_trans hR3.out.mke (Nat.le_refl W3.heap.size))
            obtain ⟨X, hX⟩ : ∃ X, (w4.setCell ⟨b, k * 2, none⟩ (.int .i64 t.fn)).setCell ⟨b, k * 2 + 1, none⟩ (.slice A4 t.args.length c4) = X := ⟨_, rfl⟩
            have hXs : w4.heap.size = X.heap.size := by rw [← hX]; simp
            have hK5 : KeepsC (· = b) W2 X := by
              rw [← hX]
              exact Keeps.trans (Keeps.trans (hKr.trans (KeepsC.of_below (hBz.out w4 hb4))) ((Keeps.set _ _ _).mono fun g e => e.2)) ((Keeps.set _ _ _).mono fun g e => e.2)
            rw [hX] at hst
            have hst2 : ∃ vs A' c' m, RowK (X.alloc (.cells #[.int .i64 t.fn, .slice A4 t.args.length c4] 31)) b xs.length xs (k + 1) vs A' c' m := by
              obtain ⟨vs', A'', c'', m', h⟩ := hst
              exact ⟨vs', A'', c'', m', h.on (by omega) ((Below.refl _ _).alloc (Nat.le_refl _) _)⟩
            have hst2 := Lib.hid hst2
            have hpn : Hid (∀ u ∈ xs.take (k + 1), plainT u = true) := Lib.hid fun u hu => by
              rw [List.take_add_one, Ht.out] at hu
              rcases List.mem_append.1 hu with hu | hu
              · exact HP.out u hu
              · simp at hu; subst hu; exact Hpl.out
            rw [hX]
            go_roundw
            case rel => exact ⟨k + 1, by omega, by go_num, hK5.alloc _, hst2, hpn⟩
            case measure => simp [intOf]; omega
        · obtain rfl : k = xs.length := by omega
          obtain ⟨vs, A', c', m, hR⟩ := H.out
          have hp : plainT (.node f xs) = true := by
            have hP := HP.out
            rw [List.take_length] at hP
            rw [plainT, plainL_eq, List.all_eq_true.2 hP, decide_eq_true (show (0 : Int) ≤ f by omega)]; rfl
          have hbx := (hblk _ (by omega) (by omega)).trans HC.out.x2
          go_wp2
          obtain ⟨z0, z1⟩ := set2_two (u := .int .i64 f) (v := .slice (some ⟨b, 0, none⟩) xs.length xs.length) hbx
          have k0 := (cells_two z0).1
          have k1 := (cells_two z1).2.1
          refine bodyPost_ret (v := .tuple #[.agg #[.int .i64 f, .slice (some ⟨b, 0, none⟩) xs.length xs.length], .bool true]) (by simp [results, Try.results42, go_sem, k0, k1]) rfl (cop_yes hp ((hBw.setCell (by show _ ≤ w.heap.size + 1; omega) _).setCell (by show _ ≤ w.heap.size + 1; omega) _) ?_)
          refine OwnT.wide (lo := b) (hi := wr.heap.size) ((hR.whole (by omega) (by omega) (Nat.le_refl _) (Nat.le_refl _)).keep fun g h1 _ => ?_) (by omega) (by simp)
          exact (heap_setCell_other _ _ _ _ (by show g ≠ w.heap.size + 1; omega)).trans (heap_setCell_other _ _ _ _ (by show g ≠ w.heap.size + 1; omega))

end Go.Proofs.Ytglfjmbclimeeaa

/- match: bind, walked. -/

namespace Go.Proofs.Ytglfjmbclimeeaa

open Go.RowKit Go.Shelf Go.Maps
set_option maxRecDepth 100000

/-- From w to w': the matcher's row is v' and what it has bound is l'; what it owns it owned, or it is new. -/
structure MatStep (w w' : World) (S : Nat → Prop) (bx bm : Nat) (v v' : Value) (l' : List Bi) : Prop where
  m : MatW w' (fun g => S g ∨ (w.heap.size ≤ g ∧ g < w'.heap.size)) bx bm v' l'
  k : KeepsC (OwnM bx bm v) w w'
  blk : ∀ g, v'.ownBlock = some g → v.ownBlock = some g ∨ w.heap.size ≤ g

section

variable {w w1 w2 : World} {S : Nat → Prop} {bx bm : Nat} {v v1 v2 : Value} {l l1 l2 : List Bi}

theorem MatStep.of_below (h : MatW w S bx bm v l) (hb : Below w.heap.size w w1) : MatStep w w1 S bx bm v v l :=
  ⟨(h.on hb).wide (fun _ e => .inl e) fun g e => e.elim (fun e => Nat.lt_of_lt_of_le (h.lt g e) hb.size) fun e => e.2, KeepsC.of_below hb, fun _ e => .inl e⟩

theorem MatStep.trans (h1 : MatStep w w1 S bx bm v v1 l1) (h2 : MatStep w1 w2 (fun g => S g ∨ (w.heap.size ≤ g ∧ g < w1.heap.size)) bx bm v1 v2 l2) : MatStep w w2 S bx bm v v2 l2 := by
  have s1 := h1.k.size
  have s2 := h2.k.size
  refine ⟨h2.m.wide (fun g e => ?_) (fun g e => ?_), Keeps.trans h1.k.k (Keeps.mono h2.k.k fun g e => ⟨by have := e.1; omega, fun e2 => ?_⟩), fun g e => ?_⟩
  · rcases e with (e | e) | e
    · exact .inl e
    · exact .inr (by omega)
    · exact .inr (by omega)
  · rcases e with e | e
    · have := h1.m.lt g (.inl e); omega
    · exact e.2
  · rcases e2 with e2 | e2 | e2
    · exact e.2 (.inl e2)
    · exact e.2 (.inr (.inl e2))
    · rcases h1.blk g e2 with h | h
      · exact e.2 (.inr (.inr h))
      · have := e.1; omega
  · rcases h2.blk g e with h | h
    · exact h1.blk g h
    · right; omega

theorem MatStep.below (h1 : MatStep w w1 S bx bm v v1 l1) (hb : Below w1.heap.size w1 w2) : MatStep w w2 S bx bm v v1 l1 := h1.trans (.of_below h1.m hb)

/-- One more is bound. -/
theorem MatW.bind {W2 W3 X W4 : World} {v4 : Value} {x : Bi} (h : MatW w S bx bm v l) (hb : Below w.heap.size w W2) (hx : BiFx W2 (fun g => w.heap.size ≤ g ∧ g < W2.heap.size) x) (hge : 0 ≤ x.v) (hV : findB (bdsM l) x.v = none) (hp : plainT x.t = true)
    (hm : TMap W3 bm (l.length + 1) (fun y => if y = x.v then some x.tv else biV l y)) (hg3 : W2.grownBy W3 (some bm)) (hX : Below W3.heap.size W3 X)
    (hr : W4.ownsRow 0 3 1 v4 (l.length + 1) ((l.map Bi.v).map (Value.int .i64) ++ [.int .i64 x.v])) (hg4 : X.grownBy W4 v.ownBlock) (hat : v4.ownBlock = v.ownBlock ∨ v4.ownBlock = some X.heap.size) :
    MatStep w (W4.setCell ⟨bx, 1, none⟩ v4) S bx bm v v4 (l ++ [x]) := by
  have hlt := h.lt
  have hbx := h.own bx (.inl rfl)
  have hbm := h.own bm (.inr (.inl rfl))
  have hvS : ∀ g, v.ownBlock = some g → S g := fun g e => h.own g (.inr (.inr e))
  have s2 := hb.size
  have s3 := hg3.size
  have s4 := hX.size
  have s5 := hg4.size
  have hbxl := hlt bx hbx
  have hbml := hlt bm hbm
  -- blocks
  have k23 : ∀ g, g < W2.heap.size → g ≠ bm → W3.heap[g]? = W2.heap[g]? := fun g h1 h2 => hg3.block g h1 fun e => h2 (by injection e)
  have k34 : ∀ g, g < W3.heap.size → v.ownBlock ≠ some g → W4.heap[g]? = W3.heap[g]? := fun g h1 h2 => (hg4.block g (by omega) fun e => h2 e.symm).trans (hX.block g h1)
  have kk : ∀ g, g < W2.heap.size → ¬ OwnM bx bm v g → (W4.setCell ⟨bx, 1, none⟩ v4).heap[g]? = W2.heap[g]? := fun g h1 h2 => by
    rw [heap_setCell_other _ _ _ _ (fun e => h2 (.inl e)), k34 g (by omega) (fun e => h2 (.inr (.inr e))), k23 g h1 (fun e => h2 (.inr (.inl e)))]
  have hv4 : ∀ g, v4.ownBlock = some g → v.ownBlock = some g ∨ W3.heap.size ≤ g := fun g e => by
    rcases hat with h1 | h1
    · rw [h1] at e; exact .inl e
    · rw [h1] at e; injection e with e; right; omega
  have hbx4 : W4.heap[bx]? = some (.cells #[.map (some bm), v] 64) := by
    rw [k34 bx (by omega) h.av.1, k23 bx (by omega) h.ne, hb.block bx hbxl]; exact h.box
  have hv4x : v4.ownBlock ≠ some bx := fun e => by
    rcases hv4 _ e with h1 | h1
    · exact h.av.1 h1
    · omega
  have hv4m : v4.ownBlock ≠ some bm := fun e => by
    rcases hv4 _ e with h1 | h1
    · exact h.av.2 h1
    · omega
  have hnew : ∀ g, w.heap.size ≤ g → g < W2.heap.size → ¬ OwnM bx bm v g := fun g h1 _ e => by
    rcases e with e | e | e
    · omega
    · omega
    · have := hlt g (hvS g e); omega
  refine ⟨⟨?_, ?_, ⟨?_, ?_⟩, fun y hy => ?_, ?_, h.ne, ⟨hv4x, hv4m⟩, fun g e => ?_, fun g e => ?_⟩, ?_, fun g e => ?_⟩
  · have := heap_setCell_same W4 bx 1 _ _ v4 hbx4
    simpa using this
  · rw [List.length_append]
    refine (hm.kept ?_).ext fun y _ => ?_
    · rw [heap_setCell_other _ _ _ _ (fun e => h.ne e.symm)]
      exact k34 bm (by omega) h.av.2
    · rw [biV_push]
      exact (biV_none).2 hV
  · have hr' : W4.ownsRow 0 3 1 v4 ((l ++ [x]).map Bi.v).length (((l ++ [x]).map Bi.v).map (Value.int .i64)) := by
      simpa using hr
    exact row_keep hr' fun g e => heap_setCell_other _ _ _ _ fun e2 => hv4x (by rw [e, e2])
  · intro z hz
    rw [List.map_append] at hz
    rcases List.mem_append.1 hz with hz | hz
    · exact h.row.i64 z hz
    · simp at hz; subst hz; exact hx.iv
  · rcases List.mem_append.1 hy with hy | hy
    · refine ((h.fx y hy).keep fun g e => ?_).wide fun g e => ⟨.inl e.1, fun e2 => ?_⟩
      · rw [kk g (by have := hlt g e.1; omega) e.2]; exact hb.block g (hlt g e.1)
      · rcases e2 with e2 | e2 | e2
        · exact e.2 (.inl e2)
        · exact e.2 (.inr (.inl e2))
        · rcases hv4 g e2 with h1 | h1
          · exact e.2 (.inr (.inr h1))
          · have := hlt g e.1; omega
    · simp at hy; subst hy
      refine (hx.keep fun g e => kk g e.2 (hnew g e.1 e.2)).wide fun g e => ⟨.inr ⟨e.1, by simp; omega⟩, fun e2 => ?_⟩
      rcases e2 with e2 | e2 | e2
      · omega
      · omega
      · rcases hv4 g e2 with h1 | h1
        · have := hlt g (hvS g h1); omega
        · omega
  · have : bdsM (l ++ [x]) = bdsM l ++ [x.bd] := by simp [bdsM]
    rw [this]
    exact h.ok.push hge hV hp
  · rcases e with rfl | rfl | e
    · exact .inl hbx
    · exact .inl hbm
    · have hl4 := (row_lt hr g e).2
      rcases hv4 g e with h1 | h1
      · exact .inl (hvS g h1)
      · exact .inr ⟨by omega, by simpa using hl4⟩
  · rcases e with e | e
    · have := hlt g e; simp; omega
    · exact e.2
  · refine ⟨by show W4.os = _; rw [hg4.os, hX.os, hg3.os, hb.os], by show W4.tape = _; rw [hg4.tape, hX.tape, hg3.tape, hb.tape], by show W4.output = _; rw [hg4.output, hX.output, hg3.output, hb.output], by simp; omega, fun g e => ?_⟩
    rw [kk g (by have := e.1; omega) e.2]
    exact hb.block g e.1
  · rcases hv4 g e with h1 | h1
    · exact .inl h1
    · right; omega

end

theorem biV_tv {l : List Bi} {v : Int} {x : Bd} (h : findB (bdsM l) v = some x) : ∃ y ∈ l, y.bd = x ∧ biV l v = some (.agg #[.int .i64 y.t.fn, .slice y.A y.t.args.length y.c]) := biV_some h

/-- What bind answers. -/
def BndPost (r : Option (List Bd)) (w : World) (S : Nat → Prop) (bx bm : Nat) (v : Value) (l : List Bi) (e : Ending) (w' : World) : Prop :=
  ∃ v' l', e = .returned (.bool r.isSome) ∧ bdsM l' = r.getD (bdsM l) ∧ MatStep w w' S bx bm v v' l'

set_option maxHeartbeats 4000000 in
theorem mbind_any (f : Int) (xs : List Tm) (u : Tm) (hf : f < 0) (hf64 : I64 f) (hu64 : I64 u.fn) (hsz : u.size ≤ 4398046511104) (A B : Option Addr) (c d bx bm : Nat) (S : Nat → Prop) (v : Value) (l : List Bi) (w : World) (hM : MatW w S bx bm v l) (hl : l.length ≤ 1099511627776)
    (hB : Args w w.heap.size B u.args) :
    Calls Try.prog 60 #[.pointer (some ⟨bx, 0, none⟩), .agg #[.int .i64 f, .slice A xs.length c, .int .i64 u.fn, .slice B u.args.length d]] w (BndPost (wkT (.node f xs) (bdsM l) u) w S bx bm v l) := by
  rw [wkT_var hf]
  obtain ⟨i0, hi, hz0, hz1, hz2⟩ := info_parts info_int
  obtain ⟨W, hW⟩ : ∃ W, w.alloc (.cells #[.int .i64 f, .slice A xs.length c, .int .i64 u.fn, .slice B u.args.length d] 90) = W := ⟨_, rfl⟩
  have hBW : Below w.heap.size w W := by rw [← hW]; exact (Below.refl _ _).alloc (Nat.le_refl _) _
  have q0 := heap_alloc_new w (.cells #[.int .i64 f, .slice A xs.length c, .int .i64 u.fn, .slice B u.args.length d] 90)
  rw [hW] at q0
  have hWs : w.heap.size < W.heap.size := (Array.getElem?_eq_some_iff.1 q0).1
  have x0 := cells_n q0 0 _ rfl
  have x1 := cells_n q0 1 _ rfl
  have x2 := cells_n q0 2 _ rfl
  have x3 := cells_n q0 3 _ rfl
  have HW := Lib.hid hW
  have HM := Lib.hid hM
  have Hq0 := Lib.hid q0
  have HB := Lib.hid hB
  have hbxl := hM.lt bx (hM.own bx (.inl rfl))
  have hbml := hM.lt bm (hM.own bm (.inr (.inl rfl)))
  clear hW q0 hM hB
  by_cases hx : xs.length = 0
  · have hx0 : decide (((xs.length : Nat) : Int) > 0) = false := by simp [hx]
    have hx1 : ¬ (((xs.length : Nat) : Int) > 0) := by omega
    rw [if_pos hx]
    clear hx
    have hv64 : I64 (-1 - f) := ⟨by have := hf64.1; omega, by have := hf64.1; omega⟩
    have hwr : IntKind.i64.wrap (-1 - f) = -1 - f := by rw [IntKind.wrap_i64]; have := hf64.1; omega
    have bc0 := (cells_two ((hBW.block bx hbxl).trans HM.out.box)).1
    have hlook := (HM.out.map.kept (hBW.block bm hbml)).look hv64
    rcases hb : findB (bdsM l) (-1 - f) with _ | y
    · have hbV := biV_none.2 hb
      rw [hbV] at hlook
      simp only [Option.getD_none, Option.isSome_none, zeroTm] at hlook
      have hbnd : bndM (bdsM l) (-1 - f) u = if plainT u = true then some (bdsM l ++ [⟨-1 - f, u⟩]) else none := by unfold bndM; rw [hb]
      have hC : ∀ w1, Below W.heap.size W w1 → Calls Try.prog 42 #[.agg #[.int .i64 u.fn, .slice B u.args.length d]] w1 (CopPost u w1) := fun w1 h1 => copied_any u hsz B d w1 hu64 (HB.out.on (hBW.trans (h1.mono hBW.size)))
      rcases hpl : plainT u with _ | _
      · rw [hpl] at hbnd
        simp only [if_false, Bool.false_eq_true] at hbnd
        rw [hbnd]
        have HC := Lib.hid (fun w1 h1 => cop_at_no hpl (hC w1 h1))
        clear hbnd hpl hC hb hbV
        go_enter Try.func60, Try.ntmps60
        go_upto_region 1 with fail
        rw [HW.out]
        go_wp2_with (first
          | (go_at_call 42; with_reducible refine (HC.out _ ((Below.refl _ _).alloc (Nat.le_refl _) _)).mono ?_; go_must (rintro e w2 ⟨rfl, hb2⟩))
          | fail)
        go_ret
        exact ⟨v, l, rfl, rfl, .of_below HM.out ((hBW.trans ((((Below.refl _ _).alloc (Nat.le_refl _) _).trans (hb2.mono (by simp))).mono hBW.size)).alloc (by have h9 := hb2.size; have := hBW.size; simp at h9; omega) _)⟩
      · rw [hpl] at hbnd
        simp only [if_true] at hbnd
        rw [hbnd]
        have HC := Lib.hid (fun w1 h1 => cop_at_yes hpl (hC w1 h1))
        have Hpl := Lib.hid hpl
        have Hb := Lib.hid hb
        clear hbnd hpl hC hb hbV
        go_enter Try.func60, Try.ntmps60
        go_upto_region 1 with fail
        rw [HW.out]
        go_upto_region 9 with (first
          | (go_at_call 42; with_reducible refine (HC.out _ ((Below.refl _ _).alloc (Nat.le_refl _) _)).mono ?_; go_must (rintro e w2 ⟨A2, c2, rfl, hO2, hb2⟩))
          | fail)
        have hB2 : Below w.heap.size w w2 := hBW.trans ((((Below.refl _ _).alloc (Nat.le_refl _) _).trans (hb2.mono (by simp))).mono hBW.size)
        obtain ⟨W2, hW2⟩ : ∃ W2, w2.alloc (.cells #[.int .i64 u.fn, .slice A2 u.args.length c2] 31) = W2 := ⟨_, rfl⟩
        have h2s := hb2.size
        have hB22 : Below w2.heap.size w2 W2 := by rw [← hW2]; exact (Below.refl _ _).alloc (Nat.le_refl _) _
        have q8 := heap_alloc_new w2 (.cells #[.int .i64 u.fn, .slice A2 u.args.length c2] 31)
        rw [hW2] at q8
        have hBW2 : Below w.heap.size w W2 := hB2.trans (hB22.mono hB2.size)
        have hws2 : W.heap.size < w2.heap.size := by simp at h2s; omega
        have hfx : BiFx W2 (fun g => w.heap.size ≤ g ∧ g < W2.heap.size) ⟨-1 - f, u, A2, c2⟩ := ⟨hv64, hu64, ((hO2.argsN.keep fun g e => hB22.block g e.2).wide fun g e => ⟨by have := e.1; simp at this; omega, Nat.lt_of_lt_of_le e.2 hB22.size⟩)⟩
        obtain ⟨d0, d1, _, _⟩ := cells_two q8
        have bc2 := (cells_two ((hBW2.block bx hbxl).trans HM.out.box))
        have bc20 := bc2.1
        have hTd : TMap W2.drew bm l.length (biV l) := HM.out.map.kept (hBW2.block bm hbml)
        obtain ⟨w3, hrun, hT3, hgr3⟩ := hTd.put (v := .agg #[.int .i64 u.fn, .slice A2 u.args.length c2]) (by omega) hv64 (biV_none.2 Hb.out)
        have hrow := HM.out.row.row
        obtain ⟨Av, cv, hv⟩ := HM.out.slice
        have hvb := HM.out.av
        have hrl := row_lt hrow
        have hk3 : ∀ g, g < w.heap.size → g ≠ bm → w3.heap[g]? = w.heap[g]? := fun g h1 h2 => (hgr3.block g (by have := hBW2.size; show g < W2.heap.size; omega) fun e => h2 (by injection e)).trans (hBW2.block g h1)
        have hbx3 := (hk3 bx hbxl HM.out.ne).trans HM.out.box
        have y1 := (cells_two hbx3).2.1
        have s3 : W2.heap.size ≤ w3.heap.size := hgr3.size
        have hrow3 : w3.ownsRow 0 3 1 v l.length ((l.map Bi.v).map (Value.int .i64)) := by
          have := row_keep hrow fun g e => hk3 g (hrl g e).2 fun e2 => hvb.2 (by rw [e, e2])
          simpa using this
        have hbxX : ∀ w' : World, w'.heap[bx]? = w3.heap[bx]? → w'.cell? ⟨bx, 1, none⟩ = some v ∧ w'.frozen? ⟨bx, 1, none⟩ = false := fun w' h => ⟨(cells_two (h.trans hbx3)).2.1, (cells_two (h.trans hbx3)).2.2.2⟩
        have HfX := Lib.hid hfx
        have HT3 := Lib.hid hT3
        have Hgr3 := Lib.hid hgr3
        have Hrow3 := Lib.hid hrow3
        have HbxX := Lib.hid hbxX
        have HBW2 := Lib.hid hBW2
        have hvx := hvb.1
        have hrl3 := row_lt hrow3
        have HW2 := Lib.hid hW2
        have hbxs : bx < w3.heap.size := by have := hBW2.size; omega
        subst hv
        clear hfx hT3 hgr3 hrow3 hbxX hrow hW2 q8 hTd hvb hbx3 hk3 hrl bc2 hlook bc0
        rw [HW2.out]
        go_region_law (fail)
        all_goals
          go_wp2_with (first
            | (at_builtin
               go_must (
               refine wpList_append_own_at _ rfl _ _ 53 rfl 0 3 i0 (.int .i64 0) 1 8 Try.underlying53 hi hz0 hz1 hz2 rfl (by decide) (.slice Av l.length cv) l.length _ rfl (row_keep Hrow3.out fun g e => Below.heap_alloc w3 _ g (hrl3 g e).2) ⟨w3.heap.size, 0, none⟩ 1 1 [.int .i64 (-1 - f)] rfl rfl (cell_one_new _ _ _) (by simp [Value.oneCell']) (by unfold maxLen; omega) (by omega) (by omega) ?_
               intro v5 w5 hown5 hgr5 _ hat5
               obtain ⟨kx, kf⟩ := HbxX.out w5 ((hgr5.block bx (by simp; omega) fun e => hvx e.symm).trans (Below.heap_alloc w3 _ bx hbxs))
               have Hown5 := Lib.hid hown5
               have Hgr5 := Lib.hid hgr5
               have Hat5 := Lib.hid hat5
               obtain ⟨A5, c5, hv5⟩ := row_slice hown5
               subst hv5
               clear hown5 hgr5 hat5))
            | fail)
          go_ret
          exact ⟨_, l ++ [⟨-1 - f, u, A2, c2⟩], rfl, by simp [bdsM, Bi.bd], HM.out.bind HBW2.out HfX.out (by show 0 ≤ -1 - f; omega) Hb.out Hpl.out HT3.out ⟨Hgr3.out.os, Hgr3.out.tape, Hgr3.out.output, Hgr3.out.size, Hgr3.out.block⟩ ((Below.refl _ _).alloc (Nat.le_refl _) _) Hown5.out Hgr5.out Hat5.out⟩
    · obtain ⟨z, hz, hzy, hzV⟩ := biV_tv hb
      subst hzy
      rw [hzV] at hlook
      simp only [Option.getD_some, Option.isSome_some] at hlook
      have hfx := HM.out.fx z hz
      have hbnd : bndM (bdsM l) (-1 - f) u = if cmpT z.t u = 0 then some (bdsM l) else none := by unfold bndM; rw [hb]; rfl
      have hSame : ∀ w1, Below W.heap.size W w1 → Calls Try.prog 85 #[.agg #[.int .i64 z.t.fn, .slice z.A z.t.args.length z.c], .agg #[.int .i64 u.fn, .slice B u.args.length d]] w1 fun e w' => e = .returned (.bool (decide (cmpT z.t u = 0))) ∧ Below w1.heap.size w1 w' := fun w1 h1 => by
        have hb1 := hBW.trans (h1.mono hBW.size)
        exact termSame_any z.t u z.A B z.c d w1 hfx.it hu64 ((hfx.args.keep fun g e => hb1.block g (HM.out.lt g e.1)).args fun g e => Nat.lt_of_lt_of_le (HM.out.lt g e.1) hb1.size) (HB.out.on hb1)
      have HSame := Lib.hid hSame
      clear hSame hfx hz hzV hb
      by_cases hc : cmpT z.t u = 0
      · rw [if_pos hc] at hbnd
        rw [hbnd]
        have Hd := Lib.hid (decide_eq_true hc)
        clear hbnd hc
        go_enter Try.func60, Try.ntmps60
        go_upto_region 1 with fail
        rw [HW.out]
        go_wp2_with (first
          | (go_at_call 85; with_reducible refine (HSame.out _ ((Below.refl _ _).alloc (Nat.le_refl _) _)).mono ?_; go_must (rintro e w2 ⟨rfl, hb2⟩; rw [Hd.out]))
          | fail)
        go_ret
        exact ⟨v, l, rfl, rfl, .of_below HM.out (hBW.trans ((((Below.refl _ _).alloc (Nat.le_refl _) _).trans (hb2.mono (by simp))).mono hBW.size))⟩
      · rw [if_neg hc] at hbnd
        rw [hbnd]
        have Hd := Lib.hid (decide_eq_false hc)
        clear hbnd hc
        go_enter Try.func60, Try.ntmps60
        go_upto_region 1 with fail
        rw [HW.out]
        go_wp2_with (first
          | (go_at_call 85; with_reducible refine (HSame.out _ ((Below.refl _ _).alloc (Nat.le_refl _) _)).mono ?_; go_must (rintro e w2 ⟨rfl, hb2⟩; rw [Hd.out]))
          | fail)
        go_ret
        exact ⟨v, l, rfl, rfl, .of_below HM.out (hBW.trans ((((Below.refl _ _).alloc (Nat.le_refl _) _).trans (hb2.mono (by simp))).mono hBW.size))⟩
  · have hx0 : 0 < xs.length := by omega
    rw [if_neg hx]
    clear hx
    go_enter Try.func60, Try.ntmps60
    go_upto_region 1 with fail
    rw [HW.out]
    go_wp2
    go_ret
    exact ⟨v, l, rfl, rfl, .of_below HM.out hBW⟩

end Go.Proofs.Ytglfjmbclimeeaa

/- match: rows of pairs; arguments, walked. -/

namespace Go.Proofs.Ytglfjmbclimeeaa

open Go.RowKit Go.Shelf
set_option maxRecDepth 100000

/-- A part of the pattern and what it is to become. -/
structure Pq where
  p : Tm
  u : Tm
  A : Option Addr
  c : Nat
  B : Option Addr
  d : Nat

def Pq.cells (x : Pq) : List Value := [.int .i64 x.p.fn, .slice x.A x.p.args.length x.c, .int .i64 x.u.fn, .slice x.B x.u.args.length x.d]

def Pq.k (x : Pq) : Tm × Tm := (x.p, x.u)

theorem pq_get (l : List Pq) (i r : Nat) (hr : r < 4) : (l.flatMap Pq.cells)[i * 4 + r]? = (l[i]?).bind fun x => x.cells[r]? := by
  induction l generalizing i with
  | nil => simp
  | cons x l ih =>
    have hlen : x.cells.length = 4 := rfl
    rw [List.flatMap_cons]
    cases i with
    | zero => rw [List.getElem?_append_left (by omega)]; simp
    | succ i =>
      rw [List.getElem?_append_right (by omega), hlen, show (i + 1) * 4 + r - 4 = i * 4 + r from by omega, ih]
      simp

theorem pq_len (l : List Pq) : (l.flatMap Pq.cells).length = l.length * 4 := by
  induction l with
  | nil => rfl
  | cons x l ih =>
    have hlen : x.cells.length = 4 := rfl
    rw [List.flatMap_cons, List.length_append, ih, hlen, List.length_cons]
    omega

theorem info_pq : (Try.prog.info? 90).map (fun i => (i.zero, i.size, i.bytes)) = some (some (.agg #[.int .i64 0, .slice none 0 0, .int .i64 0, .slice none 0 0]), 4, 64) := by kernel_rfl

structure PqFx (w : World) (N : Nat → Prop) (x : Pq) : Prop where
  ip : I64 x.p.fn
  iu : I64 x.u.fn
  sp : ArgsN w N x.A x.p.args
  su : ArgsN w N x.B x.u.args

structure RowQ (w : World) (base : Nat) (v : Value) (l : List Pq) (N : Nat → Prop) : Prop where
  row : w.ownsRow base 90 4 v l.length (l.flatMap Pq.cells)
  fx : ∀ x ∈ l, PqFx w N x

section

variable {w w' : World} {base : Nat} {v : Value} {l : List Pq} {N : Nat → Prop}

theorem RowQ.keep (h : RowQ w base v l N) (hv : ∀ g, v.ownBlock = some g → w'.heap[g]? = w.heap[g]?) (hN : ∀ g, N g → w'.heap[g]? = w.heap[g]?) : RowQ w' base v l N :=
  ⟨row_keep h.row hv, fun x hx => ⟨(h.fx x hx).ip, (h.fx x hx).iu, (h.fx x hx).sp.keep hN, (h.fx x hx).su.keep hN⟩⟩

theorem RowQ.push {x : Pq} {v' : Value} (h : RowQ w base v l N) (hrow : w'.ownsRow base 90 4 v' (l.length + 1) (l.flatMap Pq.cells ++ x.cells)) (hx : PqFx w N x) (hk : ∀ g, N g → w'.heap[g]? = w.heap[g]?) : RowQ w' base v' (l ++ [x]) N := by
  refine ⟨?_, ?_⟩
  · rw [List.length_append, List.flatMap_append]
    simpa using hrow
  · intro y hy
    rcases List.mem_append.1 hy with hy | hy
    · exact ⟨(h.fx y hy).ip, (h.fx y hy).iu, (h.fx y hy).sp.keep hk, (h.fx y hy).su.keep hk⟩
    · simp only [List.mem_cons, List.not_mem_nil, or_false] at hy
      subst hy; exact ⟨hx.ip, hx.iu, hx.sp.keep hk, hx.su.keep hk⟩

theorem ownsRow_cut {e : TypeId} {size n m : Nat} {A : Option Addr} {c : Nat} {vs : List Value} (h : w.ownsRow base e size (.slice A n c) n vs) (hm : m ≤ n) : w.ownsRow base e size (.slice A m c) m (vs.take (m * size)) := by
  refine ⟨by rw [List.length_take, h.1]; exact Nat.min_eq_left (Nat.mul_le_mul_right size hm), ?_⟩
  rcases h.2 with ⟨e0, h0⟩ | ⟨g, cap, cur, e0, hb, hg, hc, hx, hs, ht⟩
  · injection e0 with e1 e2 e3
    subst e1; subst e3
    obtain rfl : m = 0 := by omega
    exact .inl ⟨rfl, rfl⟩
  · injection e0 with e1 e2 e3
    subst e1; subst e3
    refine .inr ⟨g, c, cur, rfl, hb, hg, by omega, hx, hs, ?_⟩
    rw [← ht, List.take_take, Nat.min_eq_left (Nat.mul_le_mul_right size hm)]

theorem pq_take (l : List Pq) (m : Nat) : (l.flatMap Pq.cells).take (m * 4) = (l.take m).flatMap Pq.cells := by
  induction l generalizing m with
  | nil => simp
  | cons x l ih =>
    cases m with
    | zero => simp
    | succ m =>
      have hlen : x.cells.length = 4 := rfl
      rw [List.take_succ_cons, List.flatMap_cons, List.flatMap_cons, List.take_append, hlen, ← ih]
      rw [List.take_of_length_le (by omega), show (m + 1) * 4 - 4 = m * 4 by omega]

theorem RowQ.cut {A : Option Addr} {c n m : Nat} (h : RowQ w base (.slice A n c) l N) (hn : l.length = n) (hm : m ≤ n) : RowQ w base (.slice A m c) (l.take m) N := by
  refine ⟨?_, fun x hx => h.fx x (List.mem_of_mem_take hx)⟩
  subst hn
  have := ownsRow_cut h.row hm
  rw [pq_take] at this
  rw [show (l.take m).length = m by rw [List.length_take]; omega]
  exact this

theorem RowQ.get (h : RowQ w base v l N) {i : Nat} {x : Pq} (hx : l[i]? = some x) : ∃ g c, v = .slice (some ⟨g, 0, none⟩) l.length c ∧ g < w.heap.size ∧ w.cell? ⟨g, i * 4, none⟩ = some (.int .i64 x.p.fn) ∧ w.cell? ⟨g, i * 4 + 1, none⟩ = some (.slice x.A x.p.args.length x.c) ∧ w.cell? ⟨g, i * 4 + 2, none⟩ = some (.int .i64 x.u.fn) ∧ w.cell? ⟨g, i * 4 + 3, none⟩ = some (.slice x.B x.u.args.length x.d) := by
  have hlt := (List.getElem?_eq_some_iff.1 hx).1
  have q : ∀ r, r < 4 → (l.flatMap Pq.cells)[i * 4 + r]? = x.cells[r]? := fun r hr => by rw [pq_get l i r hr, hx]; rfl
  rcases h.row.2 with ⟨_, h0⟩ | ⟨g, cap, cur, rfl, hb, hg, hc, hm, hs, ht⟩
  · omega
  · refine ⟨g, cap, rfl, (Array.getElem?_eq_some_iff.1 hg).1, ?_, ?_, ?_, ?_⟩
    · rw [h.row.cellAt (i * 4) (by omega)]; exact q 0 (by omega)
    · rw [h.row.cellAt (i * 4 + 1) (by omega)]; exact q 1 (by omega)
    · rw [h.row.cellAt (i * 4 + 2) (by omega)]; exact q 2 (by omega)
    · rw [h.row.cellAt (i * 4 + 3) (by omega)]; exact q 3 (by omega)

end

theorem cells_new_pq (w : World) (x y z u : Value) (t : TypeId) : ∀ j c, [x, y, z, u][j]? = some c → (w.alloc (.cells #[x, y, z, u] t)).cell? ((⟨w.heap.size, 0, none⟩ : Addr).add j) = some c := by
  intro j c hj
  match j, hj with
  | 0, hj => simp at hj; subst hj; simp [Addr.add]
  | 1, hj => simp at hj; subst hj; simp [Addr.add]
  | 2, hj => simp at hj; subst hj; simp [Addr.add]
  | 3, hj => simp at hj; subst hj; simp [Addr.add]
  | j + 4, hj => simp at hj

/-- What the arguments leave. -/
structure ArgQ (w w' : World) (base : Nat) (lv v : Value) (L : List (Tm × Tm)) (N : Nat → Prop) : Prop where
  row : ∃ q, q.map Pq.k = L ∧ RowQ w' base v q N
  k : KeepsC (fun g => lv.ownBlock = some g) w w'
  bl : ∀ g, v.ownBlock = some g → lv.ownBlock = some g ∨ w.heap.size < g

theorem argQ_next {w wr w5 X : World} {base n : Nat} {lv v v5 : Value} {N : Nat → Prop} {qq : List Pq} {x : Pq} (hX : Below wr.heap.size wr X) (hn : qq.length = n) (hkp : KeepsC (fun g => lv.ownBlock = some g) w wr) (hbl : ∀ g, v.ownBlock = some g → lv.ownBlock = some g ∨ w.heap.size < g) (hQ : RowQ wr base v qq N) (hws : w.heap.size < wr.heap.size)
    (hown : w5.ownsRow base 90 4 v5 (n + 1) (qq.flatMap Pq.cells ++ x.cells)) (hgr : X.grownBy w5 v.ownBlock) (hat : v5.ownBlock = v.ownBlock ∨ v5.ownBlock = some X.heap.size) (hx : PqFx wr N x) (hN : ∀ g, N g → g < base) (hb : base ≤ wr.heap.size) (hlb : ∀ g, lv.ownBlock = some g → g < w.heap.size) :
    ArgQ w w5 base lv v5 ((qq ++ [x]).map Pq.k) N ∧ w5.heap[w.heap.size]? = wr.heap[w.heap.size]? ∧ w.heap.size < w5.heap.size := by
  have hrl := row_lt hQ.row
  have hs5 := hgr.size
  have hs := hX.size
  have hK : ∀ g, g < wr.heap.size → v.ownBlock ≠ some g → w5.heap[g]? = wr.heap[g]? := fun g h1 h2 => (hgr.block g (by omega) fun e => h2 e.symm).trans (hX.block g h1)
  refine ⟨⟨⟨_, rfl, hQ.push (by rw [hn]; exact hown) hx fun g e => hK g (by have := hN g e; omega) fun e2 => by have := hN g e; have := (hrl g e2).1; omega⟩, Keeps.trans hkp.k ?_, fun g e => ?_⟩, hK _ hws ?_, by omega⟩
  · refine ⟨hgr.os.trans hX.os, hgr.tape.trans hX.tape, hgr.output.trans hX.output, by omega, fun g hg => hK g (Nat.lt_of_lt_of_le hg.1 hkp.size) fun e => ?_⟩
    rcases hbl g e with h | h
    · exact hg.2 h
    · have := hg.1; omega
  · rcases hat with h | h
    · rw [h] at e; exact hbl g e
    · rw [h] at e; injection e with e; right; omega
  · intro e
    rcases hbl _ e with h | h
    · have := hlb _ h; omega
    · omega

theorem zip_drop {xs us : List Tm} {k : Nat} {t u : Tm} (ht : xs[k]? = some t) (hu : us[k]? = some u) : (xs.zip us).drop k = (t, u) :: (xs.zip us).drop (k + 1) := by
  have hz : (xs.zip us)[k]? = some (t, u) := by rw [List.getElem?_zip_eq_some]; exact ⟨ht, hu⟩
  obtain ⟨h1, h2⟩ := List.getElem?_eq_some_iff.1 hz
  rw [List.drop_eq_getElem_cons h1, h2]

set_option maxHeartbeats 2000000 in
theorem margs_any (p u : Tm) (A B lA : Option Addr) (c d lc base : Nat) (q : List Pq) (N : Nat → Prop) (w : World) (hle : p.args.length ≤ u.args.length) (hN : ∀ g, N g → g < base) (hbs : base ≤ w.heap.size) (hl : q.length + p.args.length ≤ 1099511627776)
    (hA : ArgsN w N A p.args) (hB : ArgsN w N B u.args) (hq : RowQ w base (.slice lA q.length lc) q N) :
    Calls Try.prog 62 #[.agg #[.int .i64 p.fn, .slice A p.args.length c, .int .i64 u.fn, .slice B u.args.length d], .slice lA q.length lc] w fun e w' => ∃ v, e = .returned v ∧ ArgQ w w' base (.slice lA q.length lc) v (q.map Pq.k ++ (p.args.zip u.args).reverse) N := by
  obtain ⟨f, xs⟩ := p
  obtain ⟨g, us⟩ := u
  simp only [Tm.fn, Tm.args] at hle hl hA hB ⊢
  obtain ⟨i0, hi, hz0, hz1, hz2⟩ := info_parts info_pq
  obtain ⟨W, hW⟩ : ∃ W, w.alloc (.cells #[.int .i64 f, .slice A xs.length c, .int .i64 g, .slice B us.length d] 90) = W := ⟨_, rfl⟩
  have hBW : Below w.heap.size w W := by rw [← hW]; exact (Below.refl _ _).alloc (Nat.le_refl _) _
  have q0 := heap_alloc_new w (.cells #[.int .i64 f, .slice A xs.length c, .int .i64 g, .slice B us.length d] 90)
  rw [hW] at q0
  have hWs : w.heap.size < W.heap.size := (Array.getElem?_eq_some_iff.1 q0).1
  have x1 := cells_n q0 1 _ rfl
  have hrl := row_lt hq.row
  have H0 : ArgQ w W base (.slice lA q.length lc) (.slice lA q.length lc) (q.map Pq.k ++ ((xs.zip us).drop xs.length).reverse) N := by
    refine ⟨⟨q, ?_, hq.keep (fun g e => hBW.block g (hrl g e).2) (fun g e => hBW.block g (by have := hN g e; omega))⟩, KeepsC.of_below hBW, fun g e => .inl e⟩
    rw [List.drop_of_length_le (by rw [List.length_zip]; omega)]; simp
  have H0 := Lib.hid H0
  have HW := Lib.hid hW
  have HA := Lib.hid hA
  have HB := Lib.hid hB
  have Hq0 := Lib.hid q0
  clear hW q0 hA hB hq
  have hfs : ∀ n : Nat, n ≤ 1099511627776 → IntKind.i64.wrap ((n : Int) - 1) = (n : Int) - 1 := fun n hn => by rw [IntKind.wrap_i64]; omega
  have hf0 := hfs xs.length (by omega)
  go_enter Try.func62, Try.ntmps62
  go_upto_region 1 with fail
  rw [HW.out]
  go_wp2
  go_loopw [1, 5] (fun s i wr => ∃ k : Nat, k ≤ xs.length ∧ i = .int .i64 ((k : Int) - 1) ∧ Hid (ArgQ w wr base (.slice lA q.length lc) s (q.map Pq.k ++ ((xs.zip us).drop k).reverse) N) ∧ Hid (wr.heap[w.heap.size]? = W.heap[w.heap.size]?) ∧ w.heap.size < wr.heap.size) (fun _ i _ => (intOf i + 1).toNat)
  case atStart => exact ⟨xs.length, Nat.le_refl _, rfl, H0, Lib.hid rfl, hWs⟩
  case round =>
    obtain ⟨k, hk, rfl, H, Hb, hws⟩ := hrel
    rcases k with _ | k
    · have h0 : decide (((0 : Nat) : Int) - 1 ≥ 0) = false := by decide
      have hfin := Lib.hid H.out
      rw [List.drop_zero] at hfin
      go_wp2
      go_ret
      exact ⟨_, rfl, hfin.out⟩
    · obtain ⟨t, ht⟩ : ∃ t, xs[k]? = some t := ⟨_, List.getElem?_eq_getElem (by omega)⟩
      obtain ⟨u, hu⟩ : ∃ u, us[k]? = some u := ⟨_, List.getElem?_eq_getElem (by omega)⟩
      obtain ⟨b1, o1, A1, c1, rfl, ha⟩ := HA.out.get ht
      obtain ⟨b2, o2, A2, c2, rfl, hb⟩ := HB.out.get hu
      have hkp := H.out.k
      have hold : ∀ g, g < base → wr.heap[g]? = w.heap[g]? := fun g e => hkp.block (by omega) fun e2 => by have := (hrl g e2).1; omega
      have hb1 : b1 < base := hN b1 ha.hb
      have hb2 : b2 < base := hN b2 hb.hb
      have e0 := (cell_of_heap (hold b1 hb1)).trans ha.c0
      have e1 := (cell_of_heap (hold b1 hb1)).trans ha.c1
      have e2 := (cell_of_heap (hold b2 hb2)).trans hb.c0
      have e3 := (cell_of_heap (hold b2 hb2)).trans hb.c1
      have hbx := Hb.out.trans Hq0.out
      have y1 := cells_n hbx 1 _ rfl
      have y3 := cells_n hbx 3 _ rfl
      obtain ⟨qq, hqk, hQ⟩ := H.out.row
      have hql : qq.length = q.length + (xs.length - (k + 1)) := by
        have := congrArg List.length hqk
        simpa [List.length_zip, Nat.min_eq_left hle] using this
      have hrow := hQ.row
      obtain ⟨Av, cv, hv⟩ := row_own hrow
      have hbs' : base ≤ wr.heap.size := Nat.le_trans hbs hkp.size
      have hbl0 := H.out.bl
      subst hv
      have hrl2 := row_lt hrow
      have Hrow := Lib.hid hrow
      have HQ := Lib.hid hQ
      have Hx : PqFx wr N ⟨t, u, A1, c1, A2, c2⟩ := ⟨ha.hi, hb.hi, ha.sub.keep fun g e => hold g (hN g e), hb.sub.keep fun g e => hold g (hN g e)⟩
      have Hx := Lib.hid Hx
      have hkey : (qq ++ [(⟨t, u, A1, c1, A2, c2⟩ : Pq)]).map Pq.k = q.map Pq.k ++ ((xs.zip us).drop k).reverse := by
        rw [zip_drop ht hu, List.reverse_cons, ← List.append_assoc, ← hqk, List.map_append]; rfl
      have Hkey := Lib.hid hkey
      have Hbl0 := Lib.hid hbl0
      have Hkp := Lib.hid hkp
      have h1 : decide (((k + 1 : Nat) : Int) - 1 ≥ 0) = true := decide_eq_true (by omega)
      have h2 : ((k + 1 : Nat) : Int) - 1 = (k : Int) := by omega
      have h3 := hfs k (by omega)
      have hkx : (k : Int) < (xs.length : Int) := by omega
      have hku : (k : Int) < (us.length : Int) := by omega
      have hk0 : (0 : Int) ≤ (k : Int) := by omega
      have hkt : ((k : Int)).toNat = k := by omega
      rw [h2]
      have h1' : decide ((k : Int) ≥ 0) = true := decide_eq_true hk0
      clear ht hu ha hb H hqk hQ hrow hkp hkey h1 h2 hbl0
      obtain ⟨n, hn⟩ : ∃ n, qq.length = n := ⟨_, rfl⟩
      rw [hn] at Hrow hql hrl2 HQ Hbl0
      have hnl : n ≤ 1099511627776 := by omega
      have Hn := Lib.hid hn
      clear hql
      rw [hn]
      clear hn
      go_wp2
      go_region_law
        (first
          | (refine step_append_at rfl (.tmp 15) (.tmp 29) 91 rfl base 90 i0 (.agg #[.int .i64 0, .slice none 0 0, .int .i64 0, .slice none 0 0]) 4 64 Try.underlying91 hi hz0 hz1 hz2 rfl (by decide) (.slice Av n cv) n _ (by simp [Act.eval]) (row_keep Hrow.out fun g e => Below.heap_alloc wr _ g (hrl2 g e).2) ⟨wr.heap.size, 0, none⟩ 1 1 [.int .i64 t.fn, .slice A1 t.args.length c1, .int .i64 u.fn, .slice A2 u.args.length c2] (by simp [Act.eval]) rfl (cells_new_pq _ _ _ _ _ _) (by simp [Value.oneCell']) (by unfold maxLen; omega) (by omega) (by simp; omega) ?_
             intro v5 w5 hown5 hgr5 hat5
             have Hown5 := Lib.hid hown5
             have Hgr5 := Lib.hid hgr5
             have Hat5 := Lib.hid hat5
             clear hown5 hgr5 hat5)
          | fail)
      all_goals
        obtain ⟨n1, n2, n3⟩ := argQ_next (v := .slice Av n cv) (Below.drew ((Below.refl _ _).alloc (Nat.le_refl _) _)) Hn.out Hkp.out Hbl0.out HQ.out hws Hown5.out Hgr5.out Hat5.out Hx.out hN hbs' fun g e => (hrl g e).2
        rw [Hkey.out] at n1
        have n1 := Lib.hid n1
        have n2 := Lib.hid (n2.trans Hb.out)
        go_wp2
        go_roundw
        case rel => exact ⟨k, by omega, by go_num, n1, n2, n3⟩
        case measure => simp [intOf] <;> omega

end Go.Proofs.Ytglfjmbclimeeaa

/- match: walk, walked. -/

namespace Go.Proofs.Ytglfjmbclimeeaa

open Go.RowKit Go.Shelf
set_option maxRecDepth 100000

/-- From w to w', with what the matcher owns named. -/
structure MatStp (w w' : World) (S S' : Nat → Prop) (bx bm : Nat) (v v' : Value) (l' : List Bi) : Prop where
  m : MatW w' S' bx bm v' l'
  k : KeepsC (OwnM bx bm v) w w'
  blk : ∀ g, v'.ownBlock = some g → v.ownBlock = some g ∨ w.heap.size ≤ g
  new : ∀ g, S' g → S g ∨ w.heap.size ≤ g

section

variable {w w1 w2 : World} {S S1 S2 : Nat → Prop} {bx bm : Nat} {v v1 v2 : Value} {l l1 l2 : List Bi}

theorem MatStp.refl (h : MatW w S bx bm v l) : MatStp w w S S bx bm v v l := ⟨h, KeepsC.refl _ _, fun _ e => .inl e, fun _ e => .inl e⟩

theorem MatStp.coarse (h : MatStp w w1 S S1 bx bm v v1 l1) (hS : ∀ g, S g → g < w.heap.size) : MatStep w w1 S bx bm v v1 l1 :=
  ⟨h.m.wide (fun g e => (h.new g e).elim .inl fun e2 => .inr ⟨e2, h.m.lt g e⟩) fun g e => e.elim (fun e => Nat.lt_of_lt_of_le (hS g e) h.k.size) fun e => e.2, h.k, h.blk⟩

theorem MatStp.step (h1 : MatStp w w1 S S1 bx bm v v1 l1) (h2 : MatStep w1 w2 S1 bx bm v1 v2 l2) : MatStp w w2 S (fun g => S1 g ∨ (w1.heap.size ≤ g ∧ g < w2.heap.size)) bx bm v v2 l2 := by
  have s1 := h1.k.size
  refine ⟨h2.m, Keeps.trans h1.k.k (Keeps.mono h2.k.k fun g e => ⟨by have := e.1; omega, fun e2 => ?_⟩), fun g e => ?_, fun g e => ?_⟩
  · rcases e2 with e2 | e2 | e2
    · exact e.2 (.inl e2)
    · exact e.2 (.inr (.inl e2))
    · rcases h1.blk g e2 with h | h
      · exact e.2 (.inr (.inr h))
      · have := e.1; omega
  · rcases h2.blk g e with h | h
    · exact h1.blk g h
    · right; omega
  · rcases e with e | e
    · exact h1.new g e
    · right; omega

/-- Other memory is written. -/
theorem MatStp.keepC {C : Nat → Prop} (h : MatStp w w1 S S1 bx bm v v1 l1) (hk : KeepsC C w1 w2) (hC : ∀ g, C g → ¬ S1 g) (hn : ∀ g, C g → w.heap.size ≤ g) : MatStp w w2 S S1 bx bm v v1 l1 :=
  ⟨h.m.keep hk.size fun g e => hk.block (h.m.lt g e) fun e2 => hC g e2 e, Keeps.trans h.k.k (Keeps.mono hk.k fun g e => ⟨Nat.lt_of_lt_of_le e.1 h.k.size, fun e2 => by have := hn g e2; have := e.1; omega⟩), h.blk, h.new⟩

end

theorem RowQ.one (w : World) (x : Pq) (base : Nat) (N : Nat → Prop) (hb : base ≤ w.heap.size) (hx : PqFx w N x) (hN : ∀ g, N g → g < w.heap.size) : RowQ (w.alloc (.cells #[.int .i64 x.p.fn, .slice x.A x.p.args.length x.c, .int .i64 x.u.fn, .slice x.B x.u.args.length x.d] 90)) base (.slice (some ⟨w.heap.size, 0, none⟩) 1 1) [x] N := by
  refine ⟨⟨rfl, .inr ⟨w.heap.size, 1, _, rfl, hb, heap_alloc_new w _, Nat.le_refl _, by decide, rfl, rfl⟩⟩, fun y hy => ?_⟩
  simp at hy; subst hy
  exact ⟨hx.ip, hx.iu, hx.sp.keep fun g e => Below.heap_alloc _ _ _ (hN g e), hx.su.keep fun g e => Below.heap_alloc _ _ _ (hN g e)⟩

theorem row_cap {w : World} {base n c : Nat} {e : TypeId} {size : Nat} {A : Option Addr} {vs : List Value} (h : w.ownsRow base e size (.slice A n c) n vs) : n ≤ c := by
  rcases h.2 with ⟨e, h0⟩ | ⟨g, cap, cur, e, _, _, hc, _⟩
  · omega
  · injection e with _ _ e3; omega

/-- How far the walk has come. -/
structure WlkI (w wr : World) (S : Nat → Prop) (bx bm : Nat) (v : Value) (l : List Bi) (p u : Tm) (N : Nat → Prop) (gk : Nat) (v' : Value) (l' : List Bi) (S' : Nat → Prop) (s : Value) (q : List Pq) : Prop where
  st : MatStp w wr S S' bx bm v v' l'
  row : RowQ wr w.heap.size s q N
  av : ∀ g, s.ownBlock = some g → ¬ S' g
  eq : wkS (q.map Pq.k).reverse (bdsM l') = wkT p (bdsM l) u
  ext : ∃ E, bdsM l' = bdsM l ++ E
  num : stkN (q.map Pq.k).reverse + l'.length ≤ p.size + l.length
  big : ∀ x ∈ q, x.u.size ≤ 4398046511104
  gk : stkN (q.map Pq.k).reverse ≤ gk

theorem rev_snoc {q : List Pq} {n : Nat} {x : Pq} (hn : q.length = n + 1) (hx : q[n]? = some x) : (q.map Pq.k).reverse = x.k :: ((q.take n).map Pq.k).reverse := by
  have : q = q.take n ++ [x] := by
    have := List.take_append_drop n q
    rw [List.drop_eq_getElem_cons (by omega), List.drop_of_length_le (by omega)] at this
    obtain ⟨_, h2⟩ := List.getElem?_eq_some_iff.1 hx
    rw [h2] at this
    exact this.symm
  conv => lhs; rw [this]
  simp

theorem stkN_len (s : List (Tm × Tm)) : s.length ≤ stkN s := by
  unfold stkN
  have := sizes_len (s.map Prod.fst)
  simpa using this

/-- Behind a round. -/
theorem WlkI.next {w wr w1 w2 : World} {S : Nat → Prop} {bx bm n gk : Nat} {v v' v1 s2 : Value} {l l' l1 : List Bi} {p u : Tm} {N S' : Nat → Prop} {q : List Pq} {x : Pq} {M1 : List Bd} {lA : Option Addr} {lc : Nat} (h : WlkI w wr S bx bm v l p u N gk v' l' S' (.slice lA (n + 1) lc) q) (hn : q.length = n + 1) (hx : q[n]? = some x)
    (hst : MatStep wr w1 S' bx bm v' v1 l1) (hM1 : bdsM l1 = M1) (heq : wkS (x.k :: ((q.take n).map Pq.k).reverse) (bdsM l') = wkS ((x.p.args.zip x.u.args) ++ ((q.take n).map Pq.k).reverse) M1)
    (hE : ∃ E, M1 = bdsM l' ++ E) (hdec : stkN (x.p.args.zip x.u.args) + 1 ≤ x.p.size) (hgrow : l1.length + stkN (x.p.args.zip x.u.args) ≤ l'.length + x.p.size)
    (hq : ArgQ w1 w2 w.heap.size (.slice lA n lc) s2 ((q.take n).map Pq.k ++ (x.p.args.zip x.u.args).reverse) N) :
    ∃ q2, WlkI w w2 S bx bm v l p u N (gk - 1) v1 l1 (fun g => S' g ∨ (wr.heap.size ≤ g ∧ g < w1.heap.size)) s2 q2 ∧ 0 < gk := by
  obtain ⟨⟨q2, hk2, hr2⟩, hkc, hbl⟩ := hq
  have hrev := rev_snoc hn hx
  have hz : stkN (q.map Pq.k).reverse = x.p.size + stkN ((q.take n).map Pq.k).reverse := by rw [hrev]; exact stk_cons _ _ _
  have hnew : (q2.map Pq.k).reverse = (x.p.args.zip x.u.args) ++ ((q.take n).map Pq.k).reverse := by rw [hk2]; simp
  have hz2 : stkN (q2.map Pq.k).reverse = stkN (x.p.args.zip x.u.args) + stkN ((q.take n).map Pq.k).reverse := by rw [hnew, stk_app]
  have hg0 := h.gk
  have hnm := h.num
  have hrl := row_lt h.row.row
  have hown : ∀ g, (Value.slice lA n lc).ownBlock = some g → (Value.slice lA (n + 1) lc).ownBlock = some g := fun g e => by
    cases lA with
    | none => simp [Value.ownBlock] at e
    | some a => simpa [Value.ownBlock] using e
  have hns : ∀ g, (Value.slice lA n lc).ownBlock = some g → ¬ (S' g ∨ (wr.heap.size ≤ g ∧ g < w1.heap.size)) := fun g e e2 => by
    rcases e2 with e2 | e2
    · exact h.av g (hown g e) e2
    · have := (hrl g (hown g e)).2; omega
  refine ⟨q2, ⟨(h.st.step hst).keepC hkc hns fun g e => (hrl g (hown g e)).1, hr2, fun g e e2 => ?_, ?_, ?_, by omega, fun y hy => ?_, by omega⟩, by omega⟩
  · rcases hbl g e with e3 | e3
    · exact hns g e3 e2
    · rcases e2 with e2 | e2
      · have := h.st.m.lt g e2
        have := hst.k.size
        omega
      · omega
  · rw [hnew, hM1, ← heq, ← hrev, h.eq]
  · obtain ⟨E, hE⟩ := hE
    obtain ⟨E0, hE0⟩ := h.ext
    exact ⟨E0 ++ E, by rw [hM1, hE, hE0, List.append_assoc]⟩
  · have hy2 : y.k ∈ q2.map Pq.k := List.mem_map.2 ⟨y, hy, rfl⟩
    rw [hk2] at hy2
    rcases List.mem_append.1 hy2 with hy2 | hy2
    · obtain ⟨z, hz', hzk⟩ := List.mem_map.1 hy2
      have : y.u = z.u := by have := congrArg Prod.snd hzk; exact this.symm
      rw [this]
      exact h.big z (List.mem_of_mem_take hz')
    · rw [List.mem_reverse] at hy2
      have hm := (List.of_mem_zip hy2).2
      have h1 := size_mem hm
      have h2 := h.big x (List.mem_of_getElem? hx)
      have h3 : x.u.size = sizes x.u.args + 1 := by cases x.u; simp [Tm.size, Tm.args]
      have h4 : y.u.size ≤ sizes x.u.args := h1
      omega

/-- The arguments, called behind what a round has done. -/
theorem wlk_args {w wr w1 : World} {S N S' : Nat → Prop} {bx bm n gk g cc : Nat} {v v' v1 : Value} {l l' l1 : List Bi} {p u : Tm} {q : List Pq} {x : Pq} (h : WlkI w wr S bx bm v l p u N gk v' l' S' (.slice (some ⟨g, 0, none⟩) (n + 1) cc) q) (hn : q.length = n + 1) (hx : q[n]? = some x)
    (hst : MatStep wr w1 S' bx bm v' v1 l1) (hN : ∀ g, N g → g < w.heap.size ∧ ¬ OwnM bx bm v g) (hle : x.p.args.length ≤ x.u.args.length) (hl : n + x.p.args.length ≤ 1099511627776) :
    Calls Try.prog 62 #[.agg #[.int .i64 x.p.fn, .slice x.A x.p.args.length x.c, .int .i64 x.u.fn, .slice x.B x.u.args.length x.d], .slice (some ⟨g, 0, none⟩) n cc] w1.drew fun e w' => ∃ s2, e = .returned s2 ∧ ArgQ w1 w' w.heap.size (.slice (some ⟨g, 0, none⟩) n cc) s2 ((q.take n).map Pq.k ++ (x.p.args.zip x.u.args).reverse) N := by
  have hNk : ∀ k, N k → ¬ OwnM bx bm v' k := fun k e e2 => by
    obtain ⟨h1, h2⟩ := hN k e
    rcases e2 with e2 | e2 | e2
    · exact h2 (.inl e2)
    · exact h2 (.inr (.inl e2))
    · rcases h.st.blk k e2 with h3 | h3
      · exact h2 (.inr (.inr h3))
      · omega
  have hNw : ∀ k, N k → w1.heap[k]? = wr.heap[k]? := fun k e => hst.k.block (Nat.lt_of_lt_of_le (hN k e).1 h.st.k.size) (hNk k e)
  have hR : RowQ w1 w.heap.size (.slice (some ⟨g, 0, none⟩) (n + 1) cc) q N := h.row.keep (fun k e => hst.k.block (row_lt h.row.row k e).2 fun e2 => h.av k e (h.st.m.own k e2)) hNw
  have hC := hR.cut hn (show n ≤ n + 1 by omega)
  have hlen : (q.take n).length = n := by rw [List.length_take]; omega
  have hfx := hR.fx x (List.mem_of_getElem? hx)
  have h2 := margs_any x.p x.u x.A x.B (some ⟨g, 0, none⟩) x.c x.d cc w.heap.size (q.take n) N w1.drew hle (fun k e => (hN k e).1) (by have := h.st.k.size; have := hst.k.size; show _ ≤ w1.heap.size; omega) (by omega) (hfx.sp.keep fun _ _ => rfl) (hfx.su.keep fun _ _ => rfl)
    (by rw [hlen]; exact hC.keep (fun _ _ => rfl) fun _ _ => rfl)
  rw [hlen] at h2
  refine h2.mono fun e w' ⟨s2, he, h3⟩ => ⟨s2, he, ⟨h3.row, ⟨h3.k.os, h3.k.tape, h3.k.output, h3.k.size, fun k e => h3.k.block e.1 e.2⟩, h3.bl⟩⟩

set_option maxHeartbeats 4000000 in
theorem mwalk_any (p u : Tm) (A B : Option Addr) (c d bx bm : Nat) (S N : Nat → Prop) (v : Value) (l : List Bi) (w : World) (hM : MatW w S bx bm v l) (hN : ∀ g, N g → g < w.heap.size ∧ ¬ OwnM bx bm v g) (hnum : p.size + l.length ≤ 1099511627776) (husz : u.size ≤ 4398046511104)
    (hp64 : I64 p.fn) (hu64 : I64 u.fn) (hA : ArgsN w N A p.args) (hB : ArgsN w N B u.args) :
    Calls Try.prog 34 #[.pointer (some ⟨bx, 0, none⟩), .agg #[.int .i64 p.fn, .slice A p.args.length c], .agg #[.int .i64 u.fn, .slice B u.args.length d]] w fun e w' => ∃ v' l', e = .returned (.bool (trmB (bdsM l) p u)) ∧ (trmB (bdsM l) p u = true → wkT p (bdsM l) u = some (bdsM l')) ∧ (∃ E, bdsM l' = bdsM l ++ E) ∧ l'.length ≤ p.size + l.length ∧ MatStep w w' S bx bm v v' l' := by
  obtain ⟨W, hW⟩ : ∃ W, (w.alloc (.cells #[.int .i64 p.fn, .slice A p.args.length c] 31)).alloc (.cells #[.int .i64 u.fn, .slice B u.args.length d] 31) = W := ⟨_, rfl⟩
  have hBW : Below w.heap.size w W := by rw [← hW]; exact ((Below.refl _ _).alloc (Nat.le_refl _) _).alloc (by simp) _
  have hWz : W.heap.size = w.heap.size + 2 := by rw [← hW]; simp
  have q1 := heap_alloc_new (w.alloc (.cells #[.int .i64 p.fn, .slice A p.args.length c] 31)) (.cells #[.int .i64 u.fn, .slice B u.args.length d] 31)
  have q0 := (Below.heap_alloc (w.alloc (.cells #[.int .i64 p.fn, .slice A p.args.length c] 31)) (.cells #[.int .i64 u.fn, .slice B u.args.length d] 31) w.heap.size (by simp)).trans (heap_alloc_new w _)
  rw [hW] at q0 q1
  rw [show (w.alloc (.cells #[.int .i64 p.fn, .slice A p.args.length c] 31)).heap.size = w.heap.size + 1 by simp] at q1
  obtain ⟨x0, x1, _, _⟩ := cells_two q0
  obtain ⟨y0, y1, _, _⟩ := cells_two q1
  obtain ⟨W1, hW1⟩ : ∃ W1, W.alloc (.cells #[.int .i64 p.fn, .slice A p.args.length c, .int .i64 u.fn, .slice B u.args.length d] 90) = W1 := ⟨_, rfl⟩
  have hR1 : RowQ W1 w.heap.size (.slice (some ⟨W.heap.size, 0, none⟩) 1 1) [⟨p, u, A, c, B, d⟩] N := by
    rw [← hW1]
    exact RowQ.one W ⟨p, u, A, c, B, d⟩ w.heap.size N hBW.size ⟨hp64, hu64, hA.keep fun g e => hBW.block g (hN g e).1, hB.keep fun g e => hBW.block g (hN g e).1⟩ fun g e => by have := (hN g e).1; omega
  have hBW1 : Below w.heap.size w W1 := by rw [← hW1]; exact hBW.alloc hBW.size _
  have hI0 : WlkI w W1 S bx bm v l p u N (p.size + 1) v l S (.slice (some ⟨W.heap.size, 0, none⟩) 1 1) [⟨p, u, A, c, B, d⟩] := by
    refine ⟨⟨hM.on hBW1, KeepsC.of_below hBW1, fun _ e => .inl e, fun _ e => .inl e⟩, hR1, fun g e e2 => ?_, ?_, ⟨[], by simp⟩, ?_, fun y hy => ?_, ?_⟩
    · simp [Value.ownBlock] at e
      have := hM.lt g e2
      omega
    · exact wkS_one p u _
    · have : stkN ((p, u) :: []) = p.size + stkN [] := stk_cons _ _ _
      have h0 : stkN [] = 0 := by simp [stkN, sizes]
      show stkN [(p, u)] + _ ≤ _
      omega
    · simp at hy; subst hy; exact husz
    · have : stkN ((p, u) :: []) = p.size + stkN [] := stk_cons _ _ _
      have h0 : stkN [] = 0 := by simp [stkN, sizes]
      show stkN [(p, u)] ≤ _
      omega
  have HI0 := Lib.hid hI0
  have HW := Lib.hid hW
  have HW1 := Lib.hid hW1
  have hMlt := Lib.hid hM.lt
  clear hI0 hW hW1 hR1 hM hA hB q0 q1
  go_enter Try.func34, Try.ntmps34
  go_upto_region 1 with fail
  rw [HW.out]
  go_wp2
  go_step3
  go_wp2
  go_step3
  go_wp2
  rw [HW1.out]
  go_loopg [7] (p.size + 1) (fun gk s wr => ∃ (v' : Value) (l' : List Bi) (S' : Nat → Prop) (q : List Pq) (qa : Option Addr) (qc : Nat), s = .slice qa q.length qc ∧ Hid (WlkI w wr S bx bm v l p u N gk v' l' S' s q))
  case atStart => exact ⟨v, l, S, [⟨p, u, A, c, B, d⟩], some ⟨w.heap.size + 2, 0, none⟩, 1, rfl, by rw [hWz] at HI0; exact HI0⟩
  case round =>
    obtain ⟨v', l', S', q, qa, qc, rfl, H⟩ := hrel
    obtain ⟨n, hn⟩ : ∃ n, q.length = n := ⟨_, rfl⟩
    have Hn := Lib.hid hn
    rw [hn] at H ⊢
    clear hn
    rcases n with _ | n
    · have hq : q = [] := List.eq_nil_of_length_eq_zero Hn.out
      have heq := H.out.eq
      rw [hq] at heq
      simp only [List.map_nil, List.reverse_nil, wkS] at heq
      have hB : trmB (bdsM l) p u = true := by unfold trmB; rw [← heq]; rfl
      have hnm := H.out.num
      have HE := Lib.hid heq.symm
      have HB' := Lib.hid hB
      clear heq hB
      go_wp2
      rw [Exit.noGoto_ret]
      go_ret
      exact ⟨v', l', ret_bool HB'.out.symm, fun _ => HE.out, H.out.ext, by omega, H.out.st.coarse hMlt.out⟩
    · have hxl : n < q.length := by rw [Hn.out]; omega
      obtain ⟨x, hx⟩ : ∃ x, q[n]? = some x := ⟨_, List.getElem?_eq_getElem hxl⟩
      obtain ⟨g, cc, hs, hgl, e0, e1, e2, e3⟩ := H.out.row.get hx
      rw [Hn.out] at hs
      injection hs with hs1 _ hs3
      subst hs1; subst hs3
      have hcap := row_cap (by have := H.out.row.row; rw [Hn.out] at this; exact this)
      have hcap1 : (n : Int) ≤ (qc : Int) := by omega
      have hcap2 : n ≤ qc := by omega
      have hfx := H.out.row.fx x (List.mem_of_getElem? hx)
      have hbig := H.out.big x (List.mem_of_getElem? hx)
      have hMr := H.out.st.m
      have hav := H.out.av g rfl
      have hnm := H.out.num
      have hrev := rev_snoc Hn.out hx
      have hz : stkN (q.map Pq.k).reverse = x.p.size + stkN ((q.take n).map Pq.k).reverse := by rw [hrev]; exact stk_cons _ _ _
      have hzn := stkN_len (q.map Pq.k).reverse
      rw [List.length_reverse, List.length_map, Hn.out] at hzn
      have hpos := size_pos x.p
      have Hx := Lib.hid hx
      obtain ⟨W9, hW9⟩ : ∃ W9, wr.alloc (.cells #[.int .i64 x.p.fn, .slice x.A x.p.args.length x.c, .int .i64 x.u.fn, .slice x.B x.u.args.length x.d] 90) = W9 := ⟨_, rfl⟩
      have hB9 : Below wr.heap.size wr W9 := by rw [← hW9]; exact (Below.refl _ _).alloc (Nat.le_refl _) _
      have q9 := heap_alloc_new wr (.cells #[.int .i64 x.p.fn, .slice x.A x.p.args.length x.c, .int .i64 x.u.fn, .slice x.B x.u.args.length x.d] 90)
      rw [hW9] at q9
      have z0 := cells_n q9 0 _ rfl
      have z1 := cells_n q9 1 _ rfl
      have z2 := cells_n q9 2 _ rfl
      have z3 := cells_n q9 3 _ rfl
      have hw9 : wr.heap.size < W9.heap.size := (Array.getElem?_eq_some_iff.1 q9).1
      have HW9 := Lib.hid hW9
      have f0 : IntKind.i64.wrap (((n + 1 : Nat) : Int) - 1) = (n : Int) := by rw [IntKind.wrap_i64]; omega
      have f2 : (n : Int) < ((n + 1 : Nat) : Int) := by omega
      have f4 : (0 : Int) ≤ (n : Int) := by omega
      have f3 : ((n : Int)).toNat = n := by omega
      have hNw : ∀ k, N k → k < wr.heap.size := fun k e => Nat.lt_of_lt_of_le (hN k e).1 H.out.st.k.size
      have hS9 := MatStep.of_below hMr hB9
      have heta := Tm.eta x.p
      have hL40 : l'.length ≤ 1099511627776 := by omega
      have hnn : n + x.p.args.length ≤ 1099511627776 := by
        have h1 := sizes_len x.p.args
        have h2 : x.p.size = sizes x.p.args + 1 := by cases x.p; simp [Tm.size, Tm.args]
        have h3 := stkN_len ((q.take n).map Pq.k).reverse
        rw [List.length_reverse, List.length_map, List.length_take] at h3
        omega
      by_cases hneg : x.p.fn < 0
      · have hnl : decide (x.p.fn < 0) = true := decide_eq_true hneg
        have hbd := mbind_any x.p.fn x.p.args x.u hneg hfx.ip hfx.iu hbig x.A x.B x.c x.d bx bm _ v' l' W9 hS9.m hL40 ((hfx.su.keep fun k e => hB9.block k (hNw k e)).args fun k e => Nat.lt_of_lt_of_le (hNw k e) hB9.size)
        rw [heta] at hbd
        rcases hr : wkT x.p (bdsM l') x.u with _ | M1
        · rw [hr] at hbd
          have hno : trmB (bdsM l) p u = false := by
            unfold trmB
            rw [← H.out.eq, hrev]
            show ((wkT x.p (bdsM l') x.u).bind _).isSome = false
            rw [hr]; rfl
          have HN := Lib.hid hno
          have HBd : Hid (Calls Try.prog 60 #[.pointer (some ⟨bx, 0, none⟩), .agg #[.int .i64 x.p.fn, .slice x.A x.p.args.length x.c, .int .i64 x.u.fn, .slice x.B x.u.args.length x.d]] W9 fun e w' => ∃ v1 l1, e = .returned (.bool false) ∧ bdsM l1 = bdsM l' ∧ MatStep wr w' S' bx bm v' v1 l1) := Lib.hid (hbd.mono fun e w' ⟨v1, l1, h1, h2, h3⟩ => ⟨v1, l1, h1, h2, hS9.trans h3⟩)
          clear hbd hr hx heta hW9 q9 hno hS9 hMr
          go_wp2_with (first
            | (go_at_call 60; rw [HW9.out]; with_reducible refine HBd.out.mono ?_; go_must (rintro e w1 ⟨v1, l1, rfl, hl1, hst1⟩))
            | fail)
          rw [Exit.noGoto_ret]
          go_ret
          obtain ⟨E, hE⟩ := H.out.ext
          refine ⟨v1, l1, ret_bool HN.out.symm, fun h => (by rw [HN.out] at h; cases h), ⟨E, by rw [hl1, hE]⟩, ?_, (H.out.st.step hst1).coarse hMlt.out⟩
          have : l1.length = l'.length := by have := congrArg List.length hl1; simpa [bdsM] using this
          omega
        · rw [hr] at hbd
          have hx0 : x.p.args.length = 0 := by
            rw [← heta, wkT_var hneg] at hr
            split at hr
            · assumption
            · cases hr
          have hxn : x.p.args = [] := List.eq_nil_of_length_eq_zero hx0
          have hps : x.p.size = 1 := by rw [← heta, hxn]; simp [Tm.size, sizes]
          have hext := (wk_mt x.p (bdsM l') x.u hMr.ok).ext M1 hr
          have hzp : x.p.args.zip x.u.args = [] := by rw [hxn]; simp
          have hstk : stkN (x.p.args.zip x.u.args) = 0 := by rw [hzp]; simp [stkN, sizes]
          have HBd : Hid (Calls Try.prog 60 #[.pointer (some ⟨bx, 0, none⟩), .agg #[.int .i64 x.p.fn, .slice x.A x.p.args.length x.c, .int .i64 x.u.fn, .slice x.B x.u.args.length x.d]] W9 fun e w' => ∃ v1 l1, e = .returned (.bool true) ∧ (bdsM l1 = M1 ∧ MatStep wr w' S' bx bm v' v1 l1 ∧ w'.heap[wr.heap.size]? = W9.heap[wr.heap.size]?)) := Lib.hid (hbd.mono fun e w' ⟨v1, l1, h1, h2, h3⟩ => ⟨v1, l1, h1, h2, hS9.trans h3, h3.k.block hw9 fun e => by
            rcases e with e | e | e
            · have := hMr.lt _ (hMr.own bx (.inl rfl)); omega
            · have := hMr.lt _ (hMr.own bm (.inr (.inl rfl))); omega
            · have := hMr.lt _ (hMr.own _ (.inr (.inr e))); omega⟩)
          have HWlk : Hid (∀ (w1 w2 : World) (v1 s2 : Value) (l1 : List Bi), bdsM l1 = M1 → MatStep wr w1 S' bx bm v' v1 l1 → ArgQ w1 w2 w.heap.size (.slice (some ⟨g, 0, none⟩) n qc) s2 ((q.take n).map Pq.k ++ (x.p.args.zip x.u.args).reverse) N → ∃ q2, WlkI w w2 S bx bm v l p u N (gk - 1) v1 l1 (fun g => S' g ∨ (wr.heap.size ≤ g ∧ g < w1.heap.size)) s2 q2 ∧ 0 < gk) := Lib.hid fun w1 w2 v1 s2 l1 h1 h2 h3 => H.out.next Hn.out Hx.out h2 h1 (by
              simp only [wkS]
              show (wkT x.p (bdsM l') x.u).bind _ = _
              rw [hr, hzp]; rfl) hext.2.1 (by omega) (by
              have h4 := hext.2.2
              rw [← h1] at h4
              simp only [bdsM, List.length_map] at h4
              omega) h3
          have HAr : Hid (∀ (w1 : World) (v1 : Value) (l1 : List Bi), MatStep wr w1 S' bx bm v' v1 l1 → Calls Try.prog 62 #[.agg #[.int .i64 x.p.fn, .slice x.A x.p.args.length x.c, .int .i64 x.u.fn, .slice x.B x.u.args.length x.d], .slice (some ⟨g, 0, none⟩) n qc] w1.drew fun e w' => ∃ s2, e = .returned s2 ∧ ArgQ w1 w' w.heap.size (.slice (some ⟨g, 0, none⟩) n qc) s2 ((q.take n).map Pq.k ++ (x.p.args.zip x.u.args).reverse) N) := Lib.hid fun w1 v1 l1 h => wlk_args H.out Hn.out Hx.out h hN (by omega) hnn
          have Hq9 := Lib.hid q9
          clear hbd hr hx heta hW9 q9 hS9 hMr hx0 hxn hps hext hzp hstk
          go_wp2_with (first
            | (go_at_call 60; rw [HW9.out]; with_reducible refine HBd.out.mono ?_; go_must (rintro e w1 ⟨v1, l1, rfl, hl1, hst1, hb9⟩; have hq9 := hb9.trans Hq9.out; have k0 := cells_n hq9 0 _ rfl; have k1 := cells_n hq9 1 _ rfl; have k2 := cells_n hq9 2 _ rfl; have k3 := cells_n hq9 3 _ rfl; have HAr1 := Lib.hid (HAr.out w1 v1 l1 hst1)))
            | fail)
          go_region_law
            (first
              | (go_simp
                 go_at_call 62
                 with_reducible refine HAr1.out.mono ?_
                 rintro e w2 ⟨s2, rfl, hq2⟩
                 dsimp only)
              | fail)
          all_goals
            obtain ⟨q2, hw2, hgk⟩ := HWlk.out w1 w2 v1 s2 l1 hl1 hst1 hq2
            obtain ⟨A2, c2, hs2⟩ := row_slice hw2.row.row
            subst hs2
            have hw2 := Lib.hid hw2
            clear hq2
            go_wp2
            go_roundg (gk - 1)
            case measure => omega
            case rel => exact ⟨v1, l1, _, q2, A2, c2, rfl, hw2⟩
      · have hnl : decide (x.p.fn < 0) = false := decide_eq_false hneg
        have HHd := Lib.hid (mheads_any x.p x.u x.A x.B x.c x.d W9)
        by_cases hh : x.p.fn = x.u.fn ∧ x.p.args.length = x.u.args.length
        · have hhb : headsB x.p x.u = true := by unfold headsB; rw [decide_eq_true hh.1, decide_eq_true hh.2]; rfl
          have hps : x.p.size = sizes x.p.args + 1 := by cases x.p; simp [Tm.size, Tm.args]
          have hstk : stkN (x.p.args.zip x.u.args) = sizes x.p.args := stk_zip hh.2
          have hnode : ∀ s, wkS ((x.p, x.u) :: s) (bdsM l') = wkS (x.p.args.zip x.u.args ++ s) (bdsM l') := fun s => by
            have := wkS_node (f := x.p.fn) (xs := x.p.args) hneg hh.1 hh.2 s (bdsM l')
            rwa [heta] at this
          have HWlk : Hid (∀ (w1 w2 : World) (s2 : Value), MatStep wr w1 S' bx bm v' v' l' → ArgQ w1 w2 w.heap.size (.slice (some ⟨g, 0, none⟩) n qc) s2 ((q.take n).map Pq.k ++ (x.p.args.zip x.u.args).reverse) N → ∃ q2, WlkI w w2 S bx bm v l p u N (gk - 1) v' l' (fun g => S' g ∨ (wr.heap.size ≤ g ∧ g < w1.heap.size)) s2 q2 ∧ 0 < gk) := Lib.hid fun w1 w2 s2 h2 h3 => H.out.next Hn.out Hx.out h2 rfl (hnode _) ⟨[], by simp⟩ (by omega) (by omega) h3
          have HAr : Hid (∀ (w1 : World), MatStep wr w1 S' bx bm v' v' l' → Calls Try.prog 62 #[.agg #[.int .i64 x.p.fn, .slice x.A x.p.args.length x.c, .int .i64 x.u.fn, .slice x.B x.u.args.length x.d], .slice (some ⟨g, 0, none⟩) n qc] w1.drew fun e w' => ∃ s2, e = .returned s2 ∧ ArgQ w1 w' w.heap.size (.slice (some ⟨g, 0, none⟩) n qc) s2 ((q.take n).map Pq.k ++ (x.p.args.zip x.u.args).reverse) N) := Lib.hid fun w1 h => wlk_args H.out Hn.out Hx.out h hN (by omega) hnn
          have Hhb := Lib.hid hhb
          have Hq9 := Lib.hid q9
          have HS9 := Lib.hid (fun (w1 : World) (hb : Below W9.heap.size W9 w1) => hS9.below hb)
          clear hx heta hW9 q9 hMr hh hhb hneg hps hstk hnode hS9
          go_wp2_with (first
            | (go_at_call 61; rw [HW9.out]; with_reducible refine HHd.out.mono ?_; go_must (rintro e w1 ⟨rfl, hb1⟩; rw [Hhb.out]; have hst1 := HS9.out w1 hb1; have hq9 := (hb1.block _ hw9).trans Hq9.out; have k0 := cells_n hq9 0 _ rfl; have k1 := cells_n hq9 1 _ rfl; have k2 := cells_n hq9 2 _ rfl; have k3 := cells_n hq9 3 _ rfl; have HAr1 := Lib.hid (HAr.out w1 hst1)))
            | fail)
          go_region_law
            (first
              | (go_simp
                 go_at_call 62
                 with_reducible refine HAr1.out.mono ?_
                 rintro e w2 ⟨s2, rfl, hq2⟩
                 dsimp only)
              | fail)
          all_goals
            obtain ⟨q2, hw2, hgk⟩ := HWlk.out w1 w2 s2 hst1 hq2
            obtain ⟨A2, c2, hs2⟩ := row_slice hw2.row.row
            subst hs2
            have hw2 := Lib.hid hw2
            clear hq2
            go_wp2
            go_roundg (gk - 1)
            case measure => omega
            case rel => exact ⟨v', l', _, q2, A2, c2, rfl, hw2⟩
        · have hno : trmB (bdsM l) p u = false := by
            unfold trmB
            rw [← H.out.eq, hrev]
            show (wkS ((x.p, x.u) :: _) (bdsM l')).isSome = false
            rw [← heta, wkS_bad hneg hh]; rfl
          have hhb : headsB x.p x.u = false := by
            unfold headsB
            rw [Bool.and_eq_false_iff, decide_eq_false_iff_not, decide_eq_false_iff_not]
            by_cases h1 : x.p.fn = x.u.fn
            · exact .inr fun h2 => hh ⟨h1, h2⟩
            · exact .inl h1
          have HN := Lib.hid hno
          have Hhb := Lib.hid hhb
          clear hx heta hW9 q9 hno hMr hh hhb hneg
          go_wp2_with (first
            | (go_at_call 61; rw [HW9.out]; with_reducible refine HHd.out.mono ?_; go_must (rintro e w1 ⟨rfl, hb1⟩; rw [Hhb.out]))
            | fail)
          rw [Exit.noGoto_ret]
          go_ret
          obtain ⟨E, hE⟩ := H.out.ext
          exact ⟨v', l', ret_bool HN.out.symm, fun h => (by rw [HN.out] at h; cases h), ⟨E, hE⟩, by omega, (H.out.st.step (hS9.below hb1)).coarse hMlt.out⟩

end Go.Proofs.Ytglfjmbclimeeaa

/- match: Back, Mark, Term, walked. -/

namespace Go.Proofs.Ytglfjmbclimeeaa

open Go.RowKit Go.Shelf Go.Maps
set_option maxRecDepth 100000

theorem biV_del {a b : List Bi} {x : Bi} (nd : (a ++ x :: b).Pairwise fun x y => x.v ≠ y.v) (v : Int) : biV (a ++ b) v = if v = x.v then none else biV (a ++ x :: b) v := by
  unfold biV
  rw [List.find?_append, List.find?_append, List.find?_cons]
  obtain ⟨h1, h2, h3⟩ := List.pairwise_append.1 nd
  obtain ⟨h4, _⟩ := List.pairwise_cons.1 h2
  by_cases e : v = x.v
  · subst e
    have n1 : a.find? (fun y => decide (y.v = x.v)) = none := List.find?_eq_none.2 fun y hy h => h3 y hy x (by simp) (of_decide_eq_true h)
    have n2 : b.find? (fun y => decide (y.v = x.v)) = none := List.find?_eq_none.2 fun y hy h => h4 y hy (of_decide_eq_true h).symm
    rw [n1, n2]; simp
  · rw [if_neg e, decide_eq_false (fun h => e h.symm)]

theorem biV_at {a b : List Bi} {x : Bi} (nd : (a ++ x :: b).Pairwise fun x y => x.v ≠ y.v) : biV (a ++ x :: b) x.v = some x.tv := biV_mem nd (by simp)

/-- Back to k. -/
def backL (l : List Bi) (k : Int) : List Bi := if 0 ≤ k ∧ k ≤ (l.length : Int) then l.take k.toNat else l

section

variable {w W1 : World} {S : Nat → Prop} {bx bm k c : Nat} {l : List Bi} {A : Option Addr}

theorem MatW.back (h : MatW w S bx bm (.slice A l.length c) l) (hk : k ≤ l.length) (hK : KeepsC (· = bm) w W1) (hm : TMap W1 bm k (biV (l.take k))) : MatStep w (W1.setCell ⟨bx, 1, none⟩ (.slice A k c)) S bx bm (.slice A l.length c) (.slice A k c) (l.take k) := by
  have hbx := h.own bx (.inl rfl)
  have hbm := h.own bm (.inr (.inl rfl))
  have hlt := h.lt
  have hs := hK.size
  have hob : (Value.slice A k c).ownBlock = (Value.slice A l.length c).ownBlock := by cases A <;> rfl
  have hOw : ∀ g, OwnM bx bm (.slice A k c) g ↔ OwnM bx bm (.slice A l.length c) g := fun g => by unfold OwnM; rw [hob]
  have kk : ∀ g, g < w.heap.size → g ≠ bm → W1.heap[g]? = w.heap[g]? := fun g h1 h2 => hK.block h1 h2
  have kx : ∀ g, g < w.heap.size → g ≠ bm → g ≠ bx → (W1.setCell ⟨bx, 1, none⟩ (.slice A k c)).heap[g]? = w.heap[g]? := fun g h1 h2 h3 => (heap_setCell_other _ _ _ _ h3).trans (kk g h1 h2)
  have hbx1 : W1.heap[bx]? = some (.cells #[.map (some bm), .slice A l.length c] 64) := (kk bx (hlt _ hbx) h.ne).trans h.box
  have hlen : (l.take k).length = k := by rw [List.length_take]; omega
  have hrow := ownsRow_cut (by have := h.row.row; rw [List.length_map] at this; exact this) hk
  refine ⟨⟨?_, ?_, ⟨?_, fun x hx => ?_⟩, fun x hx => ?_, ?_, h.ne, ⟨by rw [hob]; exact h.av.1, by rw [hob]; exact h.av.2⟩, fun g e => .inl (h.own g ((hOw g).1 e)), fun g e => ?_⟩, ?_, fun g e => .inl (by rw [← hob]; exact e)⟩
  · have := heap_setCell_same W1 bx 1 _ _ (.slice A k c) hbx1
    simpa using this
  · rw [hlen]
    exact hm.kept (heap_setCell_other _ _ _ _ fun e => h.ne e.symm)
  · rw [List.length_map, hlen]
    have h2 : ((l.map Bi.v).map (Value.int .i64)).take (k * 1) = ((l.take k).map Bi.v).map (Value.int .i64) := by rw [Nat.mul_one, List.map_take, List.map_take]
    rw [h2] at hrow
    refine row_keep hrow fun g e => kx g ?_ ?_ ?_
    · rw [hob] at e; exact hlt g (h.own g (.inr (.inr e)))
    · rintro rfl; rw [hob] at e; exact h.av.2 e
    · rintro rfl; rw [hob] at e; exact h.av.1 e
  · rw [List.map_take] at hx
    exact h.row.i64 x (List.mem_of_mem_take hx)
  · refine ((h.fx x (List.mem_of_mem_take hx)).keep fun g e => kx g (hlt g e.1) ?_ ?_).wide fun g e => ⟨.inl e.1, fun e2 => e.2 ((hOw g).1 e2)⟩
    · rintro rfl; exact e.2 (.inr (.inl rfl))
    · rintro rfl; exact e.2 (.inl rfl)
  · have : bdsM (l.take k) = (bdsM l).take k := by unfold bdsM; rw [List.map_take]
    rw [this]; exact h.ok.take k
  · rcases e with e | e
    · have := hlt g e; simp; omega
    · exact e.2
  · exact ⟨hK.os, hK.tape, hK.output, by simpa using hs, fun g e => kx g e.1 (fun h1 => e.2 (.inr (.inl h1))) fun h1 => e.2 (.inl h1)⟩

end

theorem back_nil (k : Int) (w : World) : Calls Try.prog 13 #[.pointer none, .int .i64 k] w fun e w' => e = .returned (.tuple #[]) ∧ w' = w := by
  go_enter Try.func13, Try.ntmps13
  go_wp2_with (first
    | (go_at_call 33; refine (none_nil w).mono ?_; go_must (rintro e w1 ⟨rfl, rfl⟩))
    | fail)
  refine bodyPost_ret (v := .tuple #[]) (by simp [results, Try.results13, go_sem]) rfl ⟨rfl, rfl⟩

set_option maxHeartbeats 4000000 in
theorem back_any (k : Int) (bx bm : Nat) (S : Nat → Prop) (v : Value) (l : List Bi) (w : World) (hk64 : I64 k) (hl : l.length ≤ 4398046511104) (hM : MatW w S bx bm v l) :
    Calls Try.prog 13 #[.pointer (some ⟨bx, 0, none⟩), .int .i64 k] w fun e w' => e = .returned (.tuple #[]) ∧ ∃ v', MatStep w w' S bx bm v v' (backL l k) := by
  obtain ⟨A, c, rfl⟩ := hM.slice
  obtain ⟨c0, c1, g0, g1⟩ := cells_two hM.box
  have hbx := hM.box
  have hbxl := hM.lt bx (hM.own bx (.inl rfl))
  have HM := Lib.hid hM
  have hcap := row_cap (by have := hM.row.row; rw [List.length_map] at this; exact this)
  have Hbx := Lib.hid hbx
  clear hM hbx
  by_cases h0 : k < 0
  · have hb : backL l k = l := by unfold backL; rw [if_neg (by omega)]
    rw [hb]
    clear hb
    go_enter Try.func13, Try.ntmps13
    go_wp2_with (first
      | (go_at_call 33; refine (none_no bx bm _ w Hbx.out).mono ?_; go_must (rintro e w1 ⟨rfl, rfl⟩))
      | fail)
    exact bodyPost_ret (v := .tuple #[]) (by simp [results, Try.results13, go_sem]) rfl ⟨rfl, _, .of_below HM.out (Below.refl _ _)⟩
  · obtain ⟨n, rfl⟩ : ∃ n : Nat, k = (n : Int) := ⟨k.toNat, by omega⟩
    by_cases h1 : l.length < n
    · have hb : backL l (n : Int) = l := by unfold backL; rw [if_neg (by omega)]
      rw [hb]
      have h0' : decide ((n : Int) < 0) = false := decide_eq_false h0
      have h1' : decide ((n : Int) > (l.length : Int)) = true := decide_eq_true (by omega)
      clear hb
      go_enter Try.func13, Try.ntmps13
      go_wp2_with (first
        | (go_at_call 33; refine (none_no bx bm _ w Hbx.out).mono ?_; go_must (rintro e w1 ⟨rfl, rfl⟩))
        | fail)
      exact bodyPost_ret (v := .tuple #[]) (by simp [results, Try.results13, go_sem]) rfl ⟨rfl, _, .of_below HM.out (Below.refl _ _)⟩
    · have hb : backL l (n : Int) = l.take n := by unfold backL; rw [if_pos (by omega)]; simp
      rw [hb]
      have h0' : decide ((n : Int) < 0) = false := decide_eq_false h0
      have h1' : decide ((n : Int) > (l.length : Int)) = false := decide_eq_false (by omega)
      have f1 : (n : Int) ≤ (l.length : Int) := by omega
      have f2 : (0 : Int) ≤ (n : Int) := by omega
      have f3 : ((n : Int)).toNat = n := by omega
      have f4 : (n : Int) ≤ (c : Int) := by omega
      clear hb
      by_cases hnl : n = l.length
      · subst hnl
        have hfin := Lib.hid (HM.out.back (Nat.le_refl _) (KeepsC.refl _ _) (by rw [List.take_length]; exact HM.out.map))
        have hm0 : l.length - l.length = 0 := by omega
        go_enter Try.func13, Try.ntmps13
        go_wp2_with (first
          | (go_at_call 33; refine (none_no bx bm _ w Hbx.out).mono ?_; go_must (rintro e w1 ⟨rfl, rfl⟩))
          | fail)
        all_goals
          go_loopw [28] (fun i wr => i = .int .i64 0 ∧ wr = w1) (fun _ _ => 0)
          case atStart => exact ⟨rfl, rfl⟩
          case round =>
            obtain ⟨rfl, rfl⟩ := hrel
            go_wp2
            go_end0
            first
              | exact ⟨rfl, _, hfin.out⟩
              | (have h' : c = l.length := by assumption
                 subst h'
                 exact ⟨rfl, _, hfin.out⟩)
      · have hnlt : n < l.length := by omega
        obtain ⟨g, hA, hg⟩ : ∃ g, A = some ⟨g, 0, none⟩ ∧ ∀ (j : Nat) (x : Bi), l[j]? = some x → w.cell? ⟨g, j, none⟩ = some (.int .i64 x.v) := by
          rcases HM.out.row.row.2 with ⟨_, h9⟩ | ⟨g, cap, cur, e9, _⟩
          · rw [List.length_map] at h9; omega
          · injection e9 with e1 e2 e3
            refine ⟨g, e1, fun j x hx => ?_⟩
            obtain ⟨g', c', h2, _, h3⟩ := HM.out.row.get (i := j) (x := x.v) (by rw [List.getElem?_map, hx]; rfl)
            rw [e1] at h2
            injection h2 with h2; injection h2 with h2; injection h2 with h2
            subst h2; exact h3
        subst hA
        have hgl : g < w.heap.size := HM.out.lt g (HM.out.own g (.inr (.inr rfl)))
        have hgm : g ≠ bm := fun e => HM.out.av.2 (by rw [← e]; rfl)
        have hbm := HM.out.lt bm (HM.out.own bm (.inr (.inl rfl)))
        have hcn : ¬ c = n := by omega
        have HT0 : Hid (TMap w bm (l.length - 0) (biV (l.take n ++ l.drop (n + 0)))) := Lib.hid (by
          rw [Nat.add_zero, List.take_append_drop]; exact HM.out.map)
        have Hg := Lib.hid hg
        clear hg
        go_enter Try.func13, Try.ntmps13
        go_wp2_with (first
          | (go_at_call 33; refine (none_no bx bm _ w Hbx.out).mono ?_; go_must (rintro e w1 ⟨rfl, rfl⟩))
          | fail)
        go_loopw [28] (fun i wr => ∃ j : Nat, j ≤ l.length - n ∧ i = .int .i64 (j : Int) ∧ KeepsC (· = bm) w1 wr ∧ Hid (TMap wr bm (l.length - j) (biV (l.take n ++ l.drop (n + j))))) (fun i _ => l.length - n - (intOf i).toNat)
        case atStart => exact ⟨0, Nat.zero_le _, rfl, KeepsC.refl _ _, HT0⟩
        case round =>
          obtain ⟨j, hj, rfl, hKr, HT⟩ := hrel
          have hrx := (hKr.block hbxl HM.out.ne).trans Hbx.out
          obtain ⟨d0, d1, k0, k1⟩ := cells_two hrx
          by_cases hlt : j < l.length - n
          · obtain ⟨x, hx⟩ : ∃ x, l[n + j]? = some x := ⟨_, List.getElem?_eq_getElem (by omega)⟩
            have e0 := (cell_of_heap (hKr.block hgl hgm)).trans (Hg.out _ x hx)
            have hx64 : I64 x.v := HM.out.row.i64 x.v (List.mem_map.2 ⟨x, List.mem_of_getElem? hx, rfl⟩)
            have hdr : l.drop (n + j) = x :: l.drop (n + (j + 1)) := by
              obtain ⟨h5, h6⟩ := List.getElem?_eq_some_iff.1 hx
              rw [List.drop_eq_getElem_cons h5, h6]; rfl
            have hT := HT.out
            rw [hdr, show l.length - j = (l.length - (j + 1)) + 1 by omega] at hT
            have hnd : (l.take n ++ x :: l.drop (n + (j + 1))).Pairwise fun x y => x.v ≠ y.v := by
              rw [← hdr]
              exact HM.out.nd.sublist (by
                have := List.take_append_drop n l
                conv => rhs; rw [← this]
                refine List.Sublist.append (List.Sublist.refl _) ?_
                rw [← List.drop_drop]; exact List.drop_sublist _ _)
            obtain ⟨w9, hrun, hT9, hgr⟩ := hT.drop hx64 (biV_at hnd) 0
            have hT9' := Lib.hid (hT9.ext fun y _ => biV_del hnd y)
            have hK9 : KeepsC (· = bm) w1 w9 := hKr.trans ((Keeps.of_grown hgr).mono fun g e => ⟨e.1, fun e2 => e.2 (by injection e2)⟩)
            clear hx hdr hT hnd hT9 hgr
            go_wp2
            go_roundw
            case rel => exact ⟨j + 1, by omega, by go_num, hK9, hT9'⟩
            case measure => simp [intOf]; omega
          · obtain rfl : j = l.length - n := by omega
            have hT := HT.out
            rw [show n + (l.length - n) = l.length by omega, List.drop_length, List.append_nil, show l.length - (l.length - n) = n by omega] at hT
            have hfin := Lib.hid (HM.out.back (show n ≤ l.length by omega) hKr hT)
            clear hT
            go_wp2
            go_end0
            exact ⟨rfl, _, hfin.out⟩

/-- Behind a walk that failed. -/
theorem backL_of {l l' : List Bi} {E : List Bd} (h : bdsM l' = bdsM l ++ E) : bdsM (backL l' (l.length : Int)) = bdsM l := by
  have hl := congrArg List.length h
  rw [List.length_append] at hl
  unfold bdsM at hl h
  rw [List.length_map, List.length_map] at hl
  unfold backL
  rw [if_pos (by omega)]
  unfold bdsM
  rw [Int.toNat_natCast, List.map_take, h]
  rw [List.take_append_of_le_length (by simp), List.take_of_length_le (by simp)]

theorem mark_nil (w : World) : Calls Try.prog 15 #[.pointer none] w fun e w' => e = .returned (.int .i64 0) ∧ w' = w := by
  go_enter Try.func15, Try.ntmps15
  go_wp2_with (first
    | (go_at_call 33; refine (none_nil w).mono ?_; go_must (rintro e w1 ⟨rfl, rfl⟩))
    | fail)
  go_ret
  exact ⟨rfl, rfl⟩

theorem mark_any (bx bm : Nat) (S : Nat → Prop) (v : Value) (l : List Bi) (w : World) (hM : MatW w S bx bm v l) : Calls Try.prog 15 #[.pointer (some ⟨bx, 0, none⟩)] w fun e w' => e = .returned (.int .i64 (l.length : Int)) ∧ w' = w := by
  obtain ⟨A, c, rfl⟩ := hM.slice
  obtain ⟨c0, c1, _, _⟩ := cells_two hM.box
  have Hbx := Lib.hid hM.box
  clear hM
  go_enter Try.func15, Try.ntmps15
  go_wp2_with (first
    | (go_at_call 33; refine (none_no bx bm _ w Hbx.out).mono ?_; go_must (rintro e w1 ⟨rfl, rfl⟩))
    | fail)
  go_ret
  exact ⟨rfl, rfl⟩

/-- What Term leaves. -/
structure TrmPost (p u : Tm) (w : World) (S : Nat → Prop) (bx bm : Nat) (v : Value) (l : List Bi) (e : Ending) (w' : World) (v' : Value) (l' : List Bi) : Prop where
  res : e = .returned (.bool (trmB (bdsM l) p u))
  bds : bdsM l' = trmM (bdsM l) p u
  st : MatStep w w' S bx bm v v' l'

set_option maxHeartbeats 2000000 in
theorem mterm_any (p u : Tm) (A B : Option Addr) (c d bx bm : Nat) (S N : Nat → Prop) (v : Value) (l : List Bi) (w : World) (hM : MatW w S bx bm v l) (hN : ∀ g, N g → g < w.heap.size ∧ ¬ OwnM bx bm v g) (hnum : p.size + l.length ≤ 1099511627776) (husz : u.size ≤ 4398046511104)
    (hp64 : I64 p.fn) (hu64 : I64 u.fn) (hA : ArgsN w N A p.args) (hB : ArgsN w N B u.args) :
    Calls Try.prog 9 #[.pointer (some ⟨bx, 0, none⟩), .agg #[.int .i64 p.fn, .slice A p.args.length c], .agg #[.int .i64 u.fn, .slice B u.args.length d]] w fun e w' => ∃ v' l', TrmPost p u w S bx bm v l e w' v' l' := by
  obtain ⟨W, hW⟩ : ∃ W, (w.alloc (.cells #[.int .i64 p.fn, .slice A p.args.length c] 31)).alloc (.cells #[.int .i64 u.fn, .slice B u.args.length d] 31) = W := ⟨_, rfl⟩
  have hBW : Below w.heap.size w W := by rw [← hW]; exact ((Below.refl _ _).alloc (Nat.le_refl _) _).alloc (by simp) _
  have hWz : W.heap.size = w.heap.size + 2 := by rw [← hW]; simp
  have q1 := heap_alloc_new (w.alloc (.cells #[.int .i64 p.fn, .slice A p.args.length c] 31)) (.cells #[.int .i64 u.fn, .slice B u.args.length d] 31)
  have q0 := (Below.heap_alloc (w.alloc (.cells #[.int .i64 p.fn, .slice A p.args.length c] 31)) (.cells #[.int .i64 u.fn, .slice B u.args.length d] 31) w.heap.size (by simp)).trans (heap_alloc_new w _)
  rw [hW] at q0 q1
  rw [show (w.alloc (.cells #[.int .i64 p.fn, .slice A p.args.length c] 31)).heap.size = w.heap.size + 1 by simp] at q1
  obtain ⟨x0, x1, _, _⟩ := cells_two q0
  obtain ⟨y0, y1, _, _⟩ := cells_two q1
  obtain ⟨Av, cv, hv⟩ := hM.slice
  have hS := MatStep.of_below hM hBW
  have hbxl := hM.lt bx (hM.own bx (.inl rfl))
  have hbW := (hBW.block bx hbxl).trans hM.box
  rw [hv] at hbW
  obtain ⟨b0, b1, _, _⟩ := cells_two hbW
  have hwk := mwalk_any p u A B c d bx bm _ N v l W hS.m (fun g e => ⟨Nat.lt_of_lt_of_le (hN g e).1 hBW.size, (hN g e).2⟩) hnum husz hp64 hu64 (hA.keep fun g e => hBW.block g (hN g e).1) (hB.keep fun g e => hBW.block g (hN g e).1)
  have HbW := Lib.hid hbW
  have HW := Lib.hid hW
  have HS := Lib.hid hS
  have hl1 : I64 (l.length : Int) := ⟨by omega, by omega⟩
  clear hW q0 q1 hA hB hM hS hbW
  rcases hr : trmB (bdsM l) p u with _ | _
  · rw [hr] at hwk
    have hM1 : trmM (bdsM l) p u = bdsM l := by
      unfold trmB at hr; unfold trmM
      rcases h : wkT p (bdsM l) u with _ | M
      · rfl
      · rw [h] at hr; cases hr
    have HWk : Hid (Calls Try.prog 34 #[.pointer (some ⟨bx, 0, none⟩), .agg #[.int .i64 p.fn, .slice A p.args.length c], .agg #[.int .i64 u.fn, .slice B u.args.length d]] W fun e w' => ∃ v' l', e = .returned (.bool false) ∧ ((∃ E, bdsM l' = bdsM l ++ E) ∧ l'.length ≤ p.size + l.length ∧ MatStep w w' S bx bm v v' l')) := Lib.hid (hwk.mono fun e w' ⟨v', l', h1, _, h3, h4, h5⟩ => ⟨v', l', h1, h3, h4, HS.out.trans h5⟩)
    have HM1 := Lib.hid hM1
    have Hr := Lib.hid hr
    subst hv
    clear hwk hM1 hr
    go_enter Try.func9, Try.ntmps9
    go_upto_region 1 with fail
    rw [HW.out]
    go_wp2_with (first
      | (go_at_call 33; refine (none_no bx bm _ W HbW.out).mono ?_; go_must (rintro e w1 ⟨rfl, rfl⟩))
      | (go_at_call 34; with_reducible refine HWk.out.mono ?_; go_must (rintro e w2 ⟨v2, l2, rfl, hE2, hn2, hst2⟩; have HBk := Lib.hid (back_any (l.length : Int) bx bm _ v2 l2 w2 hl1 (by omega) hst2.m)))
      | (go_at_call 13; with_reducible refine HBk.out.mono ?_; go_must (rintro e w3 ⟨rfl, v3, hst3⟩))
      | fail)
    go_ret
    obtain ⟨E, hE⟩ := hE2
    exact ⟨v3, _, ret_bool Hr.out.symm, by rw [HM1.out, backL_of hE], hst2.trans hst3⟩
  · rw [hr] at hwk
    have HWk : Hid (Calls Try.prog 34 #[.pointer (some ⟨bx, 0, none⟩), .agg #[.int .i64 p.fn, .slice A p.args.length c], .agg #[.int .i64 u.fn, .slice B u.args.length d]] W fun e w' => ∃ v' l', e = .returned (.bool true) ∧ (wkT p (bdsM l) u = some (bdsM l') ∧ MatStep w w' S bx bm v v' l')) := Lib.hid (hwk.mono fun e w' ⟨v', l', h1, h2, _, _, h5⟩ => ⟨v', l', h1, h2 rfl, HS.out.trans h5⟩)
    have Hr := Lib.hid hr
    subst hv
    clear hwk hr
    go_enter Try.func9, Try.ntmps9
    go_upto_region 1 with fail
    rw [HW.out]
    go_wp2_with (first
      | (go_at_call 33; refine (none_no bx bm _ W HbW.out).mono ?_; go_must (rintro e w1 ⟨rfl, rfl⟩))
      | (go_at_call 34; with_reducible refine HWk.out.mono ?_; go_must (rintro e w2 ⟨v2, l2, rfl, hw2, hst2⟩; have Hw2 := Lib.hid hw2; clear hw2))
      | fail)
    go_ret
    exact ⟨v2, l2, ret_bool Hr.out.symm, by unfold trmM; rw [Hw2.out]; rfl, hst2⟩

end Go.Proofs.Ytglfjmbclimeeaa

/- Normal's change of a term; a literal's sides changed, whatever changes them. A row of literals that is made member by member; each, at literals; literals; Normal's literals. each, at literals; literals. literals. Normal's change of a clause. -/

namespace Go.Proofs.Ytglfjmbclimeeaa

open Go.RowKit Go.Shelf
set_option maxRecDepth 100000

section

variable {σ : Type} {V : Int → Prop} {nx : σ → Int → σ × Int} {kn : FuncId} {nc : Array Value} {C D N : Nat → Prop} {I : σ → World → Prop} {B0 : Nat}

set_option maxHeartbeats 1000000 in
theorem normal2_any (hN : NumV V nx kn nc C D N I B0) (t : Tm) (hsz : t.size ≤ 4398046511104) (s : σ) (A : Option Addr) (c bx : Nat) (W : World) (hB0 : B0 ≤ W.heap.size) (hb : Boxed W bx 84 (.func (.func kn) #[] nc)) (hs : I s W) (hf : I64 t.fn) (hV : VT V t) (hA : ArgsN W N A t.args) :
    Calls Try.prog 55 #[.agg #[.int .i64 t.fn, .slice A t.args.length c], .pointer (some ⟨bx, 0, none⟩)] W (RenPost C I (renT nx s t) W) := by
  obtain ⟨q0, q1⟩ := heap2 W (.cells #[.int .i64 t.fn, .slice A t.args.length c] 31) (.cells #[.int .i64 0, .slice none 0 0] 31)
  obtain ⟨W2, hW2⟩ : ∃ W2, ((W.alloc (.cells #[.int .i64 t.fn, .slice A t.args.length c] 31)).alloc (.cells #[.int .i64 0, .slice none 0 0] 31)) = W2 := ⟨_, rfl⟩
  have hB : Below W.heap.size W W2 := by rw [← hW2]; exact ((Below.refl _ _).alloc (Nat.le_refl _) _).alloc (by simp) _
  rw [hW2] at q0 q1
  have hWs : W.heap.size + 1 < W2.heap.size := (Array.getElem?_eq_some_iff.1 q1).1
  have hcb := Boxed.cell (show Boxed W2 bx _ _ from (hB.block _ hb.lt).trans hb)
  have hrec' := Lib.hid (renameV_any hN t hsz s A c W2 (by omega) (hN.stay s W W2 hs ((Keeps.of_below hB).mono fun g e => by have := hN.db g e; show g < W.heap.size; omega)) hf hV (hA.keep fun g e => hB.block g (by have := hN.nb g e; omega)))
  have HW := Lib.hid hW2
  have HN := Lib.hid hN
  obtain ⟨a0, a1, _, _⟩ := cells_two q0
  clear hW2 hA hs hN
  go_enter Try.func55, Try.ntmps55
  go_upto_region 1 with fail
  rw [HW.out]
  go_wp2_with (first
    | (go_at_call 56; refine hrec'.out.mono ?_; go_must (rintro e w3 ⟨A3, c3, rfl, hi3, hO3, hI3, hk3⟩; have y3 := (hk3.block hWs (fun e => by have := HN.out.cb _ e; omega)).trans q1; obtain ⟨b0, b1, g0, g1⟩ := cells_two y3; have hO3 := Lib.hid hO3; have hI3 := Lib.hid hI3))
    | fail)
  obtain ⟨z0, z1⟩ := set2_two (u := .int .i64 (renT nx s t).2.fn) (v := .slice A3 (renT nx s t).2.args.length c3) y3
  have p0 := (cells_two z0).1
  have p1 := (cells_two z1).2.1
  have hoth : ∀ g, g ≠ W.heap.size + 1 → ((w3.setCell ⟨W.heap.size + 1, 0, none⟩ (.int .i64 (renT nx s t).2.fn)).setCell ⟨W.heap.size + 1, 1, none⟩ (.slice A3 (renT nx s t).2.args.length c3)).heap[g]? = w3.heap[g]? := fun g e => (heap_setCell_other _ _ _ _ e).trans (heap_setCell_other _ _ _ _ e)
  refine bodyPost_ret (v := .agg #[.int .i64 (renT nx s t).2.fn, .slice A3 (renT nx s t).2.args.length c3]) (by simp [results, Try.results55, go_sem, p0, p1]) rfl ⟨A3, c3, rfl, hi3, ?_, ?_, ?_⟩
  · exact OwnT.wide (lo := W2.heap.size) (hi := w3.heap.size) (hO3.out.keep fun g h1 _ => hoth g (by omega)) (by omega) (by simp)
  · exact HN.out.stay _ _ _ hI3.out ⟨rfl, rfl, rfl, by simp, fun g e => hoth g (by have := HN.out.db g e; omega)⟩
  · exact (((KeepsC.of_below hB).trans hk3).set (by show _ ≤ W.heap.size + 1; omega) _).set (by show _ ≤ W.heap.size + 1; omega) _

end

/-- A literal, in plain words. -/
structure Lt where
  neg : Bool
  l : Tm
  r : Tm

/-- What is asked of a function that changes terms. -/
structure ChgC {σ : Type} (V : Tm → Prop) (ch : σ → Tm → σ × Tm) (k : FuncId) (cv : Array Value) (C D N : Nat → Prop) (I : σ → World → Prop) (B0 : Nat) : Prop where
  ent : ∀ (args : Array Value) (w : World), (callFunc k args).run Try.prog w = .ok (.enter k args) w
  call : ∀ (s : σ) (t : Tm) (A : Option Addr) (c : Nat) (W : World), B0 ≤ W.heap.size → I s W → I64 t.fn → V t → ArgsN W N A t.args → Calls Try.prog k (#[.agg #[.int .i64 t.fn, .slice A t.args.length c]] ++ cv) W (RenPost C I (ch s t) W)
  stay : ∀ s W W', I s W → Keeps D W W' → I s W'
  cb : ∀ g, C g → g < B0
  db : ∀ g, D g → g < B0
  nb : ∀ g, N g → g < B0
  nc : ∀ g, N g → ¬ C g

/-- First the left side, then the right one. -/
def sidesL {σ : Type} (ch : σ → Tm → σ × Tm) (s : σ) (x : Lt) : σ × Lt := ((ch (ch s x.l).1 x.r).1, ⟨x.neg, (ch s x.l).2, (ch (ch s x.l).1 x.r).2⟩)

def SidesPost {σ : Type} (C : Nat → Prop) (I : σ → World → Prop) (r : σ × Lt) (w : World) (e : Ending) (w' : World) : Prop :=
  ∃ A1 c1 A2 c2, e = .returned (.agg #[.bool r.2.neg, .int .i64 r.2.l.fn, .slice A1 r.2.l.args.length c1, .int .i64 r.2.r.fn, .slice A2 r.2.r.args.length c2]) ∧ I64 r.2.l.fn ∧ I64 r.2.r.fn ∧
    OwnT w' w.heap.size w'.heap.size A1 r.2.l.args ∧ OwnT w' w.heap.size w'.heap.size A2 r.2.r.args ∧ I r.1 w' ∧ KeepsC C w w'

theorem cells_5 {W : World} {b : Nat} {x y z u v : Value} {t : TypeId} (h : W.heap[b]? = some (.cells #[x, y, z, u, v] t)) : W.cell? ⟨b, 0, none⟩ = some x ∧ W.cell? ⟨b, 1, none⟩ = some y ∧ W.cell? ⟨b, 2, none⟩ = some z ∧ W.cell? ⟨b, 3, none⟩ = some u ∧ W.cell? ⟨b, 4, none⟩ = some v := by
  refine ⟨?_, ?_, ?_, ?_, ?_⟩ <;> simp [World.cell?, h]

theorem frozen_5 {W : World} {b : Nat} {x y z u v : Value} {t : TypeId} (h : W.heap[b]? = some (.cells #[x, y, z, u, v] t)) : W.frozen? ⟨b, 0, none⟩ = false ∧ W.frozen? ⟨b, 1, none⟩ = false ∧ W.frozen? ⟨b, 2, none⟩ = false ∧ W.frozen? ⟨b, 3, none⟩ = false ∧ W.frozen? ⟨b, 4, none⟩ = false := by
  refine ⟨?_, ?_, ?_, ?_, ?_⟩ <;> simp [World.frozen?, h]

theorem set5 {W : World} {b : Nat} {x y z u v a1 a2 a3 a4 a5 : Value} {t : TypeId} (h : W.heap[b]? = some (.cells #[x, y, z, u, v] t)) :
    (((((W.setCell ⟨b, 0, none⟩ a1).setCell ⟨b, 1, none⟩ a2).setCell ⟨b, 2, none⟩ a3).setCell ⟨b, 3, none⟩ a4).setCell ⟨b, 4, none⟩ a5).heap[b]? = some (.cells #[a1, a2, a3, a4, a5] t) :=
  heap_setCell_same _ _ 4 _ _ _ (heap_setCell_same _ _ 3 _ _ _ (heap_setCell_same _ _ 2 _ _ _ (heap_setCell_same _ _ 1 _ _ _ (heap_setCell_same _ _ 0 _ _ _ h))))

theorem cell_set5 {W : World} {b b' o : Nat} {a1 a2 a3 a4 a5 x : Value} (h : W.cell? ⟨b, o, none⟩ = some x) (hb : b ≠ b') :
    (((((W.setCell ⟨b', 0, none⟩ a1).setCell ⟨b', 1, none⟩ a2).setCell ⟨b', 2, none⟩ a3).setCell ⟨b', 3, none⟩ a4).setCell ⟨b', 4, none⟩ a5).cell? ⟨b, o, none⟩ = some x := by
  have e : (((((W.setCell ⟨b', 0, none⟩ a1).setCell ⟨b', 1, none⟩ a2).setCell ⟨b', 2, none⟩ a3).setCell ⟨b', 3, none⟩ a4).setCell ⟨b', 4, none⟩ a5).heap[b]? = W.heap[b]? :=
    (heap_setCell_other _ _ _ _ hb).trans ((heap_setCell_other _ _ _ _ hb).trans ((heap_setCell_other _ _ _ _ hb).trans ((heap_setCell_other _ _ _ _ hb).trans (heap_setCell_other _ _ _ _ hb))))
  rw [← h]
  simp only [World.cell?, e]

section

variable {σ : Type} {V : Tm → Prop} {ch : σ → Tm → σ × Tm} {k : FuncId} {cv : Array Value} {C D N : Nat → Prop} {I : σ → World → Prop} {B0 : Nat}

set_option maxHeartbeats 1000000 in
theorem sides_any (hN : ChgC V ch k cv C D N I B0) (x : Lt) (s : σ) (A1 A2 : Option Addr) (c1 c2 : Nat) (w : World) (hB0 : B0 ≤ w.heap.size) (hs : I s w) (hl : I64 x.l.fn) (hr : I64 x.r.fn) (hVl : V x.l) (hVr : V x.r) (hA1 : ArgsN w N A1 x.l.args) (hA2 : ArgsN w N A2 x.r.args) :
    Calls Try.prog 82 #[.agg #[.bool x.neg, .int .i64 x.l.fn, .slice A1 x.l.args.length c1, .int .i64 x.r.fn, .slice A2 x.r.args.length c2], .func (.func k) #[] cv] w (SidesPost C I (sidesL ch s x) w) := by
  obtain ⟨q0, q1⟩ := heap2 w (.cells #[.bool x.neg, .int .i64 x.l.fn, .slice A1 x.l.args.length c1, .int .i64 x.r.fn, .slice A2 x.r.args.length c2] 35) (.cells #[.bool false, .int .i64 0, .slice none 0 0, .int .i64 0, .slice none 0 0] 35)
  obtain ⟨W, hW⟩ : ∃ W, ((w.alloc (.cells #[.bool x.neg, .int .i64 x.l.fn, .slice A1 x.l.args.length c1, .int .i64 x.r.fn, .slice A2 x.r.args.length c2] 35)).alloc (.cells #[.bool false, .int .i64 0, .slice none 0 0, .int .i64 0, .slice none 0 0] 35)) = W := ⟨_, rfl⟩
  have hB : Below w.heap.size w W := by rw [← hW]; exact ((Below.refl _ _).alloc (Nat.le_refl _) _).alloc (by simp) _
  rw [hW] at q0 q1
  have hWs : w.heap.size + 1 < W.heap.size := (Array.getElem?_eq_some_iff.1 q1).1
  have hnC : ∀ g, w.heap.size ≤ g → ¬ C g := fun g h e => by have := hN.cb _ e; omega
  have hnD : ∀ g, D g → g < w.heap.size := fun g e => by have := hN.db _ e; omega
  have H1 := Lib.hid (hN.call s x.l A1 c1 W (by omega) (hN.stay s w W hs ((Keeps.of_below hB).mono fun g e => hnD g e)) hl hVl (hA1.keep fun g e => hB.block g (by have := hN.nb g e; omega)))
  obtain ⟨a0, a1, a2, a3, a4⟩ := cells_5 q0
  have hent := hN.ent
  have HW := Lib.hid hW
  have HN := Lib.hid hN
  have HA2 := Lib.hid hA2
  clear hW hA1 hA2 hs hN
  go_enter Try.func82, Try.ntmps82
  go_upto_region 1 with fail
  rw [HW.out]
  go_upto_region 2 with (first
    | ((with_reducible refine H1.out.mono ?_); go_must (rintro e w3 ⟨A3, c3, rfl, hi3, hO3, hI3, hk3⟩; have hO3 := Lib.hid hO3; have hI3 := Lib.hid hI3))
    | fail)
  obtain ⟨W4, hW4⟩ : ∃ W4, w3.alloc (.cells #[.int .i64 (ch s x.l).2.fn, .slice A3 (ch s x.l).2.args.length c3] 31) = W4 := ⟨_, rfl⟩
  have hB4 : Below w3.heap.size w3 W4 := by rw [← hW4]; exact (Below.refl _ _).alloc (Nat.le_refl _) _
  have u0 := heap_alloc_new w3 (.cells #[.int .i64 (ch s x.l).2.fn, .slice A3 (ch s x.l).2.args.length c3] 31)
  rw [hW4] at u0
  have hz3 := hk3.size
  have hz4 : w3.heap.size < W4.heap.size := (Array.getElem?_eq_some_iff.1 u0).1
  have t0 := (hB4.block _ (by omega)).trans ((hk3.block (by omega) (hnC _ (Nat.le_refl _))).trans q0)
  have t1 := (hB4.block _ (by omega)).trans ((hk3.block hWs (hnC _ (by omega))).trans q1)
  have hS : ∀ w', KeepsC C W4 w' → w'.cell? ⟨w.heap.size, 0, none⟩ = some (.bool x.neg) ∧ w'.cell? ⟨w3.heap.size, 0, none⟩ = some (.int .i64 (ch s x.l).2.fn) ∧ w'.cell? ⟨w3.heap.size, 1, none⟩ = some (.slice A3 (ch s x.l).2.args.length c3) ∧ w'.cell? ⟨w.heap.size, 3, none⟩ = some (.int .i64 x.r.fn) ∧ w'.cell? ⟨w.heap.size, 4, none⟩ = some (.slice A2 x.r.args.length c2) := fun w' h => by
    obtain ⟨d0, _, _, d3, d4⟩ := cells_5 ((h.block (by omega) (hnC _ (Nat.le_refl _))).trans t0)
    obtain ⟨e0, e1, _, _⟩ := cells_two ((h.block hz4 (hnC _ (by omega))).trans u0)
    exact ⟨d0, e0, e1, d3, d4⟩
  have hkD : Keeps D w3 W4.drew := ((Keeps.of_below hB4).mono fun g e => by have := hnD g e; show g < w3.heap.size; omega).trans (Keeps.drewN D W4 1)
  have H2 := Lib.hid (HN.out.call (ch s x.l).1 x.r A2 c2 W4.drew (by show B0 ≤ W4.heap.size; omega) (HN.out.stay _ w3 W4.drew hI3.out hkD) hr hVr (HA2.out.keep fun g e => by
    have hg := HN.out.nb g e
    exact (hB4.block g (by omega)).trans ((hk3.block (by omega) (HN.out.nc g e)).trans (hB.block g (by omega)))))
  have hO3 := Lib.hid (hO3.out.on hB4 (Nat.le_refl _))
  have HS := Lib.hid hS
  obtain ⟨f0, f1, f2, f3, f4⟩ := hS W4.drew (Keeps.drewN _ W4 1)
  obtain ⟨e0, e1, e2, e3, e4⟩ := hS W4 (KeepsC.refl _ _)
  have n1 : w.heap.size ≠ w.heap.size + 1 := by omega
  have n2 : w3.heap.size ≠ w.heap.size + 1 := by omega
  rw [hW4]
  clear hW4 hS hkD a0 a1 a2 a3 a4
  go_region_held3 (fun w' => w'.cell? ⟨w.heap.size, 0, none⟩ = some (.bool x.neg) ∧ w'.cell? ⟨w3.heap.size, 0, none⟩ = some (.int .i64 (ch s x.l).2.fn) ∧ w'.cell? ⟨w3.heap.size, 1, none⟩ = some (.slice A3 (ch s x.l).2.args.length c3) ∧ w'.cell? ⟨w.heap.size, 3, none⟩ = some (.int .i64 x.r.fn) ∧ w'.cell? ⟨w.heap.size, 4, none⟩ = some (.slice A2 x.r.args.length c2))
    (first | (with_reducible exact ⟨f0, f1, f2, f3, f4⟩) | (with_reducible exact ⟨e0, e1, e2, e3, e4⟩) | (with_reducible exact ⟨r5, r6, r7, r8, r9⟩) | (with_reducible exact ⟨cell_set5 r5 n1, cell_set5 r6 n2, cell_set5 r7 n2, cell_set5 r8 n1, cell_set5 r9 n1⟩) | (trace_state; fail))
    (first
      | ((with_reducible refine H2.out.mono ?_)
         rintro e w5 ⟨A5, c5, rfl, hi5, hO5, hI5, hk5'⟩
         have hk5 : KeepsC C W4 w5 := Keeps.mk hk5'.k.os hk5'.k.tape hk5'.k.output hk5'.k.size hk5'.k.block
         have t5 := (hk5.block (by omega) (hnC _ (by omega))).trans t1
         obtain ⟨s0, s1, s2, s3, s4⟩ := frozen_5 t5
         obtain ⟨r0, r1, r2, r3, r4⟩ := cells_5 t5
         obtain ⟨r5, r6, r7, r8, r9⟩ := HS.out _ hk5
         have hO5 := Lib.hid hO5
         have hI5 := Lib.hid hI5))
  go_wp2
  have z5 := set5 (a1 := .bool x.neg) (a2 := .int .i64 (ch s x.l).2.fn) (a3 := .slice A3 (ch s x.l).2.args.length c3) (a4 := .int .i64 (ch (ch s x.l).1 x.r).2.fn) (a5 := .slice A5 (ch (ch s x.l).1 x.r).2.args.length c5) t5
  obtain ⟨p0, p1, p2, p3, p4⟩ := cells_5 z5
  have hoth : ∀ g, g ≠ w.heap.size + 1 → ((((((w5.setCell ⟨w.heap.size + 1, 0, none⟩ (.bool x.neg)).setCell ⟨w.heap.size + 1, 1, none⟩ (.int .i64 (ch s x.l).2.fn)).setCell ⟨w.heap.size + 1, 2, none⟩ (.slice A3 (ch s x.l).2.args.length c3)).setCell ⟨w.heap.size + 1, 3, none⟩ (.int .i64 (ch (ch s x.l).1 x.r).2.fn)).setCell ⟨w.heap.size + 1, 4, none⟩ (.slice A5 (ch (ch s x.l).1 x.r).2.args.length c5))).heap[g]? = w5.heap[g]? := fun g hb =>
    (heap_setCell_other _ _ _ _ hb).trans ((heap_setCell_other _ _ _ _ hb).trans ((heap_setCell_other _ _ _ _ hb).trans ((heap_setCell_other _ _ _ _ hb).trans (heap_setCell_other _ _ _ _ hb))))
  have hz5 := hk5.size
  refine bodyPost_ret (v := .agg #[.bool x.neg, .int .i64 (ch s x.l).2.fn, .slice A3 (ch s x.l).2.args.length c3, .int .i64 (ch (ch s x.l).1 x.r).2.fn, .slice A5 (ch (ch s x.l).1 x.r).2.args.length c5]) (by simp [results, Try.results82, go_sem, p0, p1, p2, p3, p4]) rfl ⟨A3, c3, A5, c5, rfl, hi3, hi5, ?_, ?_, ?_, ?_⟩
  · exact OwnT.wide (lo := W.heap.size) (hi := w3.heap.size) (hO3.out.keep fun g h1 h2 => (hoth g (by omega)).trans (hk5.block (by omega) (hnC g (by omega)))) (by omega) (by simp; omega)
  · exact OwnT.wide (lo := W4.heap.size) (hi := w5.heap.size) (hO5.out.keep fun g h1 h2 => hoth g (by have h1 : W4.heap.size ≤ g := h1; omega)) (by omega) (by simp)
  · exact HN.out.stay _ w5 _ hI5.out ⟨rfl, rfl, rfl, by simp, fun g e => hoth g (by have := hnD g e; omega)⟩
  · have hb : w.heap.size ≤ w.heap.size + 1 := Nat.le_succ _
    exact ((((((((KeepsC.of_below hB).trans hk3).trans (KeepsC.of_below hB4)).trans hk5).set hb _).set hb _).set hb _).set hb _).set hb _

end

end Go.Proofs.Ytglfjmbclimeeaa

namespace Go.Proofs.Ytglfjmbclimeeaa

open Go.RowKit Go.Shelf
set_option maxRecDepth 100000

theorem info_lit : (Try.prog.info? 35).map (fun i => (i.zero, i.size, i.bytes)) = some (some (.agg #[.bool false, .int .i64 0, .slice none 0 0, .int .i64 0, .slice none 0 0]), 5, 72) := by kernel_rfl

/-- One literal's cells; its terms lie in N's blocks. -/
structure LtAt (w : World) (N : Nat → Prop) (b off : Nat) (x : Lt) (A1 : Option Addr) (c1 : Nat) (A2 : Option Addr) (c2 : Nat) : Prop where
  v0 : w.cell? ⟨b, off, none⟩ = some (.bool x.neg)
  v1 : w.cell? ⟨b, off + 1, none⟩ = some (.int .i64 x.l.fn)
  v2 : w.cell? ⟨b, off + 2, none⟩ = some (.slice A1 x.l.args.length c1)
  v3 : w.cell? ⟨b, off + 3, none⟩ = some (.int .i64 x.r.fn)
  v4 : w.cell? ⟨b, off + 4, none⟩ = some (.slice A2 x.r.args.length c2)
  il : I64 x.l.fn
  ir : I64 x.r.fn
  sl : ArgsN w N A1 x.l.args
  sr : ArgsN w N A2 x.r.args

/-- The slice at A holds the literals; they, and their terms, lie in N's blocks. -/
structure Lits (w : World) (N : Nat → Prop) (A : Option Addr) (l : List Lt) : Prop where
  len : l.length ≤ 9223372036854775807
  ad : 0 < l.length → ∃ b off, A = some ⟨b, off, none⟩ ∧ N b ∧ ∀ (i : Nat) (x : Lt), l[i]? = some x → ∃ A1 c1 A2 c2, LtAt w N b (off + i * 5) x A1 c1 A2 c2

section

variable {w w' : World} {N M : Nat → Prop} {A : Option Addr} {l : List Lt}

theorem LtAt.keep {b off : Nat} {x : Lt} {A1 A2 : Option Addr} {c1 c2 : Nat} (h : LtAt w N b off x A1 c1 A2 c2) (hb : w'.heap[b]? = w.heap[b]?) (hk : ∀ g, N g → w'.heap[g]? = w.heap[g]?) : LtAt w' N b off x A1 c1 A2 c2 :=
  ⟨(cell_of_heap hb).trans h.v0, (cell_of_heap hb).trans h.v1, (cell_of_heap hb).trans h.v2, (cell_of_heap hb).trans h.v3, (cell_of_heap hb).trans h.v4, h.il, h.ir, h.sl.keep hk, h.sr.keep hk⟩

theorem Lits.keep (h : Lits w N A l) (hk : ∀ g, N g → w'.heap[g]? = w.heap[g]?) : Lits w' N A l :=
  ⟨h.len, fun hn => by
    obtain ⟨b, off, hA, hb, hc⟩ := h.ad hn
    refine ⟨b, off, hA, hb, fun i x hx => ?_⟩
    obtain ⟨A1, c1, A2, c2, h1⟩ := hc i x hx
    exact ⟨A1, c1, A2, c2, h1.keep (hk b hb) hk⟩⟩

theorem Lits.wide (h : Lits w N A l) (hk : ∀ g, N g → M g) : Lits w M A l :=
  ⟨h.len, fun hn => by
    obtain ⟨b, off, hA, hb, hc⟩ := h.ad hn
    refine ⟨b, off, hA, hk b hb, fun i x hx => ?_⟩
    obtain ⟨A1, c1, A2, c2, h1⟩ := hc i x hx
    exact ⟨A1, c1, A2, c2, h1.v0, h1.v1, h1.v2, h1.v3, h1.v4, h1.il, h1.ir, h1.sl.wide hk, h1.sr.wide hk⟩⟩

theorem Lits.nil_ (w : World) (N : Nat → Prop) (A : Option Addr) : Lits w N A [] := ⟨by simp, fun h => by simp at h⟩

theorem Lits.get (h : Lits w N A l) {i : Nat} {x : Lt} (hx : l[i]? = some x) : ∃ b off A1 c1 A2 c2, A = some ⟨b, off, none⟩ ∧ N b ∧ LtAt w N b (off + i * 5) x A1 c1 A2 c2 := by
  have hlt := (List.getElem?_eq_some_iff.1 hx).1
  obtain ⟨b, off, hA, hb, hc⟩ := h.ad (by omega)
  obtain ⟨A1, c1, A2, c2, h1⟩ := hc i x hx
  exact ⟨b, off, A1, c1, A2, c2, hA, hb, h1⟩

end

/-- The row at b, k of its literals laid. -/
structure RowL (w : World) (b cap : Nat) (ys : List Lt) (k : Nat) (vs : List Value) : Prop where
  row : w.ownsRow b 35 5 (.slice (some ⟨b, 0, none⟩) ys.length cap) ys.length vs
  at_ : ∀ (i : Nat) (x : Lt), i < k → ys[i]? = some x → ∃ A1 c1 A2 c2, vs[i * 5]? = some (.bool x.neg) ∧ vs[i * 5 + 1]? = some (.int .i64 x.l.fn) ∧ vs[i * 5 + 2]? = some (.slice A1 x.l.args.length c1) ∧ vs[i * 5 + 3]? = some (.int .i64 x.r.fn) ∧ vs[i * 5 + 4]? = some (.slice A2 x.r.args.length c2) ∧
    I64 x.l.fn ∧ I64 x.r.fn ∧ ArgsN w (fun g => b < g ∧ g < w.heap.size) A1 x.l.args ∧ ArgsN w (fun g => b < g ∧ g < w.heap.size) A2 x.r.args

section

variable {w w' : World} {ys : List Lt} {b cap k : Nat} {vs : List Value}

theorem RowL.onK (h : RowL w b cap ys k vs) (hbs : b < w.heap.size) (hs : w.heap.size ≤ w'.heap.size) (hk : ∀ g, b ≤ g → g < w.heap.size → w'.heap[g]? = w.heap[g]?) : RowL w' b cap ys k vs :=
  ⟨ownsRow_keep h.row (fun g' e => by simp [Value.ownBlock] at e; exact e.symm) (hk b (Nat.le_refl _) hbs), fun i x hi hx => by
    obtain ⟨A1, c1, A2, c2, h0, h1, h2, h3, h4, h5, h6, h7, h8⟩ := h.at_ i x hi hx
    exact ⟨A1, c1, A2, c2, h0, h1, h2, h3, h4, h5, h6, (h7.keep fun g e => hk g (by omega) e.2).wide fun g e => ⟨e.1, by omega⟩, (h8.keep fun g e => hk g (by omega) e.2).wide fun g e => ⟨e.1, by omega⟩⟩⟩

theorem RowL.step (h : RowL w b cap ys k vs) {y : Lt} {A1 A2 : Option Addr} {c1 c2 : Nat} (hk : ys[k]? = some y) (hl : I64 y.l.fn) (hr : I64 y.r.fn) (hs1 : ArgsN w (fun g => b < g ∧ g < w.heap.size) A1 y.l.args) (hs2 : ArgsN w (fun g => b < g ∧ g < w.heap.size) A2 y.r.args) :
    ∃ vs', RowL (((((w.setCell ⟨b, k * 5, none⟩ (.bool y.neg)).setCell ⟨b, k * 5 + 1, none⟩ (.int .i64 y.l.fn)).setCell ⟨b, k * 5 + 2, none⟩ (.slice A1 y.l.args.length c1)).setCell ⟨b, k * 5 + 3, none⟩ (.int .i64 y.r.fn)).setCell ⟨b, k * 5 + 4, none⟩ (.slice A2 y.r.args.length c2)) b cap ys (k + 1) vs' := by
  have hkl := (List.getElem?_eq_some_iff.1 hk).1
  have hvs : vs.length = ys.length * 5 := h.row.1
  have h1 := (h.row.stored (k * 5) (.bool y.neg)).1
  have h2 := (h1.stored (k * 5 + 1) (.int .i64 y.l.fn)).1
  have h3 := (h2.stored (k * 5 + 2) (.slice A1 y.l.args.length c1)).1
  have h4 := (h3.stored (k * 5 + 3) (.int .i64 y.r.fn)).1
  have h5 := (h4.stored (k * 5 + 4) (.slice A2 y.r.args.length c2)).1
  have hother : ∀ g, b < g → (((((w.setCell ⟨b, k * 5, none⟩ (.bool y.neg)).setCell ⟨b, k * 5 + 1, none⟩ (.int .i64 y.l.fn)).setCell ⟨b, k * 5 + 2, none⟩ (.slice A1 y.l.args.length c1)).setCell ⟨b, k * 5 + 3, none⟩ (.int .i64 y.r.fn)).setCell ⟨b, k * 5 + 4, none⟩ (.slice A2 y.r.args.length c2)).heap[g]? = w.heap[g]? := fun g hg => by
    have hb : g ≠ b := by omega
    exact (heap_setCell_other _ _ _ _ hb).trans ((heap_setCell_other _ _ _ _ hb).trans ((heap_setCell_other _ _ _ _ hb).trans ((heap_setCell_other _ _ _ _ hb).trans (heap_setCell_other _ _ _ _ hb))))
  refine ⟨_, h5, fun i x hi hx => ?_⟩
  by_cases e : i = k
  · subst e
    rw [hk] at hx
    injection hx with hx
    subst hx
    refine ⟨A1, c1, A2, c2, ?_, ?_, ?_, ?_, ?_, hl, hr, (hs1.keep fun g e => hother g e.1).wide fun g e => ⟨e.1, by simpa using e.2⟩, (hs2.keep fun g e => hother g e.1).wide fun g e => ⟨e.1, by simpa using e.2⟩⟩
    · rw [List.getElem?_set_ne (by omega), List.getElem?_set_ne (by omega), List.getElem?_set_ne (by omega), List.getElem?_set_ne (by omega), List.getElem?_set_self (by omega)]
    · rw [List.getElem?_set_ne (by omega), List.getElem?_set_ne (by omega), List.getElem?_set_ne (by omega), List.getElem?_set_self (by simp; omega)]
    · rw [List.getElem?_set_ne (by omega), List.getElem?_set_ne (by omega), List.getElem?_set_self (by simp; omega)]
    · rw [List.getElem?_set_ne (by omega), List.getElem?_set_self (by simp; omega)]
    · rw [List.getElem?_set_self (by simp; omega)]
  · obtain ⟨B1, d1, B2, d2, g0, g1, g2, g3, g4, g5, g6, g7, g8⟩ := h.at_ i x (by omega) hx
    refine ⟨B1, d1, B2, d2, ?_, ?_, ?_, ?_, ?_, g5, g6, (g7.keep fun g e => hother g e.1).wide fun g e => ⟨e.1, by simpa using e.2⟩, (g8.keep fun g e => hother g e.1).wide fun g e => ⟨e.1, by simpa using e.2⟩⟩ <;>
      (repeat rw [List.getElem?_set_ne (by omega)]) <;> assumption

theorem RowL.whole (h : RowL w b cap ys ys.length vs) (hbs : b < w.heap.size) (hlen : ys.length ≤ 9223372036854775807) : Lits w (fun g => b ≤ g ∧ g < w.heap.size) (some ⟨b, 0, none⟩) ys := by
  have hvs : vs.length = ys.length * 5 := h.row.1
  refine ⟨hlen, fun _ => ⟨b, 0, rfl, ⟨Nat.le_refl _, hbs⟩, fun i x hx => ?_⟩⟩
  have hi := (List.getElem?_eq_some_iff.1 hx).1
  obtain ⟨A1, c1, A2, c2, h0, h1, h2, h3, h4, h5, h6, h7, h8⟩ := h.at_ i x hi hx
  rw [Nat.zero_add]
  exact ⟨A1, c1, A2, c2, (h.row.cellAt _ (by omega)).trans h0, (h.row.cellAt _ (by omega)).trans h1, (h.row.cellAt _ (by omega)).trans h2, (h.row.cellAt _ (by omega)).trans h3, (h.row.cellAt _ (by omega)).trans h4, h5, h6, h7.wide fun g e => ⟨by omega, e.2⟩, h8.wide fun g e => ⟨by omega, e.2⟩⟩

end

end Go.Proofs.Ytglfjmbclimeeaa

namespace Go.Proofs.Ytglfjmbclimeeaa

open Go.RowKit Go.Shelf
set_option maxRecDepth 100000

set_option maxHeartbeats 2000000 in
theorem eachL_any (k : FuncId) (hk : ∀ (args : Array Value) (w : World), (callFunc k args).run Try.prog w = .ok (.enter k args) w) (cv : Value) (C D N : Nat → Prop) (I : Nat → World → Prop) (xs ys : List Lt) (A : Option Addr) (c : Nat) (w : World) (hl : ys.length ≤ 3909374676536) (hxy : xs.length = ys.length)
    (hA : Lits w N A xs) (hNb : ∀ g, N g → g < w.heap.size) (hNC : ∀ g, N g → ¬ C g) (hCb : ∀ g, C g → g < w.heap.size) (hDb : ∀ g, D g → g < w.heap.size)
    (hI : ∀ i W W', I i W → Keeps D W W' → I i W') (h0 : I 0 w)
    (hcall : ∀ (i : Nat) (x y : Lt) (A1 A2 : Option Addr) (c1 c2 : Nat) (W : World), xs[i]? = some x → ys[i]? = some y → w.heap.size ≤ W.heap.size → KeepsC C w W → I i W → I64 x.l.fn → I64 x.r.fn → ArgsN W N A1 x.l.args → ArgsN W N A2 x.r.args →
      Calls Try.prog k #[.agg #[.bool x.neg, .int .i64 x.l.fn, .slice A1 x.l.args.length c1, .int .i64 x.r.fn, .slice A2 x.r.args.length c2], cv] W fun e W' => ∃ A3 c3 A4 c4, e = .returned (.agg #[.bool y.neg, .int .i64 y.l.fn, .slice A3 y.l.args.length c3, .int .i64 y.r.fn, .slice A4 y.r.args.length c4]) ∧ I64 y.l.fn ∧ I64 y.r.fn ∧ OwnT W' W.heap.size W'.heap.size A3 y.l.args ∧ OwnT W' W.heap.size W'.heap.size A4 y.r.args ∧ I (i + 1) W' ∧ KeepsC C W W') :
    Calls Try.prog 80 #[.slice A xs.length c, .func (.func k) #[] #[cv]] w fun e w' => ∃ A' c', e = .returned (.slice A' ys.length c') ∧ Lits w' (fun g => w.heap.size ≤ g ∧ g < w'.heap.size) A' ys ∧ I ys.length w' ∧ KeepsC C w w' := by
  obtain ⟨i0, hi, hz0, hz1, hz2⟩ := info_parts info_lit
  rw [hxy]
  rcases Nat.eq_zero_or_pos ys.length with hy0 | hy0
  · obtain rfl : ys = [] := List.eq_nil_of_length_eq_zero hy0
    simp only [List.length_nil] at *
    clear hcall hI
    go_enter Try.func80, Try.ntmps80
    go_wp2
    go_ret
    exact ⟨none, 0, rfl, Lits.nil_ _ _ _, h0, KeepsC.refl _ _⟩
  · have hne : ¬ ((ys.length : Int) = 0) := by omega
    have HA := Lib.hid hA
    have Hc := Lib.hid hcall
    have HI := Lib.hid hI
    have H0 := Lib.hid h0
    clear hA hcall hI h0
    go_enter Try.func80, Try.ntmps80
    go_wp2_with (first
      | (at_make; go_must (
         refine wpList_make_full _ rfl _ _ 56 rfl w.heap.size 35 i0 (.agg #[.bool false, .int .i64 0, .slice none 0 0, .int .i64 0, .slice none 0 0]) 5 Try.underlying56 hi hz0 hz1 .i64 .i64 _ _ ys.length rfl rfl rfl rfl (by rw [hz2]; omega) (by unfold maxLen; omega) (by simp) ?_
         intro w1 hown hgrow
         have hB1 := (Below.refl w.heap.size w).grown hgrow (Nat.le_refl _) (fun k e => by cases e)
         clear hgrow))
      | fail)
    have hbs1 : w.heap.size < w1.heap.size := by
      rcases hown.2 with ⟨h, _⟩ | ⟨g, cap, cur, h, _, hg, _⟩
      · cases h
      · injection h with h _ _; injection h with h; injection h with h _ _; subst h
        exact (Array.getElem?_eq_some_iff.1 hg).1
    have HR : Hid (∃ vs, RowL w1 w.heap.size ys.length ys 0 vs) := ⟨_, hown, fun i x h => by omega⟩
    have HI1 := Lib.hid (HI.out 0 w w1 H0.out ((Keeps.of_below hB1).mono fun g e => hDb g e))
    have hK1 : KeepsC C w w1 := KeepsC.of_below hB1
    clear hown hB1
    go_loopw [16] (fun i wr => ∃ j : Nat, j ≤ ys.length ∧ i = .int .i64 (j : Int) ∧ KeepsC C w wr ∧ w.heap.size < wr.heap.size ∧ Hid (I j wr) ∧ Hid (∃ vs, RowL wr w.heap.size ys.length ys j vs)) (fun i _ => ys.length - (intOf i).toNat)
    case atStart => exact ⟨0, Nat.zero_le _, rfl, hK1, hbs1, HI1, HR⟩
    case round =>
      obtain ⟨j, hj, rfl, hKr, hbs, HIj, H⟩ := hrel
      by_cases hlt : j < ys.length
      · obtain ⟨y, hy⟩ : ∃ y, ys[j]? = some y := ⟨_, List.getElem?_eq_getElem hlt⟩
        obtain ⟨x, hx⟩ : ∃ x, xs[j]? = some x := ⟨_, List.getElem?_eq_getElem (by omega)⟩
        obtain ⟨bb, off, A1, c1, A2, c2, rfl, hbN, ha⟩ := (HA.out.keep fun g e => hKr.block (hNb g e) (hNC g e)).get hx
        have e0 := ha.v0
        have e1 := ha.v1
        have e2 := ha.v2
        have e3 := ha.v3
        have e4 := ha.v4
        have hsl := ha.sl
        have hsr := ha.sr
        have hil := ha.il
        have hir := ha.ir
        obtain ⟨vs, hR⟩ := H.out
        have hvl : vs.length = ys.length * 5 := hR.row.1
        have hbx := (Below.refl wr.heap.size wr).alloc (Nat.le_refl _) (.cells #[.bool x.neg, .int .i64 x.l.fn, .slice A1 x.l.args.length c1, .int .i64 x.r.fn, .slice A2 x.r.args.length c2] 35)
        have hcall := Lib.hid (Hc.out j x y A1 A2 c1 c2 (wr.alloc (.cells #[.bool x.neg, .int .i64 x.l.fn, .slice A1 x.l.args.length c1, .int .i64 x.r.fn, .slice A2 x.r.args.length c2] 35)) hx hy (by simp; omega) (hKr.alloc _) (HI.out j wr _ HIj.out ((Keeps.of_below hbx).mono fun g e => by have := hDb g e; show g < wr.heap.size; omega)) hil hir (hsl.keep fun g e => hbx.block g (by have := hNb g e; omega)) (hsr.keep fun g e => hbx.block g (by have := hNb g e; omega)))
        have hR := Lib.hid hR
        have Hy := Lib.hid hy
        clear hx ha hy hsl hsr
        go_wp2_with (first
          | (with_reducible refine hcall.out.mono ?_; go_must (
             rintro e w4 ⟨A3, c3, A4, c4, rfl, hl64, hr64, hO3, hO4, hI4, hk4⟩
             have hK4 := (hKr.alloc (.cells #[.bool x.neg, .int .i64 x.l.fn, .slice A1 x.l.args.length c1, .int .i64 x.r.fn, .slice A2 x.r.args.length c2] 35)).trans hk4
             have hs4 := hk4.size
             have hsz : (wr.alloc (.cells #[.bool x.neg, .int .i64 x.l.fn, .slice A1 x.l.args.length c1, .int .i64 x.r.fn, .slice A2 x.r.args.length c2] 35)).heap.size = wr.heap.size + 1 := by simp
             have hkk : ∀ g, w.heap.size ≤ g → g < wr.heap.size → w4.heap[g]? = wr.heap[g]? := fun g h1 h2 => (hk4.block (by omega) (fun e => by have := hCb g e; omega)).trans (hbx.block g h2)
             have hR4 := hR.out.onK hbs (by omega) hkk
             have r0 := (hR4.row.cellAt (j * 5) (by omega)).trans (List.getElem?_eq_getElem (by omega))
             have r1 := (hR4.row.cellAt (j * 5 + 1) (by omega)).trans (List.getElem?_eq_getElem (by omega))
             have r2 := (hR4.row.cellAt (j * 5 + 2) (by omega)).trans (List.getElem?_eq_getElem (by omega))
             have r3 := (hR4.row.cellAt (j * 5 + 3) (by omega)).trans (List.getElem?_eq_getElem (by omega))
             have r4 := (hR4.row.cellAt (j * 5 + 4) (by omega)).trans (List.getElem?_eq_getElem (by omega))
             have s0 := hR4.row.frozenAt (j * 5)
             have s1 := hR4.row.frozenAt (j * 5 + 1)
             have s2 := hR4.row.frozenAt (j * 5 + 2)
             have s3 := hR4.row.frozenAt (j * 5 + 3)
             have s4 := hR4.row.frozenAt (j * 5 + 4)
             have hR4 := Lib.hid hR4
             have hO3 := Lib.hid hO3
             have hO4 := Lib.hid hO4
             have hI4 := Lib.hid hI4))
          | fail)
        have hst := hR4.out.step (c1 := c3) (c2 := c4) Hy.out hl64 hr64 (hO3.out.argsN.wide fun g e => ⟨by omega, e.2⟩) (hO4.out.argsN.wide fun g e => ⟨by omega, e.2⟩)
        go_roundw
        case rel =>
          have hb := Nat.le_refl w.heap.size
          have hD : ∀ g, D g → g ≠ w.heap.size := fun g e => by have := hDb g e; omega
          exact ⟨j + 1, by omega, by go_num, ((((hK4.set hb _).set hb _).set hb _).set hb _).set hb _, by simp; omega, HI.out _ _ _ hI4.out (((((Keeps.set w4 ⟨w.heap.size, j * 5, none⟩ _).mono hD).trans ((Keeps.set _ ⟨w.heap.size, j * 5 + 1, none⟩ _).mono hD)).trans ((Keeps.set _ ⟨w.heap.size, j * 5 + 2, none⟩ _).mono hD)).trans ((Keeps.set _ ⟨w.heap.size, j * 5 + 3, none⟩ _).mono hD) |>.trans ((Keeps.set _ ⟨w.heap.size, j * 5 + 4, none⟩ _).mono hD)), hst⟩
        case measure => simp [intOf]; omega
      · obtain rfl : j = ys.length := by omega
        obtain ⟨vs, hR⟩ := H.out
        go_wp2
        go_ret
        exact ⟨some ⟨w.heap.size, 0, none⟩, ys.length, rfl, hR.whole (by omega) (by omega), HIj.out, hKr⟩

end Go.Proofs.Ytglfjmbclimeeaa

namespace Go.Proofs.Ytglfjmbclimeeaa

open Go.RowKit Go.Shelf
set_option maxRecDepth 100000

section

variable {σ : Type} (ch : σ → Tm → σ × Tm)

def litsL : σ → List Lt → σ × List Lt
  | s, [] => (s, [])
  | s, x :: xs => ((litsL (sidesL ch s x).1 xs).1, (sidesL ch s x).2 :: (litsL (sidesL ch s x).1 xs).2)

theorem litsL_len : ∀ (s : σ) (xs : List Lt), (litsL ch s xs).2.length = xs.length
  | _, [] => by simp [litsL]
  | s, t :: ts => by simp [litsL, litsL_len]

theorem litsL_get : ∀ (s : σ) (xs : List Lt) (i : Nat) (t : Lt), xs[i]? = some t → (litsL ch s xs).2[i]? = some (sidesL ch (litsL ch s (xs.take i)).1 t).2 ∧ (litsL ch s (xs.take (i + 1))).1 = (sidesL ch (litsL ch s (xs.take i)).1 t).1
  | _, [], i, t, h => by simp at h
  | s, x :: xs, 0, t, h => by
    simp at h
    subst h
    simp [litsL]
  | s, x :: xs, i + 1, t, h => by
    have ih := litsL_get (sidesL ch s x).1 xs i t (by simpa using h)
    simp only [List.take_succ_cons, litsL, List.getElem?_cons_succ]
    exact ih

end

section

variable {σ : Type} {V : Tm → Prop} {ch : σ → Tm → σ × Tm} {k : FuncId} {cv : Array Value} {C D N : Nat → Prop} {I : σ → World → Prop} {B0 : Nat}

set_option maxHeartbeats 1000000 in
theorem literals1_any (hN : ChgC V ch k cv C D N I B0) (x : Lt) (s : σ) (A1 A2 : Option Addr) (c1 c2 bx : Nat) (w : World) (hB0 : B0 ≤ w.heap.size) (hb : Boxed w bx 74 (.func (.func k) #[] cv)) (hs : I s w) (hl : I64 x.l.fn) (hr : I64 x.r.fn) (hVl : V x.l) (hVr : V x.r) (hA1 : ArgsN w N A1 x.l.args) (hA2 : ArgsN w N A2 x.r.args) :
    Calls Try.prog 81 #[.agg #[.bool x.neg, .int .i64 x.l.fn, .slice A1 x.l.args.length c1, .int .i64 x.r.fn, .slice A2 x.r.args.length c2], .pointer (some ⟨bx, 0, none⟩)] w (SidesPost C I (sidesL ch s x) w) := by
  obtain ⟨q0, q1⟩ := heap2 w (.cells #[.bool x.neg, .int .i64 x.l.fn, .slice A1 x.l.args.length c1, .int .i64 x.r.fn, .slice A2 x.r.args.length c2] 35) (.cells #[.bool false, .int .i64 0, .slice none 0 0, .int .i64 0, .slice none 0 0] 35)
  obtain ⟨W, hW⟩ : ∃ W, ((w.alloc (.cells #[.bool x.neg, .int .i64 x.l.fn, .slice A1 x.l.args.length c1, .int .i64 x.r.fn, .slice A2 x.r.args.length c2] 35)).alloc (.cells #[.bool false, .int .i64 0, .slice none 0 0, .int .i64 0, .slice none 0 0] 35)) = W := ⟨_, rfl⟩
  have hB : Below w.heap.size w W := by rw [← hW]; exact ((Below.refl _ _).alloc (Nat.le_refl _) _).alloc (by simp) _
  rw [hW] at q0 q1
  have hWs : w.heap.size + 1 < W.heap.size := (Array.getElem?_eq_some_iff.1 q1).1
  have hnC : ∀ g, w.heap.size ≤ g → ¬ C g := fun g h e => by have := hN.cb _ e; omega
  have hnD : ∀ g, D g → g < w.heap.size := fun g e => by have := hN.db _ e; omega
  have hcb := Boxed.cell (show Boxed W bx _ _ from (hB.block _ hb.lt).trans hb)
  have hub : ∀ g, N g → W.heap[g]? = w.heap[g]? := fun g e => hB.block g (by have := hN.nb g e; omega)
  have H1 := Lib.hid (sides_any hN x s A1 A2 c1 c2 W (by omega) (hN.stay s w W hs ((Keeps.of_below hB).mono fun g e => hnD g e)) hl hr hVl hVr (hA1.keep hub) (hA2.keep hub))
  obtain ⟨a0, a1, a2, a3, a4⟩ := cells_5 q0
  have HW := Lib.hid hW
  have HN := Lib.hid hN
  clear hW hA1 hA2 hs hN hub
  go_enter Try.func81, Try.ntmps81
  go_upto_region 1 with fail
  rw [HW.out]
  go_wp2_with (first
    | (go_at_call 82; refine H1.out.mono ?_; go_must (rintro e w5 ⟨A3, c3, A5, c5, rfl, hi3, hi5, hO3, hO5, hI5, hk5⟩; have t5 := (hk5.block hWs (hnC _ (by omega))).trans q1; obtain ⟨s0, s1, s2, s3, s4⟩ := frozen_5 t5; obtain ⟨r0, r1, r2, r3, r4⟩ := cells_5 t5; have hO3 := Lib.hid hO3; have hO5 := Lib.hid hO5; have hI5 := Lib.hid hI5))
    | fail)
  obtain ⟨r, hr0⟩ : ∃ r, sidesL ch s x = r := ⟨_, rfl⟩
  rw [hr0] at hi3 hi5 hO3 hO5 hI5
  rw [hr0]
  have z5 := set5 (a1 := .bool r.2.neg) (a2 := .int .i64 r.2.l.fn) (a3 := .slice A3 r.2.l.args.length c3) (a4 := .int .i64 r.2.r.fn) (a5 := .slice A5 r.2.r.args.length c5) t5
  obtain ⟨p0, p1, p2, p3, p4⟩ := cells_5 z5
  have hoth : ∀ g, g ≠ w.heap.size + 1 → ((((((w5.setCell ⟨w.heap.size + 1, 0, none⟩ (.bool r.2.neg)).setCell ⟨w.heap.size + 1, 1, none⟩ (.int .i64 r.2.l.fn)).setCell ⟨w.heap.size + 1, 2, none⟩ (.slice A3 r.2.l.args.length c3)).setCell ⟨w.heap.size + 1, 3, none⟩ (.int .i64 r.2.r.fn)).setCell ⟨w.heap.size + 1, 4, none⟩ (.slice A5 r.2.r.args.length c5))).heap[g]? = w5.heap[g]? := fun g hb =>
    (heap_setCell_other _ _ _ _ hb).trans ((heap_setCell_other _ _ _ _ hb).trans ((heap_setCell_other _ _ _ _ hb).trans ((heap_setCell_other _ _ _ _ hb).trans (heap_setCell_other _ _ _ _ hb))))
  have hz5 := hk5.size
  refine bodyPost_ret (v := .agg #[.bool r.2.neg, .int .i64 r.2.l.fn, .slice A3 r.2.l.args.length c3, .int .i64 r.2.r.fn, .slice A5 r.2.r.args.length c5]) (by simp [results, Try.results81, go_sem, p0, p1, p2, p3, p4]) rfl ⟨A3, c3, A5, c5, rfl, hi3, hi5, ?_, ?_, ?_, ?_⟩
  · exact OwnT.wide (lo := W.heap.size) (hi := w5.heap.size) (hO3.out.keep fun g h1 h2 => hoth g (by omega)) (by omega) (by simp)
  · exact OwnT.wide (lo := W.heap.size) (hi := w5.heap.size) (hO5.out.keep fun g h1 h2 => hoth g (by omega)) (by omega) (by simp)
  · exact HN.out.stay _ w5 _ hI5.out ⟨rfl, rfl, rfl, by simp, fun g e => hoth g (by have := hnD g e; omega)⟩
  · have hb : w.heap.size ≤ w.heap.size + 1 := Nat.le_succ _
    exact ((((((KeepsC.of_below hB).trans hk5).set hb _).set hb _).set hb _).set hb _).set hb _

set_option maxHeartbeats 1000000 in
theorem literals_any (hN : ChgC V ch k cv C D N I B0) (xs : List Lt) (hlen : xs.length ≤ 3909374676536) (hV : ∀ x ∈ xs, V x.l ∧ V x.r) (s : σ) (A : Option Addr) (c : Nat) (w : World) (hB0 : B0 ≤ w.heap.size) (hs : I s w) (hA : Lits w N A xs) :
    Calls Try.prog 54 #[.slice A xs.length c, .func (.func k) #[] cv] w fun e w' => ∃ A' c', e = .returned (.slice A' (litsL ch s xs).2.length c') ∧ Lits w' (fun g => w.heap.size ≤ g ∧ g < w'.heap.size) A' (litsL ch s xs).2 ∧ I (litsL ch s xs).1 w' ∧ KeepsC C w w' := by
  have q0 := heap_alloc_new w (.cells #[.func (.func k) #[] cv] 74)
  obtain ⟨W, hW⟩ : ∃ W, w.alloc (.cells #[.func (.func k) #[] cv] 74) = W := ⟨_, rfl⟩
  have hB : Below w.heap.size w W := by rw [← hW]; exact (Below.refl _ _).alloc (Nat.le_refl _) _
  rw [hW] at q0
  have hWs : w.heap.size < W.heap.size := (Array.getElem?_eq_some_iff.1 q0).1
  have hncx : ¬ C w.heap.size := fun e => by have := hN.cb _ e; omega
  have hnD : ∀ g, D g → g < w.heap.size := fun g e => by have := hN.db _ e; omega
  have hub : ∀ g, N g → W.heap[g]? = w.heap[g]? := fun g e => hB.block g (by have := hN.nb g e; omega)
  have key := eachL_any 81 (enters_of Try.func81 (by kernel_rfl) rfl) (.pointer (some ⟨w.heap.size, 0, none⟩)) C (fun g => D g ∨ g = w.heap.size) N (fun i W => I (litsL ch s (xs.take i)).1 W ∧ Boxed W w.heap.size 74 (.func (.func k) #[] cv)) xs (litsL ch s xs).2 A c W (by rw [litsL_len]; exact hlen) (by rw [litsL_len])
    (hA.keep hub) (fun g e => by have := hN.nb g e; omega) hN.nc (fun g e => by have := hN.cb g e; omega) (fun g e => by rcases e with e | e; have := hN.db g e; omega; omega) (fun i Wa Wb h hk => ⟨hN.stay _ _ _ h.1 (hk.mono fun g e => .inl e), (hk.block _ (.inr rfl)).trans h.2⟩) ⟨by simpa [litsL] using hN.stay s w W hs ((Keeps.of_below hB).mono fun g e => hnD g e), q0⟩
    (fun i x y A1 A2 c1 c2 Wi hx hy hsz1 _ hIi hl64 hr64 hs1 hs2 => by
      obtain ⟨g1, g2⟩ := litsL_get ch s xs i x hx
      rw [hy] at g1
      injection g1 with g1
      have hv := hV x (List.mem_of_getElem? hx)
      refine (literals1_any hN x _ A1 A2 c1 c2 w.heap.size Wi (by omega) hIi.2 hIi.1 hl64 hr64 hv.1 hv.2 hs1 hs2).mono ?_
      rintro e w' ⟨A3, c3, A4, c4, rfl, h1, h2, h3, h4, h5, h6⟩
      rw [← g1] at h1 h2 h3 h4 ⊢
      exact ⟨A3, c3, A4, c4, rfl, h1, h2, h3, h4, ⟨by rw [g2]; exact h5, (h6.block hIi.2.lt hncx).trans hIi.2⟩, h6⟩)
  have Hkey := Lib.hid key
  have HW := Lib.hid hW
  clear key hW hA hs hub hV
  go_enter Try.func54, Try.ntmps54
  go_upto_region 1 with fail
  rw [HW.out]
  go_wp2_with (first
    | (go_at_call 80; refine Hkey.out.mono ?_; go_must (rintro e w5 ⟨A3, c3, rfl, hL, hI5, hk5⟩; have hL := Lib.hid hL; have hI5 := Lib.hid hI5))
    | fail)
  go_ret
  have hI6 := hI5.out.1
  rw [litsL_len, List.take_length] at hI6
  exact ⟨A3, c3, rfl, hL.out.wide fun g e => ⟨by omega, e.2⟩, hI6, (KeepsC.of_below hB).trans hk5⟩

end

end Go.Proofs.Ytglfjmbclimeeaa

namespace Go.Proofs.Ytglfjmbclimeeaa

open Go.RowKit Go.Shelf
set_option maxRecDepth 100000

section

variable {σ : Type} {V : Int → Prop} {nx : σ → Int → σ × Int} {kn : FuncId} {nc : Array Value} {C D N : Nat → Prop} {I : σ → World → Prop} {B0 : Nat}

theorem normal2_chg (hN : NumV V nx kn nc C D N I B0) (bn : Nat) (hbn : bn < B0) (hbC : ¬ C bn) :
    ChgC (fun t => t.size ≤ 4398046511104 ∧ VT V t) (renT nx) 55 #[.pointer (some ⟨bn, 0, none⟩)] C (fun g => D g ∨ g = bn) N (fun s w => I s w ∧ Boxed w bn 84 (.func (.func kn) #[] nc)) B0 where
  ent := enters_of Try.func55 (by kernel_rfl) rfl
  call := fun s t A c W hB0 hI hf hV hA => (normal2_any hN t hV.1 s A c bn W hB0 hI.2 hI.1 hf hV.2 hA).mono fun e w' ⟨A', c', he, h1, h2, h3, h4⟩ => ⟨A', c', he, h1, h2, ⟨h3, (h4.block hI.2.lt hbC).trans hI.2⟩, h4⟩
  stay := fun s W W' h hk => ⟨hN.stay s W W' h.1 (hk.mono fun g e => .inl e), (hk.block bn (.inr rfl)).trans h.2⟩
  cb := hN.cb
  db := fun g e => by
    rcases e with e | e
    · exact hN.db g e
    · omega
  nb := hN.nb
  nc := hN.nc

end

end Go.Proofs.Ytglfjmbclimeeaa

