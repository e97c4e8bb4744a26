/- The laws' same, of clauses. The document's own answer: name (a term with its variables renamed; arguments of variables stay). Numbers in the order in which variables are met, in plain words. Normal's substitution, in plain words. A row of literals that grows; a map's number told without 'ok'. The document's own answer: renamed (a clause with its variables renamed). The document's own answer: renamed, walked. -/
import Derived.Test.YtdeegdndfblnkaaYA4
import Derived.Test.YtdeegdndfblnkaaUA
import Derived.Test.YtdeegdndfblnkaaU27
import Derived.Test.YtdeegdndfblnkaaU14
import Derived.Test.YtdeegdndfblnkaaUFA
namespace Go.Proofs.Ytdeegdndfblnkaa
open Go.RowKit Go.Shelf
set_option maxRecDepth 100000

/-- Two clauses, literal by literal. -/
def sameC : List Lt → List Lt → Bool
  | [], [] => true
  | x :: xs, y :: ys => (x.neg == y.neg) && (decide (cmpT x.l y.l = 0) && (decide (cmpT x.r y.r = 0) && sameC xs ys))
  | _, _ => false
theorem sameC_len : ∀ {a b : List Lt}, sameC a b = true → a.length = b.length
  | [], [], _ => rfl
  | [], _ :: _, h => by simp [sameC] at h
  | _ :: _, [], h => by simp [sameC] at h
  | x :: xs, y :: ys, h => by
    simp only [sameC, Bool.and_eq_true] at h
    have := sameC_len h.2.2.2
    simp only [List.length_cons]; omega
theorem sameC_refl : ∀ a : List Lt, sameC a a = true
  | [] => rfl
  | x :: xs => by simp only [sameC, Bool.and_eq_true, decide_eq_true_eq]; exact ⟨by simp, cmp_refl _, cmp_refl _, sameC_refl xs⟩
structure SameCI (a b : List Lt) (k : Nat) : Prop where
  len : a.length = b.length
  rest : sameC (a.drop k) (b.drop k) = sameC a b
section
variable {a b : List Lt} {k : Nat} {x y : Lt}
theorem SameCI.cons (h : SameCI a b k) (hx : a[k]? = some x) (hy : b[k]? = some y) : sameC a b = ((x.neg == y.neg) && (decide (cmpT x.l y.l = 0) && (decide (cmpT x.r y.r = 0) && sameC (a.drop (k + 1)) (b.drop (k + 1))))) := by
  obtain ⟨h1, hx'⟩ := List.getElem?_eq_some_iff.1 hx
  obtain ⟨h2, hy'⟩ := List.getElem?_eq_some_iff.1 hy
  rw [← h.rest, List.drop_eq_getElem_cons h1, List.drop_eq_getElem_cons h2, hx', hy']
  rfl
theorem SameCI.start (h : a.length = b.length) : SameCI a b 0 := ⟨h, rfl⟩
theorem SameCI.done (h : SameCI a b k) (hk : a.length ≤ k) : sameC a b = true := by
  rw [← h.rest, List.drop_eq_nil_of_le hk, List.drop_eq_nil_of_le (by rw [← h.len]; exact hk)]; rfl
theorem SameCI.no (h : SameCI a b k) (hx : a[k]? = some x) (hy : b[k]? = some y) (hn : ¬ (x.neg = y.neg ∧ cmpT x.l y.l = 0 ∧ cmpT x.r y.r = 0)) : sameC a b = false := by
  rw [h.cons hx hy]
  by_cases h1 : x.neg = y.neg
  · by_cases h2 : cmpT x.l y.l = 0
    · by_cases h3 : cmpT x.r y.r = 0
      · exact absurd ⟨h1, h2, h3⟩ hn
      · simp [h3]
    · simp [h2]
  · simp [h1]
theorem SameCI.next (h : SameCI a b k) (hx : a[k]? = some x) (hy : b[k]? = some y) (h1 : x.neg = y.neg) (h2 : cmpT x.l y.l = 0) (h3 : cmpT x.r y.r = 0) : SameCI a b (k + 1) := ⟨h.len, by rw [h.cons hx hy, decide_eq_true h2, decide_eq_true h3, h1]; simp⟩
end

set_option maxHeartbeats 4000000 in
theorem lawSame_any (la lb : List Lt) (A A2 : Option Addr) (c c2 : Nat) (w : World) (hA : Lits w (· < w.heap.size) A la) (hA2 : Lits w (· < w.heap.size) A2 lb) :
    Calls Try.prog 23 #[.slice A la.length c, .slice A2 lb.length c2] w fun e w' => e = .returned (.bool (sameC la lb)) ∧ Below w.heap.size w w' := by
  have hl1 := hA.len
  have hl2 := hA2.len
  by_cases hlen : la.length = lb.length
  · have HA := Lib.hid hA
    have HA2 := Lib.hid hA2
    have HI0 := Lib.hid (SameCI.start hlen)
    have HL := Lib.hid hlen
    have hne : ((la.length : Int) != (lb.length : Int)) = false := by rw [hlen]; simp
    clear hA hA2 hlen
    go_enter Try.func23, Try.ntmps23
    go_wp2
    go_loopw [13] (fun i wr => ∃ k : Nat, k ≤ la.length ∧ i = .int .i64 (k : Int) ∧ Below w.heap.size w wr ∧ Hid (SameCI la lb k)) (fun i _ => la.length - (intOf i).toNat)
    case atStart => exact ⟨0, Nat.zero_le _, rfl, Below.refl _ _, HI0⟩
    case round =>
      obtain ⟨k, hk, rfl, hBr, H⟩ := hrel
      by_cases hlt : k < la.length
      · obtain ⟨x, hx⟩ : ∃ x, la[k]? = some x := ⟨_, List.getElem?_eq_getElem hlt⟩
        obtain ⟨y, hy⟩ : ∃ y, lb[k]? = some y := ⟨_, List.getElem?_eq_getElem (by have := HL.out; omega)⟩
        obtain ⟨b, off, B1, d1, B2, d2, rfl, hb, h⟩ := HA.out.get hx
        obtain ⟨b', off', B3, d3, B4, d4, rfl, hb', h2⟩ := HA2.out.get hy
        have hB : ∀ x' : Later wr.heap.size wr, Below w.heap.size w x'.w := fun x' => hBr.trans (x'.h.mono hBr.size)
        have r0 : ∀ x' : Later wr.heap.size wr, x'.w.cell? ⟨b, off + k * 5, none⟩ = some (.bool x.neg) := fun x' => cell_on (hB x') hb h.v0
        have r1 : ∀ x' : Later wr.heap.size wr, x'.w.cell? ⟨b, off + k * 5 + 1, none⟩ = some (.int .i64 x.l.fn) := fun x' => cell_on (hB x') hb h.v1
        have r2 : ∀ x' : Later wr.heap.size wr, x'.w.cell? ⟨b, off + k * 5 + 1 + 1, none⟩ = some (.slice B1 x.l.args.length d1) := fun x' => cell_on (hB x') hb h.v2
        have r3 : ∀ x' : Later wr.heap.size wr, x'.w.cell? ⟨b, off + k * 5 + 3, none⟩ = some (.int .i64 x.r.fn) := fun x' => cell_on (hB x') hb h.v3
        have r4 : ∀ x' : Later wr.heap.size wr, x'.w.cell? ⟨b, off + k * 5 + 3 + 1, none⟩ = some (.slice B2 x.r.args.length d2) := fun x' => cell_on (hB x') hb h.v4
        have s0 : ∀ x' : Later wr.heap.size wr, x'.w.cell? ⟨b', off' + k * 5, none⟩ = some (.bool y.neg) := fun x' => cell_on (hB x') hb' h2.v0
        have s1 : ∀ x' : Later wr.heap.size wr, x'.w.cell? ⟨b', off' + k * 5 + 1, none⟩ = some (.int .i64 y.l.fn) := fun x' => cell_on (hB x') hb' h2.v1
        have s2 : ∀ x' : Later wr.heap.size wr, x'.w.cell? ⟨b', off' + k * 5 + 1 + 1, none⟩ = some (.slice B3 y.l.args.length d3) := fun x' => cell_on (hB x') hb' h2.v2
        have s3 : ∀ x' : Later wr.heap.size wr, x'.w.cell? ⟨b', off' + k * 5 + 3, none⟩ = some (.int .i64 y.r.fn) := fun x' => cell_on (hB x') hb' h2.v3
        have s4 : ∀ x' : Later wr.heap.size wr, x'.w.cell? ⟨b', off' + k * 5 + 3 + 1, none⟩ = some (.slice B4 y.r.args.length d4) := fun x' => cell_on (hB x') hb' h2.v4
        have hsl : ∀ x' : Later wr.heap.size wr, Calls Try.prog 20 #[.agg #[.int .i64 x.l.fn, .slice B1 x.l.args.length d1], .agg #[.int .i64 y.l.fn, .slice B3 y.l.args.length d3]] x'.w fun e w' => e = .returned (.bool (decide (cmpT x.l y.l = 0))) ∧ Below x'.w.heap.size x'.w w' := fun x' =>
          ref2Same_any' x.l y.l B1 B3 d1 d3 x'.w h.il h2.il ((h.sl.keep fun g e => (hB x').block g e).args fun g e => Nat.lt_of_lt_of_le e (hB x').size) ((h2.sl.keep fun g e => (hB x').block g e).args fun g e => Nat.lt_of_lt_of_le e (hB x').size)
        have hsr : ∀ x' : Later wr.heap.size wr, Calls Try.prog 20 #[.agg #[.int .i64 x.r.fn, .slice B2 x.r.args.length d2], .agg #[.int .i64 y.r.fn, .slice B4 y.r.args.length d4]] x'.w fun e w' => e = .returned (.bool (decide (cmpT x.r y.r = 0))) ∧ Below x'.w.heap.size x'.w w' := fun x' =>
          ref2Same_any' x.r y.r B2 B4 d2 d4 x'.w h.ir h2.ir ((h.sr.keep fun g e => (hB x').block g e).args fun g e => Nat.lt_of_lt_of_le e (hB x').size) ((h2.sr.keep fun g e => (hB x').block g e).args fun g e => Nat.lt_of_lt_of_le e (hB x').size)
        have hsl := Lib.hid hsl
        have hsr := Lib.hid hsr
        have Hx := Lib.hid hx
        have Hy := Lib.hid hy
        have hkl : (k : Int) < (la.length : Int) := by omega
        have hkl2 : (k : Int) < (lb.length : Int) := by have := HL.out; omega
        clear hx hy h h2 hB
        by_cases hv : x.neg = y.neg
        · have hv' : (x.neg == y.neg) = true := by simp [hv]
          by_cases hc : cmpT x.l y.l = 0
          · have hc' := decide_eq_true hc
            by_cases hd : cmpT x.r y.r = 0
            · have hd' := decide_eq_true hd
              have hnx := Lib.hid (H.out.next Hx.out Hy.out hv hc hd)
              clear hv hc hd
              go_upto_region 6 with fail
              refine wp_region_later wr.heap.size wr (by kernel_rfl) (by kernel_rfl) (bl_drewN (Below.refl _ _) 1) ?_
              repeat (go_big_quiet_step (first | (go_at_call 20; with_reducible exact calls_later _ (Nat.le_refl _) (hsl.out _)) | (go_at_call 20; with_reducible exact calls_later _ (Nat.le_refl _) (hsr.out _)) | fail))
              refine wpQuiet_nil ?_
              rintro _ ⟨z, rfl⟩
              have hBz := hBr.trans (z.h.mono hBr.size)
              go_wp2
              go_roundw
              case rel => exact ⟨k + 1, by omega, by go_num, hBz, hnx⟩
              case measure => simp [intOf]; omega
            · have hd' := decide_eq_false hd
              have hres := Lib.hid (H.out.no Hx.out Hy.out (fun e => hd e.2.2))
              clear hv hc hd
              go_upto_region 6 with fail
              refine wp_region_later wr.heap.size wr (by kernel_rfl) (by kernel_rfl) (bl_drewN (Below.refl _ _) 1) ?_
              repeat (go_big_quiet_step (first | (go_at_call 20; with_reducible exact calls_later _ (Nat.le_refl _) (hsl.out _)) | (go_at_call 20; with_reducible exact calls_later _ (Nat.le_refl _) (hsr.out _)) | fail))
              refine wpQuiet_nil ?_
              rintro _ ⟨z, rfl⟩
              have hBz := hBr.trans (z.h.mono hBr.size)
              go_wp2
              go_ret
              exact ⟨ret_bool hres.out.symm, hBz⟩
          · have hc' := decide_eq_false hc
            have hres := Lib.hid (H.out.no Hx.out Hy.out (fun e => hc e.2.1))
            clear hv hc
            go_upto_region 6 with fail
            refine wp_region_later wr.heap.size wr (by kernel_rfl) (by kernel_rfl) (bl_drewN (Below.refl _ _) 1) ?_
            repeat (go_big_quiet_step (first | (go_at_call 20; with_reducible exact calls_later _ (Nat.le_refl _) (hsl.out _)) | fail))
            refine wpQuiet_nil ?_
            rintro _ ⟨z, rfl⟩
            have hBz := hBr.trans (z.h.mono hBr.size)
            go_wp2
            go_ret
            exact ⟨ret_bool hres.out.symm, hBz⟩
        · have hv' : (x.neg == y.neg) = false := by simp [hv]
          have hres := Lib.hid (H.out.no Hx.out Hy.out (fun e => hv e.1))
          clear hv
          go_upto_region 6 with fail
          refine wp_region_later wr.heap.size wr (by kernel_rfl) (by kernel_rfl) (bl_drewN (Below.refl _ _) 1) ?_
          repeat (go_big_quiet_step (fail))
          refine wpQuiet_nil ?_
          rintro _ ⟨z, rfl⟩
          have hBz := hBr.trans (z.h.mono hBr.size)
          go_wp2
          go_ret
          exact ⟨ret_bool hres.out.symm, hBz⟩
      · obtain rfl : k = la.length := by omega
        have hres := Lib.hid (H.out.done (Nat.le_refl _))
        have hkl2 : ¬ (la.length : Int) < (la.length : Int) := by omega
        go_wp2
        go_ret
        exact ⟨ret_bool hres.out.symm, hBr⟩
  · have hne : ((la.length : Int) != (lb.length : Int)) = true := by
      simp only [bne_iff_ne, ne_eq]; omega
    have hres : Hid (sameC la lb = false) := Lib.hid (by
      rcases h : sameC la lb with _ | _
      · rfl
      · exact absurd (sameC_len h) hlen)
    clear hlen hA hA2
    go_enter Try.func23, Try.ntmps23
    go_wp2
    go_ret
    exact ⟨ret_bool hres.out.symm, Below.refl _ _⟩

end Go.Proofs.Ytdeegdndfblnkaa

namespace Go.Proofs.Ytdeegdndfblnkaa
open Go.RowKit Go.Shelf
set_option maxRecDepth 100000

/-- A symbol's number, or that of what stands for a variable. -/
def nf (l : List Bd) (f : Int) : Int := if f < 0 then (match findB l (-1 - f) with | some x => x.t.fn | none => f) else f
mutual
def nameT (l : List Bd) : Tm → Tm
  | .node f xs => .node (nf l f) (nameL l xs)
def nameL (l : List Bd) : List Tm → List Tm
  | [] => []
  | t :: ts => nameT l t :: nameL l ts
end
theorem nameL_eq (l : List Bd) : ∀ xs, nameL l xs = xs.map (nameT l)
  | [] => by simp [nameL]
  | t :: ts => by simp [nameL, nameL_eq l ts]
theorem nameT_node (l : List Bd) (f : Int) (xs : List Tm) : nameT l (.node f xs) = .node (nf l f) (xs.map (nameT l)) := by rw [nameT, nameL_eq]
theorem nf_some {l : List Bd} {f : Int} {x : Bd} (h : f < 0) (hx : findB l (-1 - f) = some x) : nf l f = x.t.fn := by unfold nf; rw [if_pos h, hx]
theorem nf_none {l : List Bd} {f : Int} (hx : findB l (-1 - f) = none) : nf l f = f := by unfold nf; rw [hx]; simp
theorem nf_sym {l : List Bd} {f : Int} (h : ¬ f < 0) : nf l f = f := by unfold nf; rw [if_neg h]
theorem nameT_fn64 {l : List Bd} {w : World} {N : Nat → Prop} {A : Option Addr} (hB : Binds w N A l) {t : Tm} (hf : I64 t.fn) : I64 (nameT l t).fn := by
  obtain ⟨f, xs⟩ := t
  rw [nameT_node]
  show I64 (nf l f)
  by_cases h : f < 0
  · rcases hx : findB l (-1 - f) with _ | x
    · rw [nf_none hx]; exact hf
    · rw [nf_some h hx]; exact found_i64 hB hx
  · rw [nf_sym h]; exact hf
theorem nameT_args {l : List Bd} {t : Tm} (ht : t.args.length ≤ 9223372036854775807) : (nameT l t).args.length ≤ 9223372036854775807 := by
  obtain ⟨f, xs⟩ := t
  rw [nameT_node]
  simpa [Tm.args] using ht
def RNameAt (l : List Bd) (t : Tm) : Prop := t.size ≤ 4398046511104 → ∀ (B : Option Addr) (cb : Nat) (A : Option Addr) (c : Nat) (w : World), Binds w (· < w.heap.size) B l → I64 t.fn → Args w w.heap.size A t.args →
  Calls Try.prog 105 #[.agg #[.int .i64 t.fn, .slice A t.args.length c], .slice B l.length cb] w (RCopyPost (nameT l t) w)

set_option maxHeartbeats 4000000 in
theorem refName_any (l : List Bd) (hsm : ∀ x ∈ l, x.t.size ≤ 4398046511104) (t : Tm) : RNameAt l t := by
  refine Tm.ind (P := RNameAt l) (fun f xs ih => ?_) t
  intro hsz B cb A c w hBd hf hA
  simp only [Tm.fn, Tm.args] at hf hA ⊢
  have hlen : xs.length ≤ 4398046511104 := by have := sizes_len xs; simp only [Tm.size] at hsz; omega
  obtain ⟨i0, hi, hz0, hz1, hz2⟩ := info_parts info_term
  obtain ⟨q0, q1⟩ := heap2 w (.cells #[.int .i64 f, .slice A xs.length c] 31) (.cells #[.int .i64 0, .slice none 0 0] 31)
  obtain ⟨W, hW⟩ : ∃ W, ((w.alloc (.cells #[.int .i64 f, .slice A xs.length c] 31)).alloc (.cells #[.int .i64 0, .slice none 0 0] 31)) = W := ⟨_, rfl⟩
  have hB0 : Below w.heap.size w W := by rw [← hW]; exact ((Below.refl _ _).alloc (Nat.le_refl _) _).alloc (by simp) _
  rw [hW] at q0 q1
  have hWs : w.heap.size + 1 < W.heap.size := (Array.getElem?_eq_some_iff.1 q1).1
  have HW := Lib.hid hW
  have HA := Lib.hid hA
  have HBd := Lib.hid hBd
  have hlo := hf.1
  have hhi := hf.2
  obtain ⟨x0, x1, _, _⟩ := cells_two q0
  have lift : ∀ w1, Below w.heap.size w w1 → Binds w1 (· < w1.heap.size) B l := fun w1 hb => (hBd.keep fun g e => hb.block g e).wide fun g e => Nat.lt_of_lt_of_le e hb.size
  have q2 := heap_alloc_new W (.cells #[.int .i64 f, .slice none 0 0] 31)
  obtain ⟨n, hn⟩ : ∃ n, W.heap.size = n := ⟨_, rfl⟩
  obtain ⟨V, hV⟩ : ∃ V, W.alloc (.cells #[.int .i64 f, .slice none 0 0] 31) = V := ⟨_, rfl⟩
  have hBV : Below n W V := by rw [← hV, ← hn]; exact (Below.refl _ _).alloc (Nat.le_refl _) _
  have hwV : Below w.heap.size w V := hB0.trans (hBV.mono (by omega))
  rw [hV, hn] at q2
  have HG := Lib.hid (refGet_any l (-1 - f) B cb V hsm (lift V hwV))
  have HL := Lib.hid lift
  have hmv := Lib.hid (nameT_node l f xs)
  have HV := Lib.hid hV
  have Hn := Lib.hid hn
  have hnV : n < V.heap.size := (Array.getElem?_eq_some_iff.1 q2).1
  have hVs : w.heap.size + 1 < n := by omega
  clear hW hA hBd lift hV hn
  obtain ⟨v0, v1, vf0, vf1⟩ := cells_two ((hBV.block _ (by omega)).trans q0)
  obtain ⟨u0, u1, uf0, uf1⟩ := cells_two q2
  go_enter Try.func105, Try.ntmps105
  go_upto_region 1 with fail
  rw [HW.out]
  go_upto_region 2 with fail
  rw [HV.out, Hn.out]
  clear x0 x1
  go_upto_if 14 with fail
  go_cut [] (fun wx => Below n W wx ∧ wx.heap[n]? = some (.cells #[.int .i64 (nf l f), .slice none 0 0] 31))
  case first =>
    by_cases hneg : f < 0
    · rcases hx : findB l (-1 - f) with _ | x
      · have Hx := Lib.hid hx
        have Hnf := Lib.hid (nf_none hx)
        clear hx
        go_wp2_with (first
          | (go_at_call 15; (with_reducible refine HG.out.mono ?_); go_must (rintro e w1 ⟨hb1, he⟩; rw [Hx.out] at he; obtain rfl := he))
          | fail)
        go_meet
        have hs1 := hb1.size
        refine ⟨(hBV.trans (hb1.mono (by omega))).alloc (by have := hBV.size; omega) _, ?_⟩
        rw [Hnf.out]
        exact (Below.heap_alloc w1 _ n (by omega)).trans ((hb1.block n hnV).trans q2)
      · have Hx := Lib.hid hx
        have Hnf := Lib.hid (nf_some hneg hx)
        clear hx
        go_wp2_with (first
          | (go_at_call 15; (with_reducible refine HG.out.mono ?_); go_must (rintro e w1 ⟨hb1, he⟩; rw [Hx.out] at he; obtain ⟨v4, rfl, hi4, hO4⟩ := he; obtain ⟨l4, hl4, hR4⟩ := hO4; obtain ⟨Av, cv, hv4⟩ := row_own hR4.row; subst hv4; have hs1 := hb1.size; have y1 := (Below.heap_alloc w1 (Obj.cells #[.int .i64 x.t.fn, .slice Av l4.length cv] 31) n (by omega)).trans ((hb1.block n hnV).trans q2); obtain ⟨r0, r1, rf0, rf1⟩ := cells_two y1; have zq := heap_alloc_new w1 (Obj.cells #[.int .i64 x.t.fn, .slice Av l4.length cv] 31); obtain ⟨z0, z1, _, _⟩ := cells_two zq))
          | fail)
        go_meet
        refine ⟨((hBV.trans (hb1.mono (by omega))).alloc (by have := hBV.size; omega) _).setCell (Nat.le_refl _) _, ?_⟩
        rw [Hnf.out]
        exact heap_setCell_same _ _ 0 _ _ _ y1
    · have Hnf := Lib.hid (nf_sym (l := l) hneg)
      go_wp2
      go_meet
      exact ⟨hBV, by rw [Hnf.out]; exact q2⟩
  case rest =>
      obtain ⟨hWX, q2X⟩ := hcut
      obtain ⟨X, hX⟩ : ∃ X, wc = X := ⟨_, rfl⟩
      subst hX
      have hnW : W.heap.size ≤ n := Nat.le_of_eq Hn.out
      have hwX : Below w.heap.size w wc := hB0.trans (hWX.mono (by omega))
      have HI0 : Hid (ApI n wc (nf l f) (xs.map (nameT l)) 0 (.slice none 0 0) []) := ⟨q2X, by simp, RowT.nil_ _ _ _⟩
      have hnX : n < wc.heap.size := (Array.getElem?_eq_some_iff.1 q2X).1
      have hWX : Below W.heap.size W wc := hWX.mono hnW
      clear q2 q2X v0 v1 vf0 vf1 u0 u1 uf0 uf1
      go_wp2
      go_loopw [8] (fun i wr => ∃ (k : Nat) (v : Value) (r : List Ti), k ≤ xs.length ∧ i = .int .i64 (k : Int) ∧ Below n wc wr ∧ Hid (ApI n wr (nf l f) (xs.map (nameT l)) k v r)) (fun i _ => xs.length - (intOf i).toNat)
      case atStart => exact ⟨0, _, [], Nat.zero_le _, rfl, Below.refl _ _, HI0⟩
      case round =>
        obtain ⟨k, v, r, hk, rfl, hBr, H⟩ := hrel
        have hbx := H.out.box
        have hbs : n < wr.heap.size := (Array.getElem?_eq_some_iff.1 hbx).1
        have hBW : Below W.heap.size W wr := hWX.trans (hBr.mono hnW)
        obtain ⟨a0, a1, _, _⟩ := cells_two ((hBW.block _ (by omega)).trans q0)
        obtain ⟨c0, c1, g0, g1⟩ := cells_two hbx
        have hBw : Below w.heap.size w wr := hB0.trans (hBW.mono hB0.size)
        by_cases hlt : k < xs.length
        · obtain ⟨u, hu⟩ : ∃ u, xs[k]? = some u := ⟨_, List.getElem?_eq_getElem hlt⟩
          obtain ⟨bb, off, A1, c1', rfl, ha⟩ := HA.out.get hu
          have hbw := ha.hb
          have e0 := cell_on hBw hbw ha.c0
          have e1 := cell_on hBw hbw ha.c1
          have hbb : bb < wr.heap.size := Nat.lt_of_lt_of_le hbw hBw.size
          have hs1 : Hid (Args wr.drew wr.drew.heap.size A1 u.args) := (ha.sub.on hBw).drewN 1
          have hi64 := ha.hi
          have hmem := List.mem_of_getElem? hu
          have hszt : u.size ≤ 4398046511104 := by have := size_mem hmem; simp only [Tm.size] at hsz; omega
          have hul : (nameT l u).args.length ≤ 9223372036854775807 := nameT_args ha.sub.len
          have hm64 : I64 (nameT l u).fn := nameT_fn64 HBd.out ha.hi
          have Hu := Lib.hid (show (xs.map (nameT l))[k]? = some (nameT l u) by rw [List.getElem?_map, hu]; rfl)
          have hcall := Lib.hid (ih u hmem hszt B cb A1 c1' wr.drew (HL.out wr.drew (bl_drewN hBw 1)) hi64 hs1.out)
          obtain ⟨um, hum⟩ : ∃ um, nameT l u = um := ⟨_, rfl⟩
          have hrow := H.out.row.row
          have hll := H.out.len (by rw [List.length_map]; exact hk)
          rw [hll] at hrow
          obtain ⟨Av, cv, hv⟩ := row_own hrow
          subst hv
          have hrl := row_lt hrow
          have Hrow := Lib.hid hrow
          have hSS : ∀ w', Below wr.heap.size wr w' → w'.cell? ⟨n, 1, none⟩ = some (.slice Av k cv) ∧ w'.cell? ⟨w.heap.size, 1, none⟩ = some (.slice (some ⟨bb, off, none⟩) xs.length c) ∧ w'.cell? ⟨bb, off + k * 2, none⟩ = some (.int .i64 u.fn) ∧ w'.cell? ⟨bb, off + k * 2 + 1, none⟩ = some (.slice A1 u.args.length c1') := fun w' h => ⟨cell_on h hbs c1, cell_on h (by omega) a1, cell_on h hbb e0, cell_on h hbb e1⟩
          have hne : ∀ g, g < n + 1 → (Value.slice Av k cv).ownBlock ≠ some g := fun g h e => by have := (hrl g e).1; omega
          have hBX : ∀ w' : World, (∀ g, g < wr.heap.size → (Value.slice Av k cv).ownBlock ≠ some g → w'.heap[g]? = wr.heap[g]?) → w'.cell? ⟨n, 1, none⟩ = some (.slice Av k cv) ∧ w'.frozen? ⟨n, 1, none⟩ = false := fun w' h => ⟨(cell_of_heap (h _ hbs (hne _ (by omega)))).trans c1, (frozen_of_heap (h _ hbs (hne _ (by omega)))).trans g1⟩
          rw [hum] at hul hm64 Hu hcall
          clear hu ha hrow hum
          go_wp2
          go_region_law
            (first
              | (go_simp
                 go_at_call 105
                 refine hcall.out.mono ?_
                 rintro e w4 ⟨v4, l4, rfl, hl4, hR4, hb4⟩
                 have hB4 : Below wr.heap.size wr w4 := ⟨hb4.os, hb4.tape, hb4.output, hb4.size, hb4.block⟩
                 obtain ⟨A4, c4, hv4⟩ := row_own hR4.row
                 have hl4l : l4.length = um.args.length := by rw [← hl4, List.length_map]
                 rw [hl4l] at hv4
                 have HR4 := Lib.hid hR4
                 obtain ⟨k4, _, _, _⟩ := hSS _ hB4
                 obtain ⟨k4', _, _, _⟩ := hSS _ (hB4.alloc hB4.size (.cells #[.int .i64 um.fn, .slice A4 um.args.length c4] 31))
                 subst hv4
                 clear hR4
                 dsimp only)
              | (refine step_append_at rfl (.tmp 35) (.tmp 43) 29 rfl (n + 1) 31 i0 (.agg #[.int .i64 0, .slice none 0 0]) 2 32 Try.underlying29 hi hz0 hz1 hz2 rfl (by decide) (.slice Av k cv) k _ (by simp [Act.eval]) (row_keep Hrow.out fun g e => (Below.heap_alloc w4 _ g (Nat.lt_of_lt_of_le (hrl g e).2 hB4.size)).trans (hB4.block g (hrl g e).2)) ⟨w4.heap.size, 0, none⟩ 1 1 [.int .i64 um.fn, .slice A4 um.args.length c4] (by simp [Act.eval]) rfl (cells_new_two _ _ _ _) (by simp [Value.oneCell']) (by unfold maxLen; omega) (by omega) (by have := hB4.size; simp; omega) ?_
                 intro v5 w5 hown5 hgr5 hat5
                 have hK5 : ∀ g, g < wr.heap.size → (Value.slice Av k cv).ownBlock ≠ some g → w5.heap[g]? = wr.heap[g]? := fun g h1 h2 => (hgr5.block g (by have := hB4.size; simp; omega) (fun e => h2 e.symm)).trans ((Below.heap_alloc w4 _ g (by have := hB4.size; omega)).trans (hB4.block g h1))
                 obtain ⟨k1, kf⟩ := hBX w5 hK5
                 obtain ⟨g5, cap5, hv5⟩ := ownsRow_succ hown5
                 have Hown5 := Lib.hid hown5
                 have Hgr5 := Lib.hid hgr5
                 have Hat5 := Lib.hid hat5
                 subst hv5
                 clear hown5 hgr5 hat5 hK5)
              | fail)
          all_goals
            have hst := H.out.next Hu.out hm64 hl4 hul rfl HR4.out hB4 Hown5.out Hgr5.out Hat5.out
            have hBe : Below n wc w5 := ((hBr.trans (hB4.mono (by omega))).alloc (by have := hB4.size; omega) _).grown Hgr5.out (by have := hB4.size; simp; omega) (fun g e => by have := (hrl g e).1; omega)
            go_wp2
            go_roundw
            case rel => exact ⟨k + 1, _, _, by omega, by go_num, hBe.setCell (Nat.le_refl _) _, hst⟩
            case measure => simp [intOf]; omega
        · obtain rfl : k = xs.length := by omega
          have hrow := H.out.row.row
          have hll := H.out.len (by rw [List.length_map]; exact hk)
          rw [hll] at hrow
          obtain ⟨Av, cv, hv⟩ := row_own hrow
          subst hv
          have hkey := Lib.hid H.out.key
          have HR := Lib.hid H.out.row
          have y1 := (hBW.block _ hWs).trans q1
          obtain ⟨b0, b1, bg0, bg1⟩ := cells_two y1
          clear hrow
          go_wp2
          obtain ⟨z1, z2⟩ := set2_two (u := .int .i64 (nf l f)) (v := .slice Av xs.length cv) y1
          have p0 := (cells_two z1).1
          have p1 := (cells_two z2).2.1
          have hoth : ∀ g, g ≠ w.heap.size + 1 → ((wr.setCell ⟨w.heap.size + 1, 0, none⟩ (.int .i64 (nf l f))).setCell ⟨w.heap.size + 1, 1, none⟩ (.slice Av xs.length cv)).heap[g]? = wr.heap[g]? := fun g e => (heap_setCell_other _ _ _ _ e).trans (heap_setCell_other _ _ _ _ e)
          refine bodyPost_ret (v := .agg #[.int .i64 (nf l f), .slice Av xs.length cv]) (by simp [results, Try.results105, go_sem, p0, p1]) rfl ⟨_, r, by rw [hmv.out]; rfl, by rw [hkey.out, hmv.out, ← List.length_map (f := nameT l), List.take_length]; rfl, ?_, ?_⟩
          · have hk3 := (HR.out.keep (fun g e => hoth g (by have := (row_lt HR.out.row g e).1; omega)) (fun g e => hoth g (by have := e.1; omega))).base (base' := w.heap.size) (by omega)
            exact hk3.wide fun g e => show Apart _ _ _ g from ⟨by have := e.1; omega, by have := e.2.1; simpa using this, e.2.2⟩
          · exact (hBw.setCell (by show _ ≤ w.heap.size + 1; omega) _).setCell (by show _ ≤ w.heap.size + 1; omega) _

end Go.Proofs.Ytdeegdndfblnkaa

namespace Go.Proofs.Ytdeegdndfblnkaa
open Go.RowKit Go.Shelf
set_option maxRecDepth 100000

theorem ordI_pre (l : List Int) (v : Int) : l <+: ordI l v := by
  unfold ordI
  split
  · exact List.prefix_refl _
  · exact List.prefix_append _ _
theorem ordI_mem (l : List Int) (v : Int) : v ∈ ordI l v := by
  unfold ordI
  split
  · assumption
  · simp
theorem ord_pre : ∀ (r l : List Int), l <+: r.foldl ordI l
  | [], _ => List.prefix_refl _
  | v :: r, l => (ordI_pre l v).trans (ord_pre r (ordI l v))
theorem idx_pre {l m : List Int} {v : Int} (h : l <+: m) (hv : v ∈ l) : m.idxOf v = l.idxOf v := by
  obtain ⟨r, rfl⟩ := h
  rw [List.idxOf_append, if_pos hv]

mutual
theorem renT_ord (s : List Int) : ∀ t : Tm, (renT nxI s t).1 = (vn t).foldl ordI s
  | .node f xs => by
    simp only [renT, vn]
    rw [renL_ord _ xs]
    unfold renF
    split
    · simp [nxI]
    · simp
theorem renL_ord (s : List Int) : ∀ xs : List Tm, (renL nxI s xs).1 = (vnL xs).foldl ordI s
  | [] => by simp [renL, vnL]
  | t :: ts => by
    simp only [renL, vnL]
    rw [renL_ord _ ts, renT_ord s t, List.foldl_append]
end

/-- Each variable by its place in L. -/
def nuF (L : List Int) (f : Int) : Int := if f < 0 then -1 - (L.idxOf (-1 - f) : Nat) else f
mutual
def nuT (L : List Int) : Tm → Tm
  | .node f xs => .node (nuF L f) (nuL L xs)
def nuL (L : List Int) : List Tm → List Tm
  | [] => []
  | t :: ts => nuT L t :: nuL L ts
end
theorem renF_pre (s : List Int) (f : Int) : s <+: (renF nxI s f).1 := by
  unfold renF
  split
  · exact ordI_pre _ _
  · exact List.prefix_refl _
theorem renF_nu {s L : List Int} {f : Int} (h : (renF nxI s f).1 <+: L) : (renF nxI s f).2 = nuF L f := by
  unfold renF at h ⊢
  unfold nuF
  split <;> rename_i hf
  · rw [if_pos hf] at h
    simp only [nxI] at h ⊢
    rw [idx_pre h (ordI_mem _ _)]
  · rfl
mutual
theorem renT_nu {s L : List Int} : ∀ t : Tm, (renT nxI s t).1 <+: L → (renT nxI s t).2 = nuT L t
  | .node f xs => fun h => by
    simp only [renT, nuT] at h ⊢
    have h1 : (renF nxI s f).1 <+: L := List.IsPrefix.trans (by rw [renL_ord]; exact ord_pre _ _) h
    rw [renF_nu h1, renL_nu xs h]
theorem renL_nu {s L : List Int} : ∀ xs : List Tm, (renL nxI s xs).1 <+: L → (renL nxI s xs).2 = nuL L xs
  | [] => fun _ => by simp [renL, nuL]
  | t :: ts => fun h => by
    simp only [renL, nuL] at h ⊢
    have h1 : (renT nxI s t).1 <+: L := List.IsPrefix.trans (by rw [renL_ord]; exact ord_pre _ _) h
    rw [renT_nu t h1, renL_nu ts h]
end
/-- Of a clause. -/
def vnC : List Lt → List Int
  | [] => []
  | x :: xs => vn x.l ++ (vn x.r ++ vnC xs)
def nuC (L : List Int) (c : List Lt) : List Lt := c.map fun x => ⟨x.neg, nuT L x.l, nuT L x.r⟩
theorem litsL_ord : ∀ (c : List Lt) (s : List Int), (litsL (renT nxI) s c).1 = (vnC c).foldl ordI s
  | [], s => by simp [litsL, vnC]
  | x :: xs, s => by
    simp only [litsL, sidesL, vnC]
    rw [litsL_ord xs, renT_ord, renT_ord, List.foldl_append, List.foldl_append]
theorem litsL_nu {L : List Int} : ∀ (c : List Lt) (s : List Int), (litsL (renT nxI) s c).1 <+: L → (litsL (renT nxI) s c).2 = nuC L c
  | [], s, _ => by simp [litsL, nuC]
  | x :: xs, s, h => by
    have ih := litsL_nu (L := L) xs _ h
    have h2 : (renT nxI (renT nxI s x.l).1 x.r).1 <+: L := List.IsPrefix.trans (by simp only [litsL, sidesL]; rw [litsL_ord]; exact ord_pre _ _) h
    have h1 : (renT nxI s x.l).1 <+: L := List.IsPrefix.trans (by rw [renT_ord (renT nxI s x.l).1]; exact ord_pre _ _) h2
    simp only [litsL, nuC, List.map_cons]
    rw [ih]
    simp only [sidesL, nuC]
    rw [renT_nu x.l h1, renT_nu x.r h2]
/-- Normal's clause, in plain words: each variable by its place among those of the clause. -/
theorem normal_plain (c : List Lt) : (litsL (renT nxI) [] c).1 = (vnC c).foldl ordI [] ∧ (litsL (renT nxI) [] c).2 = nuC ((vnC c).foldl ordI []) c :=
  ⟨litsL_ord c [], litsL_nu c [] (by rw [litsL_ord]; exact List.prefix_refl _)⟩
theorem ord_sub : ∀ (r l : List Int) (v : Int), v ∈ r → v ∈ r.foldl ordI l
  | [], _, v, h => by simp at h
  | u :: r, l, v, h => by
    rcases List.mem_cons.1 h with rfl | h
    · exact (ord_pre r (ordI l v)).subset (ordI_mem l v)
    · exact ord_sub r (ordI l u) v h
mutual
theorem nameT_nu {l : List Bd} {L : List Int} (hf : ∀ f, f < 0 → -1 - f ∈ L → nf l f = nuF L f) : ∀ t : Tm, (∀ v ∈ vn t, v ∈ L) → nameT l t = nuT L t
  | .node f xs => fun h => by
    simp only [nameT, nuT]
    simp only [vn] at h
    rw [nameL_nu hf xs fun v hv => h v (List.mem_append.2 (.inr hv))]
    by_cases hn : f < 0
    · rw [hf f hn (h _ (by simp [hn]))]
    · rw [nf_sym hn]
      unfold nuF
      rw [if_neg hn]
theorem nameL_nu {l : List Bd} {L : List Int} (hf : ∀ f, f < 0 → -1 - f ∈ L → nf l f = nuF L f) : ∀ xs : List Tm, (∀ v ∈ vnL xs, v ∈ L) → nameL l xs = nuL L xs
  | [] => fun _ => by simp [nameL, nuL]
  | t :: ts => fun h => by
    simp only [nameL, nuL]
    simp only [vnL] at h
    rw [nameT_nu hf t fun v hv => h v (List.mem_append.2 (.inl hv)), nameL_nu hf ts fun v hv => h v (List.mem_append.2 (.inr hv))]
end
/-- The document's own clause is the same. -/
def nmC (l : List Bd) (c : List Lt) : List Lt := c.map fun x => ⟨x.neg, nameT l x.l, nameT l x.r⟩
theorem vnC_mem {c : List Lt} {x : Lt} (h : x ∈ c) : (∀ v ∈ vn x.l, v ∈ vnC c) ∧ ∀ v ∈ vn x.r, v ∈ vnC c := by
  induction c with
  | nil => simp at h
  | cons y ys ih =>
    simp only [vnC, List.mem_append]
    rcases List.mem_cons.1 h with rfl | h
    · exact ⟨fun v hv => .inl hv, fun v hv => .inr (.inl hv)⟩
    · exact ⟨fun v hv => .inr (.inr ((ih h).1 v hv)), fun v hv => .inr (.inr ((ih h).2 v hv))⟩
theorem nmC_nu {l : List Bd} {c : List Lt} (hf : ∀ f, f < 0 → -1 - f ∈ (vnC c).foldl ordI [] → nf l f = nuF ((vnC c).foldl ordI []) f) : nmC l c = nuC ((vnC c).foldl ordI []) c := by
  unfold nmC nuC
  refine List.map_congr_left fun x hx => ?_
  obtain ⟨h1, h2⟩ := vnC_mem hx
  rw [nameT_nu hf x.l fun v hv => ord_sub _ _ _ (h1 v hv), nameT_nu hf x.r fun v hv => ord_sub _ _ _ (h2 v hv)]

end Go.Proofs.Ytdeegdndfblnkaa

namespace Go.Proofs.Ytdeegdndfblnkaa
open Go.RowKit Go.Shelf
set_option maxRecDepth 100000

/-- Is a variable's number another one than its place among those that were met? -/
def mvI (L : List Int) (v : Int) : Bool := !decide (((L.idxOf v : Nat) : Int) = v)
/-- What stands for a variable. -/
def biN (L : List Int) (v : Int) : Bi := ⟨v, .node (-1 - ((L.idxOf v : Nat) : Int)) [], none, 0⟩
def bdN (L : List Int) (v : Int) : Bd := ⟨v, .node (-1 - ((L.idxOf v : Nat) : Int)) []⟩
theorem biN_bd (L : List Int) (v : Int) : (biN L v).bd = bdN L v := rfl
theorem biN_bds (L S : List Int) : (S.map (biN L)).map Bi.bd = S.map (bdN L) := by rw [List.map_map]; rfl
/-- The variables that are renamed, in order. -/
def rnN (L : List Int) : List Int := (L.mergeSort fun x y => decide (x ≤ y)).filter (mvI L)
theorem srt_perm (L : List Int) : (L.mergeSort fun x y => decide (x ≤ y)).Perm L := List.mergeSort_perm L _
theorem srt_rise (L : List Int) : (L.mergeSort fun x y => decide (x ≤ y)).Pairwise (· ≤ ·) := by
  have tr : ∀ a b c : Int, decide (a ≤ b) = true → decide (b ≤ c) = true → decide (a ≤ c) = true := fun a b c h1 h2 => by simp only [decide_eq_true_eq] at *; omega
  have tot : ∀ a b : Int, (decide (a ≤ b) || decide (b ≤ a)) = true := fun a b => by simp only [Bool.or_eq_true, decide_eq_true_eq]; omega
  exact (List.pairwise_mergeSort tr tot L).imp fun h => by simpa using h
theorem rnN_perm (L : List Int) : (rnN L).Perm (L.filter (mvI L)) := (srt_perm L).filter _
theorem rnN_rise (L : List Int) : (rnN L).Pairwise (· ≤ ·) := (srt_rise L).filter _
theorem rnN_eq {L S : List Int} (hp : S.Perm (L.filter (mvI L))) (hs : S.Pairwise (· ≤ ·)) : S = rnN L :=
  List.Perm.eq_of_pairwise (le := fun x y : Int => x ≤ y) (fun _ _ _ _ h1 h2 => Int.le_antisymm h1 h2) hs (rnN_rise L) (hp.trans (rnN_perm L).symm)
theorem rnN_mem {L : List Int} {v : Int} : v ∈ rnN L ↔ v ∈ L ∧ mvI L v = true := by rw [(rnN_perm L).mem_iff, List.mem_filter]
theorem rnN_len (L : List Int) : (rnN L).length ≤ L.length := by
  rw [(rnN_perm L).length_eq]
  exact List.length_filter_le _ _
theorem find_bdN (L : List Int) (v : Int) : ∀ S : List Int, findB (S.map (bdN L)) v = if v ∈ S then some (bdN L v) else none
  | [] => rfl
  | u :: S => by
    have ih := find_bdN L v S
    unfold findB at ih ⊢
    rw [List.map_cons, List.find?_cons]
    by_cases h : u = v
    · subst h
      rw [show decide ((bdN L u).v = u) = true from decide_eq_true rfl]
      simp
    · rw [show decide ((bdN L u).v = v) = false from decide_eq_false h, ih]
      have : v ≠ u := fun e => h e.symm
      simp [this]
theorem nf_nuN {L : List Int} {f : Int} (h : f < 0) (hm : -1 - f ∈ L) : nf ((rnN L).map (bdN L)) f = nuF L f := by
  have hf := find_bdN L (-1 - f) (rnN L)
  unfold nuF
  rw [if_pos h]
  by_cases hv : mvI L (-1 - f) = true
  · rw [if_pos (rnN_mem.2 ⟨hm, hv⟩)] at hf
    rw [nf_some h hf]
    rfl
  · rw [if_neg fun e => hv (rnN_mem.1 e).2] at hf
    rw [nf_none hf]
    have : ((L.idxOf (-1 - f) : Nat) : Int) = -1 - f := by
      unfold mvI at hv
      simpa using hv
    omega
/-- The document's own clause is Normal's. -/
theorem nmC_rn (c : List Lt) : nmC ((rnN ((vnC c).foldl ordI [])).map (bdN ((vnC c).foldl ordI []))) c = nuC ((vnC c).foldl ordI []) c :=
  nmC_nu fun _ h hm => nf_nuN h hm
theorem ord_nodup : ∀ (r l : List Int), l.Nodup → (r.foldl ordI l).Nodup
  | [], l, h => h
  | v :: r, l, h => by
    refine ord_nodup r (ordI l v) ?_
    unfold ordI
    split
    · exact h
    · rename_i hv
      rw [List.nodup_append]
      exact ⟨h, by simp, fun a ha c hc e => hv (by simp at hc; rw [← hc, ← e]; exact ha)⟩

/-- A bind without arguments wants no memory. -/
theorem biN_fx (w : World) (L : List Int) (hL : L.length ≤ 4611686018427387904) {v : Int} (hv : I64 v) : BiFx w (fun _ => False) (biN L v) := by
  have h := List.idxOf_le_length (a := v) (l := L)
  refine ⟨hv, ⟨?_, ?_⟩, .nil _⟩
  · show -9223372036854775808 ≤ -1 - ((L.idxOf v : Nat) : Int); omega
  · show -1 - ((L.idxOf v : Nat) : Int) ≤ 9223372036854775807; omega

/-- How a bind sinks: where it is, what has been passed. -/
structure SinkI (S0 : List Int) (x : Int) (j : Nat) (l : List Int) : Prop where
  le : j ≤ S0.length
  eq : l = S0.take j ++ x :: S0.drop j
  lt : ∀ y ∈ S0.drop j, x < y
theorem SinkI.start (S0 : List Int) (x : Int) : SinkI S0 x S0.length (S0 ++ [x]) := ⟨Nat.le_refl _, by simp, by simp⟩
section
variable {S0 l : List Int} {x : Int} {j : Nat}
theorem SinkI.len (h : SinkI S0 x j l) : l.length = S0.length + 1 := by
  have := h.le
  rw [h.eq, List.length_append, List.length_cons, List.length_take, List.length_drop]; omega
theorem SinkI.at_ (h : SinkI S0 x j l) : l[j]? = some x := by
  have := h.le
  rw [h.eq, List.getElem?_append_right (by rw [List.length_take]; omega), List.length_take]
  simp [Nat.min_eq_left this]
theorem SinkI.prev (h : SinkI S0 x (j + 1) l) : l[j]? = S0[j]? := by
  have := h.le
  rw [h.eq, List.getElem?_append_left (by rw [List.length_take]; omega), List.getElem?_take, if_pos (by omega)]
theorem SinkI.next {y : Int} (h : SinkI S0 x (j + 1) l) (hy : S0[j]? = some y) (hlt : x < y) : SinkI S0 x j ((l.set (j + 1) y).set j x) := by
  have hle := h.le
  obtain ⟨h1, h2⟩ := List.getElem?_eq_some_iff.1 hy
  have hd : S0.drop j = y :: S0.drop (j + 1) := by rw [List.drop_eq_getElem_cons h1, h2]
  refine ⟨by omega, ?_, fun z hz => ?_⟩
  · rw [hd]
    have ht : S0.take (j + 1) = S0.take j ++ [y] := by rw [List.take_add_one, hy]; rfl
    have hl : (S0.take j).length = j := by rw [List.length_take]; omega
    rw [h.eq, ht, List.append_assoc]
    rw [List.set_append_right _ _ (by omega), hl, List.set_append_right _ _ (by omega), hl]
    simp
  · rw [hd] at hz
    rcases List.mem_cons.1 hz with rfl | hz
    · exact hlt
    · exact h.lt z hz
/-- It rests. -/
theorem SinkI.done (h : SinkI S0 x j l) (hs : S0.Pairwise (· ≤ ·)) (hend : ∀ y, j ≠ 0 → S0[j - 1]? = some y → y ≤ x) : l.Pairwise (· ≤ ·) ∧ l.Perm (S0 ++ [x]) := by
  constructor
  · rw [h.eq, List.pairwise_append]
    refine ⟨hs.sublist (List.take_sublist _ _), ?_, ?_⟩
    · rw [List.pairwise_cons]
      exact ⟨fun y hy => Int.le_of_lt (h.lt y hy), hs.sublist (List.drop_sublist _ _)⟩
    · intro a ha b hb
      rcases List.mem_cons.1 hb with rfl | hb
      · obtain ⟨i, hi⟩ := List.mem_iff_getElem?.1 ha
        obtain ⟨hi1, hi2⟩ := List.getElem?_eq_some_iff.1 hi
        rw [List.length_take] at hi1
        have hle := h.le
        have hj : j ≠ 0 := by omega
        have hj1 : j - 1 < S0.length := by omega
        have he := hend _ hj (List.getElem?_eq_getElem hj1)
        rw [List.getElem_take] at hi2
        rcases Nat.lt_or_ge i (j - 1) with hlt | hge
        · have := List.pairwise_iff_getElem.1 hs i (j - 1) (by omega) hj1 hlt
          rw [hi2] at this; omega
        · obtain rfl : i = j - 1 := by omega
          rw [hi2] at he; exact he
      · have hle := h.le
        rw [← List.take_append_drop j S0, List.pairwise_append] at hs
        exact hs.2.2 a ha b hb
  · rw [h.eq]
    refine List.perm_middle.trans ?_
    rw [List.take_append_drop]
    exact (List.perm_append_comm (l₁ := [x]) (l₂ := S0))
end
/-- What the loop over the variables has laid. -/
structure SrtI (L : List Int) (k : Nat) (S : List Int) : Prop where
  rise : S.Pairwise (· ≤ ·)
  perm : S.Perm ((L.take k).filter (mvI L))
theorem SrtI.start (L : List Int) : SrtI L 0 [] := ⟨.nil, by simp⟩
theorem SrtI.len {L S : List Int} {k : Nat} (h : SrtI L k S) : S.length ≤ k := by
  rw [h.perm.length_eq]
  exact Nat.le_trans (List.length_filter_le _ _) (by rw [List.length_take]; omega)
theorem SrtI.mem {L S : List Int} {k : Nat} (h : SrtI L k S) {v : Int} (hv : v ∈ S) : v ∈ L := List.take_subset _ _ (List.mem_filter.1 (h.perm.mem_iff.1 hv)).1
theorem mvI_at {L : List Int} (hn : L.Nodup) {k : Nat} {v : Int} (hv : L[k]? = some v) : mvI L v = !decide ((k : Int) = v) ∧ L.idxOf v = k := by
  obtain ⟨h1, h2⟩ := List.getElem?_eq_some_iff.1 hv
  have : L.idxOf v = k := by rw [← h2]; exact hn.idxOf_getElem k h1
  exact ⟨by unfold mvI; rw [this], this⟩
theorem SrtI.stay {L S : List Int} {k : Nat} {v : Int} (h : SrtI L k S) (hv : L[k]? = some v) (hm : mvI L v = false) : SrtI L (k + 1) S :=
  ⟨h.rise, by rw [List.take_add_one, hv, List.filter_append]; simpa [hm] using h.perm⟩
theorem SrtI.grow {L S l : List Int} {k j : Nat} {v : Int} (h : SrtI L k S) (hv : L[k]? = some v) (hm : mvI L v = true) (hs : SinkI S v j l) (hend : ∀ y, j ≠ 0 → S[j - 1]? = some y → y ≤ v) : SrtI L (k + 1) l := by
  obtain ⟨h1, h2⟩ := hs.done h.rise hend
  refine ⟨h1, h2.trans ?_⟩
  rw [List.take_add_one, hv, List.filter_append]
  simpa [hm] using h.perm.append_right [v]
theorem SrtI.fin {L S : List Int} (h : SrtI L L.length S) : S = rnN L := rnN_eq (by have := h.perm; rwa [List.take_length] at this) h.rise

end Go.Proofs.Ytdeegdndfblnkaa

namespace Go.Proofs.Ytdeegdndfblnkaa
open Go.RowKit Go.Shelf Go.Maps
set_option maxRecDepth 100000

theorem IMap.look1 {w : World} {b : Nat} {l : List Int} (h : IMap w b l) {x : Int} (hx : I64 x) :
    (Instr.lookup 92 (.map (some b)) (.int .i64 x) false).run Try.prog w = .ok (.int .i64 (if x ∈ l then (l.idxOf x : Int) else 0)) w := by
  obtain ⟨D, hown, _, hat⟩ := h
  obtain ⟨c, hrun, hc, _⟩ := hown.lookup_int intLaw Try.underlying92 Try.underlying3 (zeroIntV w) (keyOf_v hx)
  have e0 := hat x hx (.lit (.int .i64 0))
  rw [hc] at e0
  by_cases hm : x ∈ l
  · simp only [hm, if_true] at e0 ⊢
    injection e0 with e0; injection e0 with _ e0; subst e0
    exact hrun
  · simp only [hm, if_false] at e0 ⊢
    injection e0 with e0; injection e0 with _ e0; subst e0
    exact hrun

/-- A literal as a member of a row: where its terms' arguments lie. -/
structure Li where
  x : Lt
  A1 : Option Addr
  c1 : Nat
  A2 : Option Addr
  c2 : Nat
def Li.cells (y : Li) : List Value := [.bool y.x.neg, .int .i64 y.x.l.fn, .slice y.A1 y.x.l.args.length y.c1, .int .i64 y.x.r.fn, .slice y.A2 y.x.r.args.length y.c2]
theorem li_get (l : List Li) (i r : Nat) (hr : r < 5) : (l.flatMap Li.cells)[i * 5 + r]? = (l[i]?).bind fun x => x.cells[r]? := by
  induction l generalizing i with
  | nil => simp
  | cons x l ih =>
    have hlen : x.cells.length = 5 := rfl
    rw [List.flatMap_cons]
    cases i with
    | zero => rw [List.getElem?_append_left (by omega)]; simp
    | succ i =>
      rw [List.getElem?_append_right (by omega), hlen, show (i + 1) * 5 + r - 5 = i * 5 + r from by omega, ih]
      simp
theorem li_len (l : List Li) : (l.flatMap Li.cells).length = l.length * 5 := by
  induction l with
  | nil => rfl
  | cons x l ih =>
    have hlen : x.cells.length = 5 := rfl
    rw [List.flatMap_cons, List.length_append, ih, hlen, List.length_cons]
    omega
structure LiFx (w : World) (N : Nat → Prop) (y : Li) : Prop where
  il : I64 y.x.l.fn
  ir : I64 y.x.r.fn
  sl : ArgsN w N y.A1 y.x.l.args
  sr : ArgsN w N y.A2 y.x.r.args
theorem LiFx.keep {w w' : World} {N : Nat → Prop} {x : Li} (h : LiFx w N x) (hk : ∀ g, N g → w'.heap[g]? = w.heap[g]?) : LiFx w' N x := ⟨h.il, h.ir, h.sl.keep hk, h.sr.keep hk⟩
theorem LiFx.wide {w : World} {N M : Nat → Prop} {x : Li} (h : LiFx w N x) (hk : ∀ g, N g → M g) : LiFx w M x := ⟨h.il, h.ir, h.sl.wide hk, h.sr.wide hk⟩
/-- The slice v is the call's own; it holds the literals l, whose terms lie in N's blocks. -/
structure RowG (w : World) (base : Nat) (v : Value) (l : List Li) (N : Nat → Prop) : Prop where
  row : w.ownsRow base 33 5 v l.length (l.flatMap Li.cells)
  fx : ∀ x ∈ l, LiFx w N x
section
variable {w w' : World} {base : Nat} {v : Value} {l : List Li} {N M : Nat → Prop}
theorem RowG.nil_ (w : World) (base : Nat) (N : Nat → Prop) : RowG w base (.slice none 0 0) [] N := ⟨World.ownsRow_nil w _ _ _, fun x hx => by simp at hx⟩
theorem RowG.keep (h : RowG w base v l N) (hv : ∀ g, v.ownBlock = some g → w'.heap[g]? = w.heap[g]?) (hN : ∀ g, N g → w'.heap[g]? = w.heap[g]?) : RowG w' base v l N :=
  ⟨row_keep h.row hv, fun x hx => (h.fx x hx).keep hN⟩
theorem RowG.wide (h : RowG w base v l N) (hk : ∀ g, N g → M g) : RowG w base v l M := ⟨h.row, fun x hx => (h.fx x hx).wide hk⟩
/-- The row, read. -/
theorem RowG.lits (h : RowG w base v l N) (hl : l.length ≤ 9223372036854775807) (hv : ∀ g, v.ownBlock = some g → M g) (hN : ∀ g, N g → M g) : ∃ A c, v = .slice A l.length c ∧ Lits w M A (l.map Li.x) := by
  rcases h.row.2 with ⟨rfl, h0⟩ | ⟨g, cap, cur, rfl, hb, hg, _⟩
  · obtain rfl : l = [] := List.eq_nil_of_length_eq_zero h0
    exact ⟨none, 0, rfl, Lits.nil_ _ _ _⟩
  · refine ⟨_, _, rfl, by simpa using hl, fun _ => ⟨g, 0, rfl, hv g rfl, fun i y hy => ?_⟩⟩
    rw [List.getElem?_map] at hy
    cases hx : l[i]? with
    | none => rw [hx] at hy; cases hy
    | some x =>
      rw [hx] at hy
      injection hy with hy
      subst hy
      have hlt := (List.getElem?_eq_some_iff.1 hx).1
      have hm := h.fx x (List.mem_of_getElem? hx)
      have q0 := li_get l i 0 (by omega)
      have q1 := li_get l i 1 (by omega)
      have q2 := li_get l i 2 (by omega)
      have q3 := li_get l i 3 (by omega)
      have q4 := li_get l i 4 (by omega)
      have c0 := h.row.cellAt (i * 5) (by omega)
      have c1 := h.row.cellAt (i * 5 + 1) (by omega)
      have c2 := h.row.cellAt (i * 5 + 2) (by omega)
      have c3 := h.row.cellAt (i * 5 + 3) (by omega)
      have c4 := h.row.cellAt (i * 5 + 4) (by omega)
      rw [Nat.add_zero, hx] at q0
      rw [hx] at q1 q2 q3 q4
      rw [q0] at c0
      rw [q1] at c1
      rw [q2] at c2
      rw [q3] at c3
      rw [q4] at c4
      rw [Nat.zero_add]
      exact ⟨x.A1, x.c1, x.A2, x.c2, c0, c1, c2, c3, c4, hm.il, hm.ir, hm.sl.wide hN, hm.sr.wide hN⟩
/-- One more. -/
theorem RowG.push {x : Li} {v' : Value} (h : RowG w base v l N) (hrow : w'.ownsRow base 33 5 v' (l.length + 1) (l.flatMap Li.cells ++ x.cells)) (hx : LiFx w' M x) (hk : ∀ g, N g → w'.heap[g]? = w.heap[g]?) (hNM : ∀ g, N g → M g) : RowG w' base v' (l ++ [x]) M := by
  refine ⟨?_, ?_⟩
  · rw [List.length_append, List.flatMap_append]
    simpa using hrow
  · intro y hy
    rcases List.mem_append.1 hy with hy | hy
    · exact ((h.fx y hy).keep hk).wide hNM
    · simp only [List.mem_cons, List.not_mem_nil, or_false] at hy
      subst hy; exact hx
end
/-- The five cells of a block that was laid for one literal. -/
theorem cells_new_lit (w : World) (x y z u v : Value) (t : TypeId) : ∀ j c, [x, y, z, u, v][j]? = some c → (w.alloc (.cells #[x, y, z, u, v] t)).cell? ((⟨w.heap.size, 0, none⟩ : Addr).add j) = some c := by
  intro j c hj
  match j, hj with
  | 0, hj => simp at hj; subst hj; simp [Addr.add]
  | 1, hj => simp at hj; subst hj; simp [Addr.add]
  | 2, hj => simp at hj; subst hj; simp [Addr.add]
  | 3, hj => simp at hj; subst hj; simp [Addr.add]
  | 4, hj => simp at hj; subst hj; simp [Addr.add]
  | j + 5, hj => simp at hj

end Go.Proofs.Ytdeegdndfblnkaa

namespace Go.Proofs.Ytdeegdndfblnkaa
open Go.RowKit Go.Shelf
set_option maxRecDepth 100000

theorem name_at (l : List Bd) (hsm : ∀ x ∈ l, x.t.size ≤ 4398046511104) (t : Tm) (hsz : t.size ≤ 4398046511104) (B : Option Addr) (cb : Nat) (A : Option Addr) (c : Nat) (w : World) (hBd : Binds w (· < w.heap.size) B l) (hf : I64 t.fn) (hA : Args w w.heap.size A t.args) :
    Calls Try.prog 105 #[.agg #[.int .i64 t.fn, .slice A t.args.length c], .slice B l.length cb] w fun e w' => ∃ A' c', e = .returned (.agg #[.int .i64 (nameT l t).fn, .slice A' (nameT l t).args.length c']) ∧ ArgsN w' (fun g => w.heap.size ≤ g ∧ g < w'.heap.size) A' (nameT l t).args ∧ Below w.heap.size w w' := by
  have h64 : (nameT l t).args.length ≤ 9223372036854775807 := nameT_args hA.toN.len
  refine (refName_any l hsm t hsz B cb A c w hBd hf hA).mono ?_
  rintro e w' ⟨v, r, rfl, hk, hR, hb⟩
  have hl : r.length = (nameT l t).args.length := by rw [← hk, List.length_map]
  obtain ⟨A', c', hv, hA'⟩ := hR.argsN (M := fun g => w.heap.size ≤ g ∧ g < w'.heap.size) (by omega) (fun g e => row_lt hR.row g e) (fun g hg => ⟨hg.1, hg.2.1⟩)
  rw [hk] at hA'
  rw [hl] at hv
  exact ⟨A', c', by rw [hv], hA', hb⟩

/-- What the loop has laid. -/
structure RnI (base : Nat) (wr : World) (ls : List Lt) (k : Nat) (v : Value) (r : List Li) : Prop where
  key : r.map Li.x = ls.take k
  row : RowG wr base v r (Apart base v wr)
theorem RnI.len {base : Nat} {wr : World} {ls : List Lt} {k : Nat} {v : Value} {r : List Li} (h : RnI base wr ls k v r) (hk : k ≤ ls.length) : r.length = k := by
  have := congrArg List.length h.key
  simpa [Nat.min_eq_left hk] using this
theorem RnI.next {base : Nat} {wr w4 w5 w6 : World} {ls : List Lt} {k : Nat} {v v6 : Value} {r : List Li} {y : Lt} {A1 A2 : Option Addr} {c1 c2 : Nat} {o : Obj} (h : RnI base wr ls k v r) (hbase : base ≤ wr.heap.size) (hu : ls[k]? = some y) (hil : I64 y.l.fn) (hir : I64 y.r.fn)
    (hA1 : ArgsN w4 (fun g => wr.heap.size ≤ g ∧ g < w4.heap.size) A1 y.l.args) (hb4 : Below wr.heap.size wr w4) (hA2 : ArgsN w5 (fun g => w4.heap.size ≤ g ∧ g < w5.heap.size) A2 y.r.args) (hb5 : Below w4.heap.size w4 w5)
    (hown : w6.ownsRow base 33 5 v6 (k + 1) (r.flatMap Li.cells ++ (⟨y, A1, c1, A2, c2⟩ : Li).cells)) (hgr : (w5.alloc o).grownBy w6 v.ownBlock) (hat : v6.ownBlock = v.ownBlock ∨ v6.ownBlock = some (w5.alloc o).heap.size) :
    RnI base w6 ls (k + 1) v6 (r ++ [⟨y, A1, c1, A2, c2⟩]) := by
  have hkl := (List.getElem?_eq_some_iff.1 hu).1
  have hlen := h.len (by omega)
  have hlt := row_lt h.row.row
  have hs4 := hb4.size
  have hs5 := hb5.size
  have hs6 := hgr.size
  have hsz6 : w5.heap.size + 1 ≤ w6.heap.size := by simpa using hs6
  have hK : ∀ g, g < w5.heap.size → v.ownBlock ≠ some g → w6.heap[g]? = w5.heap[g]? := fun g h1 h2 => (hgr.block g (by simp; omega) (fun e => h2 e.symm)).trans (Below.heap_alloc w5 o g h1)
  have hfar : ∀ g, wr.heap.size ≤ g → v.ownBlock ≠ some g := fun g h1 e => by have := (hlt _ e).2; omega
  have hv6 : ∀ g, g < w5.heap.size → v.ownBlock ≠ some g → v6.ownBlock ≠ some g := fun g h1 h2 e => by
    rcases hat with h3 | h3
    · rw [h3] at e; exact h2 e
    · rw [h3] at e; injection e with e; simp at e; omega
  refine ⟨by rw [List.map_append, h.key, List.take_add_one, hu]; rfl, ?_⟩
  refine RowG.push (w := wr) (N := Apart base v wr) h.row (by rw [hlen]; exact hown) ⟨hil, hir, ?_, ?_⟩ (fun g hg => ?_) (fun g hg => ⟨hg.1, by have := hg.2.1; omega, hv6 g (by have := hg.2.1; omega) hg.2.2⟩)
  · exact (hA1.keep fun g hg => (hK g (by omega) (hfar g hg.1)).trans (hb5.block g hg.2)).wide fun g hg => ⟨by omega, by omega, hv6 g (by omega) (hfar g hg.1)⟩
  · exact (hA2.keep fun g hg => hK g hg.2 (hfar g (by omega))).wide fun g hg => ⟨by omega, by omega, hv6 g hg.2 (hfar g (by omega))⟩
  · exact (hK g (by have := hg.2.1; omega) hg.2.2).trans ((hb5.block g (by have := hg.2.1; omega)).trans (hb4.block g hg.2.1))

end Go.Proofs.Ytdeegdndfblnkaa

namespace Go.Proofs.Ytdeegdndfblnkaa
open Go.RowKit Go.Shelf
set_option maxRecDepth 100000

set_option maxHeartbeats 4000000 in
theorem refRenamed_any (l : List Bd) (hsm : ∀ x ∈ l, x.t.size ≤ 4398046511104) (cl : List Lt) (hlen : cl.length ≤ 1099511627776) (hsz : ∀ x ∈ cl, x.l.size ≤ 4398046511104 ∧ x.r.size ≤ 4398046511104) (B : Option Addr) (cb : Nat) (A : Option Addr) (c : Nat) (w : World) (hBd : Binds w (· < w.heap.size) B l) (hA : Lits w (· < w.heap.size) A cl) :
    Calls Try.prog 66 #[.slice A cl.length c, .slice B l.length cb] w fun e w' => ∃ A' c', e = .returned (.slice A' cl.length c') ∧ Lits w' (fun g => w.heap.size ≤ g ∧ g < w'.heap.size) A' (nmC l cl) ∧ Below w.heap.size w w' := by
  obtain ⟨i0, hi, hz0, hz1, hz2⟩ := info_parts info_lit
  have HA := Lib.hid hA
  have HBd := Lib.hid hBd
  have hnl : (nmC l cl).length = cl.length := by unfold nmC; rw [List.length_map]
  have HI0 : Hid (RnI w.heap.size w (nmC l cl) 0 (.slice none 0 0) []) := ⟨by simp, RowG.nil_ _ _ _⟩
  clear hA hBd
  go_enter Try.func66, Try.ntmps66
  go_wp2
  go_loopw [5, 6] (fun v i wr => ∃ (k : Nat) (r : List Li), k ≤ cl.length ∧ i = .int .i64 (k : Int) ∧ Below w.heap.size w wr ∧ Hid (RnI w.heap.size wr (nmC l cl) k v r)) (fun _ i _ => cl.length - (intOf i).toNat)
  case atStart => exact ⟨0, [], Nat.zero_le _, rfl, Below.refl _ _, HI0⟩
  case round =>
    obtain ⟨k, r, hk, rfl, hBr, H⟩ := hrel
    have hrow := H.out.row.row
    have hll := H.out.len (by rw [hnl]; exact hk)
    rw [hll] at hrow
    obtain ⟨Av, cv, hv⟩ := row_own hrow
    subst hv
    by_cases hlt : k < cl.length
    · obtain ⟨x, hx⟩ : ∃ x, cl[k]? = some x := ⟨_, List.getElem?_eq_getElem hlt⟩
      obtain ⟨bb, off, B1, d1, B2, d2, rfl, hbb, h⟩ := HA.out.get hx
      have hmem := List.mem_of_getElem? hx
      obtain ⟨hs1, hs2⟩ := hsz x hmem
      have hbw : bb < wr.heap.size := Nat.lt_of_lt_of_le hbb hBr.size
      have hSS : ∀ w', Below wr.heap.size wr w' → w'.cell? ⟨bb, off + k * 5, none⟩ = some (.bool x.neg) ∧ w'.cell? ⟨bb, off + k * 5 + 1, none⟩ = some (.int .i64 x.l.fn) ∧ w'.cell? ⟨bb, off + k * 5 + 1 + 1, none⟩ = some (.slice B1 x.l.args.length d1) ∧ w'.cell? ⟨bb, off + k * 5 + 3, none⟩ = some (.int .i64 x.r.fn) ∧ w'.cell? ⟨bb, off + k * 5 + 3 + 1, none⟩ = some (.slice B2 x.r.args.length d2) := fun w' hb => by
        have hb' := hBr.trans (hb.mono hBr.size)
        exact ⟨cell_on hb' hbb h.v0, cell_on hb' hbb h.v1, cell_on hb' hbb h.v2, cell_on hb' hbb h.v3, cell_on hb' hbb h.v4⟩
      have liftB : ∀ w1, Below w.heap.size w w1 → Binds w1 (· < w1.heap.size) B l := fun w1 hb => (HBd.out.keep fun g e => hb.block g e).wide fun g e => Nat.lt_of_lt_of_le e hb.size
      have hDr : Below wr.heap.size wr wr.drew := bl_drewN (Below.refl _ _) 1
      have H1 := Lib.hid (name_at l hsm x.l hs1 B cb B1 d1 wr.drew (liftB _ (hBr.trans (hDr.mono hBr.size))) h.il ((h.sl.keep fun g e => (hBr.trans (hDr.mono hBr.size)).block g e).args fun g e => Nat.lt_of_lt_of_le e hBr.size))
      have H2 : ∀ w4, Below wr.heap.size wr w4 → _ := fun w4 hb => name_at l hsm x.r hs2 B cb B2 d2 w4 (liftB _ (hBr.trans (hb.mono hBr.size))) h.ir ((h.sr.keep fun g e => (hBr.trans (hb.mono hBr.size)).block g e).args fun g e => Nat.lt_of_lt_of_le e (Nat.le_trans hBr.size hb.size))
      have H2 := Lib.hid H2
      have hl64 : I64 (nameT l x.l).fn := nameT_fn64 HBd.out h.il
      have hr64 : I64 (nameT l x.r).fn := nameT_fn64 HBd.out h.ir
      have Hu := Lib.hid (show (nmC l cl)[k]? = some ⟨x.neg, nameT l x.l, nameT l x.r⟩ by unfold nmC; rw [List.getElem?_map, hx]; rfl)
      have hrl := row_lt hrow
      have Hrow := Lib.hid hrow
      obtain ⟨j0, j1, j2, j3, j4⟩ := hSS _ hDr
      obtain ⟨y1, hy1⟩ : ∃ y1, nameT l x.l = y1 := ⟨_, rfl⟩
      obtain ⟨y2, hy2⟩ : ∃ y2, nameT l x.r = y2 := ⟨_, rfl⟩
      rw [hy1] at H1 hl64 Hu
      rw [hy2] at H2 hr64 Hu
      have HSS := Lib.hid hSS
      clear hx h hmem hrow liftB hy1 hy2 hSS
      go_wp2
      go_region_law
        (first
          | (go_simp
             go_at_call 105
             with_reducible refine H1.out.mono ?_
             rintro e w4 ⟨A4, c4, rfl, hA4, hb4⟩
             have hB4 : Below wr.heap.size wr w4 := ⟨hb4.os, hb4.tape, hb4.output, hb4.size, hb4.block⟩
             obtain ⟨k0, k1, k2, k3, k4⟩ := HSS.out _ hB4
             have HA4 := Lib.hid hA4
             clear hA4
             dsimp only)
          | (go_simp
             go_at_call 105
             with_reducible refine (H2.out w4 hB4).mono ?_
             rintro e w5 ⟨A5, c5, rfl, hA5, hb5⟩
             obtain ⟨m0, m1, m2, m3, m4⟩ := HSS.out _ (hB4.trans (hb5.mono hB4.size))
             have HA5 := Lib.hid hA5
             clear hA5
             dsimp only)
          | (refine step_append_at rfl (.tmp 13) (.tmp 34) 25 rfl w.heap.size 33 i0 (.agg #[.bool false, .int .i64 0, .slice none 0 0, .int .i64 0, .slice none 0 0]) 5 72 Try.underlying25 hi hz0 hz1 hz2 rfl (by decide) (.slice Av k cv) k _ (by simp [Act.eval]) (row_keep Hrow.out fun g e => (Below.heap_alloc w5 _ g (Nat.lt_of_lt_of_le (hrl g e).2 (Nat.le_trans hB4.size hb5.size))).trans ((hb5.block g (Nat.lt_of_lt_of_le (hrl g e).2 hB4.size)).trans (hB4.block g (hrl g e).2))) ⟨w5.heap.size, 0, none⟩ 1 1 [.bool x.neg, .int .i64 y1.fn, .slice A4 y1.args.length c4, .int .i64 y2.fn, .slice A5 y2.args.length c5] (by simp [Act.eval]) rfl (cells_new_lit _ _ _ _ _ _ _) (by simp [Value.oneCell']) (by unfold maxLen; omega) (by omega) (by have := hB4.size; have := hb5.size; have := hBr.size; simp; omega) ?_
             intro v6 w6 hown6 hgr6 hat6
             have Hown6 := Lib.hid hown6
             have Hgr6 := Lib.hid hgr6
             have Hat6 := Lib.hid hat6
             clear hown6 hgr6 hat6)
          | fail)
      all_goals
        have hst := H.out.next hBr.size Hu.out hl64 hr64 HA4.out hB4 HA5.out hb5 Hown6.out Hgr6.out Hat6.out
        have hBe : Below w.heap.size w w6 := (((hBr.trans (hB4.mono hBr.size)).trans (hb5.mono (Nat.le_trans hBr.size hB4.size))).alloc (by have := hB4.size; have := hb5.size; have := hBr.size; omega) _).grown Hgr6.out (by have := hB4.size; have := hb5.size; have := hBr.size; simp; omega) (fun g e => (hrl g e).1)
        go_wp2
        go_roundw
        case rel => exact ⟨k + 1, _, by omega, by go_num, hBe, hst⟩
        case measure => simp [intOf]; omega
    · obtain rfl : k = cl.length := by omega
      go_wp2
      go_ret
      have hkey := H.out.key
      rw [← hnl, List.take_length] at hkey
      obtain ⟨A', c', hv, hL⟩ := H.out.row.lits (M := fun g => w.heap.size ≤ g ∧ g < wr.heap.size) (by omega) (fun g e => row_lt H.out.row.row g e) (fun g hg => ⟨hg.1, hg.2.1⟩)
      rw [hkey] at hL
      rw [hll] at hv
      injection hv with e1 _ e3
      subst e1
      subst e3
      exact ⟨_, _, rfl, hL, hBr⟩

end Go.Proofs.Ytdeegdndfblnkaa
