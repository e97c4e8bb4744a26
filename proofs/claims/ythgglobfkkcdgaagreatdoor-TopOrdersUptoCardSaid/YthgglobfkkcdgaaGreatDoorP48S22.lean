import Derived.Test.YthgglobfkkcdgaaGreatDoorP48S21
import Derived.Test.YthgglobfkkcdgaaGreatDoorP48S1
import Derived.Test.YthgglobfkkcdgaaGreatDoorP48S6
import Derived.Test.YthgglobfkkcdgaaGreatDoorP48S2
import Derived.Deep.RegionLaw
import Derived.RegionTactic
import Derived.ChangeAlike
import Derived.Deep.DeepCutAuto
import Derived.Lib.BufferMore
import Derived.OwnWalk
import Derived.Test.YthgglobfkkcdgaaGreatDoorP48S5
import Derived.Test.YthgglobfkkcdgaaGreatDoorP48S20
import Derived.Test.YthgglobfkkcdgaaGreatDoorProg
import Derived.Sort.OwnSortedInts
import Derived.Maps.AppendAt
import Derived.Lib.RowBridge
import Derived.BigQuiet
import Derived.Sort.Grow
import Derived.Deep.Draws
import Derived.Test.YthgglobfkkcdgaaGreatDoorP48S4
import Derived.Lib.SlicesCompact
import Derived.Lib.Slices
namespace Go.Proofs.YthgglobfkkcdgaaGreatDoor
open Go.RowKit Go.Shelf
set_option maxRecDepth 20000
section
variable {α : Type} {rel : α → α → Int} {D D' : α → Prop}
end
section
variable {l : List Bd} {ar : List Nat}
def rowB (l : List Bd) (N : Nat) : List Tm := (List.range N).map fun i : Nat => (bdT l (i : Int)).getD (.node (-1 - (i : Int)) [])
def topB : List Bd → Nat
  | [] => 0
  | x :: l => max (x.v.toNat + 1) (topB l)
theorem topB_none {v : Int} (h0 : 0 ≤ v) : ∀ {l : List Bd}, (topB l : Int) ≤ v → bdT l v = none
  | [], _ => rfl
  | x :: l, h => by
    rw [topB] at h
    have h1 : ¬ x.v = v := by omega
    have ih := topB_none h0 (l := l) (by omega)
    unfold bdT findB at ih ⊢
    rw [List.find?_cons]
    simp [h1]
    simpa using ih
theorem app_val {f : Int} (hf : f < 0) : valT (rowB l (topB l)) f = (bdT l (-1 - f)).getD (.node f []) := by
  have hlen : (rowB l (topB l)).length = topB l := by unfold rowB; simp
  unfold valT
  rw [hlen]
  split
  · rename_i h
    obtain ⟨i, hi⟩ : ∃ i : Nat, -1 - f = (i : Int) := ⟨(-1 - f).toNat, by omega⟩
    rw [hi, Int.toNat_natCast]
    have hil : i < topB l := by omega
    unfold rowB
    rw [List.getD_eq_getElem?_getD, List.getElem?_map, List.getElem?_range hil]
    simp only [Option.map_some, Option.getD_some]
    rw [show (-1 - (i : Int)) = f by omega]
  · rename_i h
    rw [topB_none (by omega) (by omega)]; rfl
mutual
theorem app_ps : ∀ t : Tm, wfT ar t = true → appT (bdT l) t = psT (rowB l (topB l)) t
  | .node f xs, h => by
    by_cases hf : f < 0
    · have hx := wf_var h hf
      subst hx
      rw [psT_var h hf]
      show _ = valT _ f
      rw [app_val hf]
      simp [appT, hf, appL]
    · rw [psT_sym hf, appT, if_neg hf, Option.getD_none, app_psL xs (wf_args h)]
theorem app_psL : ∀ xs : List Tm, wfL ar xs = true → appL (bdT l) xs = psL (rowB l (topB l)) xs
  | [], _ => rfl
  | t :: ts, h => by
    rw [wfL, Bool.and_eq_true] at h
    rw [appL, psL, app_ps t h.1, app_psL ts h.2]
end
theorem find_mem {v : Int} {t : Tm} (h : bdT l v = some t) : ∃ x ∈ l, x.t = t := by
  unfold bdT at h
  cases hf : findB l v with
  | none => rw [hf] at h; cases h
  | some x =>
    rw [hf] at h
    injection h with h
    exact ⟨x, List.mem_of_find?_eq_some hf, h⟩
mutual
theorem app_wf (hl : ∀ x ∈ l, wfT ar x.t = true) : ∀ t : Tm, wfT ar t = true → wfT ar (appT (bdT l) t) = true
  | .node f xs, h => by
    by_cases hf : f < 0
    · have hx := wf_var h hf
      subst hx
      simp only [appT, hf, if_true, appL]
      cases hb : bdT l (-1 - f) with
      | none => exact h
      | some t => obtain ⟨x, hx, rfl⟩ := find_mem hb; exact hl x hx
    · rw [appT, if_neg hf, Option.getD_none]
      have h1 := app_wfL hl xs (wf_args h)
      rw [wfT, Bool.and_eq_true] at h ⊢
      refine ⟨?_, h1⟩
      have h2 := h.1
      rw [appL_eq, List.length_map]; exact h2
theorem app_wfL (hl : ∀ x ∈ l, wfT ar x.t = true) : ∀ xs : List Tm, wfL ar xs = true → wfL ar (appL (bdT l) xs) = true
  | [], _ => rfl
  | t :: ts, h => by
    rw [wfL, Bool.and_eq_true] at h
    rw [appL, wfL, app_wf hl t h.1, app_wfL hl ts h.2]; rfl
end
end
theorem tm_app {sy : List Sm} {o : Odr} {s : List Bd} (hc : chkO sy o = 0) {x y : Tm} (hx : GdT sy x) (hy : GdT sy y) (px : GdT sy (appT (bdT s) x)) (py : GdT sy (appT (bdT s) y)) :
    (tmI o x y = 2 → tmI o (appT (bdT s) x) (appT (bdT s) y) = 2) ∧ (tmI o x y = 3 → tmI o (appT (bdT s) x) (appT (bdT s) y) = 3) := by
  rw [tmI_eq hc hx hy, tmI_eq hc px py]
  constructor
  · intro e
    have := cmp_zero_iff.1 ((ordV_two hc hx hy).1 e)
    subst this
    exact (ord_terms hc).self px
  · intro e
    unfold ordV at e ⊢
    cases h : o.lpo with
    | true =>
      rw [h, if_pos rfl] at e
      rw [if_pos rfl]
      have K := chkO_admL hc
      have e1 := (cmpP_three K hx hy).1 e
      rw [cmpP_three K px py]
      rw [app_ps x hx.wf] at px ⊢
      rw [app_ps y hy.wf] at py ⊢
      exact lp_put _ x y (Nat.le_refl _) (wf_vn x hx.wf) (wf_vn y hy.wf) (wf_vn _ px.wf) (wf_vn _ py.wf) e1
    | false =>
      rw [h, if_neg (by decide)] at e
      rw [if_neg (by decide)]
      have K := chkO_adm h hc
      have e1 := (cmpR_three K hx hy).1 e
      rw [cmpR_three K px py]
      rw [app_ps x hx.wf] at px ⊢
      rw [app_ps y hy.wf] at py ⊢
      exact abv_put K x y hx hy px py e1
end Go.Proofs.YthgglobfkkcdgaaGreatDoor
namespace Go.Proofs.YthgglobfkkcdgaaGreatDoor
open Go.RowKit
set_option maxRecDepth 100000
theorem insI_len (l : List Int) (v : Int) : (insI l v).length ≤ l.length + 1 := by
  have key : ∀ (r : List Int) (d : Bool) (out z : List Int), insGo v r d out = some z → z.length ≤ out.length + r.length + (if d then 0 else 1) := by
    intro r
    induction r with
    | nil =>
      intro d out z h
      simp only [insGo, Option.some.injEq] at h
      subst h
      cases d <;> simp
    | cons x r ih =>
      intro d out z h
      simp only [insGo] at h
      split at h
      · cases h
      · split at h
        · rename_i h2
          have := ih _ _ _ h
          simp only [h2.2, List.length_append, List.length_cons, List.length_nil] at this ⊢
          simp at this ⊢
          omega
        · have := ih _ _ _ h
          simp only [List.length_append, List.length_cons, List.length_nil] at this ⊢
          omega
  unfold insI
  cases h : insGo v l false [] with
  | none => simp
  | some z => have := key _ _ _ _ h; simp at this ⊢; omega
theorem insGo_i64 {v : Int} (hv : I64 v) : ∀ (r : List Int) (d : Bool) (out z : List Int), (∀ x ∈ r, I64 x) → (∀ x ∈ out, I64 x) → insGo v r d out = some z → ∀ x ∈ z, I64 x
  | [], d, out, z, hr, ho, h => by
    simp only [insGo, Option.some.injEq] at h
    subst h
    cases d
    · simp only [Bool.false_eq_true, if_false, List.mem_append, List.mem_cons, List.not_mem_nil, or_false]
      rintro x (hx | rfl)
      · exact ho x hx
      · exact hv
    · simpa using ho
  | y :: r, d, out, z, hr, ho, h => by
    have hy := hr y (by simp)
    have hr' : ∀ x ∈ r, I64 x := fun x hx => hr x (by simp [hx])
    simp only [insGo] at h
    split at h
    · cases h
    · split at h
      · refine insGo_i64 hv r _ _ z hr' ?_ h
        simp only [List.mem_append, List.mem_cons, List.not_mem_nil, or_false]
        rintro x ((hx | rfl) | rfl)
        · exact ho x hx
        · exact hv
        · exact hy
      · refine insGo_i64 hv r _ _ z hr' ?_ h
        simp only [List.mem_append, List.mem_cons, List.not_mem_nil, or_false]
        rintro x (hx | rfl)
        · exact ho x hx
        · exact hy
def InsPost (l : List Int) (w : World) (e : Ending) (w' : World) : Prop := ∃ v, e = .returned v ∧ IntsV w' v l ∧ Below w.heap.size w w'
set_option maxHeartbeats 2000000 in
theorem ref2Insert_any (l : List Int) (v : Int) (A : Option Addr) (c : Nat) (w : World) (hlen : l.length ≤ 4398046511104) (hv : I64 v) (hA : Ints w w.heap.size A l) :
    Calls Tryz.prog 45 #[.slice A l.length c, .int .i64 v] w (InsPost (insI l v) w) := by
  obtain ⟨i0, hi, hz0, hz1, hz2⟩ := info_parts infoInt
  have h64 := hA.i64
  go_enter Tryz.func45, Tryz.ntmps45
  go_wp2
  go_loopw [5, 6, 7] (fun o d i wr => ∃ (k : Nat) (dn : Bool) (out : List Int), k ≤ l.length ∧ i = .int .i64 (k : Int) ∧ d = .bool dn ∧ wr.ownsRow w.heap.size 3 1 o out.length (out.map (Value.int .i64)) ∧ Below w.heap.size w wr ∧ Hid (insGo v l false [] = insGo v (l.drop k) dn out ∧ out.length ≤ k + (if dn = true then 1 else 0) ∧ ∀ x ∈ out, I64 x)) (fun _ _ i _ => l.length - (intOf i).toNat)
  case atStart => exact ⟨0, false, [], Nat.zero_le _, rfl, rfl, by simpa using World.ownsRow_nil w _ _ _, Below.refl _ _, rfl, by simp, by simp⟩
  case round =>
    obtain ⟨k, dn, out, hk, rfl, rfl, hrow, hBr, H⟩ := hrel
    by_cases hkl : k < l.length
    · obtain ⟨x, hx⟩ : ∃ x, l[k]? = some x := ⟨_, List.getElem?_eq_getElem hkl⟩
      obtain ⟨pb, po, rfl, hpb, hpc⟩ := hA.ad (by omega)
      have pw := hpc _ _ hx
      have p0 := cell_on hBr hpb pw
      have hdrop : l.drop k = x :: l.drop (k + 1) := by
        rw [List.drop_eq_getElem_cons hkl]
        rw [List.getElem?_eq_getElem hkl] at hx
        injection hx with hx
        rw [hx]
      have hxi := h64 x (List.mem_of_getElem? hx)
      have hrl := row_lt hrow
      have hBrs := hBr.size
      have hol0 := H.out.2.1
      have hol : out.length ≤ k + 1 := by split at hol0 <;> omega
      clear hx hpc
      by_cases e : x = v
      · have hn : insI l v = l := by
          unfold insI
          rw [H.out.1, hdrop]
          simp only [insGo, if_pos e, Option.getD_none]
        have hn := Lib.hid hn
        go_wp2
        go_ret
        exact ⟨.slice (some ⟨pb, po, none⟩) l.length c, rfl, ⟨some ⟨pb, po, none⟩, c, by rw [hn.out], by rw [hn.out]; exact hA.on hBr⟩, hBr⟩
      · have Hd := Lib.hid hdrop
        clear hdrop
        by_cases hd : v < x ∧ dn = false
        · obtain ⟨hvx, rfl⟩ := hd
          have hgo : insGo v l false [] = insGo v (l.drop (k + 1)) true (out ++ [v] ++ [x]) := by
            rw [H.out.1, Hd.out]
            simp only [insGo, if_neg e]
            rw [if_pos ⟨hvx, by trivial⟩]
          have hgo := Lib.hid hgo
          go_wp2_with (first
            | (at_builtin
               refine wpList_append_own _ rfl _ _ 36 rfl w.heap.size 3 i0 (.int .i64 0) 1 8 Tryz.underlying36 hi hz0 hz1 hz2 rfl (by decide) _ out.length _ rfl (hrow.alloc _) ⟨wr.heap.size, 0, none⟩ 1 1 [.int .i64 v] rfl rfl (cell_one_new _ _ _) (by simp [Value.oneCell']) (by unfold maxLen; omega) (by omega) (by simp; omega) ?_
               go_must (
               intro v1 w1 hown1 hgr1 _
               have hB1 : Below w.heap.size w w1 := (hBr.alloc hBrs _).grown hgr1 (by simp; omega) fun g hg => (hrl g hg).1
               have p1 := cell_on hB1 hpb pw
               have hB1s := hB1.size
               clear hgr1))
            | (at_builtin
               go_must (
               refine wpList_append_own _ rfl _ _ 36 rfl w.heap.size 3 i0 (.int .i64 0) 1 8 Tryz.underlying36 hi hz0 hz1 hz2 rfl (by decide) _ (out.length + 1) _ rfl (hown1.alloc _) ⟨w1.heap.size, 0, none⟩ 1 1 [.int .i64 x] rfl rfl (cell_one_new _ _ _) (by simp [Value.oneCell']) (by unfold maxLen; omega) (by omega) (by simp; omega) ?_
               intro v2 w2 hown2 hgr2 _
               have hB2 : Below w.heap.size w w2 := (hB1.alloc hB1s _).grown hgr2 (by simp; omega) fun g hg => (row_lt hown1 g hg).1
               clear hgr2))
            | fail)
          refine ⟨⟨k + 1, true, out ++ [v] ++ [x], by omega, by go_num, rfl, ?_, hB2, hgo.out, by simp at hol0 ⊢; omega, ?_⟩, by simp [intOf]; omega⟩
          · simpa [List.map_append] using hown2
          · simp only [List.mem_append, List.mem_cons, List.not_mem_nil, or_false]
            rintro y ((hy | rfl) | rfl)
            · exact H.out.2.2 y hy
            · exact hv
            · exact hxi
        · have hgo : insGo v l false [] = insGo v (l.drop (k + 1)) dn (out ++ [x]) := by
            rw [H.out.1, Hd.out]
            simp only [insGo, if_neg e]
            rw [if_neg hd]
          have hgo := Lib.hid hgo
          have hfin : ∀ (w2 : World) (v2 : Value), w2.ownsRow w.heap.size 3 1 v2 (out.length + 1) (out.map (Value.int .i64) ++ [.int .i64 x]) → w2.ownsRow w.heap.size 3 1 v2 (out ++ [x]).length ((out ++ [x]).map (Value.int .i64)) := fun w2 v2 h => by simpa [List.map_append] using h
          have hxs : ∀ y ∈ out ++ [x], I64 y := by
            simp only [List.mem_append, List.mem_cons, List.not_mem_nil, or_false]
            rintro y (hy | rfl)
            · exact H.out.2.2 y hy
            · exact hxi
          by_cases hvx : v < x
          · have hdt : dn = true := by
              cases dn
              · exact absurd ⟨hvx, rfl⟩ hd
              · rfl
            subst hdt
            clear hd
            go_wp2_with (first
              | (at_builtin
                 go_must (
                 refine wpList_append_own _ rfl _ _ 36 rfl w.heap.size 3 i0 (.int .i64 0) 1 8 Tryz.underlying36 hi hz0 hz1 hz2 rfl (by decide) _ out.length _ rfl (hrow.alloc _) ⟨wr.heap.size, 0, none⟩ 1 1 [.int .i64 x] rfl rfl (cell_one_new _ _ _) (by simp [Value.oneCell']) (by unfold maxLen; omega) (by omega) (by simp; omega) ?_
                 intro v2 w2 hown2 hgr2 _
                 have hB2 : Below w.heap.size w w2 := (hBr.alloc hBrs _).grown hgr2 (by simp; omega) fun g hg => (hrl g hg).1
                 clear hgr2))
              | fail)
            exact ⟨⟨k + 1, true, out ++ [x], by omega, by go_num, rfl, hfin _ _ hown2, hB2, hgo.out, by simp at hol0 ⊢; omega, hxs⟩, by simp [intOf]; omega⟩
          · clear hd
            go_wp2_with (first
              | (at_builtin
                 go_must (
                 refine wpList_append_own _ rfl _ _ 36 rfl w.heap.size 3 i0 (.int .i64 0) 1 8 Tryz.underlying36 hi hz0 hz1 hz2 rfl (by decide) _ out.length _ rfl (hrow.alloc _) ⟨wr.heap.size, 0, none⟩ 1 1 [.int .i64 x] rfl rfl (cell_one_new _ _ _) (by simp [Value.oneCell']) (by unfold maxLen; omega) (by omega) (by simp; omega) ?_
                 intro v2 w2 hown2 hgr2 _
                 have hB2 : Below w.heap.size w w2 := (hBr.alloc hBrs _).grown hgr2 (by simp; omega) fun g hg => (hrl g hg).1
                 clear hgr2))
              | fail)
            exact ⟨⟨k + 1, dn, out ++ [x], by omega, by go_num, rfl, hfin _ _ hown2, hB2, hgo.out, by rw [List.length_append]; simp only [List.length_cons, List.length_nil]; omega, hxs⟩, by simp [intOf]; omega⟩
    · obtain rfl : k = l.length := by omega
      have hrl := row_lt hrow
      have hBrs := hBr.size
      have hol0 := H.out.2.1
      have hol : out.length ≤ l.length + 1 := by split at hol0 <;> omega
      cases dn with
      | true =>
        have hn : insI l v = out := by
          unfold insI
          rw [H.out.1, List.drop_length]
          simp [insGo]
        have HN := Lib.hid hn
        clear hn
        go_wp2
        go_ret
        exact ⟨u5, rfl, by rw [HN.out]; exact row_ints hrow (by omega) H.out.2.2, hBr⟩
      | false =>
        have hn : insI l v = out ++ [v] := by
          unfold insI
          rw [H.out.1, List.drop_length]
          simp [insGo]
        have HN := Lib.hid hn
        clear hn
        go_wp2_with (first
          | (at_builtin
             go_must (
             refine wpList_append_own _ rfl _ _ 36 rfl w.heap.size 3 i0 (.int .i64 0) 1 8 Tryz.underlying36 hi hz0 hz1 hz2 rfl (by decide) _ out.length _ rfl (hrow.alloc _) ⟨wr.heap.size, 0, none⟩ 1 1 [.int .i64 v] rfl rfl (cell_one_new _ _ _) (by simp [Value.oneCell']) (by unfold maxLen; omega) (by omega) (by simp; omega) ?_
             intro v2 w2 hown2 hgr2 _
             have hB2 : Below w.heap.size w w2 := (hBr.alloc hBrs _).grown hgr2 (by simp; omega) fun g hg => (hrl g hg).1
             clear hgr2))
          | fail)
        go_ret
        refine ⟨v2, rfl, ?_, hB2⟩
        rw [HN.out]
        refine row_ints (by simpa [List.map_append] using hown2) (by simp; omega) ?_
        simp only [List.mem_append, List.mem_cons, List.not_mem_nil, or_false]
        rintro y (hy | rfl)
        · exact H.out.2.2 y hy
        · exact hv
end Go.Proofs.YthgglobfkkcdgaaGreatDoor
namespace Go.Proofs.YthgglobfkkcdgaaGreatDoor
open Go.RowKit
set_option maxRecDepth 100000
theorem fold_len : ∀ (r l : List Int), (r.foldl insI l).length ≤ l.length + r.length
  | [], l => by simp
  | v :: r, l => by
    have h1 := fold_len r (insI l v)
    have h2 := insI_len l v
    simp only [List.foldl_cons, List.length_cons]
    omega
theorem vnL_le (xs : List Tm) (k : Nat) : (vnL (xs.take k)).length ≤ (vnL xs).length := by
  have := congrArg List.length (vnL_app (xs.take k) (xs.drop k))
  rw [List.take_append_drop, List.length_append] at this
  omega
def RJoin (t : Tm) : Prop := ∀ (l : List Int), l.length + (vn t).length ≤ 4398046511104 → ∀ (Al A : Option Addr) (cl c : Nat) (w : World), I64 t.fn → Ints w w.heap.size Al l → Args w w.heap.size A t.args →
  Calls Tryz.prog 26 #[.slice Al l.length cl, .agg #[.int .i64 t.fn, .slice A t.args.length c]] w (InsPost ((vn t).foldl insI l) w)
set_option maxHeartbeats 2000000 in
theorem ref2Join_any (t : Tm) : RJoin t := by
  refine Tm.ind (P := RJoin) (fun f xs ih => ?_) t
  intro l hl Al A cl c w hf hI hA
  simp only [Tm.fn, Tm.args] at hf hA ⊢
  have hlen := hA.len
  obtain ⟨W, hW⟩ : ∃ W, w.alloc (.cells #[.int .i64 f, .slice A xs.length c] 32) = W := ⟨_, rfl⟩
  obtain ⟨hB, hlt, hS⟩ := box_term hW
  have HW := Lib.hid hW
  have hI' := Lib.hid (hI.on hB)
  obtain ⟨x0, x1⟩ := hS W (Below.refl _ _)
  obtain ⟨l0, hl0, hv, hl0l⟩ : ∃ l0, l0 = (if f < 0 then insI l (-1 - f) else l) ∧ (vn (.node f xs)).foldl insI l = (vnL xs).foldl insI l0 ∧ l0.length + (vnL xs).length ≤ 4398046511104 := by
    refine ⟨_, rfl, ?_, ?_⟩
    · simp only [vn]
      by_cases h : f < 0
      · simp [h]
      · simp [h]
    · simp only [vn] at hl
      by_cases h : f < 0
      · have := insI_len l (-1 - f)
        simp [h] at hl ⊢; omega
      · simp [h] at hl ⊢; omega
  have Hv := Lib.hid hv
  clear hW hv hI
  by_cases hf0 : f < 0
  · rw [if_pos hf0] at hl0
    have h64 : I64 (-1 - f) := ⟨by have := hf.1; omega, by have := hf.1; omega⟩
    have hf1 := hf.1
    have Hl0 := Lib.hid hl0
    clear hl0
    go_enter Tryz.func26, Tryz.ntmps26
    go_upto_region 1 with fail
    rw [HW.out]
    go_wp2_with (first
      | (go_at_call 45
         go_must (
         refine (ref2Insert_any l (-1 - f) Al cl W (by omega) h64 hI'.out).mono ?_
         rintro e w1 ⟨v1, rfl, hv1, hb1⟩
         rw [← Hl0.out] at hv1))
      | fail)
    go_loopw [0, 5] (fun o i wr => ∃ (k : Nat) (r : List Int), k ≤ xs.length ∧ i = .int .i64 (k : Int) ∧ IntsV wr o r ∧ Below W.heap.size W wr ∧ Hid (r = (vnL (xs.take k)).foldl insI l0)) (fun _ i _ => xs.length - (intOf i).toNat)
    case atStart => exact ⟨0, l0, Nat.zero_le _, rfl, hv1, hb1, Lib.hid (by simp [vnL])⟩
    case round =>
      obtain ⟨k, r, hk, rfl, ⟨Ar, cr, rfl, hIr⟩, hBr, Hr⟩ := hrel
      obtain ⟨_, z1⟩ := hS _ hBr
      by_cases hkl : k < xs.length
      · obtain ⟨u, hu⟩ : ∃ u, xs[k]? = some u := ⟨_, List.getElem?_eq_getElem hkl⟩
        obtain ⟨bb, off, A1, c1, rfl, ha⟩ := (hA.on (hB.trans (hBr.mono hB.size))).get hu
        have e0 := ha.c0
        have e1 := ha.c1
        have hmem := List.mem_of_getElem? hu
        have hsub := Lib.hid ha.sub
        have hu64 := ha.hi
        have hvk := vnL_take hu
        have hIr' := Lib.hid hIr
        have hrl : r.length + (vn u).length ≤ 4398046511104 := by
          have h1 := fold_len (vnL (xs.take k)) l0
          have h2 := vnL_le xs (k + 1)
          rw [hvk, List.length_append] at h2
          rw [← Hr.out] at h1
          omega
        have hVk := Lib.hid hvk
        clear hu ha hvk hIr
        go_wp2_with (first
          | (go_at_call 26
             go_must (
             refine (ih u hmem r hrl Ar A1 cr c1 wr hu64 hIr'.out hsub.out).mono ?_
             rintro e w2 ⟨v2, rfl, hv2, hb2⟩))
          | fail)
        exact ⟨⟨k + 1, _, by omega, by go_num, hv2, hBr.trans (hb2.mono hBr.size), Lib.hid (by rw [hVk.out, List.foldl_append, ← Hr.out])⟩, by simp [intOf]; omega⟩
      · obtain rfl : k = xs.length := by omega
        have Hf := Lib.hid (show (vn (.node f xs)).foldl insI l = r by rw [Hv.out, Hr.out, List.take_length])
        clear Hv Hr
        go_wp2
        go_ret
        exact ⟨.slice Ar r.length cr, rfl, by rw [Hf.out]; exact ⟨Ar, cr, rfl, hIr⟩, hB.trans (hBr.mono hB.size)⟩
  · rw [if_neg hf0] at hl0
    subst hl0
    go_enter Tryz.func26, Tryz.ntmps26
    go_upto_region 1 with fail
    rw [HW.out]
    go_wp2
    go_loopw [0, 5] (fun o i wr => ∃ (k : Nat) (r : List Int), k ≤ xs.length ∧ i = .int .i64 (k : Int) ∧ IntsV wr o r ∧ Below W.heap.size W wr ∧ Hid (r = (vnL (xs.take k)).foldl insI l0)) (fun _ i _ => xs.length - (intOf i).toNat)
    case atStart => exact ⟨0, l0, Nat.zero_le _, rfl, ⟨Al, cl, rfl, hI'.out⟩, Below.refl _ _, Lib.hid (by simp [vnL])⟩
    case round =>
      obtain ⟨k, r, hk, rfl, ⟨Ar, cr, rfl, hIr⟩, hBr, Hr⟩ := hrel
      obtain ⟨_, z1⟩ := hS _ hBr
      by_cases hkl : k < xs.length
      · obtain ⟨u, hu⟩ : ∃ u, xs[k]? = some u := ⟨_, List.getElem?_eq_getElem hkl⟩
        obtain ⟨bb, off, A1, c1, rfl, ha⟩ := (hA.on (hB.trans (hBr.mono hB.size))).get hu
        have e0 := ha.c0
        have e1 := ha.c1
        have hmem := List.mem_of_getElem? hu
        have hsub := Lib.hid ha.sub
        have hu64 := ha.hi
        have hvk := vnL_take hu
        have hIr' := Lib.hid hIr
        have hrl : r.length + (vn u).length ≤ 4398046511104 := by
          have h1 := fold_len (vnL (xs.take k)) l0
          have h2 := vnL_le xs (k + 1)
          rw [hvk, List.length_append] at h2
          rw [← Hr.out] at h1
          omega
        have hVk := Lib.hid hvk
        clear hu ha hvk hIr
        go_wp2_with (first
          | (go_at_call 26
             go_must (
             refine (ih u hmem r hrl Ar A1 cr c1 wr hu64 hIr'.out hsub.out).mono ?_
             rintro e w2 ⟨v2, rfl, hv2, hb2⟩))
          | fail)
        exact ⟨⟨k + 1, _, by omega, by go_num, hv2, hBr.trans (hb2.mono hBr.size), Lib.hid (by rw [hVk.out, List.foldl_append, ← Hr.out])⟩, by simp [intOf]; omega⟩
      · obtain rfl : k = xs.length := by omega
        have Hf := Lib.hid (show (vn (.node f xs)).foldl insI l0 = r by rw [Hv.out, Hr.out, List.take_length])
        clear Hv Hr
        go_wp2
        go_ret
        exact ⟨.slice Ar r.length cr, rfl, by rw [Hf.out]; exact ⟨Ar, cr, rfl, hIr⟩, hB.trans (hBr.mono hB.size)⟩
theorem ref2Vars_any (t : Tm) (A : Option Addr) (c : Nat) (w : World) (hf : I64 t.fn) (hl : t.size ≤ 4398046511104) (hA : Args w w.heap.size A t.args) :
    Calls Tryz.prog 12 #[.agg #[.int .i64 t.fn, .slice A t.args.length c]] w (InsPost ((vn t).foldl insI []) w) := by
  have hB : Below w.heap.size w (w.alloc (.cells #[.int .i64 t.fn, .slice A t.args.length c] 32)) := (Below.refl _ _).alloc (Nat.le_refl _) _
  have hN := fun w1 => (⟨by simp, by simp, fun h => by simp at h⟩ : Ints w1 w1.heap.size none [])
  have hvl := vn_len t
  go_enter Tryz.func12, Tryz.ntmps12
  go_wp2_with (first
    | (go_at_call 26
       go_must (
       refine (ref2Join_any t [] (by simp; omega) none A 0 c _ hf (hN _) (hA.on hB)).mono ?_
       rintro e w1 ⟨v1, rfl, hv1, hb1⟩
       have hB1 := bl_step hB hb1))
    | fail)
  go_ret
  exact ⟨v1, rfl, hv1, hB1⟩
end Go.Proofs.YthgglobfkkcdgaaGreatDoor
namespace Go.Proofs.YthgglobfkkcdgaaGreatDoor
open Go.RowKit
set_option maxRecDepth 100000
def putT : Tm → List Int → Tm → Tm
  | _, [], s => s
  | t, i :: p, s => match t.args[i.toNat]? with
    | none => t
    | some u => .node t.fn (t.args.set i.toNat (putT u p s))
theorem frozen_of_heap {w w' : World} {b o : Nat} (h : w'.heap[b]? = w.heap[b]?) : w'.frozen? ⟨b, o, none⟩ = w.frozen? ⟨b, o, none⟩ := by simp [World.frozen?, h]
end Go.Proofs.YthgglobfkkcdgaaGreatDoor
namespace Go.Proofs.YthgglobfkkcdgaaGreatDoor
open Go.RowKit Go.Shelf
set_option maxRecDepth 100000
def Apart (lo : Nat) (v : Value) (w : World) (g : Nat) : Prop := lo ≤ g ∧ g < w.heap.size ∧ v.ownBlock ≠ some g
theorem row_own {W : World} {base n : Nat} {e : TypeId} {size : Nat} {v : Value} {vs : List Value} (h : W.ownsRow base e size v n vs) : ∃ A c, v = .slice A n c := by
  rcases h.2 with ⟨hv, h0⟩ | ⟨g, cap, cur, hv, _⟩
  · exact ⟨none, 0, by rw [hv, h0]⟩
  · exact ⟨_, cap, hv⟩
end Go.Proofs.YthgglobfkkcdgaaGreatDoor
namespace Go.Proofs.YthgglobfkkcdgaaGreatDoor
open Go.RowKit Go.Shelf
set_option maxRecDepth 100000
end Go.Proofs.YthgglobfkkcdgaaGreatDoor
namespace Go.Proofs.YthgglobfkkcdgaaGreatDoor
open Go.RowKit
set_option maxRecDepth 100000
end Go.Proofs.YthgglobfkkcdgaaGreatDoor
namespace Go.Proofs.YthgglobfkkcdgaaGreatDoor
open Go.RowKit Go.Shelf
set_option maxRecDepth 100000
theorem ti_set : ∀ (l : List Ti) (i : Nat) (x : Ti), i < l.length → ((l.flatMap Ti.cells).set (i * 2) (.int .i64 x.t.fn)).set (i * 2 + 1) (.slice x.A x.t.args.length x.c) = (l.set i x).flatMap Ti.cells
  | [], i, x, h => by simp at h
  | y :: l, 0, x, _ => by simp [Ti.cells]
  | y :: l, i + 1, x, h => by
    have ih := ti_set l i x (by simpa using h)
    rw [List.set_cons_succ, List.flatMap_cons, List.flatMap_cons, ← ih]
    simp [Ti.cells, Nat.add_mul]
theorem row_some {W : World} {base n : Nat} {e : TypeId} {size : Nat} {v : Value} {vs : List Value} (h : W.ownsRow base e size v n vs) (hn : 0 < n) : ∃ g c, v = .slice (some ⟨g, 0, none⟩) n c := by
  rcases h.2 with ⟨_, h0⟩ | ⟨g, cap, cur, hv, _⟩
  · omega
  · exact ⟨g, cap, hv⟩
def putO (t : Tm) (p : List Int) (s : Tm) : Tm := if (subT t p).isSome then putT t p s else .node 0 []
theorem putO_nil (t s : Tm) : putO t [] s = s := by simp [putO, subT, putT]
end Go.Proofs.YthgglobfkkcdgaaGreatDoor
namespace Go.Proofs.YthgglobfkkcdgaaGreatDoor
open Go.RowKit Go.Shelf
attribute [local go_sem] Oper.semAt_some
set_option maxRecDepth 100000
set_option maxHeartbeats 1000000 in
theorem posClone_any (l : List Int) (A : Option Addr) (c : Nat) (w : World) (hlen : l.length ≤ 4398046511104) (hA : Ints w w.heap.size A l) :
    Calls Tryz.prog 54 #[.slice A l.length c] w fun e w' => ∃ A' c', e = .returned (.slice A' l.length c') ∧ Ints w' w'.heap.size A' l ∧ Below w.heap.size w w' ∧ ∀ b off, A' = some ⟨b, off, none⟩ → w.heap.size ≤ b := by
  obtain ⟨i0, hi, hz0, hz1, hz2⟩ := info_parts infoInt
  have h64 := hA.i64
  cases A with
  | none =>
    have h0 : l.length = 0 := by
      rcases Nat.eq_zero_or_pos l.length with h | h
      · exact h
      · obtain ⟨_, _, e, _⟩ := hA.ad h; cases e
    have hl : l = [] := List.eq_nil_of_length_eq_zero h0
    subst hl
    have hnil := fun W => Lib.run_eql_slice_nil_nil (P := Tryz.prog) W 0 c Tryz.underlying54
    go_enter Tryz.func54, Tryz.ntmps54
    go_wp2
    go_ret
    exact ⟨none, 0, rfl, ⟨by simp, by simp, fun h => by simp at h⟩, Below.refl _ _, fun b off e => by cases e⟩
  | some a =>
    have hnil := fun W => Lib.run_eql_slice_some_nil (P := Tryz.prog) W a l.length c Tryz.underlying54
    go_enter Tryz.func54, Tryz.ntmps54
    have hown0 : (w.alloc (.cells #[] 3)).ownsRow w.heap.size 3 1 (.slice (some ⟨w.heap.size, 0, none⟩) 0 0) 0 [] := ⟨rfl, .inr ⟨w.heap.size, 0, #[], rfl, Nat.le_refl _, heap_alloc_new w _, Nat.le_refl _, by decide, rfl, rfl⟩⟩
    have hcl : ∀ (j : Nat) (u : Value), (l.map (Value.int .i64))[j]? = some u → (w.alloc (.cells #[] 3)).cell? (a.add j) = some u := by
      intro j u hu
      rw [List.getElem?_map] at hu
      cases hx : l[j]? with
      | none => rw [hx] at hu; cases hu
      | some x =>
        rw [hx] at hu
        injection hu with hu
        obtain ⟨b, off, e, hb, hc⟩ := hA.ad (by have := (List.getElem?_eq_some_iff.1 hx).1; omega)
        injection e with e
        subst e; subst hu
        have h3 := cell_on (o := off + j) ((Below.refl _ _).alloc (Nat.le_refl _) (.cells #[] 3)) hb (hc _ _ hx)
        rwa [show ((⟨b, off, none⟩ : Addr).add j) = ⟨b, off + j, none⟩ from by unfold Addr.add; split <;> simp_all]
    go_wp2_with (first
      | (at_builtin
         go_must (
         refine wpList_append_own _ rfl _ _ 54 rfl w.heap.size 3 i0 (.int .i64 0) 1 8 Tryz.underlying54 hi hz0 hz1 hz2 rfl (by decide) _ 0 _ rfl hown0 a l.length c (l.map (Value.int .i64)) rfl (by simp) hcl (by simp [Value.oneCell']) (by unfold maxLen; omega) (by omega) (by simp) ?_
         intro v1 w1 hown1 hgr1 _))
      | fail)
    go_ret
    rw [Nat.zero_add, List.nil_append] at hown1
    have hB1 : Below w.heap.size w w1 := ((Below.refl _ _).alloc (Nat.le_refl _) _).grown hgr1 (by simp) fun k e => (row_lt hown0 k e).1
    obtain ⟨A', c', rfl, hI⟩ := row_ints hown1 (by omega) h64
    refine ⟨A', c', rfl, hI, hB1, fun b off e => ?_⟩
    rcases hown1.2 with ⟨h1, _⟩ | ⟨g, cap, cur, h1, h2, _⟩
    · injection h1 with h1
      rw [h1] at e
      cases e
    · injection h1 with h1
      rw [h1] at e
      injection e with e
      injection e with e
      omega
theorem termPlaces_any (t : Tm) (A : Option Addr) (c : Nat) (w : World) (hsz : t.size ≤ 4398046511104) (hf : I64 t.fn) (hA : Args w w.heap.size A t.args) :
    Calls Tryz.prog 31 #[.agg #[.int .i64 t.fn, .slice A t.args.length c]] w fun e w' => e = .returned (.func (.func 52) #[] #[.pointer (some ⟨w.heap.size, 0, none⟩)]) ∧ Below w.heap.size w w' ∧
      ∃ A' c', w'.heap[w.heap.size]? = some (.cells #[.int .i64 t.fn, .slice A' t.args.length c'] 32) ∧ OwnT w' (w.heap.size + 1) w'.heap.size A' t.args := by
  obtain ⟨W, hW⟩ : ∃ W, w.alloc (.cells #[.int .i64 t.fn, .slice A t.args.length c] 32) = W := ⟨_, rfl⟩
  have hB : Below w.heap.size w W := by rw [← hW]; exact (Below.refl _ _).alloc (Nat.le_refl _) _
  have q0 : W.heap[w.heap.size]? = some (.cells #[.int .i64 t.fn, .slice A t.args.length c] 32) := by rw [← hW]; exact heap_alloc_new _ _
  have hWs : W.heap.size = w.heap.size + 1 := by rw [← hW]; simp
  have HW := Lib.hid hW
  clear hW
  go_enter Tryz.func31, Tryz.ntmps31
  go_wp2_with (first
    | (go_at_call 51
       go_must (
       rw [HW.out]
       refine (clone_any t hsz A c W hf (hA.on hB)).mono ?_
       rintro e w2 ⟨A4, c4, rfl, hO4, hb4⟩
       have y0 := (hb4.block _ (by omega)).trans q0
       obtain ⟨d0, d1, k0, k1⟩ := cells_two y0))
    | fail)
  go_ret
  obtain ⟨_, z1⟩ := set2_two (u := .int .i64 t.fn) (v := .slice A4 t.args.length c4) y0
  refine ⟨rfl, ((hB.trans (hb4.mono (by omega))).setCell (by show _ ≤ w.heap.size; omega) _).setCell (by show _ ≤ w.heap.size; omega) _, A4, c4, z1, ?_⟩
  refine OwnT.wide (lo := W.heap.size) (hi := w2.heap.size) (hO4.keep fun g h1 _ => ?_) (by omega) (by simp)
  exact (heap_setCell_other _ _ _ _ (by show g ≠ w.heap.size; omega)).trans (heap_setCell_other _ _ _ _ (by show g ≠ w.heap.size; omega))
end Go.Proofs.YthgglobfkkcdgaaGreatDoor
namespace Go.Proofs.YthgglobfkkcdgaaGreatDoor
open Go Go.RowKit Go.Shelf
attribute [local go_sem] Oper.semAt_some
set_option maxRecDepth 100000
section
variable {F : Fence} {n : Nat} {P : Program} {α : Type}
def SeqD (F : Fence) (n : Nat) (P : Program) (gf : Nat) (lb : Array Value) (encs : α → Array Value) (Fx : α → World → Prop) (N : Nat → Prop) (S Sp : List α → Prop) (w : World) : Prop :=
  ∀ (l : Nat) (C : World → Nat → Prop) (J Jx : List α → World → Prop) (W : World), Below w.heap.size w W → FrameC C J → BoundC C J → FrameC C Jx →
    (∀ m pre x W1, J pre W1 → Sp (pre ++ [x]) → Fx x W1 → YieldAt F m P l (encs x) W1 fun e W' =>
      (e = .returned (.bool true) ∧ J (pre ++ [x]) W' ∧ Stp N C W1 W') ∨ (e = .returned (.bool false) ∧ Jx (pre ++ [x]) W' ∧ Stp N C W1 W')) →
    J [] W →
    CallsIn F n P gf (#[.func (.yield l) #[] #[]] ++ lb) W fun e W' => (∃ v, e = .returned v) ∧ ((∃ xs, S xs ∧ J xs W') ∨ (∃ pre, Sp pre ∧ Jx pre W'))
theorem range_lawD {g : Operand} {ps : Array Tmp} {assign body : Code} {Q : Exit → Act → World → Prop} {a : Act} {w : World}
    (hro : F.round = none) (hd : F.depth = none) {gf : Nat} {lb : Array Value} (hg : a.eval g = .func (.func gf) #[] lb) (hFg : F.fn gf) (eg : ∀ args w, (callFunc gf args).run P w = .ok (.enter gf args) w)
    {encs : α → Array Value} {Fx : α → World → Prop} {N : Nat → Prop} {S Sp : List α → Prop} {w0 : World} (hseq : ∀ m, SeqD F m P gf lb encs Fx N S Sp w0) (hb0 : Below w0.heap.size w0 w) (hps : ∀ x, (encs x).size = ps.size) (hN : ∀ g, N g → g < w.heap.size)
    (C : World → Nat → Prop) (I : List α → World → Prop) (Ix : Code → List α → World → Prop) (hI : FrameC C I) (hbd : BoundC C I) (hIx : ∀ c, FrameC C (Ix c))
    (h0 : I [] w) (Ax : List α → α → Act → World → Prop)
    (hAx : ∀ pre x a' W l r o, Ax pre x a' W → w.heap.size ≤ l → W.heap[l]? = some (.loop r) → ¬ C W l → (∀ g, C (W.putObj l o) g → C W g) ∧ Ax pre x a' (W.putObj l o))
    (hassign : ∀ (l m : Nat) (pre : List α) (x : α) (W : World) (K : Act → World → Prop), I pre W → Sp (pre ++ [x]) → Fx x W → (∀ a' W', Stp N C W W' → Ax pre x a' W' → K a' W') →
      assign.wpIn (F.inRound l) m P (Exit.then K (fun _ _ _ => False)) { tmps := (ps.zip (encs x)).foldl (fun t (p, v) => t.setIfInBounds p v) a.tmps, defers := [] } W)
    (hbody : ∀ (l m : Nat) (pre : List α) (x : α) (a' : Act) (W : World), Sp (pre ++ [x]) → Ax pre x a' W → body.wpIn (F.inRound l) m P (bodyC N C I Ix (pre ++ [x]) W) a' W)
    (hdone : ∀ (D : Nat) (xs : List α) (W : World), w.heap.size ≤ D → S xs → I xs W → ¬ C W D → W.heap[D]? = some (.deferred (some [])) → Q .normal { a with defers := { target := .collected D, args := #[] } :: a.defers } W)
    (hstop : ∀ (D : Nat) (c : Code) (pre : List α) (W : World), w.heap.size ≤ D → Sp pre → Ix c pre W → ¬ C W D → W.heap[D]? = some (.deferred (some [])) → c.wpIn F n P Q { a with defers := { target := .collected D, args := #[] } :: a.defers } W) :
    (Code.rangeFunc g ps assign body).wpIn F n P Q a w := by
  refine wpIn_rangeFunc fun fn hfn => ?_
  rw [hro]
  have hdd : ∀ k : Nat, F.depth.isSome = true → 1 ≤ k := fun k h => by rw [hd] at h; cases h
  obtain ⟨d, hd0⟩ : ∃ d, d = w.heap.size := ⟨_, rfl⟩
  obtain ⟨rec, hrec⟩ : ∃ rec : LoopState → Option Code → Loop, rec = fun st pe => { state := st, pending := pe, fn, tmps := a.tmps, params := ps, assign, body, defers := w.heap.size } := ⟨_, rfl⟩
  obtain ⟨W1, hW1⟩ : ∃ W1, (w.alloc (.deferred (some []))).alloc (.loop (rec .ready none)) = W1 := ⟨_, rfl⟩
  have hl1 : W1.heap[d + 1]? = some (.loop (rec .ready none)) := by
    rw [← hW1, hd0, show w.heap.size + 1 = (w.alloc (.deferred (some []))).heap.size by simp]; exact World.alloc_heap_new _ _
  have hk1 : W1.heap[d]? = some (.deferred (some [])) := by rw [← hW1, hd0]; exact (Below.heap_alloc _ _ _ (by simp)).trans (World.alloc_heap_new w _)
  have hBw : Below w.heap.size w W1 := by rw [← hW1]; exact ((Below.refl _ w).alloc (Nat.le_refl _) _).alloc (by simp) _
  have hIw := hI [] w W1 h0 ((Keeps.of_below hBw).mono fun g e => hbd [] w h0 g e)
  have hbw : ∀ g, C W1 g → g < w.heap.size := fun g e => hbd [] w h0 g (hIw.2 g e)
  have hNd : ∀ g, N g → g < d := fun g e => by rw [hd0]; exact hN g e
  let CJ : World → Nat → Prop := fun W g => C W g ∨ g = d + 1 ∨ g = d
  let J : List α → World → Prop := fun pre W => I pre W ∧ (W.heap[d + 1]? = some (.loop (rec .ready none)) ∧ W.heap[d]? = some (.deferred (some []))) ∧ ¬ C W (d + 1) ∧ ¬ C W d
  let Jx : List α → World → Prop := fun pre W => ∃ c, Ix c pre W ∧ (W.heap[d + 1]? = some (.loop (rec .done (some c))) ∧ W.heap[d]? = some (.deferred (some []))) ∧ ¬ C W (d + 1) ∧ ¬ C W d
  have hJF : FrameC CJ J := by
    rintro s A B ⟨h1, ⟨h2, h3⟩, h4, h5⟩ hk
    have hi := hI s A B h1 (hk.mono fun g e => .inl e)
    exact ⟨⟨hi.1, ⟨(hk.block _ (.inr (.inl rfl))).trans h2, (hk.block _ (.inr (.inr rfl))).trans h3⟩, fun e => h4 (hi.2 _ e), fun e => h5 (hi.2 _ e)⟩, fun g e => e.elim (fun e => .inl (hi.2 g e)) .inr⟩
  have hJxF : FrameC CJ Jx := by
    rintro s A B ⟨cd, h1, ⟨h2, h3⟩, h4, h5⟩ hk
    have hi := hIx cd s A B h1 (hk.mono fun g e => .inl e)
    exact ⟨⟨cd, hi.1, ⟨(hk.block _ (.inr (.inl rfl))).trans h2, (hk.block _ (.inr (.inr rfl))).trans h3⟩, fun e => h4 (hi.2 _ e), fun e => h5 (hi.2 _ e)⟩, fun g e => e.elim (fun e => .inl (hi.2 g e)) .inr⟩
  have hJB : BoundC CJ J := by
    rintro s A ⟨h1, ⟨h2, h3⟩, _, _⟩ g (e | rfl | rfl)
    · exact hbd s A h1 g e
    · exact (Array.getElem?_eq_some_iff.1 h2).1
    · exact (Array.getElem?_eq_some_iff.1 h3).1
  refine ⟨d + 1, [{ target := .collected d, args := #[] }], W1, { target := .fn (.func gf) lb, args := #[.func (.yield (d + 1)) #[] #[]] }, W1, gf, #[.func (.yield (d + 1)) #[] #[]] ++ lb, W1, ?_, ?_, ?_, ?_, fun h => hdd _ h, ?_⟩
  · rw [← hW1, hrec, hd0]; exact run_enterLoop_outer _ _ _ _ _
  · simp only [resolve, hg]
    simp [go_sem]
  · intro f' hf'; simp [Target.leads] at hf'; subst hf'; exact hFg
  · simp [invoke, go_sem, eg]
  · refine (hseq _ (d + 1) CJ J Jx W1 (hb0.trans (hBw.mono hb0.size)) hJF hJB hJxF ?_ ⟨hIw.1, ⟨hl1, hk1⟩, fun e => ?_, fun e => ?_⟩).mono ?_
    · -- one round
      rintro m pre x W ⟨hi, ⟨hl, hk⟩, hnl, hnd⟩ hsp hfx
      have hy := run_yield (P := P) (args := encs x) hl (by rw [hrec]; exact hps x)
      rw [hrec] at hy
      refine ⟨fn, _, assign, body, hy, roundIn_of_wpIn hfn (hassign _ m pre x W _ hi hsp hfx ?_)⟩
      clear hy
      intro a' Wa hst hax
      have hlW : d + 1 < W.heap.size := (Array.getElem?_eq_some_iff.1 hl).1
      have hla : Wa.heap[d + 1]? = some (.loop (rec .ready none)) := (hst.keeps.block _ (.inr ⟨hlW, hnl⟩)).trans hl
      have hka : Wa.heap[d]? = some (.deferred (some [])) := (hst.keeps.block _ (.inr ⟨by omega, hnd⟩)).trans hk
      have hnla : ¬ C Wa (d + 1) := fun e => (hst.grows _ e).elim hnl (fun e => by omega)
      have hnda : ¬ C Wa d := fun e => (hst.grows _ e).elim hnd (fun e => by omega)
      have hla1 : d + 1 < Wa.heap.size := (Array.getElem?_eq_some_iff.1 hla).1
      refine ⟨_, run_beginRound hla (by rw [hrec]), ?_⟩
      obtain ⟨hgr, hax2⟩ := hAx pre x a' Wa (d + 1) _ (.loop { rec .ready none with state := .busy }) hax (by omega) hla hnla
      obtain ⟨Wb, hWb⟩ : ∃ Wb, Wa.putObj (d + 1) (.loop { rec .ready none with state := .busy }) = Wb := ⟨_, rfl⟩
      have hlb : Wb.heap[d + 1]? = some (.loop { rec .ready none with state := .busy }) := by rw [← hWb]; exact World.putObj_heap_same hla1
      have hkb : Wb.heap[d]? = some (.deferred (some [])) := by rw [← hWb]; exact (World.putObj_heap_other (by omega)).trans hka
      have hKab : Keeps (· ≠ d + 1) Wa Wb := by rw [← hWb]; exact Keeps.put _ _ _
      rw [hWb] at hgr hax2 ⊢
      have hnlb : ¬ C Wb (d + 1) := fun e => hnla (hgr _ e)
      have hndb : ¬ C Wb d := fun e => hnda (hgr _ e)
      refine wpIn_mono (hbody _ m pre x a' Wb hsp hax2) ?_
      have hszb : Wa.heap.size ≤ Wb.heap.size := hKab.size
      have fin : ∀ (jump : Option Code) (W3 : World), Stp N C Wb W3 →
          (Instr.endRound (d + 1) jump).run P W3 = .ok (.bool jump.isNone) (W3.putObj (d + 1) (.loop (rec (if jump.isNone then .ready else .done) jump))) ∧
          (W3.putObj (d + 1) (.loop (rec (if jump.isNone then .ready else .done) jump))).heap[d + 1]? = some (.loop (rec (if jump.isNone then .ready else .done) jump)) ∧
          (W3.putObj (d + 1) (.loop (rec (if jump.isNone then .ready else .done) jump))).heap[d]? = some (.deferred (some [])) ∧ ¬ C W3 (d + 1) ∧ ¬ C W3 d := fun jump W3 h3 => by
        have hl3 : W3.heap[d + 1]? = some (.loop { rec .ready none with state := .busy }) := (h3.keeps.block _ (.inr ⟨by omega, hnlb⟩)).trans hlb
        have hk3 : W3.heap[d]? = some (.deferred (some [])) := (h3.keeps.block _ (.inr ⟨by omega, hndb⟩)).trans hkb
        have := run_endRound (P := P) jump hl3
        rw [hrec] at this ⊢
        exact ⟨this, World.putObj_heap_same (Array.getElem?_eq_some_iff.1 hl3).1, (World.putObj_heap_other (by omega)).trans hk3, fun e => (h3.grows _ e).elim hnlb (fun e => by omega), fun e => (h3.grows _ e).elim hndb (fun e => by omega)⟩
      have stp4 : ∀ (o : Obj) (W3 : World), Stp N C Wb W3 → (∀ g, C (W3.putObj (d + 1) o) g → C W3 g) → Stp N CJ W (W3.putObj (d + 1) o) := fun o W3 h3 hg4 => by
        refine ⟨?_, ?_⟩
        · refine (hst.keeps.mono fun g hg => ?_).trans ((hKab.mono fun g hg => ?_).trans ((h3.keeps.mono fun g hg => ?_).trans ((Keeps.put W3 (d + 1) _).mono fun g hg => ?_)))
          · exact hg.elim .inl fun hg => .inr ⟨hg.1, fun e => hg.2 (.inl e)⟩
          · exact hg.elim (fun e => by have := hNd _ e; omega) fun hg e => hg.2 (.inr (.inl e))
          · exact hg.elim .inl fun hg => .inr ⟨by have := hst.keeps.size; omega, fun e => (hst.grows g (hgr g e)).elim (fun e => hg.2 (.inl e)) (fun e => by omega)⟩
          · exact hg.elim (fun e => by have := hNd _ e; omega) fun hg e => hg.2 (.inr (.inl e))
        · rintro g (e | e)
          · rcases h3.grows g (hg4 g e) with e | e
            · rcases hst.grows g (hgr g e) with e | e
              · exact .inl (.inl e)
              · exact .inr e
            · exact .inr (Nat.le_trans hst.keeps.size (Nat.le_trans hszb e))
          · exact .inl (.inr e)
      rintro e a3 W3 hp
      cases e with
      | normal =>
        obtain ⟨hi3, h3⟩ := hp
        obtain ⟨hr, hl4, hk4, hn4, hm4⟩ := fin none W3 h3
        obtain ⟨hi4, hg4⟩ := hI _ W3 _ hi3 ((Keeps.put W3 (d + 1) (.loop (rec (if (none : Option Code).isNone then .ready else .done) none))).mono fun g e he => hn4 (he ▸ e))
        exact ⟨_, _, hr, .inl ⟨rfl, ⟨hi4, ⟨hl4, hk4⟩, fun e => hn4 (hg4 _ e), fun e => hm4 (hg4 _ e)⟩, stp4 _ W3 h3 hg4⟩⟩
      | ret =>
        obtain ⟨hi3, h3⟩ := hp
        obtain ⟨hr, hl4, hk4, hn4, hm4⟩ := fin (some .ret) W3 h3
        have hK4 := (Keeps.put W3 (d + 1) (.loop (rec (if (some Code.ret).isNone then .ready else .done) (some .ret)))).mono (T := C W3) fun g e he => hn4 (he ▸ e)
        exact ⟨_, _, hr, .inr ⟨rfl, ⟨.ret, (hIx _ _ W3 _ hi3 hK4).1, ⟨hl4, hk4⟩, fun e => hn4 ((hIx _ _ W3 _ hi3 hK4).2 _ e), fun e => hm4 ((hIx _ _ W3 _ hi3 hK4).2 _ e)⟩, stp4 _ W3 h3 (hIx _ _ W3 _ hi3 hK4).2⟩⟩
      | exit id =>
        obtain ⟨hi3, h3⟩ := hp
        obtain ⟨hr, hl4, hk4, hn4, hm4⟩ := fin (some (.exit id)) W3 h3
        have hK4 := (Keeps.put W3 (d + 1) (.loop (rec (if (some (Code.exit id)).isNone then .ready else .done) (some (.exit id))))).mono (T := C W3) fun g e he => hn4 (he ▸ e)
        exact ⟨_, _, hr, .inr ⟨rfl, ⟨.exit id, (hIx _ _ W3 _ hi3 hK4).1, ⟨hl4, hk4⟩, fun e => hn4 ((hIx _ _ W3 _ hi3 hK4).2 _ e), fun e => hm4 ((hIx _ _ W3 _ hi3 hK4).2 _ e)⟩, stp4 _ W3 h3 (hIx _ _ W3 _ hi3 hK4).2⟩⟩
      | goto t =>
        obtain ⟨hi3, h3⟩ := hp
        obtain ⟨hr, hl4, hk4, hn4, hm4⟩ := fin (some (.goto t)) W3 h3
        have hK4 := (Keeps.put W3 (d + 1) (.loop (rec (if (some (Code.goto t)).isNone then .ready else .done) (some (.goto t))))).mono (T := C W3) fun g e he => hn4 (he ▸ e)
        exact ⟨_, _, hr, .inr ⟨rfl, ⟨.goto t, (hIx _ _ W3 _ hi3 hK4).1, ⟨hl4, hk4⟩, fun e => hn4 ((hIx _ _ W3 _ hi3 hK4).2 _ e), fun e => hm4 ((hIx _ _ W3 _ hi3 hK4).2 _ e)⟩, stp4 _ W3 h3 (hIx _ _ W3 _ hi3 hK4).2⟩⟩
      | panic ch => exact hp.elim
      | outgrown => exact hp.elim
    · have := hbw _ e; omega
    · have := hbw _ e; omega
    · -- behind the iterator
      rintro e W2 ⟨⟨v, rfl⟩, (⟨xs, hS, hi, ⟨hl, hk⟩, hnl, hnd⟩ | ⟨pre, hSp, c, hi, ⟨hl, hk⟩, hnl, hnd⟩)⟩
      · refine ⟨none, _, by have := run_endLoop (P := P) hl (by rw [hrec]; simp); rw [hrec] at this; exact this, hdone d xs _ (by omega) hS ?_ (fun e => hnd ((hI xs W2 _ hi ((Keeps.put W2 (d + 1) _).mono fun g e he => hnl (he ▸ e))).2 _ e)) ((World.putObj_heap_other (by omega)).trans hk)⟩
        exact (hI xs W2 _ hi ((Keeps.put W2 (d + 1) _).mono fun g e he => hnl (he ▸ e))).1
      · refine ⟨some c, _, by have := run_endLoop (P := P) hl (by rw [hrec]; simp); rw [hrec] at this; exact this, hstop d c pre _ (by omega) hSp ?_ (fun e => hnd ((hIx c pre W2 _ hi ((Keeps.put W2 (d + 1) _).mono fun g e he => hnl (he ▸ e))).2 _ e)) ((World.putObj_heap_other (by omega)).trans hk)⟩
        exact (hIx c pre W2 _ hi ((Keeps.put W2 (d + 1) _).mono fun g e he => hnl (he ▸ e))).1
theorem SeqC.toD {gf : Nat} {lb : Array Value} {encs : α → Array Value} {Fx : α → World → Prop} {N : Nat → Prop} {S Sp : List α → Prop} {w : World} (h : SeqC F n P gf lb encs Fx N S Sp w) : SeqD F n P gf lb encs Fx N S Sp w := by
  intro l C J Jx W hW hJ hB _ hY h0
  refine h l C J Jx W hW hJ hB (fun m pre x W1 h1 h2 h3 => ?_) h0
  obtain ⟨fn, tm, asg, bd, h4, h5⟩ := hY m pre x W1 h1 h2 h3
  exact ⟨fn, tm, asg, bd, h4, h5.mono fun e W' hh => hh.imp id fun hh => ⟨hh.1, hh.2.1⟩⟩
end
theorem round_round {P : Program} {l f : Nat} {tmps : Array Value} {assign body : Code} {w : World} {R : Ending → World → Prop} (l' m : Nat) {m' : Nat} (h : RoundIn Fence.wide m' P l f tmps assign body w R) : RoundIn (Fence.wide.inRound l') m P l f tmps assign body w R := by
  refine ⟨trivial, fun c cs hr => ?_⟩
  exact h.2 c cs (fun d hd => by cases hd)
theorem vis_sub (t : Tm) : ∀ p q u, (q, u) ∈ vis p t → ∃ r, q = p ++ r ∧ subT t r = some u := by
  refine Tm.ind (P := fun t => ∀ p q u, (q, u) ∈ vis p t → ∃ r, q = p ++ r ∧ subT t r = some u) (fun f xs ih p q u h => ?_) t
  have key : ∀ (ys zs : List Tm), xs = zs ++ ys → (q, u) ∈ visL p zs.length ys → ∃ r, q = p ++ r ∧ subT (.node f xs) r = some u := by
    intro ys
    induction ys with
    | nil => intro zs _ h; simp [visL] at h
    | cons y ys ihy =>
      intro zs hz h
      simp only [visL, List.mem_append] at h
      rcases h with h | h
      · have hy : y ∈ xs := by rw [hz]; simp
        obtain ⟨r, rfl, hr⟩ := ih y hy _ _ _ h
        refine ⟨(zs.length : Int) :: r, by simp, ?_⟩
        have hget : xs[zs.length]? = some y := by rw [hz]; simp
        have hlt := (List.getElem?_eq_some_iff.1 hget).1
        rw [sub_step (t := .node f xs) (i := (zs.length : Int)) (u := y) (by omega) (by show _ < ((xs.length : Nat) : Int); omega) (by simpa [Tm.args] using hget)]
        exact hr
      · exact ihy (zs ++ [y]) (by rw [hz]; simp) (by simpa using h)
  simp only [vis, List.mem_cons] at h
  rcases h with h | h
  · injection h with h1 h2
    exact ⟨[], by simp [h1], by simp [subT, h2]⟩
  · exact key xs [] rfl h
theorem key_sub {t : Tm} {pre : List Vis} {x : Vis} (h : (pre ++ [x]).map Vis.key <+: vis [] t) : subT t x.pos = some x.t ∧ x.pos.length + 1 ≤ t.depth ∧ x.t.size ≤ t.size := by
  have hm := pre_mem h
  obtain ⟨r, hr, hs⟩ := vis_sub t [] x.pos x.t hm
  rw [List.nil_append] at hr
  have hmax := maxP_mem hm
  rw [maxP_vis] at hmax
  subst hr
  refine ⟨hs, ?_, sub_size hs⟩
  simp only [Vis.key, List.length_nil] at hmax
  omega
theorem args_up {w w' : World} {B B' : Nat} {A : Option Addr} {xs : List Tm} (h : Args w B A xs) (hk : ∀ b o v, w.cell? ⟨b, o, none⟩ = some v → w'.cell? ⟨b, o, none⟩ = some v) (hB : B ≤ B') : Args w' B' A xs := by
  induction h with
  | nil A => exact .nil A
  | row b off xs A' c' hb hlen hi h0 h1 _ ih => exact .row b off xs A' c' (by omega) hlen hi (fun i t e => hk _ _ _ (h0 i t e)) (fun i t e => hk _ _ _ (h1 i t e)) ih
theorem ints_up {w w' : World} {B B' : Nat} {A : Option Addr} {l : List Int} (h : Ints w B A l) (hk : ∀ b o v, w.cell? ⟨b, o, none⟩ = some v → w'.cell? ⟨b, o, none⟩ = some v) (hB : B ≤ B') : Ints w' B' A l :=
  ⟨h.len, h.i64, fun hn => by
    obtain ⟨b, off, hA, hlt, hc⟩ := h.ad hn
    exact ⟨b, off, hA, by omega, fun i x hi => hk _ _ _ (hc i x hi)⟩⟩
theorem cell_put {W : World} {l : Nat} {r : Loop} {o : Obj} (hl : W.heap[l]? = some (.loop r)) : ∀ b i v, W.cell? ⟨b, i, none⟩ = some v → (W.putObj l o).cell? ⟨b, i, none⟩ = some v := by
  intro b i v h
  have hne : b ≠ l := fun e => by
    subst e
    simp only [World.cell?, hl] at h
    cases h
  rw [cell_of_heap (World.putObj_heap_other hne)]
  exact h
structure PlI (W3 : World) (by' l : Nat) (C : World → Nat → Prop) (J : List Vis → World → Prop) (xs : List Vis) (Wx : World) : Prop where
  ys : ∃ ys : List Vis, ys.map Vis.key = xs.map Vis.key ∧ J ys Wx
  box : Boxed Wx by' 113 (.func (.yield l) #[] #[])
  nc : ¬ C Wx by'
  big : W3.heap.size ≤ Wx.heap.size
theorem pl_frame {W3 : World} {by' l : Nat} {C : World → Nat → Prop} {J : List Vis → World → Prop} (hJ : FrameC C J) : FrameC (fun W g => C W g ∨ g = by') (PlI W3 by' l C J) := by
  rintro s A B ⟨⟨ys, h1, h2⟩, h3, h4, h5⟩ hk
  have h6 := hJ ys A B h2 (hk.mono fun g e => .inl e)
  exact ⟨⟨⟨ys, h1, h6.1⟩, (hk.block _ (.inr rfl)).trans h3, fun e => h4 (h6.2 _ e), Nat.le_trans h5 hk.size⟩, fun g e => e.elim (fun e => .inl (h6.2 g e)) .inr⟩
theorem pl_bound {W3 : World} {by' l : Nat} {C : World → Nat → Prop} {J : List Vis → World → Prop} (hB : BoundC C J) : BoundC (fun W g => C W g ∨ g = by') (PlI W3 by' l C J) := by
  rintro s A ⟨⟨ys, h1, h2⟩, h3, h4, h5⟩ g (e | rfl)
  · exact hB ys A h2 g e
  · exact h3.lt
theorem pl_step {N : Nat → Prop} {C : World → Nat → Prop} {by' : Nat} {Wx w3 w4 : World} (hB : Below Wx.heap.size Wx w3) (hC : ∀ g, C w3 g → C Wx g) (hst : Stp N C w3 w4) (hN : ∀ g, N g → g < Wx.heap.size) : Stp N (fun W g => C W g ∨ g = by') Wx w4 := by
  refine ⟨((Keeps.of_below hB).mono fun g e => e.elim (hN g) (fun e => e.1)).trans (hst.keeps.mono fun g e => e.imp id fun e => ⟨Nat.lt_of_lt_of_le e.1 hB.size, fun h => e.2 (.inl (hC g h))⟩), fun g e => ?_⟩
  rcases e with e | e
  · rcases hst.grows g e with e | e
    · exact .inl (.inl (hC g e))
    · exact .inr (Nat.le_trans hB.size e)
  · exact .inl (.inr e)
structure VisFxL (lo : Nat) (x : Vis) (W : World) : Prop where
  fx : VisFx x W
  plo : ∀ b off, x.A = some ⟨b, off, none⟩ → lo ≤ b
  alo : ArgsN W (fun g => lo ≤ g ∧ g < W.heap.size) x.A' x.t.args
theorem argsN_up {w w' : World} {N M : Nat → Prop} {A : Option Addr} {xs : List Tm} (h : ArgsN w N A xs) (hk : ∀ b o v, w.cell? ⟨b, o, none⟩ = some v → w'.cell? ⟨b, o, none⟩ = some v) (hB : ∀ g, N g → M g) : ArgsN w' M A xs := by
  induction h with
  | nil A => exact .nil A
  | row b off xs A' c' hb hlen hi h0 h1 _ ih => exact .row b off xs A' c' (hB b hb) hlen hi (fun i t e => hk _ _ _ (h0 i t e)) (fun i t e => hk _ _ _ (h1 i t e)) ih
theorem yield_or {e : Ending} {X Y : Prop} (h : (e = .returned (.bool true) ∧ X) ∨ (e = .returned (.bool false) ∧ Y)) : ∃ b, e = .returned (.bool b) ∧ ((b = true ∧ X) ∨ (b = false ∧ Y)) := by
  rcases h with ⟨h, x⟩ | ⟨h, y⟩
  · exact ⟨true, h, .inl ⟨rfl, x⟩⟩
  · exact ⟨false, h, .inr ⟨rfl, y⟩⟩
set_option maxHeartbeats 2000000 in
theorem places1_seq (m : Nat) (B : Nat) (t : Tm) (A : Option Addr) (c : Nat) (N : Nat → Prop) (w0 : World)
    (hb : w0.heap[B]? = some (.cells #[.int .i64 t.fn, .slice A t.args.length c] 32)) (hf : I64 t.fn) (hA : ArgsN w0 N A t.args) (hN : ∀ g, N g → g < w0.heap.size) (hdp : t.depth ≤ 1099511627776) (hsz : t.size ≤ 4398046511104) :
    SeqD Fence.wide m Tryz.prog 52 #[.pointer (some ⟨B, 0, none⟩)] visEnc (VisFxL w0.heap.size) N (fun xs => xs.map Vis.key = vis [] t) (fun pre => pre.map Vis.key <+: vis [] t) w0 := by
  intro l C J Jx W hW hJ hB hJx hY h0
  have hm : Tryz.prog.follows .mixedOrders = true := by kernel_rfl
  have hBl : B < w0.heap.size := (Array.getElem?_eq_some_iff.1 hb).1
  have hbW : W.heap[B]? = some (.cells #[.int .i64 t.fn, .slice A t.args.length c] 32) := (hW.block B hBl).trans hb
  have hWs := hW.size
  have hAW : ArgsN W N A t.args := hA.keep fun g e => hW.block g (hN g e)
  refine callsIn_of_wp_marks Tryz.func52 rfl trivial ?_ rfl
  simp only [Tryz.ntmps52, List.size_toArray, List.length_cons, List.length_nil, Nat.reduceAdd, Nat.reduceSub, Array.replicate_succ, Array.replicate_zero, List.push_toArray, List.append_toArray, List.nil_append, List.cons_append]
  refine wpIn_wide.2 ?_
  obtain ⟨W2, hW2⟩ : ∃ W2, W.alloc (.cells #[.func (.yield l) #[] #[]] 113) = W2 := ⟨_, rfl⟩
  have hK2 : Keeps (· < W.heap.size) W W2 := by rw [← hW2]; exact Keeps.alloc _ _
  obtain ⟨b0, b1, _, _⟩ := cells_two ((hK2.block B (by show B < W.heap.size; omega)).trans hbW)
  have HW2 := Lib.hid hW2
  clear hW2
  go_upto_region 1 with fail
  rw [HW2.out]
  go_wp2_with (first
    | (go_at_call 53
       refine (walk_any t A c _).mono ?_
       rintro e w1 ⟨rfl, rfl⟩)
    | fail)
  have hz2 : W2.heap.size = W.heap.size + 1 := by rw [← HW2.out]; simp
  obtain ⟨W3, hW3⟩ : ∃ W3, W2.alloc (.cells #[.int .i64 t.fn, .slice A t.args.length c] 32) = W3 := ⟨_, rfl⟩
  have hK3 : Keeps (· < W.heap.size) W W3 := by rw [← hW3]; exact hK2.trans ((Keeps.alloc _ _).mono fun g e => by have e' : g < W.heap.size := e; show g < W2.heap.size; omega)
  have p3 : W3.heap[W2.heap.size]? = some (.cells #[.int .i64 t.fn, .slice A t.args.length c] 32) := by rw [← hW3]; exact heap_alloc_new _ _
  have y3 : Boxed W3 W.heap.size 113 (.func (.yield l) #[] #[]) := by
    have : W2.heap[W.heap.size]? = some (.cells #[.func (.yield l) #[] #[]] 113) := by rw [← HW2.out]; exact heap_alloc_new _ _
    rw [← hW3]
    exact (Below.heap_alloc _ _ _ (by omega)).trans this
  rw [hW3] at ⊢
  clear hW3 HW2 b0 b1
  have hJ3 := hJ [] W W3 h0 (hK3.mono fun g e => hB [] W h0 g e)
  have hnc3 : ¬ C W3 W.heap.size := fun e => Nat.lt_irrefl _ (hB [] W h0 _ (hJ3.2 _ e))
  have hNW : ∀ g, N g → g < W.heap.size := fun g e => Nat.lt_of_lt_of_le (hN g e) hWs
  have hs3 := hK3.size
  refine (wpIn_wide (n := m)).1 ?_
  refine range_lawD (F := Fence.wide) (n := m) (w0 := W3) rfl rfl (gf := 85) (lb := #[.pointer (some ⟨W2.heap.size, 0, none⟩)]) rfl trivial (enters_of Tryz.func85 (by kernel_rfl) rfl)
    (fun m => (walk1_seq Fence.wide rfl trivial trivial rfl m W2.heap.size t A c N W3 p3 hf (hAW.keep fun g e => hK3.block g (hNW g e)) (fun g e => Nat.lt_of_lt_of_le (hNW g e) hs3) hdp).toD)
    (Below.refl _ _) (fun _ => rfl) (fun g e => Nat.lt_of_lt_of_le (hNW g e) hs3)
    (fun Wx g => C Wx g ∨ g = W.heap.size) (PlI W3 W.heap.size l C J) (fun cd xs Wx => cd = .ret ∧ ∃ ys : List Vis, ys.map Vis.key = xs.map Vis.key ∧ Jx ys Wx)
    (pl_frame hJ) (pl_bound hB) ?hIx ⟨⟨[], rfl, hJ3.1⟩, y3, hnc3, Nat.le_refl _⟩
    (fun pre x a' Wx => PlI W3 W.heap.size l C J pre Wx ∧ VisFx x Wx ∧ ∃ Bx, Wx.heap[Bx]? = some (.cells #[.int .i64 x.t.fn, .slice x.A' x.t.args.length x.c'] 32) ∧ a' = { tmps := #[.func (.yield l) #[] #[], .pointer (some ⟨B, 0, none⟩), .pointer (some ⟨W.heap.size, 0, none⟩), .slice x.A x.pos.length x.c, .pointer (some ⟨Bx, 0, none⟩), .agg #[.int .i64 t.fn, .slice A t.args.length c], .func (.func 85) #[] #[.pointer (some ⟨W2.heap.size, 0, none⟩)], .slice x.A x.pos.length x.c, .agg #[.int .i64 x.t.fn, .slice x.A' x.t.args.length x.c'], undef, undef, undef, undef, undef, undef, undef], defers := [] }) ?hAx ?assign ?body ?done ?stop
  case hIx =>
    rintro cd s A' B' ⟨h1, ys, h2, h3⟩ hk
    have h4 := hJx ys A' B' h3 (hk.mono fun g e => .inl e)
    exact ⟨⟨h1, ys, h2, h4.1⟩, fun g e => e.elim (fun e => .inl (h4.2 g e)) .inr⟩
  case hAx =>
    rintro pre x a' Wx l' r o ⟨h1, h2, Bx, hbx, rfl⟩ hl hr hn
    have hK := Keeps.put Wx l' o
    obtain ⟨h5, h6⟩ := pl_frame hJ pre Wx (Wx.putObj l' o) h1 (hK.mono fun g e e' => hn (e' ▸ e))
    exact ⟨h6, h5, ⟨ints_up h2.pos (cell_put hr) (by simp), h2.i64, args_up h2.args (cell_put hr) (by simp)⟩, Bx, put_block hbx hr, rfl⟩
  case assign =>
    rintro l2 m2 pre x Wx K h1 _ hfx hK
    simp only [visEnc]
    gi_wp2
    have hKa := Keeps.alloc Wx (.cells #[.int .i64 x.t.fn, .slice x.A' x.t.args.length x.c'] 32)
    have hbd := pl_bound hB pre Wx h1
    obtain ⟨h5, h6⟩ := pl_frame hJ pre Wx _ h1 (hKa.mono fun g e => hbd g e)
    have hBa : Below Wx.heap.size Wx (Wx.alloc (.cells #[.int .i64 x.t.fn, .slice x.A' x.t.args.length x.c'] 32)) := (Below.refl _ _).alloc (Nat.le_refl _) _
    exact hK _ _ ⟨hKa.mono fun g e => e.elim (fun e => Nat.lt_of_lt_of_le (hNW g e) (Nat.le_trans hs3 h1.big)) (fun e => e.1), fun g e => .inl (h6 g e)⟩ ⟨h5, ⟨hfx.pos.on hBa, hfx.i64, hfx.args.on hBa⟩, Wx.heap.size, heap_alloc_new _ _, by simp⟩
  case body =>
    rintro l2 m2 pre x a' Wx hsp ⟨h1, h2, Bx, hbx, rfl⟩
    obtain ⟨ys, hky, hJy⟩ := h1.ys
    have hcy := Boxed.cell h1.box
    obtain ⟨c0, c1, _, _⟩ := cells_two hbx
    obtain ⟨_, hpl, hxs⟩ := key_sub hsp
    have hId : Hid (Ints Wx.drew Wx.drew.heap.size x.A x.pos) := h2.pos.on (bl_drewN (Below.refl _ _) 1)
    have hAd : Hid (Args Wx.drew Wx.drew.heap.size x.A' x.t.args) := h2.args.drewN 1
    have hx64 := h2.i64
    have hbyl := h1.box.lt
    have hW0x : w0.heap.size ≤ Wx.heap.size := Nat.le_trans hWs (Nat.le_trans hs3 h1.big)
    have hBxl : Bx < Wx.heap.size := (Array.getElem?_eq_some_iff.1 hbx).1
    gi_wp2
    gi_region_with_o (first
      | ((refine ⟨trivial, (fun h => by cases h), ?_⟩); gi_at_call 54; refine (calls_round l2 _ (posClone_any x.pos x.A x.c Wx.drew (by omega) hId.out)).mono ?_; go_must (rintro e w2 ⟨A5, c5, rfl, hI5, hb5, hlo5⟩; have hB5 : Below Wx.heap.size Wx w2 := ⟨hb5.os, hb5.tape, hb5.output, hb5.size, hb5.block⟩; have hcy2 := cell_on hB5 hbyl hcy; have c02 := cell_on hB5 hBxl c0; have c12 := cell_on hB5 hBxl c1; have HI5 := Lib.hid hI5; clear hI5))
      | ((refine ⟨trivial, (fun h => by cases h), ?_⟩); gi_at_call 51; refine (calls_round l2 _ (clone_any x.t (by omega) x.A' x.c' w2 hx64 (hAd.out.on hb5))).mono ?_; go_must (rintro e w3 ⟨A6, c6, rfl, hO6, hb6⟩; have hB6 := bl_step hB5 hb6; have hcy3 := cell_on hB6 hbyl hcy; have HO6 := Lib.hid hO6; clear hO6; have hJ6 := hJ ys Wx w3 hJy ((Keeps.of_below hB6).mono fun g e => hB ys Wx hJy g e); obtain ⟨fnq, tmq, asq, bdq, hyr, hR⟩ := hY 0 ys ⟨x.pos, x.t, A5, c5, A6, c6⟩ w3 hJ6.1 (by rw [List.map_append, hky]; simpa [Vis.key] using hsp) ⟨⟨HI5.out.on hb6, hx64, HO6.out.args (Nat.le_refl _)⟩, fun b off e => Nat.le_trans hW0x (hlo5 b off e), HO6.out.argsN.wide fun g e => ⟨Nat.le_trans (Nat.le_trans hW0x hB5.size) e.1, e.2⟩⟩; simp only [visEnc] at hyr; have HJ6 := Lib.hid hJ6; clear hJ6))
      | ((refine ⟨(fun h => by cases h), (round_round l2 _ hR).mono ?_⟩); go_must (rintro e w4 hor; obtain ⟨bq, rfl, horb⟩ := yield_or hor; clear hor))
      | ((refine ⟨trivial, (fun h => by cases h), (round_round l2 _ hR).mono ?_⟩); go_must (rintro e w4 hor; obtain ⟨bq, rfl, horb⟩ := yield_or hor; clear hor))
      | fail)
    all_goals
      have hkq : (ys ++ [(⟨x.pos, x.t, A5, c5, A6, c6⟩ : Vis)]).map Vis.key = (pre ++ [x]).map Vis.key := by rw [List.map_append, List.map_append, hky]; rfl
      rcases horb with ⟨rfl, hJ7, hst⟩ | ⟨rfl, hJx7, hst⟩
      · have hpl := pl_step (by' := W.heap.size) hB6 HJ6.out.2 hst (fun g e => Nat.lt_of_lt_of_le (hNW g e) (Nat.le_trans hs3 h1.big))
        have hb4 := (hst.keeps.block W.heap.size (.inr ⟨Nat.lt_of_lt_of_le hbyl hB6.size, fun e => h1.nc (HJ6.out.2 _ e)⟩)).trans ((hB6.block _ hbyl).trans h1.box)
        have hn4 : ¬ C w4 W.heap.size := fun e => (hst.grows _ e).elim (fun e => h1.nc (HJ6.out.2 _ e)) (fun e => by have := hB6.size; omega)
        have hbg := Nat.le_trans h1.big (Nat.le_trans hB6.size hst.keeps.size)
        gi_wp2
        exact ⟨⟨⟨_, hkq, hJ7⟩, hb4, hn4, hbg⟩, hpl⟩
      · have hpl := pl_step (by' := W.heap.size) hB6 HJ6.out.2 hst (fun g e => Nat.lt_of_lt_of_le (hNW g e) (Nat.le_trans hs3 h1.big))
        gi_wp2
        exact ⟨⟨rfl, _, hkq, hJx7⟩, hpl⟩
  case done =>
    rintro D xs Wd hD hS ⟨⟨ys, hky, hJy⟩, _, _, _⟩ hnD hK
    have hJd := (hJ ys Wd (Wd.putObj D (.deferred none)) hJy ((Keeps.put Wd D _).mono fun g e e' => hnD (.inl (e' ▸ e)))).1
    have hSy := Lib.hid (hky.trans hS)
    clear hS hky
    go_wp2
    refine ⟨by simp, .inl ⟨_, _, rfl, run_takeDeferred hK, ?_⟩⟩
    exact ⟨.tuple #[], by simp [results, Tryz.results52, go_sem], ⟨_, rfl⟩, .inl ⟨ys, hSy.out, hJd⟩⟩
  case stop =>
    rintro D cd pre Wd hD hpre ⟨rfl, ys, hky, hJy⟩ hnD hK
    have hJd := (hJx ys Wd (Wd.putObj D (.deferred none)) hJy ((Keeps.put Wd D _).mono fun g e e' => hnD (.inl (e' ▸ e)))).1
    have hSy := Lib.hid (show ys.map Vis.key <+: vis [] t by rw [hky]; exact hpre)
    clear hpre hky
    gi_wp2
    refine ⟨by simp, .inl ⟨_, _, rfl, run_takeDeferred hK, ?_⟩⟩
    exact ⟨.tuple #[], by simp [results, Tryz.results52, go_sem], ⟨_, rfl⟩, .inr ⟨ys, hSy.out, hJd⟩⟩
end Go.Proofs.YthgglobfkkcdgaaGreatDoor
namespace Go.Proofs.YthgglobfkkcdgaaGreatDoor
open Go.RowKit
set_option maxRecDepth 20000
set_option maxRecDepth 20000
theorem insGo_ge {v : Int} : ∀ (r : List Int) (d : Bool) (out z : List Int), insGo v r d out = some z → out.length + r.length + (if d then 0 else 1) ≤ z.length
  | [], d, out, z, h => by
    simp only [insGo, Option.some.injEq] at h
    subst h
    cases d <;> simp
  | x :: r, d, out, z, h => by
    simp only [insGo] at h
    by_cases hx : x = v
    · rw [if_pos hx] at h; cases h
    · rw [if_neg hx] at h
      by_cases h2 : v < x ∧ d = false
      · rw [if_pos h2] at h
        have := insGo_ge r true _ z h
        rw [h2.2]
        simp at this ⊢; omega
      · rw [if_neg h2] at h
        have := insGo_ge r d _ z h
        simp at this ⊢; omega
theorem insI_ne (l : List Int) (v : Int) : insI l v ≠ [] := by
  unfold insI
  cases h : insGo v l false [] with
  | none =>
    rw [Option.getD_none]
    intro e
    subst e
    simp [insGo] at h
  | some z =>
    rw [Option.getD_some]
    have := insGo_ge l false [] z h
    intro e
    subst e
    simp at this
theorem fold_ne : ∀ (r l : List Int), r.foldl insI l = [] → r = [] ∧ l = []
  | [], l, h => ⟨rfl, h⟩
  | v :: r, l, h => by
    rw [List.foldl_cons] at h
    exact absurd (fold_ne r _ h).2 (insI_ne l v)
theorem vn_grd : ∀ t : Tm, vn t = [] → grd t := by
  refine Tm.ind fun f xs ih h v hv => ?_
  have key : ∀ ys : List Tm, (∀ y ∈ ys, y ∈ xs) → vnL ys = [] → ofL v ys = 0 := by
    intro ys
    induction ys with
    | nil => intro _ _; rw [ofL]
    | cons y ys ih2 =>
      intro hm hy
      rw [vnL, List.append_eq_nil_iff] at hy
      rw [ofL, ih y (hm y (by simp)) hy.1 v hv, ih2 (fun z hz => hm z (by simp [hz])) hy.2]
  rw [vn, List.append_eq_nil_iff] at h
  have hf : ¬ f < 0 := fun hf => by rw [if_pos hf] at h; simp at h
  rw [ofT, if_neg (by omega), key xs (fun _ h => h) h.2]
theorem set_parts {xs : List Tm} {j : Nat} {x : Tm} (h : xs[j]? = some x) (X : Tm) : xs.set j X = xs.take j ++ X :: xs.drop (j + 1) := by
  rw [List.set_eq_take_append_cons_drop, if_pos (List.getElem?_eq_some_iff.1 h).1]
theorem sizes_two : ∀ xs ys : List Tm, sizes (xs ++ ys) = sizes xs + sizes ys
  | [], ys => by simp [sizes]
  | x :: xs, ys => by rw [List.cons_append, sizes, sizes, sizes_two xs ys]; omega
theorem sizes_set {xs : List Tm} {j : Nat} {x : Tm} (h : xs[j]? = some x) (X : Tm) : sizes (xs.set j X) + x.size = sizes xs + X.size := by
  have h1 : xs.set j x = xs := by
    have hl := (List.getElem?_eq_some_iff.1 h).1
    refine List.ext_getElem? fun i => ?_
    rw [List.getElem?_set]
    by_cases e : j = i
    · subst e; rw [if_pos rfl, if_pos hl, h]
    · rw [if_neg e]
  rw [set_parts h X]
  have h2 := congrArg sizes ((set_parts h x).symm.trans h1)
  rw [sizes_two, sizes] at h2 ⊢
  omega
end Go.Proofs.YthgglobfkkcdgaaGreatDoor
namespace Go.Proofs.YthgglobfkkcdgaaGreatDoor
open Go.RowKit
set_option maxRecDepth 20000
end Go.Proofs.YthgglobfkkcdgaaGreatDoor
namespace Go.Proofs.YthgglobfkkcdgaaGreatDoor
open Go.RowKit Go.Shelf
set_option maxRecDepth 20000
section
variable {sy : List Sm} {o : Odr} (hc : chkO sy o = 0)
include hc
theorem ordV_3L (hl : o.lpo = true) {s t : Tm} (hs : GdT sy s) (ht : GdT sy t) : ordV o s t = 3 ↔ lpT o.prec s t = true := by
  unfold ordV; rw [if_pos hl]; exact cmpP_three (chkO_admL hc) hs ht
theorem ordV_3K (hl : o.lpo = false) {s t : Tm} (hs : GdT sy s) (ht : GdT sy t) : ordV o s t = 3 ↔ abvT o s t = true := by
  unfold ordV; rw [if_neg (by rw [hl]; decide)]; exact cmpR_three (chkO_adm hl hc) hs ht
theorem ord_self {s : Tm} (hs : GdT sy s) : ordV o s s = 2 := (ord_terms hc).self hs
theorem ord_turn {s t : Tm} (hs : GdT sy s) (ht : GdT sy t) : ordV o t s = turnI (ordV o s t) := (ord_terms hc).turn hs ht
theorem ord_trans {s t u : Tm} (hs : GdT sy s) (ht : GdT sy t) (hu : GdT sy u) (h1 : ordV o s t = 3) (h2 : ordV o t u = 3) : ordV o s u = 3 := (ord_terms hc).trans hs ht hu h1 h2
theorem ord_tot {s t : Tm} (hs : GdT sy s) (ht : GdT sy t) (g1 : grd s) (g2 : grd t) : ¬ ordV o s t = 0 := by
  have key : cmpT s t = 0 ∨ ordV o s t = 3 ∨ ordV o t s = 3 := by
    cases h : o.lpo with
    | true =>
      rw [ordV_3L hc h hs ht, ordV_3L hc h ht hs]
      rcases lp_tot (chkO_admL hc) _ s t (Nat.le_refl _) hs.wf ht.wf g1 g2 with rfl | h | h
      · exact .inl (cmp_zero_iff.2 rfl)
      · exact .inr (.inl h)
      · exact .inr (.inr h)
    | false =>
      rw [ordV_3K hc h hs ht, ordV_3K hc h ht hs]
      exact abv_tot (chkO_adm h hc) s t hs ht g1 g2
  intro e
  rcases key with h | h | h
  · rw [(ordV_two hc hs ht).2 h] at e; cases e
  · rw [h] at e; cases e
  · have := ord_turn hc hs ht
    rw [h, e] at this
    exact absurd this (by decide)
theorem ord_arg {f : Int} {xs : List Tm} {x : Tm} (h : GdT sy (.node f xs)) (hx : x ∈ xs) : ordV o (.node f xs) x = 3 := by
  have hg : GdT sy x := Gd.arg h hx
  cases hl : o.lpo with
  | true => rw [ordV_3L hc hl h hg]; exact lp_sub (wf_vn _ h.wf) hx (.inl rfl)
  | false => rw [ordV_3K hc hl h hg]; exact abv_arg (chkO_adm hl hc) x f xs h hx
theorem ord_set {f : Int} {xs : List Tm} {i : Nat} {x y : Tm} (hx : xs[i]? = some x) (h : GdT sy (.node f xs)) (h2 : GdT sy (.node f (xs.set i y))) (hy : GdT sy y) (e : ordV o x y = 3) : ordV o (.node f xs) (.node f (xs.set i y)) = 3 := by
  have hg : GdT sy x := Gd.arg h (List.mem_of_getElem? hx)
  have e1 : xs = xs.take i ++ x :: xs.drop (i + 1) := by
    have h1 := set_parts hx x
    have h2 : xs.set i x = xs := by
      refine List.ext_getElem? fun j => ?_
      rw [List.getElem?_set]
      split
      · rename_i hij; subst hij; split
        · exact hx.symm
        · rename_i hn; exact absurd (List.getElem?_eq_some_iff.1 hx).1 hn
      · rfl
    rwa [h2] at h1
  have e2 := set_parts hx y
  rw [e2] at h2 ⊢
  have h1' := h
  rw [e1] at h1'
  rw [show ordV o (.node f xs) (.node f (xs.take i ++ y :: xs.drop (i + 1))) = ordV o (.node f (xs.take i ++ x :: xs.drop (i + 1))) (.node f (xs.take i ++ y :: xs.drop (i + 1))) by rw [← e1]]
  cases hl : o.lpo with
  | true =>
    rw [ordV_3L hc hl h1' h2]
    exact lp_within (wf_vn _ h1'.wf) ((ordV_3L hc hl hg hy).1 e)
  | false =>
    rw [ordV_3K hc hl h1' h2]
    exact abv_within (chkO_adm hl hc) h1' h2 ((ordV_3K hc hl hg hy).1 e)
theorem ordV_app {s : List Bd} {x y : Tm} (_hs : ∀ b ∈ s, GdT sy b.t ∧ b.t.size ≤ 30) (hx : GdT sy x) (hy : GdT sy y) (px : GdT sy (appT (bdT s) x)) (py : GdT sy (appT (bdT s) y)) (e : ordV o x y = 3) : ordV o (appT (bdT s) x) (appT (bdT s) y) = 3 := by
  have := (tm_app (s := s) hc hx hy px py).2
  rw [tmI_eq hc hx hy, tmI_eq hc px py] at this
  exact this e
end
theorem gd_set {sy : List Sm} {f : Int} {xs : List Tm} {i : Nat} {x y : Tm} (hx : xs[i]? = some x) (h : GdT sy (.node f xs)) (hy : GdT sy y) (h0 : (Tm.node f xs).size + y.size ≤ 2147483) : GdT sy (.node f (xs.set i y)) := by
  refine ⟨?_, ?_⟩
  · have h1 := h.wf
    rw [wfT, Bool.and_eq_true] at h1 ⊢
    refine ⟨by rw [List.length_set]; exact h1.1, ?_⟩
    have h2 := h1.2
    have h3 := hy.wf
    clear h0 h h1 hy
    induction xs generalizing i with
    | nil => simpa using h2
    | cons z zs ih =>
      rw [wfL, Bool.and_eq_true] at h2
      cases i with
      | zero => simp only [List.set_cons_zero, wfL, Bool.and_eq_true]; exact ⟨h3, h2.2⟩
      | succ j =>
        simp only [List.set_cons_succ, wfL, Bool.and_eq_true]
        exact ⟨h2.1, ih (by simpa using hx) h2.2⟩
  · have := sizes_set hx y
    rw [Tm.size] at h0 ⊢
    omega
mutual
theorem app_sz30 {l : List Bd} (hl : ∀ x ∈ l, x.t.size ≤ 30) : ∀ t : Tm, (appT (bdT l) t).size ≤ 30 * t.size
  | .node f xs => by
    rw [appT]
    cases hb : (if f < 0 then bdT l (-1 - f) else none) with
    | none =>
      have := app_szL30 hl xs
      simp only [Option.getD_none, Tm.size]; omega
    | some t =>
      split at hb
      · obtain ⟨x, hx, rfl⟩ := find_mem hb
        have := hl x hx
        simp only [Option.getD_some, Tm.size]; omega
      · cases hb
theorem app_szL30 {l : List Bd} (hl : ∀ x ∈ l, x.t.size ≤ 30) : ∀ xs : List Tm, sizes (appL (bdT l) xs) ≤ 30 * sizes xs
  | [] => by simp [appL, sizes]
  | t :: ts => by
    have h1 := app_sz30 hl t
    have h2 := app_szL30 hl ts
    rw [appL, sizes, sizes]; omega
end
theorem app_gd {sy : List Sm} {l : List Bd} (hl : ∀ b ∈ l, GdT sy b.t ∧ b.t.size ≤ 30) {t : Tm} (ht : GdT sy t) (hz : t.size ≤ 1000) : GdT sy (appT (bdT l) t) :=
  ⟨app_wf (fun b hb => (hl b hb).1.wf) t ht.wf, by have := app_sz30 (fun b hb => (hl b hb).2) t; omega⟩
end Go.Proofs.YthgglobfkkcdgaaGreatDoor
namespace Go.Proofs
end Go.Proofs
namespace Go.Proofs.YthgglobfkkcdgaaGreatDoor
open Go.RowKit Go.Shelf
attribute [local go_sem] Oper.semAt_some
set_option maxRecDepth 100000
end Go.Proofs.YthgglobfkkcdgaaGreatDoor
namespace Go.Proofs.YthgglobfkkcdgaaGreatDoor
open Go.RowKit
set_option maxRecDepth 100000
structure On (w w' : World) : Prop where
  b : Below w.heap.size w w'
  d : w.drawn ≤ w'.drawn
theorem On.refl (w : World) : On w w := ⟨Below.refl _ _, Nat.le_refl _⟩
theorem On.trans {a b c : World} (h : On a b) (k : On b c) : On a c := ⟨h.b.trans (k.b.mono h.b.size), Nat.le_trans h.d k.d⟩
theorem On.alloc {a w : World} (h : On a w) (o : Obj) : On a (w.alloc o) := ⟨h.b.alloc h.b.size o, h.d⟩
theorem On.drew {a w : World} (h : On a w) : On a w.drew := ⟨h.b.drew, Nat.le_succ_of_le h.d⟩
theorem On.grown {w w' : World} (h : On w w') : ∃ q os', w' = Sort.grow (w.drewN q) os' := by
  obtain ⟨⟨h1, h2, h3, h4, h5⟩, h6⟩ := h
  refine ⟨w'.drawn - w.drawn, w'.heap.extract w.heap.size w'.heap.size, ?_⟩
  have hh : w'.heap = w.heap ++ w'.heap.extract w.heap.size w'.heap.size := by
    apply Array.ext_getElem?
    intro k
    rcases Nat.lt_or_ge k w.heap.size with hk | hk
    · rw [Array.getElem?_append_left hk]; exact h5 k hk
    · rw [Array.getElem?_append_right hk, Array.getElem?_extract]
      split
      · congr 1; omega
      · rw [Array.getElem?_eq_none]; omega
  have hd : w'.drawn = w.drawn + (w'.drawn - w.drawn) := by omega
  cases w'
  cases w
  simp only [Sort.grow, World.drewN] at *
  subst h1 h2 h3
  rw [← hh, ← hd]
theorem append_drawn {P : Program} (w : World) (base : Nat) (t ty e : TypeId) (i : TypeInfo) (z : Value) (size bytes : Nat) (ht : P.underlying t = some (.slice e)) (hi : P.info? e = some i) (hz : i.zero = some z)
    (hsize : i.size = size) (hby : i.bytes = bytes)
    (v : Value) (n : Nat) (xs : List Value) (hown : w.ownsRow base e size v n xs)
    (a : Addr) (m c : Nat) (news : List Value) (hl : news.length = m * size) (hnews : ∀ j u, news[j]? = some u → w.cell? (a.add j) = some u) (h1 : ∀ u ∈ news, u.oneCell' = true)
    (hm : 0 < m) (h63 : n + m ≤ maxLen) (hbytes : (n + m) * bytes ≤ 140737488355328) {v' : Value} {w' : World} (hr : (Builtin.append_ #[t, t] ty #[v, .slice (some a) m c]).run P w = .ok v' w') : w.drawn ≤ w'.drawn := by
  subst hsize hby
  have hsmall : n + m ≤ 9223372036854775807 := by simp only [maxLen] at h63; omega
  rcases hown.2 with ⟨rfl, rfl⟩ | ⟨g, cap, cur, rfl, hbg, hg, hnc, hcm, hcs, htake⟩
  · have h := run_append_nil (P := P) w t ty e i z ht hi hz a m c news hl hnews (by omega) (by omega) (by have hb := hbytes; simp only [Nat.zero_add] at hb; omega)
    rw [h] at hr
    obtain ⟨-, rfl⟩ := Result.ok.inj hr
    show w.drawn ≤ w.drawn + 1
    omega
  · by_cases hroom : n + m ≤ cap
    · have hfit : n * i.size + news.length ≤ cur.size := by rw [hl, hcs, ← Nat.add_mul]; exact Nat.mul_le_mul_right _ hroom
      have h := run_append_room (P := P) w t ty e i ht hi g n cap cur hg a m c news hl hnews h1 hroom hfit
      rw [h] at hr
      obtain ⟨-, rfl⟩ := Result.ok.inj hr
      exact Nat.le_refl _
    · have holds : ∀ j u, xs[j]? = some u → w.cell? ((⟨g, 0, none⟩ : Addr).add j) = some u := hown.cells (g := g) rfl
      have h := run_append_grow (P := P) w t ty e i z ht hi hz ⟨g, 0, none⟩ n cap xs hown.1 holds a m c news hl hnews (by omega) (by omega) (growslice_fits (by omega) hbytes)
      rw [h] at hr
      obtain ⟨-, rfl⟩ := Result.ok.inj hr
      show w.drawn ≤ w.drawn + 1
      omega
theorem wpList_append_d {P : Program} {w : World} {ops : Array Oper} {rest : List Oper} {o : Oper} {a : Act} {Q : Exit → Act → World → Prop}
    (hg : o.guard = none) (s x : Operand) (t : TypeId) (hop : o.op = Op.call { callee := Callee.builtin Builtin.append, args := #[s, x], argTypes := #[t, t] })
    (base : Nat) (e : TypeId) (i : TypeInfo) (z : Value) (size bytes : Nat) (h1 : P.underlying t = some (.slice e)) (h2 : P.info? e = some i) (h3 : i.zero = some z) (h4 : i.size = size) (h5 : i.bytes = bytes) (h6 : z.cells.size = size) (h7 : 0 < size)
    (v : Value) (k : Nat) (xs : List Value) (hs : a.eval s = v) (hown : w.ownsRow base e size v k xs) (ad : Addr) (m c : Nat) (news : List Value) (hx : a.eval x = .slice (some ad) m c) (hn : news.length = m * size)
    (hc : ∀ j u, news[j]? = some u → w.cell? (ad.add j) = some u) (h1c : ∀ u ∈ news, u.oneCell' = true) (b1 : k + m ≤ maxLen) (b2 : (k + m) * bytes ≤ 140737488355328) (b3 : base ≤ w.heap.size) (hm : 0 < m)
    (hK : ∀ v' w', w'.ownsRow base e size v' (k + m) (xs ++ news) → w.grownBy w' v.ownBlock → (v'.ownBlock = v.ownBlock ∨ v'.ownBlock = some w.heap.size) → w.drawn ≤ w'.drawn → wpList P ops Q rest (a.put o.dst v') w') : wpList P ops Q (o :: rest) a w :=
  wpList_plain hg fun K hKK => by
    obtain ⟨v', w', hrun, r1, r2, _, r4⟩ := run_append_own_at (P := P) w base t o.type e i z size bytes h1 h2 h3 h4 h5 h6 h7 v k xs hown ad m c news hn hc h1c b1 b2 b3
    have r5 := append_drawn (P := P) w base t o.type e i z size bytes h1 h2 h3 h4 h5 v k xs hown ad m c news hn hc h1c hm b1 b2 hrun
    unfold Oper.wp
    simp [execOp, hop, resolve, invoke, builtin, hs, hx, hrun, Result.andThen]
    exact hKK _ _ (hK _ _ r1 r2 r4 r5)
structure LatD (W : World) where
  w : World
  h : On W w
instance (W : World) : Nonempty (LatD W) := ⟨⟨W, On.refl _⟩⟩
theorem wp_region_latD {P : Program} {id : Nat} {Q : Exit → Act → World → Prop} {a : Act} {w : World} {l : List Oper} (W : World) (hm : P.follows .mixedOrders = true) (hB : Region.lexB .any l.toArray = true) (h0 : On W w.drew)
    (h : wpQuiet P l.toArray (fun w' => ∃ x : LatD W, w' = x.w) (fun a' => ∀ w', (∃ x : LatD W, w' = x.w) → Q .normal a' w') l a) : (Code.region id l.toArray true).wp P Q a w :=
  wp_region_quiet (C := fun w' => ∃ x : LatD W, w' = x.w) hm hB ⟨⟨_, h0⟩, rfl⟩ (by simpa using h)
theorem calls_latD {P : Program} {f : FuncId} {args : Array Value} {W : World} {v : Value} (x : LatD W) (h : Calls P f args x.w fun e w' => e = .returned v ∧ On x.w w') :
    Calls P f args x.w fun e w' => e = .returned v ∧ ∃ y : LatD W, w' = y.w :=
  h.mono fun _ _ ⟨he, hb⟩ => ⟨he, ⟨_, x.h.trans hb⟩, rfl⟩
theorem LatD.cell {W : World} (x : LatD W) {g o : Nat} {v : Value} (h : W.cell? ⟨g, o, none⟩ = some v) : x.w.cell? ⟨g, o, none⟩ = some v := (World.cell?_of_block (x.h.b.block g (World.block_lt_of_cell? W _ h))).trans h
end Go.Proofs.YthgglobfkkcdgaaGreatDoor
namespace Go.Proofs.YthgglobfkkcdgaaGreatDoor
open Go.RowKit
set_option maxRecDepth 100000
def unI (a : Int) : Int := if a = 1 then 1 else 0
def orI : List Int → Int
  | [] => 0
  | x :: xs => if x ≠ 0 then x else orI xs
def arP (l : List Sm) (f : Nat) : Int := ((l[f]?).map (·.arity)).getD 0
def cnP (n : List Int) (f : Nat) : Int := n.getD f 0
def byR (l : List Sm) (n : List Int) (b : Int) (f g : Nat) : Int :=
  if b = 0 then numI f g
  else if b = 1 then orI [numI (arP l f) (arP l g), numI f g]
  else if b = 2 then orI [numI (unI (arP l f)) (unI (arP l g)), numI (arP l f) (arP l g), numI f g]
  else if b = 3 then orI [numI (cnP n f) (cnP n g), numI f g]
  else orI [numI (cnP n g) (cnP n f), numI f g]
def kyR (l : List Sm) (n : List Int) (b : Int) (f : Nat) : Int :=
  if b = 1 then arP l f else if b = 2 then (if arP l f = 1 then 100 else arP l f) else if b = 3 then cnP n f else if b = 4 then - cnP n f else 0
def abvR (l : List Sm) (n : List Int) (b : Int) (i k : Nat) : Bool := decide (kyR l n b k < kyR l n b i ∨ (kyR l n b i = kyR l n b k ∧ k < i))
theorem orI_num {a b : Int} {r : Int} : (if numI a b ≠ 0 then numI a b else r) < 0 ↔ (a < b ∨ (a = b ∧ r < 0)) := by
  unfold numI
  repeat' split
  all_goals omega
theorem orI_one (x : Int) : orI [x] = x := by
  unfold orI; split
  · rfl
  · simp only [orI]; omega
theorem numI_neg {a b : Int} : numI a b < 0 ↔ a < b := by
  unfold numI
  repeat' split
  all_goals omega
theorem orI_two {a b x : Int} : orI [numI a b, x] < 0 ↔ (a < b ∨ (a = b ∧ x < 0)) := by
  rw [orI, orI_one]; exact orI_num
theorem orI_three {a b c d x : Int} : orI [numI a b, numI c d, x] < 0 ↔ (a < b ∨ (a = b ∧ (c < d ∨ (c = d ∧ x < 0)))) := by
  rw [orI]; rw [orI_num, orI_two]
theorem byR_abv {l : List Sm} {n : List Int} {b : Int} (h0 : 0 ≤ b) (h4 : b ≤ 4) (hA : ∀ f, arP l f ≤ 99) (f g : Nat) : byR l n b f g < 0 ↔ abvR l n b g f = true := by
  have hf := hA f
  have hg := hA g
  have hb : b = 0 ∨ b = 1 ∨ b = 2 ∨ b = 3 ∨ b = 4 := by omega
  unfold abvR
  rw [decide_eq_true_iff]
  rcases hb with rfl | rfl | rfl | rfl | rfl
  · simp only [byR, kyR, if_pos]
    rw [numI_neg]; simp
  · simp only [byR, kyR]
    rw [if_neg (by decide), if_pos (by decide), orI_two, numI_neg]
    simp only [if_true]
    omega
  · have e : ∀ f, kyR l n 2 f = if arP l f = 1 then 100 else arP l f := fun f => by simp [kyR]
    rw [e, e]
    unfold byR
    rw [if_neg (by decide), if_neg (by decide), if_pos (by decide), orI_three, numI_neg]
    unfold unI
    repeat' split
    all_goals omega
  · simp only [byR, kyR]
    rw [if_neg (by decide), if_neg (by decide), if_neg (by decide), if_pos (by decide), orI_two, numI_neg, if_neg (by decide), if_neg (by decide), if_pos (by decide), if_neg (by decide), if_neg (by decide), if_pos (by decide)]
    omega
  · simp only [byR, kyR]
    rw [if_neg (by decide), if_neg (by decide), if_neg (by decide), if_neg (by decide), orI_two, numI_neg, if_neg (by decide), if_neg (by decide), if_neg (by decide), if_pos (by decide), if_neg (by decide), if_neg (by decide), if_neg (by decide), if_pos (by decide)]
    omega
theorem abvR_irr (l : List Sm) (n : List Int) (b : Int) (i : Nat) : abvR l n b i i = false := by
  unfold abvR; rw [decide_eq_false_iff_not]; omega
theorem abvR_asym {l : List Sm} {n : List Int} {b : Int} {i k : Nat} (h : abvR l n b i k = true) : abvR l n b k i = false := by
  unfold abvR at *; rw [decide_eq_false_iff_not]; rw [decide_eq_true_iff] at h; omega
theorem abvR_trans {l : List Sm} {n : List Int} {b : Int} {i k j : Nat} (h : abvR l n b i k = true) (h' : abvR l n b k j = true) : abvR l n b i j = true := by
  unfold abvR at *; rw [decide_eq_true_iff] at *; omega
theorem abvR_tot {l : List Sm} {n : List Int} {b : Int} {i k : Nat} (h : abvR l n b i k = false) (hne : i ≠ k) : abvR l n b k i = true := by
  unfold abvR at *; rw [decide_eq_true_iff]; rw [decide_eq_false_iff_not] at h; omega
theorem countP_rise {up : Nat → Nat → Bool} (irr : ∀ a, up a a = false) (asym : ∀ a b, up a b = true → up b a = false) :
    ∀ {s : List Nat}, s.Pairwise (fun a b => up b a = true) → ∀ {j : Nat} {x : Nat}, s[j]? = some x → s.countP (fun k => up x k) = j
  | [], _, _, _, h => by simp at h
  | a :: t, hp, 0, x, h => by
    simp only [List.getElem?_cons_zero, Option.some.injEq] at h; subst h
    rw [List.countP_eq_zero]
    intro k hk
    rcases List.mem_cons.1 hk with rfl | hk
    · simp [irr]
    · simp [asym _ _ ((List.pairwise_cons.1 hp).1 k hk)]
  | a :: t, hp, j + 1, x, h => by
    rw [List.getElem?_cons_succ] at h
    have hx : x ∈ t := List.mem_of_getElem? h
    rw [List.countP_cons, countP_rise irr asym (List.pairwise_cons.1 hp).2 h, if_pos ((List.pairwise_cons.1 hp).1 x hx)]
def rnkR (l : List Sm) (n : List Int) (b : Int) (m i : Nat) : Nat := if i = 0 then 0 else 1 + (List.range' 1 (m - 1)).countP fun k => decide (k ≠ i) && abvR l n b i k
theorem rnkR_eq (l : List Sm) (n : List Int) (b : Int) (m : Nat) {i : Nat} (hi : i ≠ 0) : rnkR l n b m i = 1 + (List.range' 1 (m - 1)).countP (fun k => abvR l n b i k) := by
  unfold rnkR; rw [if_neg hi]
  congr 1
  apply List.countP_congr
  intro k _
  by_cases h : k = i
  · subst h; simp [abvR_irr]
  · simp [h]
theorem rnkR_at {l : List Sm} {n : List Int} {b : Int} {m : Nat} {s : List Nat} (hp : s.Perm (List.range' 1 (m - 1))) (hs : s.Pairwise fun f g => abvR l n b g f = true) {j x : Nat} (hx : s[j]? = some x) : rnkR l n b m x = j + 1 := by
  have h1 : x ≠ 0 := by
    have := hp.mem_iff.1 (List.mem_of_getElem? hx)
    rw [List.mem_range'_1] at this; omega
  rw [rnkR_eq _ _ _ _ h1, ← hp.countP_eq, countP_rise (fun a => abvR_irr l n b a) (fun _ _ => abvR_asym) hs hx]; omega
theorem rnkR_lt {l : List Sm} {n : List Int} {b : Int} {m : Nat} {s : List Nat} (hp : s.Perm (List.range' 1 (m - 1))) (hs : s.Pairwise fun f g => abvR l n b g f = true) (hm : 0 < m) {i : Nat} (hi : i < m) : rnkR l n b m i < m := by
  by_cases h : i = 0
  · subst h; simpa [rnkR] using hm
  · have : i ∈ s := hp.mem_iff.2 (List.mem_range'_1.2 ⟨by omega, by omega⟩)
    obtain ⟨j, hj⟩ := List.mem_iff_getElem?.1 this
    rw [rnkR_at hp hs hj]
    have := (List.getElem?_eq_some_iff.1 hj).1
    have := hp.length_eq
    rw [List.length_range'] at this
    omega
end Go.Proofs.YthgglobfkkcdgaaGreatDoor
namespace Go.Proofs.YthgglobfkkcdgaaGreatDoor
open Go.RowKit
set_option maxRecDepth 100000
theorem getD_el {l : List Int} {j : Nat} (h : j < l.length) : l.getD j 0 = l[j] := by
  rw [List.getD_eq_getElem?_getD, List.getElem?_eq_getElem h]; rfl
theorem rankB_iff {p : List Int} : rankB p p.length = true ↔ (∀ i, 0 < i → i < p.length → p.getD 0 0 < p.getD i 0) ∧ p.Nodup := by
  unfold rankB List.Nodup
  rw [Bool.and_eq_true, List.all_eq_true, List.pairwise_iff_getElem]
  constructor
  · rintro ⟨-, h⟩
    have hb : ∀ i, i < p.length → badR p i = false := fun i hi => by simpa using h i (List.mem_range.2 hi)
    refine ⟨fun i h0 hi => ?_, fun i j hi hj hij he => ?_⟩
    · apply Classical.byContradiction
      intro hc
      have := badR_first h0 (by omega : p.getD i 0 ≤ p.getD 0 0)
      rw [hb i hi] at this; exact absurd this (by decide)
    · have := badR_same (p := p) hij (by rw [getD_el hi, getD_el hj]; exact he.symm)
      rw [hb j hj] at this; exact absurd this (by decide)
  · rintro ⟨h1, h2⟩
    refine ⟨by simp, fun i hi => ?_⟩
    have hi := List.mem_range.1 hi
    rw [badR_no]
    · rfl
    · rintro ⟨h0, hle⟩; have := h1 i h0 hi; omega
    · intro j hj
      rw [decide_eq_false_iff_not, getD_el hi, getD_el (show j < p.length by omega)]
      exact fun e => h2 j i (by omega) hi hj e.symm
end Go.Proofs.YthgglobfkkcdgaaGreatDoor
namespace Go.Proofs.YthgglobfkkcdgaaGreatDoor
open Go.RowKit
set_option maxRecDepth 100000
theorem rows_exist (l : List Sm) (n : List Int) (b : Int) (m : Nat) : ∃ s : List Nat, s.Perm (List.range' 1 (m - 1)) ∧ s.Pairwise fun f g => abvR l n b g f = true := by
  refine ⟨(List.range' 1 (m - 1)).mergeSort (fun f g => !abvR l n b f g), List.mergeSort_perm _ _, ?_⟩
  have h1 : ((List.range' 1 (m - 1)).mergeSort (fun f g => !abvR l n b f g)).Pairwise (fun f g => (!abvR l n b f g) = true) := by
    refine List.pairwise_mergeSort ?_ ?_ _
    · intro x y z h1 h2
      rw [Bool.not_eq_true'] at *
      apply Classical.byContradiction
      intro h3
      have h3 : abvR l n b x z = true := by simpa using h3
      by_cases hxy : x = y
      · subst hxy; rw [h2] at h3; exact absurd h3 (by decide)
      · have := abvR_trans (abvR_tot h1 hxy) h3
        rw [h2] at this; exact absurd this (by decide)
    · intro x y
      rw [Bool.or_eq_true, Bool.not_eq_true', Bool.not_eq_true']
      cases h : abvR l n b x y
      · exact .inl rfl
      · exact .inr (abvR_asym h)
  have h2 : ((List.range' 1 (m - 1)).mergeSort (fun f g => !abvR l n b f g)).Nodup := (List.mergeSort_perm _ _).nodup_iff.2 (List.nodup_range' (step := 1))
  exact (h1.and h2).imp fun ⟨a, c⟩ => abvR_tot (by simpa using a) c
theorem rnkR_inj {l : List Sm} {n : List Int} {b : Int} {m i k : Nat} (hi : i < m) (hk : k < m) (h : rnkR l n b m i = rnkR l n b m k) : i = k := by
  obtain ⟨s, hp, hs⟩ := rows_exist l n b m
  have zero : ∀ x, x < m → rnkR l n b m x = 0 → x = 0 := by
    intro x hx h0
    apply Classical.byContradiction
    intro hne
    rw [rnkR_eq _ _ _ _ hne] at h0; omega
  by_cases h0 : i = 0
  · subst h0
    rw [show rnkR l n b m 0 = 0 from rfl] at h
    exact (zero k hk h.symm).symm
  · by_cases k0 : k = 0
    · subst k0
      rw [show rnkR l n b m 0 = 0 from rfl] at h
      exact zero i hi h
    · obtain ⟨j, hj⟩ := List.mem_iff_getElem?.1 (hp.mem_iff.2 (List.mem_range'_1.2 ⟨(by omega : 1 ≤ i), by omega⟩))
      obtain ⟨j', hj'⟩ := List.mem_iff_getElem?.1 (hp.mem_iff.2 (List.mem_range'_1.2 ⟨(by omega : 1 ≤ k), by omega⟩))
      rw [rnkR_at hp hs hj, rnkR_at hp hs hj'] at h
      obtain rfl : j = j' := by omega
      rw [hj] at hj'
      exact Option.some.inj hj'
theorem rnkR_top (l : List Sm) (n : List Int) (b : Int) {m : Nat} (hm : 0 < m) : ∃ i, i < m ∧ rnkR l n b m i = m - 1 := by
  obtain ⟨s, hp, hs⟩ := rows_exist l n b m
  have hlen := hp.length_eq
  rw [List.length_range'] at hlen
  by_cases h1 : m = 1
  · subst h1; exact ⟨0, by omega, rfl⟩
  · have hl : m - 2 < s.length := by omega
    have hx : s[m - 2]? = some s[m - 2] := List.getElem?_eq_getElem hl
    have := hp.mem_iff.1 (List.mem_of_getElem? hx)
    rw [List.mem_range'_1] at this
    exact ⟨s[m - 2], by omega, by rw [rnkR_at hp hs hx]; omega⟩
theorem rnkR_less (l : List Sm) (n : List Int) (b : Int) {m i : Nat} (hi : i < m) : rnkR l n b m i < m := by
  obtain ⟨s, hp, hs⟩ := rows_exist l n b m
  exact rnkR_lt hp hs (by omega) hi
def rkLs (l : List Sm) (n : List Int) (b : Int) (m : Nat) : List Int := (List.range m).map fun i => (rnkR l n b m i : Int)
theorem rkL_len (l : List Sm) (n : List Int) (b : Int) (m : Nat) : (rkLs l n b m).length = m := by simp [rkLs]
theorem rkL_get {l : List Sm} {n : List Int} {b : Int} {m i : Nat} (hi : i < m) : (rkLs l n b m)[i]? = some (rnkR l n b m i : Int) := by
  unfold rkLs; rw [List.getElem?_map, List.getElem?_range hi]; rfl
theorem rkL_getD {l : List Sm} {n : List Int} {b : Int} {m i : Nat} (hi : i < m) : (rkLs l n b m).getD i 0 = (rnkR l n b m i : Int) := by
  rw [List.getD_eq_getElem?_getD, rkL_get hi]; rfl
theorem rkL_high {l : List Sm} {n : List Int} {b : Int} {m h i : Nat} (hh : h < m) (ht : rnkR l n b m h = m - 1) (hi : i < m) : highB (rkLs l n b m) i = decide (i = h) := by
  by_cases he : i = h
  · subst he
    rw [decide_eq_true rfl]
    refine highB_yes fun j hj => ?_
    rw [rkL_len] at hj
    unfold overI
    rw [Bool.and_eq_false_iff]; right
    rw [decide_eq_false_iff_not, rkL_getD hi, rkL_getD hj]
    have := rnkR_less l n b hj
    omega
  · rw [decide_eq_false he]
    refine highB_no (k := h) (by rw [rkL_len]; exact hh) ?_
    unfold overI
    rw [Bool.and_eq_true, decide_eq_true_iff, decide_eq_true_iff, rkL_getD hi, rkL_getD hh]
    have := rnkR_less l n b hi
    have hne : rnkR l n b m i ≠ rnkR l n b m h := fun e => he (rnkR_inj hi hh e)
    exact ⟨fun e => he e.symm, by omega⟩
theorem rkL_idx {l : List Sm} {n : List Int} {b : Int} {m h : Nat} (hh : h < m) (ht : rnkR l n b m h = m - 1) : Lib.idxOf (rkLs l n b m) ((m : Int) - 1) = h := by
  have := Lib.idxOf_hit (rkLs l n b m) (rkLs l n b m).length h ((m : Int) - 1) (by rw [rkL_len]; exact hh) (Nat.le_refl _) (by rw [rkL_getD hh, ht]; omega) (fun j hj => by
    rw [rkL_getD (by omega)]
    intro e
    have : j = h := rnkR_inj (by omega) hh (by rw [ht]; omega)
    omega)
  rwa [List.take_length] at this
def wgX (l : List Sm) (n : List Int) (w : Int) (rk : List Int) (i : Nat) : Int := if w = 1 then arP l i + 1 else if w = 2 then rk.getD i 0 + 1 else if w = 3 then cnP n i + 1 else 1
def wtR (l : List Sm) (n : List Int) (w : Int) (top : Bool) (rk : List Int) (i : Nat) : Int :=
  min (if top = true ∧ arP l i = 1 ∧ highB rk i = true then 0 else if i = 0 then 1 else wgX l n w rk i) 1000
def wtL (l : List Sm) (n : List Int) (w : Int) (top : Bool) (rk : List Int) : List Int := (List.range rk.length).map (wtR l n w top rk)
theorem wtL_len (l : List Sm) (n : List Int) (w : Int) (top : Bool) (rk : List Int) : (wtL l n w top rk).length = rk.length := by simp [wtL]
theorem wtL_get {l : List Sm} {n : List Int} {w : Int} {top : Bool} {rk : List Int} {i : Nat} (hi : i < rk.length) : (wtL l n w top rk)[i]? = some (wtR l n w top rk i) := by
  unfold wtL; rw [List.getElem?_map, List.getElem?_range hi]; rfl
def wtP (l : List Sm) (n : List Int) (w : Int) (top : Bool) (rk : List Int) (h : Nat) : List Int :=
  let a := (((List.range rk.length).map fun i => min (wgX l n w rk i) 1000).set 0 1)
  if top = true ∧ arP l h = 1 then a.set h 0 else a
theorem wtP_eq {l : List Sm} {n : List Int} {b : Int} {m h : Nat} (hh : h < m) (ht : rnkR l n b m h = m - 1) (w : Int) (top : Bool) : wtP l n w top (rkLs l n b m) h = wtL l n w top (rkLs l n b m) := by
  apply List.ext_getElem?
  intro i
  have hm := rkL_len l n b m
  rcases Nat.lt_or_ge i m with hi | hi
  · rw [wtL_get (by rw [hm]; exact hi)]
    have hb : ((List.range (rkLs l n b m).length).map fun i => min (wgX l n w (rkLs l n b m) i) 1000)[i]? = some (min (wgX l n w (rkLs l n b m) i) 1000) := by
      rw [List.getElem?_map, List.getElem?_range (by rw [hm]; exact hi)]; rfl
    have ha : (((List.range (rkLs l n b m).length).map fun i => min (wgX l n w (rkLs l n b m) i) 1000).set 0 1)[i]? = some (if i = 0 then 1 else min (wgX l n w (rkLs l n b m) i) 1000) := by
      rw [List.getElem?_set]
      by_cases hi0 : 0 = i
      · subst hi0; simp [hm, hi]
      · rw [if_neg hi0, hb, if_neg (fun e => hi0 e.symm)]
    unfold wtP wtR
    rw [rkL_high hh ht hi]
    by_cases hc : top = true ∧ arP l h = 1
    · simp only [if_pos hc]
      rw [List.getElem?_set]
      by_cases hih : h = i
      · subst hih
        rw [if_pos rfl, if_pos (by simp [hm, hi]), if_pos ⟨hc.1, hc.2, by simp⟩]; rfl
      · have hno : ¬ (top = true ∧ arP l i = 1 ∧ decide (i = h) = true) := fun e => hih (of_decide_eq_true e.2.2).symm
        rw [if_neg hih, ha, if_neg hno]
        by_cases hi0 : i = 0
        · rw [if_pos hi0, if_pos hi0]; rfl
        · rw [if_neg hi0, if_neg hi0]
    · simp only [if_neg hc]
      have hno : ¬ (top = true ∧ arP l i = 1 ∧ decide (i = h) = true) := fun e => hc ⟨e.1, by rw [← of_decide_eq_true e.2.2]; exact e.2.1⟩
      rw [ha, if_neg hno]
      by_cases hi0 : i = 0
      · rw [if_pos hi0, if_pos hi0]; rfl
      · rw [if_neg hi0, if_neg hi0]
  · rw [List.getElem?_eq_none (by unfold wtP; split <;> simp [hm, hi]), List.getElem?_eq_none (by rw [wtL_len, hm]; exact hi)]
end Go.Proofs.YthgglobfkkcdgaaGreatDoor
namespace Go.Proofs.YthgglobfkkcdgaaGreatDoor
open Go.RowKit
set_option maxRecDepth 100000
theorem cmpN_any (a b : Int) (w : World) :
    Calls Tryz.prog 57 #[.int .i64 a, .int .i64 b] w fun e w' => e = .returned (.int .i64 (numI a b)) ∧ w = w' := by
  go_enter Tryz.func57, Tryz.ntmps57
  go_wp2
  all_goals
    go_ret
    first
      | exact ⟨ret_int (numI_lt (by omega)).symm, rfl⟩
      | exact ⟨ret_int (numI_gt (by omega)).symm, rfl⟩
      | exact ⟨ret_int (numI_eq (by omega) (by omega)).symm, rfl⟩
end Go.Proofs.YthgglobfkkcdgaaGreatDoor
namespace Go.Proofs.YthgglobfkkcdgaaGreatDoor
open Go.RowKit
set_option maxRecDepth 100000
end Go.Proofs.YthgglobfkkcdgaaGreatDoor
