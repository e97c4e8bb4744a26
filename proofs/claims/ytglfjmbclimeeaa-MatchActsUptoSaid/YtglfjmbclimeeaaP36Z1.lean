import Derived.Test.YtglfjmbclimeeaaP35Z3
import Derived.Test.YtglfjmbclimeeaaP35Z1
import Derived.Test.YtglfjmbclimeeaaP35Z2
import Derived.Test.YtglfjmbclimeeaaP35Z4
import Derived.ChangeSlices
/- The document's own answer: Vars. -/

namespace Go.Proofs.Ytglfjmbclimeeaa

open Go.RowKit
set_option maxRecDepth 100000

theorem insI_len (l : List Int) (v : Int) : (insI l v).length ≤ l.length + 1 := by
  have key : ∀ (r : List Int) (d : Bool) (out z : List Int), insGo v r d out = some z → z.length ≤ out.length + r.length + (if d then 0 else 1) := by
    intro r
    induction r with
    | nil =>
      intro d out z h
      simp only [insGo, Option.some.injEq] at h
      subst h
      cases d <;> simp
    | cons x r ih =>
      intro d out z h
      simp only [insGo] at h
      split at h
      · cases h
      · split at h
        · rename_i h2
          have := ih _ _ _ h
          simp only [h2.2, List.length_append, List.length_cons, List.length_nil] at this ⊢
          simp at this ⊢
          omega
        · have := ih _ _ _ h
          simp only [List.length_append, List.length_cons, List.length_nil] at this ⊢
          omega
  unfold insI
  cases h : insGo v l false [] with
  | none => simp
  | some z => have := key _ _ _ _ h; simp at this ⊢; omega

theorem insGo_i64 {v : Int} (hv : I64 v) : ∀ (r : List Int) (d : Bool) (out z : List Int), (∀ x ∈ r, I64 x) → (∀ x ∈ out, I64 x) → insGo v r d out = some z → ∀ x ∈ z, I64 x
  | [], d, out, z, hr, ho, h => by
    simp only [insGo, Option.some.injEq] at h
    subst h
    cases d
    · simp only [Bool.false_eq_true, if_false, List.mem_append, List.mem_cons, List.not_mem_nil, or_false]
      rintro x (hx | rfl)
      · exact ho x hx
      · exact hv
    · simpa using ho
  | y :: r, d, out, z, hr, ho, h => by
    have hy := hr y (by simp)
    have hr' : ∀ x ∈ r, I64 x := fun x hx => hr x (by simp [hx])
    simp only [insGo] at h
    split at h
    · cases h
    · split at h
      · refine insGo_i64 hv r _ _ z hr' ?_ h
        simp only [List.mem_append, List.mem_cons, List.not_mem_nil, or_false]
        rintro x ((hx | rfl) | rfl)
        · exact ho x hx
        · exact hv
        · exact hy
      · refine insGo_i64 hv r _ _ z hr' ?_ h
        simp only [List.mem_append, List.mem_cons, List.not_mem_nil, or_false]
        rintro x (hx | rfl)
        · exact ho x hx
        · exact hy

theorem insI_i64 {l : List Int} {v : Int} (hl : ∀ x ∈ l, I64 x) (hv : I64 v) : ∀ x ∈ insI l v, I64 x := by
  unfold insI
  cases h : insGo v l false [] with
  | none => simpa using hl
  | some z => simpa using insGo_i64 hv l _ _ z hl (by simp) h

def InsPost (l : List Int) (w : World) (e : Ending) (w' : World) : Prop := ∃ v, e = .returned v ∧ IntsV w' v l ∧ Below w.heap.size w w'

set_option maxHeartbeats 2000000 in
theorem ref2Insert_any (l : List Int) (v : Int) (A : Option Addr) (c : Nat) (w : World) (hlen : l.length ≤ 4398046511104) (hv : I64 v) (hA : Ints w w.heap.size A l) :
    Calls Try.prog 79 #[.slice A l.length c, .int .i64 v] w (InsPost (insI l v) w) := by
  obtain ⟨i0, hi, hz0, hz1, hz2⟩ := info_parts infoInt
  have h64 := hA.i64
  go_enter Try.func79, Try.ntmps79
  go_wp2
  go_loopw [5, 6, 7] (fun o d i wr => ∃ (k : Nat) (dn : Bool) (out : List Int), k ≤ l.length ∧ i = .int .i64 (k : Int) ∧ d = .bool dn ∧ wr.ownsRow w.heap.size 3 1 o out.length (out.map (Value.int .i64)) ∧ Below w.heap.size w wr ∧ Hid (insGo v l false [] = insGo v (l.drop k) dn out ∧ out.length ≤ k + (if dn = true then 1 else 0) ∧ ∀ x ∈ out, I64 x)) (fun _ _ i _ => l.length - (intOf i).toNat)
  case atStart => exact ⟨0, false, [], Nat.zero_le _, rfl, rfl, by simpa using World.ownsRow_nil w _ _ _, Below.refl _ _, rfl, by simp, by simp⟩
  case round =>
    obtain ⟨k, dn, out, hk, rfl, rfl, hrow, hBr, H⟩ := hrel
    by_cases hkl : k < l.length
    · obtain ⟨x, hx⟩ : ∃ x, l[k]? = some x := ⟨_, List.getElem?_eq_getElem hkl⟩
      obtain ⟨pb, po, rfl, hpb, hpc⟩ := hA.ad (by omega)
      have pw := hpc _ _ hx
      have p0 := cell_on hBr hpb pw
      have hdrop : l.drop k = x :: l.drop (k + 1) := by
        rw [List.drop_eq_getElem_cons hkl]
        rw [List.getElem?_eq_getElem hkl] at hx
        injection hx with hx
        rw [hx]
      have hxi := h64 x (List.mem_of_getElem? hx)
      have hrl := row_lt hrow
      have hBrs := hBr.size
      have hol0 := H.out.2.1
      have hol : out.length ≤ k + 1 := by split at hol0 <;> omega
      clear hx hpc
      by_cases e : x = v
      · have hn : insI l v = l := by
          unfold insI
          rw [H.out.1, hdrop]
          simp only [insGo, if_pos e, Option.getD_none]
        have hn := Lib.hid hn
        go_wp2
        go_ret
        exact ⟨.slice (some ⟨pb, po, none⟩) l.length c, rfl, ⟨some ⟨pb, po, none⟩, c, by rw [hn.out], by rw [hn.out]; exact hA.on hBr⟩, hBr⟩
      · have Hd := Lib.hid hdrop
        clear hdrop
        by_cases hd : v < x ∧ dn = false
        · obtain ⟨hvx, rfl⟩ := hd
          have hgo : insGo v l false [] = insGo v (l.drop (k + 1)) true (out ++ [v] ++ [x]) := by
            rw [H.out.1, Hd.out]
            simp only [insGo, if_neg e]
            rw [if_pos ⟨hvx, by trivial⟩]
          have hgo := Lib.hid hgo
          go_wp2_with (first
            | (at_builtin
               refine wpList_append_own _ rfl _ _ 53 rfl w.heap.size 3 i0 (.int .i64 0) 1 8 Try.underlying53 hi hz0 hz1 hz2 rfl (by decide) _ out.length _ rfl (hrow.alloc _) ⟨wr.heap.size, 0, none⟩ 1 1 [.int .i64 v] rfl rfl (cell_one_new _ _ _) (by simp [Value.oneCell']) (by unfold maxLen; omega) (by omega) (by simp; omega) ?_
               go_must (
               intro v1 w1 hown1 hgr1 _
               have hB1 : Below w.heap.size w w1 := (hBr.alloc hBrs _).grown hgr1 (by simp; omega) fun g hg => (hrl g hg).1
               have p1 := cell_on hB1 hpb pw
               have hB1s := hB1.size
               clear hgr1))
            | (at_builtin
               go_must (
               refine wpList_append_own _ rfl _ _ 53 rfl w.heap.size 3 i0 (.int .i64 0) 1 8 Try.underlying53 hi hz0 hz1 hz2 rfl (by decide) _ (out.length + 1) _ rfl (hown1.alloc _) ⟨w1.heap.size, 0, none⟩ 1 1 [.int .i64 x] rfl rfl (cell_one_new _ _ _) (by simp [Value.oneCell']) (by unfold maxLen; omega) (by omega) (by simp; omega) ?_
               intro v2 w2 hown2 hgr2 _
               have hB2 : Below w.heap.size w w2 := (hB1.alloc hB1s _).grown hgr2 (by simp; omega) fun g hg => (row_lt hown1 g hg).1
               clear hgr2))
            | fail)
          refine ⟨⟨k + 1, true, out ++ [v] ++ [x], by omega, by go_num, rfl, ?_, hB2, hgo.out, by simp at hol0 ⊢; omega, ?_⟩, by simp [intOf]; omega⟩
          · simpa [List.map_append] using hown2
          · simp only [List.mem_append, List.mem_cons, List.not_mem_nil, or_false]
            rintro y ((hy | rfl) | rfl)
            · exact H.out.2.2 y hy
            · exact hv
            · exact hxi
        · have hgo : insGo v l false [] = insGo v (l.drop (k + 1)) dn (out ++ [x]) := by
            rw [H.out.1, Hd.out]
            simp only [insGo, if_neg e]
            rw [if_neg hd]
          have hgo := Lib.hid hgo
          have hfin : ∀ (w2 : World) (v2 : Value), w2.ownsRow w.heap.size 3 1 v2 (out.length + 1) (out.map (Value.int .i64) ++ [.int .i64 x]) → w2.ownsRow w.heap.size 3 1 v2 (out ++ [x]).length ((out ++ [x]).map (Value.int .i64)) := fun w2 v2 h => by simpa [List.map_append] using h
          have hxs : ∀ y ∈ out ++ [x], I64 y := by
            simp only [List.mem_append, List.mem_cons, List.not_mem_nil, or_false]
            rintro y (hy | rfl)
            · exact H.out.2.2 y hy
            · exact hxi
          by_cases hvx : v < x
          · have hdt : dn = true := by
              cases dn
              · exact absurd ⟨hvx, rfl⟩ hd
              · rfl
            subst hdt
            clear hd
            go_wp2_with (first
              | (at_builtin
                 go_must (
                 refine wpList_append_own _ rfl _ _ 53 rfl w.heap.size 3 i0 (.int .i64 0) 1 8 Try.underlying53 hi hz0 hz1 hz2 rfl (by decide) _ out.length _ rfl (hrow.alloc _) ⟨wr.heap.size, 0, none⟩ 1 1 [.int .i64 x] rfl rfl (cell_one_new _ _ _) (by simp [Value.oneCell']) (by unfold maxLen; omega) (by omega) (by simp; omega) ?_
                 intro v2 w2 hown2 hgr2 _
                 have hB2 : Below w.heap.size w w2 := (hBr.alloc hBrs _).grown hgr2 (by simp; omega) fun g hg => (hrl g hg).1
                 clear hgr2))
              | fail)
            exact ⟨⟨k + 1, true, out ++ [x], by omega, by go_num, rfl, hfin _ _ hown2, hB2, hgo.out, by simp at hol0 ⊢; omega, hxs⟩, by simp [intOf]; omega⟩
          · clear hd
            go_wp2_with (first
              | (at_builtin
                 go_must (
                 refine wpList_append_own _ rfl _ _ 53 rfl w.heap.size 3 i0 (.int .i64 0) 1 8 Try.underlying53 hi hz0 hz1 hz2 rfl (by decide) _ out.length _ rfl (hrow.alloc _) ⟨wr.heap.size, 0, none⟩ 1 1 [.int .i64 x] rfl rfl (cell_one_new _ _ _) (by simp [Value.oneCell']) (by unfold maxLen; omega) (by omega) (by simp; omega) ?_
                 intro v2 w2 hown2 hgr2 _
                 have hB2 : Below w.heap.size w w2 := (hBr.alloc hBrs _).grown hgr2 (by simp; omega) fun g hg => (hrl g hg).1
                 clear hgr2))
              | fail)
            exact ⟨⟨k + 1, dn, out ++ [x], by omega, by go_num, rfl, hfin _ _ hown2, hB2, hgo.out, by rw [List.length_append]; simp only [List.length_cons, List.length_nil]; omega, hxs⟩, by simp [intOf]; omega⟩
    · obtain rfl : k = l.length := by omega
      have hrl := row_lt hrow
      have hBrs := hBr.size
      have hol0 := H.out.2.1
      have hol : out.length ≤ l.length + 1 := by split at hol0 <;> omega
      cases dn with
      | true =>
        have hn : insI l v = out := by
          unfold insI
          rw [H.out.1, List.drop_length]
          simp [insGo]
        have HN := Lib.hid hn
        clear hn
        go_wp2
        go_ret
        exact ⟨u5, rfl, by rw [HN.out]; exact row_ints hrow (by omega) H.out.2.2, hBr⟩
      | false =>
        have hn : insI l v = out ++ [v] := by
          unfold insI
          rw [H.out.1, List.drop_length]
          simp [insGo]
        have HN := Lib.hid hn
        clear hn
        go_wp2_with (first
          | (at_builtin
             go_must (
             refine wpList_append_own _ rfl _ _ 53 rfl w.heap.size 3 i0 (.int .i64 0) 1 8 Try.underlying53 hi hz0 hz1 hz2 rfl (by decide) _ out.length _ rfl (hrow.alloc _) ⟨wr.heap.size, 0, none⟩ 1 1 [.int .i64 v] rfl rfl (cell_one_new _ _ _) (by simp [Value.oneCell']) (by unfold maxLen; omega) (by omega) (by simp; omega) ?_
             intro v2 w2 hown2 hgr2 _
             have hB2 : Below w.heap.size w w2 := (hBr.alloc hBrs _).grown hgr2 (by simp; omega) fun g hg => (hrl g hg).1
             clear hgr2))
          | fail)
        go_ret
        refine ⟨v2, rfl, ?_, hB2⟩
        rw [HN.out]
        refine row_ints (by simpa [List.map_append] using hown2) (by simp; omega) ?_
        simp only [List.mem_append, List.mem_cons, List.not_mem_nil, or_false]
        rintro y (hy | rfl)
        · exact H.out.2.2 y hy
        · exact hv

end Go.Proofs.Ytglfjmbclimeeaa

/- The document's own answer: Vars, by Join. -/

namespace Go.Proofs.Ytglfjmbclimeeaa

open Go.RowKit
set_option maxRecDepth 100000

theorem fold_len : ∀ (r l : List Int), (r.foldl insI l).length ≤ l.length + r.length
  | [], l => by simp
  | v :: r, l => by
    have h1 := fold_len r (insI l v)
    have h2 := insI_len l v
    simp only [List.foldl_cons, List.length_cons]
    omega

theorem vnL_le (xs : List Tm) (k : Nat) : (vnL (xs.take k)).length ≤ (vnL xs).length := by
  have := congrArg List.length (vnL_app (xs.take k) (xs.drop k))
  rw [List.take_append_drop, List.length_append] at this
  omega

def RJoin (t : Tm) : Prop := ∀ (l : List Int), l.length + (vn t).length ≤ 4398046511104 → ∀ (Al A : Option Addr) (cl c : Nat) (w : World), I64 t.fn → Ints w w.heap.size Al l → Args w w.heap.size A t.args →
  Calls Try.prog 52 #[.slice Al l.length cl, .agg #[.int .i64 t.fn, .slice A t.args.length c]] w (InsPost ((vn t).foldl insI l) w)

set_option maxHeartbeats 2000000 in
theorem ref2Join_any (t : Tm) : RJoin t := by
  refine Tm.ind (P := RJoin) (fun f xs ih => ?_) t
  intro l hl Al A cl c w hf hI hA
  simp only [Tm.fn, Tm.args] at hf hA ⊢
  have hlen := hA.len
  obtain ⟨W, hW⟩ : ∃ W, w.alloc (.cells #[.int .i64 f, .slice A xs.length c] 31) = W := ⟨_, rfl⟩
  obtain ⟨hB, hlt, hS⟩ := box_term hW
  have HW := Lib.hid hW
  have hI' := Lib.hid (hI.on hB)
  obtain ⟨x0, x1⟩ := hS W (Below.refl _ _)
  -- what stands in the row as the loop begins
  obtain ⟨l0, hl0, hv, hl0l⟩ : ∃ l0, l0 = (if f < 0 then insI l (-1 - f) else l) ∧ (vn (.node f xs)).foldl insI l = (vnL xs).foldl insI l0 ∧ l0.length + (vnL xs).length ≤ 4398046511104 := by
    refine ⟨_, rfl, ?_, ?_⟩
    · simp only [vn]
      by_cases h : f < 0
      · simp [h]
      · simp [h]
    · simp only [vn] at hl
      by_cases h : f < 0
      · have := insI_len l (-1 - f)
        simp [h] at hl ⊢; omega
      · simp [h] at hl ⊢; omega
  have Hv := Lib.hid hv
  clear hW hv hI
  by_cases hf0 : f < 0
  · rw [if_pos hf0] at hl0
    have h64 : I64 (-1 - f) := ⟨by have := hf.1; omega, by have := hf.1; omega⟩
    have hf1 := hf.1
    have Hl0 := Lib.hid hl0
    clear hl0
    go_enter Try.func52, Try.ntmps52
    go_upto_region 1 with fail
    rw [HW.out]
    go_wp2_with (first
      | (go_at_call 79
         go_must (
         refine (ref2Insert_any l (-1 - f) Al cl W (by omega) h64 hI'.out).mono ?_
         rintro e w1 ⟨v1, rfl, hv1, hb1⟩
         rw [← Hl0.out] at hv1))
      | fail)
    go_loopw [0, 5] (fun o i wr => ∃ (k : Nat) (r : List Int), k ≤ xs.length ∧ i = .int .i64 (k : Int) ∧ IntsV wr o r ∧ Below W.heap.size W wr ∧ Hid (r = (vnL (xs.take k)).foldl insI l0)) (fun _ i _ => xs.length - (intOf i).toNat)
    case atStart => exact ⟨0, l0, Nat.zero_le _, rfl, hv1, hb1, Lib.hid (by simp [vnL])⟩
    case round =>
      obtain ⟨k, r, hk, rfl, ⟨Ar, cr, rfl, hIr⟩, hBr, Hr⟩ := hrel
      obtain ⟨_, z1⟩ := hS _ hBr
      by_cases hkl : k < xs.length
      · obtain ⟨u, hu⟩ : ∃ u, xs[k]? = some u := ⟨_, List.getElem?_eq_getElem hkl⟩
        obtain ⟨bb, off, A1, c1, rfl, ha⟩ := (hA.on (hB.trans (hBr.mono hB.size))).get hu
        have e0 := ha.c0
        have e1 := ha.c1
        have hmem := List.mem_of_getElem? hu
        have hsub := Lib.hid ha.sub
        have hu64 := ha.hi
        have hvk := vnL_take hu
        have hIr' := Lib.hid hIr
        have hrl : r.length + (vn u).length ≤ 4398046511104 := by
          have h1 := fold_len (vnL (xs.take k)) l0
          have h2 := vnL_le xs (k + 1)
          rw [hvk, List.length_append] at h2
          rw [← Hr.out] at h1
          omega
        have hVk := Lib.hid hvk
        clear hu ha hvk hIr
        go_wp2_with (first
          | (go_at_call 52
             go_must (
             refine (ih u hmem r hrl Ar A1 cr c1 wr hu64 hIr'.out hsub.out).mono ?_
             rintro e w2 ⟨v2, rfl, hv2, hb2⟩))
          | fail)
        exact ⟨⟨k + 1, _, by omega, by go_num, hv2, hBr.trans (hb2.mono hBr.size), Lib.hid (by rw [hVk.out, List.foldl_append, ← Hr.out])⟩, by simp [intOf]; omega⟩
      · obtain rfl : k = xs.length := by omega
        have Hf := Lib.hid (show (vn (.node f xs)).foldl insI l = r by rw [Hv.out, Hr.out, List.take_length])
        clear Hv Hr
        go_wp2
        go_ret
        exact ⟨.slice Ar r.length cr, rfl, by rw [Hf.out]; exact ⟨Ar, cr, rfl, hIr⟩, hB.trans (hBr.mono hB.size)⟩
  · rw [if_neg hf0] at hl0
    subst hl0
    go_enter Try.func52, Try.ntmps52
    go_upto_region 1 with fail
    rw [HW.out]
    go_wp2
    go_loopw [0, 5] (fun o i wr => ∃ (k : Nat) (r : List Int), k ≤ xs.length ∧ i = .int .i64 (k : Int) ∧ IntsV wr o r ∧ Below W.heap.size W wr ∧ Hid (r = (vnL (xs.take k)).foldl insI l0)) (fun _ i _ => xs.length - (intOf i).toNat)
    case atStart => exact ⟨0, l0, Nat.zero_le _, rfl, ⟨Al, cl, rfl, hI'.out⟩, Below.refl _ _, Lib.hid (by simp [vnL])⟩
    case round =>
      obtain ⟨k, r, hk, rfl, ⟨Ar, cr, rfl, hIr⟩, hBr, Hr⟩ := hrel
      obtain ⟨_, z1⟩ := hS _ hBr
      by_cases hkl : k < xs.length
      · obtain ⟨u, hu⟩ : ∃ u, xs[k]? = some u := ⟨_, List.getElem?_eq_getElem hkl⟩
        obtain ⟨bb, off, A1, c1, rfl, ha⟩ := (hA.on (hB.trans (hBr.mono hB.size))).get hu
        have e0 := ha.c0
        have e1 := ha.c1
        have hmem := List.mem_of_getElem? hu
        have hsub := Lib.hid ha.sub
        have hu64 := ha.hi
        have hvk := vnL_take hu
        have hIr' := Lib.hid hIr
        have hrl : r.length + (vn u).length ≤ 4398046511104 := by
          have h1 := fold_len (vnL (xs.take k)) l0
          have h2 := vnL_le xs (k + 1)
          rw [hvk, List.length_append] at h2
          rw [← Hr.out] at h1
          omega
        have hVk := Lib.hid hvk
        clear hu ha hvk hIr
        go_wp2_with (first
          | (go_at_call 52
             go_must (
             refine (ih u hmem r hrl Ar A1 cr c1 wr hu64 hIr'.out hsub.out).mono ?_
             rintro e w2 ⟨v2, rfl, hv2, hb2⟩))
          | fail)
        exact ⟨⟨k + 1, _, by omega, by go_num, hv2, hBr.trans (hb2.mono hBr.size), Lib.hid (by rw [hVk.out, List.foldl_append, ← Hr.out])⟩, by simp [intOf]; omega⟩
      · obtain rfl : k = xs.length := by omega
        have Hf := Lib.hid (show (vn (.node f xs)).foldl insI l0 = r by rw [Hv.out, Hr.out, List.take_length])
        clear Hv Hr
        go_wp2
        go_ret
        exact ⟨.slice Ar r.length cr, rfl, by rw [Hf.out]; exact ⟨Ar, cr, rfl, hIr⟩, hB.trans (hBr.mono hB.size)⟩

theorem ref2Vars_any (t : Tm) (A : Option Addr) (c : Nat) (w : World) (hf : I64 t.fn) (hl : t.size ≤ 4398046511104) (hA : Args w w.heap.size A t.args) :
    Calls Try.prog 30 #[.agg #[.int .i64 t.fn, .slice A t.args.length c]] w (InsPost ((vn t).foldl insI []) w) := by
  have hB : Below w.heap.size w (w.alloc (.cells #[.int .i64 t.fn, .slice A t.args.length c] 31)) := (Below.refl _ _).alloc (Nat.le_refl _) _
  have hN := fun w1 => (⟨by simp, by simp, fun h => by simp at h⟩ : Ints w1 w1.heap.size none [])
  have hvl := vn_len t
  go_enter Try.func30, Try.ntmps30
  go_wp2_with (first
    | (go_at_call 52
       go_must (
       refine (ref2Join_any t [] (by simp; omega) none A 0 c _ hf (hN _) (hA.on hB)).mono ?_
       rintro e w1 ⟨v1, rfl, hv1, hb1⟩
       have hB1 := bl_step hB hb1))
    | fail)
  go_ret
  exact ⟨v1, rfl, hv1, hB1⟩

end Go.Proofs.Ytglfjmbclimeeaa

/- match: what a match makes, walked: the law MatchMakes. -/

namespace Go.Proofs.Ytglfjmbclimeeaa

open Go.RowKit Go.Shelf
set_option maxRecDepth 100000

theorem app_plain {g : Int → Tm} (a : Tm) : plainT a = true → (∀ v, plainT (g v) = true) → plainT (appT (fun v => some (g v)) a) = true := by
  refine Tm.ind (P := fun a => plainT a = true → (∀ v, plainT (g v) = true) → plainT (appT (fun v => some (g v)) a) = true) (fun f xs ih => ?_) a
  intro hp hg
  by_cases hf : f < 0
  · rw [app_var' _ hf]; exact hg _
  · rw [app_node _ hf, plainT, plainL_eq, Bool.and_eq_true, List.all_eq_true]
    refine ⟨fun t ht => ?_, by simp; omega⟩
    obtain ⟨u, hu, rfl⟩ := List.mem_map.1 ht
    exact ih u hu (plain_args hp u hu) hg

theorem mk_val {p u : Tm} {M : List Bd} (h : wkT p [] u = some M) : MOk M ∧ appT (bdT (substM M)) p = u := by
  obtain ⟨hp, hu, hm⟩ := mat_plain h
  have hok := ((wk_mt p [] u .nil_).ext _ h).1
  refine ⟨hok, ?_⟩
  have ha := (mt_app p hp [] u M hm).app []
  rw [List.append_nil] at ha
  rw [app_val_fn _ p hp]
  rw [app_val_fn _ p hp] at ha
  rw [← ha]
  congr 1
  funext v
  rw [substM_val hok]

theorem mk_of (z : List Bd) (p : Tm) (hp : plainT p = true) (hz : ∀ x ∈ z, plainT x.t = true) : ∃ M, wkT p [] (appT (bdT z) p) = some M ∧ ∀ v ∈ vn p, val (substM M) v = val z v := by
  have hx : appT (bdT z) p = appT (fun v => some (val z v)) p := app_val_fn z p hp
  obtain ⟨M, hM, hg⟩ := mt_of (val z) p hp [] (fun x hx => by simp at hx)
  have hpx : plainT (appT (bdT z) p) = true := by rw [hx]; exact app_plain p hp (val_plain hz)
  rw [← hx] at hM
  have hw : wkT p [] (appT (bdT z) p) = some M := by rw [mat_mt hp hpx]; exact hM
  refine ⟨M, hw, fun v hv => ?_⟩
  rw [substM_val (mk_val hw).1]
  have hs := (mt_app p hp [] _ M hM).all v hv
  unfold val
  unfold bdT at hs ⊢
  rcases hf : findB M v with _ | x
  · rw [hf] at hs; simp at hs
  · obtain ⟨h1, h2⟩ := findB_mem hf
    have := hg x h1
    rw [h2] at this
    simp only [Option.map_some, Option.getD_some]
    rw [this]; rfl

theorem mk_size {p u : Tm} {M : List Bd} (h : wkT p [] u = some M) : ∀ x ∈ substM M, x.t.size ≤ u.size := fun x hx => by
  rcases wk_sz p [] u M h x (substM_mem hx).1 with h | h
  · simp at h
  · exact h

theorem mk_vars {p u : Tm} {M : List Bd} (h : wkT p [] u = some M) : M.length ≤ p.size := by
  have := ((wk_mt p [] u .nil_).ext _ h).2.2
  simpa using this

/-- A term of the call's own, as it lies. -/
def GotT (t : Tm) (w : World) (e : Ending) (w' : World) : Prop := ∃ A c, e = .returned (.agg #[.int .i64 t.fn, .slice A t.args.length c]) ∧ I64 t.fn ∧ Args w' w'.heap.size A t.args ∧ Below w.heap.size w w'

theorem apply_got (l : List Bd) (A : Option Addr) (c : Nat) (t : Tm) (At : Option Addr) (ct : Nat) (w : World) (hsz : t.size ≤ 4398046511104) (hl : l.length ≤ 4611686018427387904) (hA : Binds w (· < w.heap.size) A l) (hr : Rise l) (hsm : ∀ x ∈ l, x.t.size ≤ 4398046511104) (hf : I64 t.fn) (hT : Args w w.heap.size At t.args) :
    Calls Try.prog 28 #[.slice A l.length c, .agg #[.int .i64 t.fn, .slice At t.args.length ct]] w (GotT (appT (bdT l) t) w) :=
  (apply_any l A c t At ct w hsz hl hA hr hsm hf hT).mono fun _ _ ⟨A', c', he, h1, h2, h3⟩ => ⟨A', c', he, h1, (h2.argsN.wide fun _ e => e.2).args fun _ e => e, h3⟩

theorem refApply_got (l : List Bd) (hsm : ∀ x ∈ l, x.t.size ≤ 4398046511104) (t : Tm) (hsz : t.size ≤ 4398046511104) (B : Option Addr) (cb : Nat) (A : Option Addr) (c : Nat) (w : World) (hB : Binds w (· < w.heap.size) B l) (hf : I64 t.fn) (hA : Args w w.heap.size A t.args) :
    Calls Try.prog 29 #[.slice B l.length cb, .agg #[.int .i64 t.fn, .slice A t.args.length c]] w (GotT (appT (bdT l) t) w) := by
  refine (refApply_any l hsm t hsz B cb A c w hB hf hA).mono ?_
  rintro e w' ⟨v, l', rfl, hl, hR, hb⟩
  have hlen := appT_args hsm (t := t) hA.len
  have hll : l'.length = (appT (bdT l) t).args.length := by rw [← hl, List.length_map]
  obtain ⟨A', c', hv, hA'⟩ := hR.argsN (M := (· < w'.heap.size)) (by omega) (fun g e => (row_lt hR.row g e).2) (fun g e => e.2.1)
  rw [hl] at hA'
  rw [hll] at hv
  subst hv
  exact ⟨A', c', rfl, appT_fn64 hB hf, hA'.args fun g e => e, hb⟩

theorem binds_on {w w1 : World} {A : Option Addr} {l : List Bd} (h : Binds w (· < w.heap.size) A l) (hb : Below w.heap.size w w1) : Binds w1 (· < w1.heap.size) A l := (h.keep fun g e => hb.block g e).wide fun _ e => Nat.lt_of_lt_of_le e hb.size

/-- What Match tells, in one row. -/
def MchTot (p t : Tm) (w : World) (e : Ending) (w' : World) : Prop := ∃ A n c ok, e = .returned (.tuple #[.slice A n c, .bool ok]) ∧ (ok = true → ∃ M, wkT p [] t = some M ∧ n = (substM M).length ∧ Binds w' (· < w'.heap.size) A (substM M)) ∧ Below w.heap.size w w'

theorem match_tot {p t : Tm} {v1 v2 : Value} {w : World} (h : Calls Try.prog 21 #[v1, v2] w (MchPost p t w)) : Calls Try.prog 21 #[v1, v2] w (MchTot p t w) := by
  rcases hr : wkT p [] t with _ | M
  · exact (match_no h hr).mono fun _ _ ⟨he, hb⟩ => ⟨_, _, _, _, he, fun h => (by cases h), hb⟩
  · exact (match_yes h hr).mono fun _ _ ⟨A, c, he, hB, hb⟩ => ⟨_, _, _, _, he, fun _ => ⟨M, hr, rfl, hB⟩, hb⟩

/-- What MatchMakes asks, whatever the later world. -/
structure MkC (W : World) (p t : Tm) (z : List Bd) (A B Az : Option Addr) (c d cz : Nat) : Prop where
  sp : ∀ w1, Below W.heap.size W w1 → Calls Try.prog 25 #[.agg #[.int .i64 p.fn, .slice A p.args.length c], .int .i64 48] w1 fun e w' => e = .returned (.bool (smallT p)) ∧ Below w1.heap.size w1 w'
  st : ∀ w1, Below W.heap.size W w1 → Calls Try.prog 25 #[.agg #[.int .i64 t.fn, .slice B t.args.length d], .int .i64 48] w1 fun e w' => e = .returned (.bool (smallT t)) ∧ Below w1.heap.size w1 w'
  ck : ∀ w1, Below W.heap.size W w1 → Calls Try.prog 26 #[.slice Az z.length cz] w1 fun e w' => e = .returned (.int .i64 (chkN z)) ∧ Below w1.heap.size w1 w'
  mt : ∀ w1, Below W.heap.size W w1 → Calls Try.prog 21 #[.agg #[.int .i64 p.fn, .slice A p.args.length c], .agg #[.int .i64 t.fn, .slice B t.args.length d]] w1 (MchPost p t w1)

set_option maxHeartbeats 8000000 in
theorem MatchMakes_any (p t : Tm) (z : List Bd) (hsp : p.size ≤ 1048576) (hst : t.size ≤ 1048576) (hlz : z.length ≤ 1048576) (hsz : ∀ x ∈ z, x.t.size ≤ 1048576) (A B Az : Option Addr) (c d cz : Nat) (w : World) (hfp : I64 p.fn) (hft : I64 t.fn) (hA : Args w w.heap.size A p.args) (hB : Args w w.heap.size B t.args) (hZ : Binds w (· < w.heap.size) Az z) :
    Calls Try.prog 5 #[.agg #[.int .i64 p.fn, .slice A p.args.length c], .agg #[.int .i64 t.fn, .slice B t.args.length d], .slice Az z.length cz] w fun e w' => e = .returned (.bool true) ∧ Below w.heap.size w w' := by
  obtain ⟨W, hW⟩ : ∃ W, (w.alloc (.cells #[.int .i64 p.fn, .slice A p.args.length c] 31)).alloc (.cells #[.int .i64 t.fn, .slice B t.args.length d] 31) = W := ⟨_, rfl⟩
  have hBW : Below w.heap.size w W := by rw [← hW]; exact ((Below.refl _ _).alloc (Nat.le_refl _) _).alloc (by simp) _
  have hWz : W.heap.size = w.heap.size + 2 := by rw [← hW]; simp
  have q1 := heap_alloc_new (w.alloc (.cells #[.int .i64 p.fn, .slice A p.args.length c] 31)) (.cells #[.int .i64 t.fn, .slice B t.args.length d] 31)
  have q0 := (Below.heap_alloc (w.alloc (.cells #[.int .i64 p.fn, .slice A p.args.length c] 31)) (.cells #[.int .i64 t.fn, .slice B t.args.length d] 31) w.heap.size (by simp)).trans (heap_alloc_new w _)
  rw [hW] at q0 q1
  obtain ⟨a0, a1, _, _⟩ := cells_two q0
  obtain ⟨b0, b1, _, _⟩ := cells_two q1
  have ta : TmAt W w.heap.size 0 p A c := ⟨a0, a1, hfp, by omega, hA.on hBW⟩
  have tb : TmAt W (w.heap.size + 1) 0 t B d := ⟨by simpa using b0, by simpa using b1, hft, by omega, hB.on hBW⟩
  have HW := Lib.hid hW
  have HBW := Lib.hid hBW
  have Ta := Lib.hid ta
  have Tb := Lib.hid tb
  have HZ := Lib.hid (binds_on hZ hBW)
  have Hsz := Lib.hid hsz
  have HA := Lib.hid (fun (w1 : World) (h : Below W.heap.size W w1) => (⟨(Ta.out.on h).c1, (Ta.out.on h).c2, (Tb.out.on h).c1, (Tb.out.on h).c2⟩ : w1.cell? ⟨w.heap.size, 0, none⟩ = some (.int .i64 p.fn) ∧ w1.cell? ⟨w.heap.size, 1, none⟩ = some (.slice A p.args.length c) ∧ w1.cell? ⟨w.heap.size + 1, 0, none⟩ = some (.int .i64 t.fn) ∧ w1.cell? ⟨w.heap.size + 1, 1, none⟩ = some (.slice B t.args.length d)))
  have hwk := Lib.hid mwakes_any
  have HC := Lib.hid (⟨fun w1 h => refSmall_any p A c w1 (by omega) hfp (Ta.out.on h).s, fun w1 h => refSmall_any t B d w1 (by omega) hft (Tb.out.on h).s, fun w1 h => refCheck_any z Az cz w1 (by omega) (binds_on HZ.out h), fun w1 h => mmatch_any p t A B c d w1 (by omega) (by omega) hfp hft (Ta.out.on h).s (Tb.out.on h).s⟩ : MkC W p t z A B Az c d cz)
  have C0 := Lib.hid (HC.out.sp W (Below.refl _ _))
  clear hW ta tb q0 q1 a0 a1 b0 b1 hA hB hBW hsz hZ
  obtain ⟨x0, x1, x2, x3⟩ := HA.out W (Below.refl _ _)
  rcases s1 : smallT p with _ | _
  · have S1 := Lib.hid s1
    clear s1
    go_enter Try.func5, Try.ntmps5
    go_upto_region 1 with fail
    rw [HW.out]
    go_wp2_with (first
      | (go_at_call 25; (with_reducible refine C0.out.mono ?_); go_must (rintro e w1 ⟨rfl, hb1⟩; rw [S1.out]))
      | (go_at_call 20; (with_reducible refine (hwk.out _).mono ?_); go_must (rintro e w2 ⟨rfl, hb2⟩))
      | fail)
    go_ret
    exact ⟨rfl, HBW.out.trans ((hb1.trans (hb2.mono hb1.size)).mono HBW.out.size)⟩
  rcases s2 : smallT t with _ | _
  · have S1 := Lib.hid s1
    have S2 := Lib.hid s2
    clear s1 s2
    go_enter Try.func5, Try.ntmps5
    go_upto_region 1 with fail
    rw [HW.out]
    go_wp2_with (first
      | (go_at_call 25; (with_reducible refine C0.out.mono ?_); go_must (rintro e w1 ⟨rfl, hb1⟩; rw [S1.out]; obtain ⟨y0, y1, y2, y3⟩ := HA.out w1 hb1; have C1 := Lib.hid (HC.out.st w1 hb1)))
      | (go_at_call 25; (with_reducible refine C1.out.mono ?_); go_must (rintro e w2 ⟨rfl, hb2⟩; rw [S2.out]))
      | (go_at_call 20; (with_reducible refine (hwk.out _).mono ?_); go_must (rintro e w3 ⟨rfl, hb3⟩))
      | fail)
    go_ret
    exact ⟨rfl, HBW.out.trans (((hb1.trans (hb2.mono hb1.size)).trans (hb3.mono (Nat.le_trans hb1.size hb2.size))).mono HBW.out.size)⟩
  rcases s3 : chkB z with _ | _
  · have hck := Lib.hid (chkN_no s3)
    have S1 := Lib.hid s1
    have S2 := Lib.hid s2
    clear s1 s2 s3
    go_enter Try.func5, Try.ntmps5
    go_upto_region 1 with fail
    rw [HW.out]
    go_wp2_with (first
      | (go_at_call 25; (with_reducible refine C0.out.mono ?_); go_must (rintro e w1 ⟨rfl, hb1⟩; rw [S1.out]; obtain ⟨y0, y1, y2, y3⟩ := HA.out w1 hb1; have C1 := Lib.hid (HC.out.st w1 hb1)))
      | (go_at_call 25; (with_reducible refine C1.out.mono ?_); go_must (rintro e w2 ⟨rfl, hb2⟩; rw [S2.out]; have hB2 := hb1.trans (hb2.mono hb1.size); have C2 := Lib.hid (HC.out.ck w2 hB2)))
      | (go_at_call 26; (with_reducible refine C2.out.mono ?_); go_must (rintro e w3 ⟨rfl, hb3⟩; rw [hck.out]; have hB3 := hB2.trans (hb3.mono hB2.size)))
      | (go_at_call 20; (with_reducible refine (hwk.out _).mono ?_); go_must (rintro e w4 ⟨rfl, hb4⟩))
      | fail)
    go_ret
    exact ⟨rfl, HBW.out.trans ((hB3.trans (hb4.mono hB3.size)).mono HBW.out.size)⟩
  have hck := Lib.hid (chkN_yes s3)
  by_cases h100 : (z.length : Int) > 100
  · have hd := decide_eq_true h100
    have S1 := Lib.hid s1
    have S2 := Lib.hid s2
    clear s1 s2 s3 h100
    go_enter Try.func5, Try.ntmps5
    go_upto_region 1 with fail
    rw [HW.out]
    go_wp2_with (first
      | (go_at_call 25; (with_reducible refine C0.out.mono ?_); go_must (rintro e w1 ⟨rfl, hb1⟩; rw [S1.out]; obtain ⟨y0, y1, y2, y3⟩ := HA.out w1 hb1; have C1 := Lib.hid (HC.out.st w1 hb1)))
      | (go_at_call 25; (with_reducible refine C1.out.mono ?_); go_must (rintro e w2 ⟨rfl, hb2⟩; rw [S2.out]; have hB2 := hb1.trans (hb2.mono hb1.size); have C2 := Lib.hid (HC.out.ck w2 hB2)))
      | (go_at_call 26; (with_reducible refine C2.out.mono ?_); go_must (rintro e w3 ⟨rfl, hb3⟩; rw [hck.out]; have hB3 := hB2.trans (hb3.mono hB2.size)))
      | (go_at_call 20; (with_reducible refine (hwk.out _).mono ?_); go_must (rintro e w4 ⟨rfl, hb4⟩))
      | fail)
    go_ret
    exact ⟨rfl, HBW.out.trans ((hB3.trans (hb4.mono hB3.size)).mono HBW.out.size)⟩
  have hd := decide_eq_false h100
  have S1 := Lib.hid s1
  have S2 := Lib.hid s2
  have HN0 : Hid (∀ j, j < 0 → ∀ x, z[j]? = some x → smallT x.t = true) := Lib.hid fun j hj => by omega
  clear s1 s2 s3
  go_enter Try.func5, Try.ntmps5
  go_upto_region 1 with fail
  rw [HW.out]
  go_upto_region 4 with (first
    | (go_at_call 25; (with_reducible refine C0.out.mono ?_); go_must (rintro e w1 ⟨rfl, hb1⟩; rw [S1.out]; obtain ⟨y0, y1, y2, y3⟩ := HA.out w1 hb1; have C1 := Lib.hid (HC.out.st w1 hb1)))
    | (go_at_call 25; (with_reducible refine C1.out.mono ?_); go_must (rintro e w2 ⟨rfl, hb2⟩; rw [S2.out]; have hB2 := hb1.trans (hb2.mono hb1.size); have C2 := Lib.hid (HC.out.ck w2 hB2)))
    | (go_at_call 26; (with_reducible refine C2.out.mono ?_); go_must (rintro e w3 ⟨rfl, hb3⟩; rw [hck.out]; have hB3 := hB2.trans (hb3.mono hB2.size)))
    | fail)
  clear C1 C2
  go_wp2
  go_loopw [37] (fun i wr => ∃ k : Nat, k ≤ z.length ∧ i = .int .i64 (k : Int) ∧ Below W.heap.size W wr ∧ Hid (∀ j, j < k → ∀ x, z[j]? = some x → smallT x.t = true)) (fun i _ => z.length - (intOf i).toNat)
  case atStart => exact ⟨0, Nat.zero_le _, rfl, hB3, HN0⟩
  case round =>
    obtain ⟨k, hk, rfl, hBr, HN⟩ := hrel
    by_cases hlt : k < z.length
    · obtain ⟨x, hx⟩ : ∃ x, z[k]? = some x := ⟨_, List.getElem?_eq_getElem hlt⟩
      have hzr := binds_on HZ.out hBr
      obtain ⟨bb, off, E, ce, rfl, h⟩ := hzr.get hx
      have hi1 := h.c1
      have hi2 : wr.cell? ⟨bb, off + k * 3 + 1 + 1, none⟩ = some (.slice E x.t.args.length ce) := h.c2
      have hss := Hsz.out x (List.mem_of_getElem? hx)
      have CS := Lib.hid (refSmall_any x.t E ce wr (by omega) h.it (h.sub.args fun g e => e))
      have Hx := Lib.hid hx
      clear h hx hzr HZ hss
      rcases s4 : smallT x.t with _ | _
      · have S4 := Lib.hid s4
        clear s4
        go_wp2_with (first
          | (go_at_call 25; (with_reducible refine CS.out.mono ?_); go_must (rintro e w4 ⟨rfl, hb4⟩; rw [S4.out]))
          | (go_at_call 20; (with_reducible refine (hwk.out _).mono ?_); go_must (rintro e w5 ⟨rfl, hb5⟩))
          | fail)
        go_ret
        exact ⟨rfl, HBW.out.trans ((hBr.trans ((hb4.trans (hb5.mono hb4.size)).mono hBr.size)).mono HBW.out.size)⟩
      · have S4 := Lib.hid s4
        clear s4
        go_wp2_with (first
          | (go_at_call 25; (with_reducible refine CS.out.mono ?_); go_must (rintro e w4 ⟨rfl, hb4⟩; rw [S4.out]))
          | fail)
        have hnx : Hid (∀ j, j < k + 1 → ∀ x, z[j]? = some x → smallT x.t = true) := Lib.hid fun j hj y hy => by
          rcases Nat.lt_or_ge j k with h | h
          · exact HN.out j h y hy
          · obtain rfl : j = k := by omega
            rw [Hx.out] at hy; injection hy with hy; subst hy
            exact S4.out
        go_roundw
        case rel => exact ⟨k + 1, by omega, by go_num, hBr.trans (hb4.mono hBr.size), hnx⟩
        case measure => simp [intOf]; omega
    · obtain rfl : k = z.length := by omega
      have hall : ∀ x ∈ z, smallT x.t = true := fun x hx => by
        obtain ⟨i, hi⟩ := List.mem_iff_getElem?.1 hx
        exact HN.out i (List.getElem?_eq_some_iff.1 hi).1 x hi
      obtain ⟨y0, y1, y2, y3⟩ := HA.out wr hBr
      have hz300 : Hid (∀ x ∈ z, x.t.size ≤ 300) := Lib.hid fun x hx => (small_low (hall x hx)).1
      have hpl : Hid (plainT p = true) := Lib.hid (low_plain p (small_low S1.out).2)
      have hzpl : Hid (∀ x ∈ z, plainT x.t = true) := Lib.hid fun x hx => low_plain _ (small_low (hall x hx)).2
      obtain ⟨x, hx⟩ : ∃ x, appT (bdT z) p = x := ⟨_, rfl⟩
      obtain ⟨M2, hM2, hv2⟩ := mk_of z p hpl.out hzpl.out
      have hp300 := (small_low S1.out).1
      have ht300 := (small_low S2.out).1
      have hxs : x.size ≤ 90000 := by
        rw [← hx]
        have := app_size (m := 300) (by decide) (bdT_size hz300.out) p
        omega
      rw [hx] at hM2
      have hx64 : I64 x.fn := by rw [← hx]; exact appT_fn64 HZ.out hfp
      have R1 : ∀ w1, Below W.heap.size W w1 → Calls Try.prog 29 #[.slice Az z.length cz, .agg #[.int .i64 p.fn, .slice A p.args.length c]] w1 (GotT x w1) := fun w1 h => by
        rw [← hx]
        exact refApply_got z (fun y hy => by have := hz300.out y hy; omega) p (by omega) Az cz A c w1 (binds_on HZ.out h) hfp (Ta.out.on h).s
      have R1 := Lib.hid R1
      have hm2s : Hid (∀ y ∈ substM M2, y.t.size ≤ 90000) := Lib.hid fun y hy => Nat.le_trans (mk_size hM2 y hy) hxs
      have hm2l : (substM M2).length ≤ 300 := Nat.le_trans (substM_len M2) (Nat.le_trans (mk_vars hM2) hp300)
      have hm2r : Hid (Rise (substM M2)) := Lib.hid (substM_rise (mk_val hM2).1)
      have HM2 := Lib.hid hM2
      have Hv2 := Lib.hid hv2
      have hMC := Lib.hid fun (w1 : World) (h : Below W.heap.size W w1) => match_tot (HC.out.mt w1 h)
      have CM := Lib.hid (hMC.out wr hBr)
      clear hall hx hM2 hv2 HN hlt
      go_upto_region 10 with (first
        | (go_at_call 21; (with_reducible refine CM.out.mono ?_); go_must (rintro e w4 ⟨A4, n4, c4, ok, rfl, h4, hb4⟩; have H4 := Lib.hid h4; clear h4; have hB4 := hBr.trans (hb4.mono hBr.size); obtain ⟨z0, z1, z2, z3⟩ := HA.out w4 hB4))
        | fail)
      clear CM
      go_cut [63] (fun s63 wx => s63 = .bool false ∧ Below w4.heap.size w4 wx)
      case first =>
        cases ok with
        | false =>
          refine wp_region_later w4.heap.size w4 (by kernel_rfl) (by kernel_rfl) (bl_drewN (Below.refl _ _) 1) ?_
          repeat (go_big_quiet_step (fail))
          refine wpQuiet_nil ?_
          rintro _ ⟨zz, rfl⟩
          go_wp2
          go_meet
          exact ⟨rfl, zz.h⟩
        | true =>
          obtain ⟨M, hM, rfl, hBd⟩ := H4.out rfl
          have hap := (mk_val hM).2
          have hap64 : I64 (appT (bdT (substM M)) p).fn := by rw [hap]; exact hft
          have hml : (substM M).length ≤ 300 := Nat.le_trans (substM_len M) (Nat.le_trans (mk_vars hM) hp300)
          have hms : ∀ y ∈ substM M, y.t.size ≤ 300 := fun y hy => Nat.le_trans (mk_size hM y hy) ht300
          have hrs := substM_rise (mk_val hM).1
          have hBd' : Below w4.heap.size w4 w4.drew := bl_drewN (Below.refl _ _) 1
          have QA := apply_got (substM M) A4 c4 p A c w4.drew (by omega) (by omega) (binds_on hBd hBd') hrs (fun y hy => by have := hms y hy; omega) hfp (Ta.out.on (hB4.trans (hBd'.mono hB4.size))).s
          rw [hap] at QA
          have QA := Lib.hid QA
          clear hap hap64 hBd hms hrs hM H4
          obtain ⟨r0, r1, r2, r3⟩ := HA.out w4.drew (hB4.trans (hBd'.mono hB4.size))
          have HS5 : ∀ (w5 : World) (A5 : Option Addr) (c5 : Nat), Below w4.heap.size w4 w5 → I64 t.fn → Args w5 w5.heap.size A5 t.args → Calls Try.prog 27 #[.agg #[.int .i64 t.fn, .slice A5 t.args.length c5], .agg #[.int .i64 t.fn, .slice B t.args.length d]] w5 fun e w' => e = .returned (.bool true) ∧ Below w5.heap.size w5 w' := fun w5 A5 c5 h h1 h2 => by
            have := ref2Same_any' t t A5 B c5 d w5 h1 hft h2 (Tb.out.on (hB4.trans (h.mono hB4.size))).s
            rwa [decide_eq_true (cmp_zero_iff.2 rfl)] at this
          have HS5 := Lib.hid HS5
          go_region_law
            (first
              | (go_simp
                 go_at_call 28
                 with_reducible refine QA.out.mono ?_
                 rintro e w5 ⟨A5, c5, rfl, h51, h52, hb5⟩
                 have hB45 : Below w4.heap.size w4 w5 := hBd'.trans (hb5.mono hBd'.size)
                 have HS6 := Lib.hid (HS5.out w5 A5 c5 hB45 h51 h52)
                 obtain ⟨e0, e1, e2, e3⟩ := HA.out w5 (hB4.trans (hB45.mono hB4.size))
                 clear h52
                 dsimp only)
              | (go_simp
                 go_at_call 27
                 with_reducible refine HS6.out.mono ?_
                 rintro e w6 ⟨rfl, hb6⟩
                 dsimp only)
              | fail)
          all_goals
            have hfin := hB45.trans (hb6.mono hB45.size)
            go_wp2_with fail
            go_meet
            exact ⟨rfl, hfin⟩
      case rest =>
        obtain ⟨rfl, hbx⟩ := hcut
        have hBx := hB4.trans (hbx.mono hB4.size)
        obtain ⟨r0, r1, r2, r3⟩ := HA.out wc hBx
        have CR := Lib.hid (R1.out wc hBx)
        clear x0 x1 x2 x3 y0 y1 y2 y3 z0 z1 z2 z3
        go_upto_region 13 with (first
          | (go_at_call 29; (with_reducible refine CR.out.mono ?_); go_must (rintro e w5 ⟨A5, c5, rfl, h51, h52, hb5⟩; have hB5 := hBx.trans (hb5.mono hBx.size); have H52 := Lib.hid h52; clear h52))
          | fail)
        obtain ⟨w6, hw6⟩ : ∃ w6, w5.alloc (.cells #[.int .i64 x.fn, .slice A5 x.args.length c5] 31) = w6 := ⟨_, rfl⟩
        have hB56 : Below w5.heap.size w5 w6 := by rw [← hw6]; exact (Below.refl _ _).alloc (Nat.le_refl _) _
        have hz6 : w6.heap.size = w5.heap.size + 1 := by rw [← hw6]; simp
        have hB6 := hB5.trans (hB56.mono hB5.size)
        have q6 := heap_alloc_new w5 (.cells #[.int .i64 x.fn, .slice A5 x.args.length c5] 31)
        rw [hw6] at q6
        obtain ⟨m0, m1, _, _⟩ := cells_two q6
        have Tx := Lib.hid (⟨m0, m1, hx64, by omega, H52.out.on hB56⟩ : TmAt w6 w5.heap.size 0 x A5 c5)
        rw [hw6]
        clear hw6 q6 m0 m1
        have HX := Lib.hid (fun (w1 : World) (h : Below w6.heap.size w6 w1) => (⟨(Tx.out.on h).c1, (Tx.out.on h).c2⟩ : w1.cell? ⟨w5.heap.size, 0, none⟩ = some (.int .i64 x.fn) ∧ w1.cell? ⟨w5.heap.size, 1, none⟩ = some (.slice A5 x.args.length c5)))
        obtain ⟨s0, s1, s2, s3⟩ := HA.out w6 hB6
        obtain ⟨o0, o1⟩ := HX.out w6 (Below.refl _ _)
        have CM2 := Lib.hid (match_yes (mmatch_any p x A A5 c c5 w6 (by omega) (by omega) hfp hx64 (Ta.out.on hB6).s Tx.out.s) HM2.out)
        go_upto_region 14 with (first
          | (go_at_call 21; (with_reducible refine CM2.out.mono ?_); go_must (rintro e w7 ⟨A7, c7, rfl, hBd7, hb7⟩; have HBd7 := Lib.hid hBd7; clear hBd7))
          | fail)
        have hB7 := hB6.trans (hb7.mono hB6.size)
        obtain ⟨t0, t1, t2, t3⟩ := HA.out w7 hB7
        obtain ⟨o2, o3⟩ := HX.out w7 hb7
        have CX := Lib.hid (refSmall_any x A5 c5 w7 (by omega) hx64 (Tx.out.on hb7).s)
        clear CM2 CR
        rcases s5 : smallT x with _ | _
        · have S5 := Lib.hid s5
          clear s5
          go_wp2_with (first
            | (go_at_call 25; (with_reducible refine CX.out.mono ?_); go_must (rintro e w8 ⟨rfl, hb8⟩; rw [S5.out]))
            | (go_at_call 20; (with_reducible refine (hwk.out _).mono ?_); go_must (rintro e w9 ⟨rfl, hb9⟩))
            | fail)
          go_ret
          have hB8 := hB7.trans (hb8.mono hB7.size)
          exact ⟨rfl, HBW.out.trans ((hB8.trans (hb9.mono hB8.size)).mono HBW.out.size)⟩
        have S5 := Lib.hid s5
        clear s5
        have hV : ∀ w1, Below W.heap.size W w1 → Calls Try.prog 30 #[.agg #[.int .i64 p.fn, .slice A p.args.length c]] w1 (InsPost ((vn p).foldl insI []) w1) := fun w1 h => ref2Vars_any p A c w1 hfp (by omega) (Ta.out.on h).s
        obtain ⟨L, hL⟩ : ∃ L, (vn p).foldl insI [] = L := ⟨_, rfl⟩
        have hLm : Hid (∀ v ∈ L, v ∈ vn p) := Lib.hid fun v hv => by
          rw [← hL] at hv
          rcases ((insI_fold (vn p) [] List.Pairwise.nil).2 v).1 hv with h | h
          · simp at h
          · exact h
        rw [hL] at hV
        have HV := Lib.hid hV
        clear hL hV
        go_upto_region 18 with (first
          | (go_at_call 25; (with_reducible refine CX.out.mono ?_); go_must (rintro e w8 ⟨rfl, hb8⟩; rw [S5.out]; have hB8 := hB7.trans (hb8.mono hB7.size); obtain ⟨u0, u1, u2, u3⟩ := HA.out w8 hB8; have CV := Lib.hid (HV.out w8 hB8)))
          | (go_at_call 30; (with_reducible refine CV.out.mono ?_); go_must (rintro e w9 ⟨v9, rfl, ⟨A9, c9, rfl, hI9⟩, hb9⟩; have hB9 := hB8.trans (hb9.mono hB8.size); have HI9 := Lib.hid hI9; clear hI9))
          | fail)
        have hBd9 := Lib.hid (binds_on HBd7.out (hb8.trans (hb9.mono hb8.size)))
        clear CX CV s0 s1 s2 s3 o0 o1 o2 o3 t0 t1 t2 t3 u0 u1 u2 u3 r0 r1 r2 r3
        have hLl := HI9.out.len
        go_wp2
        go_loopw [81] (fun i wr => ∃ k : Nat, k ≤ L.length ∧ i = .int .i64 (k : Int) ∧ Below w9.heap.size w9 wr) (fun i _ => L.length - (intOf i).toNat)
        case atStart => exact ⟨0, Nat.zero_le _, rfl, Below.refl _ _⟩
        case round =>
          obtain ⟨k, hk, rfl, hBr9⟩ := hrel
          have hBr2 := hB9.trans (hBr9.mono hB9.size)
          by_cases hlt : k < L.length
          · obtain ⟨v, hv⟩ : ∃ v, L[k]? = some v := ⟨_, List.getElem?_eq_getElem hlt⟩
            have hvp := hLm.out v (List.mem_of_getElem? hv)
            have hv0 := vn_ge p v hvp
            have hv64 := HI9.out.i64 v (List.mem_of_getElem? hv)
            obtain ⟨bb, off, rfl, hbb, hcell⟩ := HI9.out.ad (by omega)
            have hc := cell_on hBr9 hbb (hcell k v hv)
            have hl1 := hv64.1
            have hl2 := hv64.2
            have hval := Hv2.out v hvp
            have hu64 : I64 (-1 - v) := ⟨by omega, by omega⟩
            clear hcell
            go_upto_region 21 with fail
            obtain ⟨wv, hwv⟩ : ∃ wv, wr.alloc (.cells #[.int .i64 (-1 - v), .slice none 0 0] 31) = wv := ⟨_, rfl⟩
            have hBv := Lib.hid (show Below wr.heap.size wr wv from by rw [← hwv]; exact (Below.refl _ _).alloc (Nat.le_refl _) _)
            have hzv : wv.heap.size = wr.heap.size + 1 := by rw [← hwv]; simp
            have qv := heap_alloc_new wr (.cells #[.int .i64 (-1 - v), .slice none 0 0] 31)
            rw [hwv] at qv ⊢
            obtain ⟨m0, m1, _, _⟩ := cells_two qv
            have HX2 := Lib.hid (fun (w1 : World) (h : Below wv.heap.size wv w1) => (⟨cell_on h (by omega) m0, cell_on h (by omega) m1⟩ : w1.cell? ⟨wr.heap.size, 0, none⟩ = some (.int .i64 (-1 - v)) ∧ w1.cell? ⟨wr.heap.size, 1, none⟩ = some (.slice none 0 0)))
            have hvt : appT (bdT (substM M2)) (.node (-1 - v) []) = val z v := by
              rw [app_leaf _ (by omega), show -1 - (-1 - v) = v by omega, hval]
            have hvu : appT (bdT z) (.node (-1 - v) []) = val z v := by
              rw [app_leaf _ (by omega), show -1 - (-1 - v) = v by omega]
            have hBwv : Below W.heap.size W wv := hBr2.trans (hBv.out.mono hBr2.size)
            have hBwd : Below wv.heap.size wv wv.drew := bl_drewN (Below.refl _ _) 1
            have h9v : Below w9.heap.size w9 wv := hBr9.trans (hBv.out.mono hBr9.size)
            have hsl : (Tm.node (-1 - v) []).size ≤ 4398046511104 := by simp [Tm.size, sizes]
            have Q1 : ∀ w1, Below wv.heap.size wv w1 → Calls Try.prog 28 #[.slice A7 (substM M2).length c7, .agg #[.int .i64 (-1 - v), .slice none 0 0]] w1 (GotT (val z v) w1) := fun w1 h => by
              have := apply_got (substM M2) A7 c7 (.node (-1 - v) []) none 0 w1 hsl (by omega) (binds_on hBd9.out (h9v.trans (h.mono h9v.size))) hm2r.out (fun y hy => by have := hm2s.out y hy; omega) hu64 (.nil _)
              rwa [hvt] at this
            have Q2 : ∀ w1, Below wv.heap.size wv w1 → Calls Try.prog 29 #[.slice Az z.length cz, .agg #[.int .i64 (-1 - v), .slice none 0 0]] w1 (GotT (val z v) w1) := fun w1 h => by
              have := refApply_got z (fun y hy => by have := hz300.out y hy; omega) (.node (-1 - v) []) hsl Az cz none 0 w1 (binds_on HZ.out (hBwv.trans (h.mono hBwv.size))) hu64 (.nil _)
              rwa [hvu] at this
            obtain ⟨y, hy⟩ : ∃ y, val z v = y := ⟨_, rfl⟩
            rw [hy] at Q1 Q2
            have Q1 := Lib.hid Q1
            have Q2 := Lib.hid Q2
            obtain ⟨e0, e1⟩ := HX2.out wv.drew hBwd
            have hBv' := hBv.out
            have hBwd' := Lib.hid hBwd
            have QA := Lib.hid (Q1.out wv.drew hBwd)
            clear hwv qv m0 m1 hvt hvu hsl hy hval hv hv64 hl1 hl2 hv0 hvp hc hbb
            go_region_law
              (first
                | (go_simp
                   go_at_call 28
                   with_reducible refine QA.out.mono ?_
                   rintro e w5' ⟨A5', c5', rfl, h51, h52, hb5⟩
                   have hB45 : Below wv.heap.size wv w5' := hBwd'.out.trans (hb5.mono hBwd'.out.size)
                   have QB := Lib.hid (Q2.out w5' hB45)
                   have H52 := Lib.hid h52
                   obtain ⟨e2, e3⟩ := HX2.out w5' hB45
                   clear h52
                   dsimp only)
                | (go_simp
                   go_at_call 29
                   with_reducible refine QB.out.mono ?_
                   rintro e w6' ⟨A6', c6', rfl, h61, h62, hb6⟩
                   have hB46 : Below wv.heap.size wv w6' := hB45.trans (hb6.mono hB45.size)
                   have QC := Lib.hid (ref2Same_any' y y A5' A6' c5' c6' w6' h51 h61 (H52.out.on hb6) h62)
                   clear h62
                   dsimp only)
                | (go_simp
                   go_at_call 27
                   with_reducible refine QC.out.mono ?_
                   rintro e w7' ⟨rfl, hb7'⟩
                   rw [decide_eq_true (cmp_zero_iff.2 rfl)]
                   dsimp only)
                | fail)
            all_goals
              have hfin := hB46.trans (hb7'.mono hB46.size)
              go_wp2_with fail
              go_roundw
              case rel => exact ⟨k + 1, by omega, by go_num, h9v.trans (hfin.mono h9v.size)⟩
              case measure => simp [intOf]; omega
          · obtain rfl : k = L.length := by omega
            go_wp2_with (first
              | (go_at_call 20; (with_reducible refine (hwk.out _).mono ?_); go_must (rintro e wz ⟨rfl, hbz⟩))
              | fail)
            go_ret
            exact ⟨rfl, HBW.out.trans ((hBr2.trans (hbz.mono hBr2.size)).mono HBW.out.size)⟩

end Go.Proofs.Ytglfjmbclimeeaa

/- A substitution that is an argument, opened. A clause that is an argument, opened. -/

namespace Go.Proofs.Ytglfjmbclimeeaa

open Go.ChangeShapes Go.WideShapes Go.ChangeAt Go.RowKit
set_option maxRecDepth 20000

section

variable {H : Type} {enc : TypeId × Value → H} {W : World} {base : Nat} {held : Bool}

theorem cellsBind : Try.prog.cellsOf 51 = 3 := by kernel_rfl

theorem trod_bind (n : Nat) (cs : List Value) (x : DataW H × List MemPlace) (h : DataW.trod enc Try.prog W base (fun _ => true) held n 51 cs = some x) :
    ∃ (b : Bd) (A : Option Addr) (c : Nat), cs = [.int .i64 b.v, .int .i64 b.t.fn, .slice A b.t.args.length c] ∧ I64 b.v ∧ I64 b.t.fn ∧ Args W W.heap.size A b.t.args ∧ b.t.size ≤ Rows.uptoBulk x.1 := by
  obtain ⟨xs, n', rfl, hx, hlen, hxs, hf⟩ := DataW.trod_struct Try.underlying51 h
  rw [cellsBind] at hlen
  match cs, hlen with
  | [c0, c1, c2], _ =>
    have hx2 : xs.length = 2 := by rw [hxs]; rfl
    match xs, hx2 with
    | [x0, x1], _ =>
      have g0 := hf 0 _ rfl
      have g1 := hf 1 _ rfl
      simp [cellsInt] at g0
      simp [cellsTerm] at g1
      obtain ⟨f, hfv, ef, hw⟩ := DataW.trod_int Try.underlying3 g0
      injection hfv with hfv
      subst hfv
      have hf64 : I64 f := by
        have := hw
        simp [Lit.wf, IntKind.min, IntKind.max, IntKind.signed, IntKind.bits] at this
        exact this
      obtain ⟨t, A, c, hcs, ht64, hA, hb⟩ := trod_term _ _ _ g1
      injection hcs with e1 hcs
      injection hcs with e2 _
      subst e1; subst e2
      refine ⟨⟨f, t⟩, A, c, rfl, hf64, ht64, hA, ?_⟩
      subst hx
      simp only [ef, List.map_cons, List.map_nil, Rows.uptoBulk, Rows.uptoBulkAll]
      omega

theorem bulk_mem : ∀ {ds : List (DataW H)} {d : DataW H}, d ∈ ds → Rows.uptoBulk d ≤ Rows.uptoBulkAll ds
  | [], _, h => by simp at h
  | d' :: ds, d, h => by
    simp only [Rows.uptoBulkAll]
    rcases List.mem_cons.1 h with rfl | h
    · omega
    · have := bulk_mem h; omega

theorem open_subst {r : Reach} {b0 : Nat} {v : Value} {d : DataW H} {ps : List MemPlace} (hv : Value.okWide Try.prog W r b0 41 v) (h : DataW.Trod enc Try.prog W base (fun _ => true) held 41 v d ps) :
    ∃ (l : List Bd) (A : Option Addr) (c : Nat), v = .slice A l.length c ∧ Binds W (· < W.heap.size) A l ∧ ∀ x ∈ l, x.t.size ≤ Rows.uptoBulk d := by
  obtain ⟨a0, len0, cap0, rfl⟩ := okWide_slice Try.underlying41 hv
  obtain ⟨fuel, hf⟩ := h
  have hf' : DataW.trod enc Try.prog W base (fun _ => true) held fuel 41 [.slice a0 len0 cap0] = some (d, ps) := hf
  rcases DataW.trod_slice Try.underlying41 hf' with ⟨hv, e1⟩ | ⟨a, len, cap, elems, rest, m, hm, hv, e1, _, hl, hmax, hlenE, hel, _, _⟩
  · injection hv with hv
    injection hv with e2 e3 e4
    subst e2; subst e3; subst e4
    exact ⟨[], none, 0, rfl, Binds.nil_ _ _ _, by simp⟩
  · injection hv with hv
    injection hv with e2 e3 e4
    subst e2; subst e3; subst e4
    have each : ∀ i, i < len0 → ∃ q : Bd × Option Addr × Nat × DataW H, I64 q.1.v ∧ I64 q.1.t.fn ∧ W.cell? (a.add (i * 3)) = some (.int .i64 q.1.v) ∧ W.cell? ((a.add (i * 3)).add 1) = some (.int .i64 q.1.t.fn) ∧ W.cell? ((a.add (i * 3)).add 2) = some (.slice q.2.1 q.1.t.args.length q.2.2.1) ∧ Args W W.heap.size q.2.1 q.1.t.args ∧ q.1.t.size ≤ Rows.uptoBulk q.2.2.2 ∧ q.2.2.2 ∈ elems.map (·.1) := by
      intro i hi
      have h1 := hel i hi
      rw [cellsBind] at h1
      rw [List.getElem?_eq_getElem (by omega)] at h1
      cases hc : W.cells? base (a.add (i * 3)) 3 with
      | none => rw [hc] at h1; cases h1
      | some cs' =>
        rw [hc] at h1
        simp only [Option.bind_some] at h1
        obtain ⟨b, A, c, rfl, hb64, ht64, hA, hb⟩ := trod_bind _ cs' _ h1
        obtain ⟨_, _, hat⟩ := World.cells?_some hc
        refine ⟨(b, A, c, (elems[i]'(by omega)).1), hb64, ht64, ?_, hat 1 (by omega), hat 2 (by omega), hA, hb, List.mem_map.2 ⟨_, List.getElem_mem _, rfl⟩⟩
        have := hat 0 (by omega)
        simpa [Addr.add] using this
    haveI : Inhabited (Bd × Option Addr × Nat × DataW H) := ⟨(⟨0, .node 0 []⟩, none, 0, .nil)⟩
    obtain ⟨q, hq⟩ := Go.Deep.choose_lt each
    have hget : ∀ (i : Nat) (t : Bd), ((List.range len0).map fun i => (q i).1)[i]? = some t → i < len0 ∧ t = (q i).1 := by
      intro i t e
      have hi : i < len0 := by have := (List.getElem?_eq_some_iff.1 e).1; simpa using this
      rw [List.getElem?_map, List.getElem?_range hi] at e
      simp at e
      exact ⟨hi, e.symm⟩
    refine ⟨(List.range len0).map fun i => (q i).1, some a, cap0, by simp, ?_, ?_⟩
    · rcases Nat.eq_zero_or_pos len0 with h0 | h0
      · subst h0; exact Binds.nil_ _ _ _
      · have c00 := (hq 0 h0).2.2.1
        simp only [Nat.zero_mul, Addr.add, if_true] at c00
        obtain ⟨blk, off, spot⟩ := a
        obtain rfl : spot = none := cell_spot c00
        have hblk : blk < W.heap.size := World.block_lt_of_cell? W _ c00
        refine ⟨by unfold maxLen at hmax; simp; omega, fun _ => ⟨blk, off, rfl, hblk, fun i t e => ?_⟩⟩
        obtain ⟨hi, rfl⟩ := hget i t e
        obtain ⟨h1, h2, h3, h4, h5, h6, _⟩ := hq i hi
        rw [Addr.add_lit] at h3
        rw [Addr.add_lit, Addr.add_lit] at h4 h5
        exact ⟨(q i).2.1, (q i).2.2.1, h3, h4, h5, h1, h2, h6.toN⟩
    · intro x hx
      obtain ⟨i, hi, rfl⟩ := List.mem_map.1 hx
      have hi' : i < len0 := by simpa using hi
      obtain ⟨_, _, _, _, _, _, h7, h8⟩ := hq i hi'
      have h9 := bulk_mem h8
      have e5 := congrArg (fun z => Rows.uptoBulk z.1) e1
      simp only [Rows.uptoBulk] at e5
      show (q i).1.t.size ≤ _
      omega

end

end Go.Proofs.Ytglfjmbclimeeaa

namespace Go.Proofs.Ytglfjmbclimeeaa

open Go.ChangeShapes Go.WideShapes Go.ChangeAt Go.RowKit
set_option maxRecDepth 20000

section

variable {H : Type} {enc : TypeId × Value → H} {W : World} {base : Nat} {held : Bool}

theorem cellsLit : Try.prog.cellsOf 35 = 5 := by kernel_rfl

theorem cellsBool1 : Try.prog.cellsOf 4 = 1 := by kernel_rfl

theorem trod_lit (n : Nat) (cs : List Value) (x : DataW H × List MemPlace) (h : DataW.trod enc Try.prog W base (fun _ => true) held n 35 cs = some x) :
    ∃ (y : Lt) (A1 : Option Addr) (c1 : Nat) (A2 : Option Addr) (c2 : Nat), cs = [.bool y.neg, .int .i64 y.l.fn, .slice A1 y.l.args.length c1, .int .i64 y.r.fn, .slice A2 y.r.args.length c2] ∧ I64 y.l.fn ∧ I64 y.r.fn ∧ Args W W.heap.size A1 y.l.args ∧ Args W W.heap.size A2 y.r.args ∧ y.l.size + y.r.size ≤ Rows.uptoBulk x.1 := by
  obtain ⟨xs, n', rfl, hx, hlen, hxs, hf⟩ := DataW.trod_struct Try.underlying35 h
  rw [cellsLit] at hlen
  match cs, hlen with
  | [c0, c1, c2, c3, c4], _ =>
    have hx2 : xs.length = 3 := by rw [hxs]; rfl
    match xs, hx2 with
    | [x0, x1, x2], _ =>
      have g0 := hf 0 _ rfl
      have g1 := hf 1 _ rfl
      have g2 := hf 2 _ rfl
      simp [cellsBool1] at g0
      simp [cellsTerm] at g1
      simp [cellsTerm] at g2
      obtain ⟨b, hbv, eb⟩ := DataW.trod_bool Try.underlying4 g0
      injection hbv with hbv
      subst hbv
      obtain ⟨t, A, c, hcs, ht64, hA, hb⟩ := trod_term _ _ _ g1
      injection hcs with e1 hcs
      injection hcs with e2 _
      subst e1; subst e2
      obtain ⟨t2, A2, c2, hcs2, ht642, hA2, hb2⟩ := trod_term _ _ _ g2
      injection hcs2 with e3 hcs2
      injection hcs2 with e4 _
      subst e3; subst e4
      refine ⟨⟨b, t, t2⟩, A, c, A2, c2, rfl, ht64, ht642, hA, hA2, ?_⟩
      subst hx
      simp only [List.map_cons, List.map_nil, Rows.uptoBulk, Rows.uptoBulkAll]
      omega

theorem open_clause {r : Reach} {b0 : Nat} {v : Value} {d : DataW H} {ps : List MemPlace} (hv : Value.okWide Try.prog W r b0 57 v) (h : DataW.Trod enc Try.prog W base (fun _ => true) held 57 v d ps) :
    ∃ (l : List Lt) (A : Option Addr) (c : Nat), v = .slice A l.length c ∧ Lits W (· < W.heap.size) A l ∧ ∀ x ∈ l, x.l.size + x.r.size ≤ Rows.uptoBulk d := by
  obtain ⟨a0, len0, cap0, rfl⟩ := okWide_slice Try.underlying57 hv
  obtain ⟨fuel, hf⟩ := h
  have hf' : DataW.trod enc Try.prog W base (fun _ => true) held fuel 57 [.slice a0 len0 cap0] = some (d, ps) := hf
  rcases DataW.trod_slice Try.underlying57 hf' with ⟨hv, e1⟩ | ⟨a, len, cap, elems, rest, m, hm, hv, e1, _, hl, hmax, hlenE, hel, _, _⟩
  · injection hv with hv
    injection hv with e2 e3 e4
    subst e2; subst e3; subst e4
    exact ⟨[], none, 0, rfl, Lits.nil_ _ _ _, by simp⟩
  · injection hv with hv
    injection hv with e2 e3 e4
    subst e2; subst e3; subst e4
    have each : ∀ i, i < len0 → ∃ q : Lt × (Option Addr × Nat) × (Option Addr × Nat) × DataW H, I64 q.1.l.fn ∧ I64 q.1.r.fn ∧ W.cell? (a.add (i * 5)) = some (.bool q.1.neg) ∧ W.cell? ((a.add (i * 5)).add 1) = some (.int .i64 q.1.l.fn) ∧ W.cell? ((a.add (i * 5)).add 2) = some (.slice q.2.1.1 q.1.l.args.length q.2.1.2) ∧ W.cell? ((a.add (i * 5)).add 3) = some (.int .i64 q.1.r.fn) ∧ W.cell? ((a.add (i * 5)).add 4) = some (.slice q.2.2.1.1 q.1.r.args.length q.2.2.1.2) ∧ Args W W.heap.size q.2.1.1 q.1.l.args ∧ Args W W.heap.size q.2.2.1.1 q.1.r.args ∧ q.1.l.size + q.1.r.size ≤ Rows.uptoBulk q.2.2.2 ∧ q.2.2.2 ∈ elems.map (·.1) := by
      intro i hi
      have h1 := hel i hi
      rw [cellsLit] at h1
      rw [List.getElem?_eq_getElem (by omega)] at h1
      cases hc : W.cells? base (a.add (i * 5)) 5 with
      | none => rw [hc] at h1; cases h1
      | some cs' =>
        rw [hc] at h1
        simp only [Option.bind_some] at h1
        obtain ⟨y, A1, c1, A2, c2, rfl, h64, h64', hA1, hA2, hb⟩ := trod_lit _ cs' _ h1
        obtain ⟨_, _, hat⟩ := World.cells?_some hc
        refine ⟨(y, (A1, c1), (A2, c2), (elems[i]'(by omega)).1), h64, h64', ?_, hat 1 (by omega), hat 2 (by omega), hat 3 (by omega), hat 4 (by omega), hA1, hA2, hb, List.mem_map.2 ⟨_, List.getElem_mem _, rfl⟩⟩
        have := hat 0 (by omega)
        simpa [Addr.add] using this
    haveI : Inhabited (Lt × (Option Addr × Nat) × (Option Addr × Nat) × DataW H) := ⟨(⟨false, .node 0 [], .node 0 []⟩, (none, 0), (none, 0), .nil)⟩
    obtain ⟨q, hq⟩ := Go.Deep.choose_lt each
    have hget : ∀ (i : Nat) (t : Lt), ((List.range len0).map fun i => (q i).1)[i]? = some t → i < len0 ∧ t = (q i).1 := by
      intro i t e
      have hi : i < len0 := by have := (List.getElem?_eq_some_iff.1 e).1; simpa using this
      rw [List.getElem?_map, List.getElem?_range hi] at e
      simp at e
      exact ⟨hi, e.symm⟩
    refine ⟨(List.range len0).map fun i => (q i).1, some a, cap0, by simp, ?_, ?_⟩
    · rcases Nat.eq_zero_or_pos len0 with h0 | h0
      · subst h0; exact Lits.nil_ _ _ _
      · have c00 := (hq 0 h0).2.2.1
        simp only [Nat.zero_mul, Addr.add, if_true] at c00
        obtain ⟨blk, off, spot⟩ := a
        obtain rfl : spot = none := cell_spot c00
        have hblk : blk < W.heap.size := World.block_lt_of_cell? W _ c00
        refine ⟨by unfold maxLen at hmax; simp; omega, fun _ => ⟨blk, off, rfl, hblk, fun i t e => ?_⟩⟩
        obtain ⟨hi, rfl⟩ := hget i t e
        obtain ⟨h1, h2, h3, h4, h5, h6, h7, h8, h9, _⟩ := hq i hi
        rw [Addr.add_lit] at h3
        rw [Addr.add_lit, Addr.add_lit] at h4 h5 h6 h7
        exact ⟨(q i).2.1.1, (q i).2.1.2, (q i).2.2.1.1, (q i).2.2.1.2, h3, h4, h5, h6, h7, h1, h2, h8.toN, h9.toN⟩
    · intro x hx
      obtain ⟨i, hi, rfl⟩ := List.mem_map.1 hx
      have hi' : i < len0 := by simpa using hi
      obtain ⟨_, _, _, _, _, _, _, _, _, h7, h8⟩ := hq i hi'
      have h9 := bulk_mem h8
      have e5 := congrArg (fun z => Rows.uptoBulk z.1) e1
      simp only [Rows.uptoBulk] at e5
      show (q i).1.l.size + (q i).1.r.size ≤ _
      omega

end

end Go.Proofs.Ytglfjmbclimeeaa

/- An argument that is a substitution: as many binds as values at most. -/

namespace Go.Proofs.Ytglfjmbclimeeaa

open Go.ChangeShapes Go.WideShapes Go.ChangeAt Go.RowKit
set_option maxRecDepth 20000

section

variable {H : Type} {enc : TypeId × Value → H} {W : World} {base : Nat} {held : Bool}

theorem bulk_pos (d : DataW H) : 1 ≤ Rows.uptoBulk d := by
  cases d with
  | lit x => cases x <;> simp only [Rows.uptoBulk] <;> omega
  | _ => simp only [Rows.uptoBulk] <;> omega

theorem bulk_len : ∀ ds : List (DataW H), ds.length ≤ Rows.uptoBulkAll ds
  | [] => Nat.zero_le _
  | d :: ds => by
    simp only [Rows.uptoBulkAll, List.length_cons]
    have := bulk_pos d
    have := bulk_len ds
    omega

theorem open_substN {r : Reach} {b0 : Nat} {v : Value} {d : DataW H} {ps : List MemPlace} (hv : Value.okWide Try.prog W r b0 41 v) (h : DataW.Trod enc Try.prog W base (fun _ => true) held 41 v d ps) :
    ∃ (l : List Bd) (A : Option Addr) (c : Nat), v = .slice A l.length c ∧ Binds W (· < W.heap.size) A l ∧ (∀ x ∈ l, x.t.size ≤ Rows.uptoBulk d) ∧ l.length ≤ Rows.uptoBulk d := by
  obtain ⟨a0, len0, cap0, rfl⟩ := okWide_slice Try.underlying41 hv
  obtain ⟨fuel, hf⟩ := h
  have hf' : DataW.trod enc Try.prog W base (fun _ => true) held fuel 41 [.slice a0 len0 cap0] = some (d, ps) := hf
  rcases DataW.trod_slice Try.underlying41 hf' with ⟨hv, e1⟩ | ⟨a, len, cap, elems, rest, m, hm, hv, e1, _, hl, hmax, hlenE, hel, _, _⟩
  · injection hv with hv
    injection hv with e2 e3 e4
    subst e2; subst e3; subst e4
    exact ⟨[], none, 0, rfl, Binds.nil_ _ _ _, by simp, by simp⟩
  · injection hv with hv
    injection hv with e2 e3 e4
    subst e2; subst e3; subst e4
    have each : ∀ i, i < len0 → ∃ q : Bd × Option Addr × Nat × DataW H, I64 q.1.v ∧ I64 q.1.t.fn ∧ W.cell? (a.add (i * 3)) = some (.int .i64 q.1.v) ∧ W.cell? ((a.add (i * 3)).add 1) = some (.int .i64 q.1.t.fn) ∧ W.cell? ((a.add (i * 3)).add 2) = some (.slice q.2.1 q.1.t.args.length q.2.2.1) ∧ Args W W.heap.size q.2.1 q.1.t.args ∧ q.1.t.size ≤ Rows.uptoBulk q.2.2.2 ∧ q.2.2.2 ∈ elems.map (·.1) := by
      intro i hi
      have h1 := hel i hi
      rw [cellsBind] at h1
      rw [List.getElem?_eq_getElem (by omega)] at h1
      cases hc : W.cells? base (a.add (i * 3)) 3 with
      | none => rw [hc] at h1; cases h1
      | some cs' =>
        rw [hc] at h1
        simp only [Option.bind_some] at h1
        obtain ⟨b, A, c, rfl, hb64, ht64, hA, hb⟩ := trod_bind _ cs' _ h1
        obtain ⟨_, _, hat⟩ := World.cells?_some hc
        refine ⟨(b, A, c, (elems[i]'(by omega)).1), hb64, ht64, ?_, hat 1 (by omega), hat 2 (by omega), hA, hb, List.mem_map.2 ⟨_, List.getElem_mem _, rfl⟩⟩
        have := hat 0 (by omega)
        simpa [Addr.add] using this
    haveI : Inhabited (Bd × Option Addr × Nat × DataW H) := ⟨(⟨0, .node 0 []⟩, none, 0, .nil)⟩
    obtain ⟨q, hq⟩ := Go.Deep.choose_lt each
    have hget : ∀ (i : Nat) (t : Bd), ((List.range len0).map fun i => (q i).1)[i]? = some t → i < len0 ∧ t = (q i).1 := by
      intro i t e
      have hi : i < len0 := by have := (List.getElem?_eq_some_iff.1 e).1; simpa using this
      rw [List.getElem?_map, List.getElem?_range hi] at e
      simp at e
      exact ⟨hi, e.symm⟩
    refine ⟨(List.range len0).map fun i => (q i).1, some a, cap0, by simp, ?_, ?_, ?_⟩
    · rcases Nat.eq_zero_or_pos len0 with h0 | h0
      · subst h0; exact Binds.nil_ _ _ _
      · have c00 := (hq 0 h0).2.2.1
        simp only [Nat.zero_mul, Addr.add, if_true] at c00
        obtain ⟨blk, off, spot⟩ := a
        obtain rfl : spot = none := cell_spot c00
        have hblk : blk < W.heap.size := World.block_lt_of_cell? W _ c00
        refine ⟨by unfold maxLen at hmax; simp; omega, fun _ => ⟨blk, off, rfl, hblk, fun i t e => ?_⟩⟩
        obtain ⟨hi, rfl⟩ := hget i t e
        obtain ⟨h1, h2, h3, h4, h5, h6, _⟩ := hq i hi
        rw [Addr.add_lit] at h3
        rw [Addr.add_lit, Addr.add_lit] at h4 h5
        exact ⟨(q i).2.1, (q i).2.2.1, h3, h4, h5, h1, h2, h6.toN⟩
    · intro x hx
      obtain ⟨i, hi, rfl⟩ := List.mem_map.1 hx
      have hi' : i < len0 := by simpa using hi
      obtain ⟨_, _, _, _, _, _, h7, h8⟩ := hq i hi'
      have h9 := bulk_mem h8
      have e5 := congrArg (fun z => Rows.uptoBulk z.1) e1
      simp only [Rows.uptoBulk] at e5
      show (q i).1.t.size ≤ _
      omega
    · have e5 := congrArg (fun z => Rows.uptoBulk z.1) e1
      simp only [Rows.uptoBulk] at e5
      have e6 := bulk_len (elems.map fun x => x.1)
      rw [List.length_map] at e6
      simp
      omega

end

end Go.Proofs.Ytglfjmbclimeeaa

