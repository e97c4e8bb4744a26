/- The document's own answer: Vars. -/
import Derived.Test.YtkgikjjngbifjaaDoorN1
import Derived.Test.YtkgikjjngbifjaaDoorG2
namespace Go.Proofs.YtkgikjjngbifjaaDoor
open Go.RowKit
set_option maxRecDepth 100000

/-- A slice that holds the numbers. -/
def IntsV (w : World) (v : Value) (l : List Int) : Prop := ∃ A c, v = .slice A l.length c ∧ Ints w w.heap.size A l
/-- A row of the call's own, read. -/
theorem row_ints {w : World} {base : Nat} {v : Value} {l : List Int} (h : w.ownsRow base 3 1 v l.length (l.map (Value.int .i64))) (hl : l.length ≤ 9223372036854775807) (hi : ∀ x ∈ l, I64 x) : IntsV w v l := by
  rcases h.2 with ⟨rfl, h0⟩ | ⟨g, cap, cur, rfl, hb, hg, _⟩
  · exact ⟨none, 0, by rw [h0], hl, hi, fun hn => by omega⟩
  · refine ⟨_, _, rfl, hl, hi, fun hn => ⟨g, 0, rfl, (Array.getElem?_eq_some_iff.1 hg).1, fun i x hx => ?_⟩⟩
    have hlt := (List.getElem?_eq_some_iff.1 hx).1
    rw [Nat.zero_add, h.cellAt i (by simpa using hlt)]
    simp [hx]
theorem insI_len (l : List Int) (v : Int) : (insI l v).length ≤ l.length + 1 := by
  have key : ∀ (r : List Int) (d : Bool) (out z : List Int), insGo v r d out = some z → z.length ≤ out.length + r.length + (if d then 0 else 1) := by
    intro r
    induction r with
    | nil =>
      intro d out z h
      simp only [insGo, Option.some.injEq] at h
      subst h
      cases d <;> simp
    | cons x r ih =>
      intro d out z h
      simp only [insGo] at h
      split at h
      · cases h
      · split at h
        · rename_i h2
          have := ih _ _ _ h
          simp only [h2.2, List.length_append, List.length_cons, List.length_nil] at this ⊢
          simp at this ⊢
          omega
        · have := ih _ _ _ h
          simp only [List.length_append, List.length_cons, List.length_nil] at this ⊢
          omega
  unfold insI
  cases h : insGo v l false [] with
  | none => simp
  | some z => have := key _ _ _ _ h; simp at this ⊢; omega
theorem insGo_i64 {v : Int} (hv : I64 v) : ∀ (r : List Int) (d : Bool) (out z : List Int), (∀ x ∈ r, I64 x) → (∀ x ∈ out, I64 x) → insGo v r d out = some z → ∀ x ∈ z, I64 x
  | [], d, out, z, hr, ho, h => by
    simp only [insGo, Option.some.injEq] at h
    subst h
    cases d
    · simp only [Bool.false_eq_true, if_false, List.mem_append, List.mem_cons, List.not_mem_nil, or_false]
      rintro x (hx | rfl)
      · exact ho x hx
      · exact hv
    · simpa using ho
  | y :: r, d, out, z, hr, ho, h => by
    have hy := hr y (by simp)
    have hr' : ∀ x ∈ r, I64 x := fun x hx => hr x (by simp [hx])
    simp only [insGo] at h
    split at h
    · cases h
    · split at h
      · refine insGo_i64 hv r _ _ z hr' ?_ h
        simp only [List.mem_append, List.mem_cons, List.not_mem_nil, or_false]
        rintro x ((hx | rfl) | rfl)
        · exact ho x hx
        · exact hv
        · exact hy
      · refine insGo_i64 hv r _ _ z hr' ?_ h
        simp only [List.mem_append, List.mem_cons, List.not_mem_nil, or_false]
        rintro x (hx | rfl)
        · exact ho x hx
        · exact hy
theorem insI_i64 {l : List Int} {v : Int} (hl : ∀ x ∈ l, I64 x) (hv : I64 v) : ∀ x ∈ insI l v, I64 x := by
  unfold insI
  cases h : insGo v l false [] with
  | none => simpa using hl
  | some z => simpa using insGo_i64 hv l _ _ z hl (by simp) h

def InsPost (l : List Int) (w : World) (e : Ending) (w' : World) : Prop := ∃ v, e = .returned v ∧ IntsV w' v l ∧ Below w.heap.size w w'

set_option maxHeartbeats 2000000 in
theorem ref2Insert_any (l : List Int) (v : Int) (A : Option Addr) (c : Nat) (w : World) (hlen : l.length ≤ 4398046511104) (hv : I64 v) (hA : Ints w w.heap.size A l) :
    Calls Tryd.prog 69 #[.slice A l.length c, .int .i64 v] w (InsPost (insI l v) w) := by
  obtain ⟨i0, hi, hz0, hz1, hz2⟩ := info_parts infoInt
  have h64 := hA.i64
  go_enter Tryd.func69, Tryd.ntmps69
  go_wp2
  go_loopw [5, 6, 7] (fun o d i wr => ∃ (k : Nat) (dn : Bool) (out : List Int), k ≤ l.length ∧ i = .int .i64 (k : Int) ∧ d = .bool dn ∧ wr.ownsRow w.heap.size 3 1 o out.length (out.map (Value.int .i64)) ∧ Below w.heap.size w wr ∧ Hid (insGo v l false [] = insGo v (l.drop k) dn out ∧ out.length ≤ k + (if dn = true then 1 else 0) ∧ ∀ x ∈ out, I64 x)) (fun _ _ i _ => l.length - (intOf i).toNat)
  case atStart => exact ⟨0, false, [], Nat.zero_le _, rfl, rfl, by simpa using World.ownsRow_nil w _ _ _, Below.refl _ _, rfl, by simp, by simp⟩
  case round =>
    obtain ⟨k, dn, out, hk, rfl, rfl, hrow, hBr, H⟩ := hrel
    by_cases hkl : k < l.length
    · obtain ⟨x, hx⟩ : ∃ x, l[k]? = some x := ⟨_, List.getElem?_eq_getElem hkl⟩
      obtain ⟨pb, po, rfl, hpb, hpc⟩ := hA.ad (by omega)
      have pw := hpc _ _ hx
      have p0 := cell_on hBr hpb pw
      have hdrop : l.drop k = x :: l.drop (k + 1) := by
        rw [List.drop_eq_getElem_cons hkl]
        rw [List.getElem?_eq_getElem hkl] at hx
        injection hx with hx
        rw [hx]
      have hxi := h64 x (List.mem_of_getElem? hx)
      have hrl := row_lt hrow
      have hBrs := hBr.size
      have hol0 := H.out.2.1
      have hol : out.length ≤ k + 1 := by split at hol0 <;> omega
      clear hx hpc
      by_cases e : x = v
      · have hn : insI l v = l := by
          unfold insI
          rw [H.out.1, hdrop]
          simp only [insGo, if_pos e, Option.getD_none]
        have hn := Lib.hid hn
        go_wp2
        go_ret
        exact ⟨.slice (some ⟨pb, po, none⟩) l.length c, rfl, ⟨some ⟨pb, po, none⟩, c, by rw [hn.out], by rw [hn.out]; exact hA.on hBr⟩, hBr⟩
      · have Hd := Lib.hid hdrop
        clear hdrop
        by_cases hd : v < x ∧ dn = false
        · obtain ⟨hvx, rfl⟩ := hd
          have hgo : insGo v l false [] = insGo v (l.drop (k + 1)) true (out ++ [v] ++ [x]) := by
            rw [H.out.1, Hd.out]
            simp only [insGo, if_neg e]
            rw [if_pos ⟨hvx, by trivial⟩]
          have hgo := Lib.hid hgo
          go_wp2_with (first
            | (at_builtin
               refine wpList_append_own _ rfl _ _ 34 rfl w.heap.size 3 i0 (.int .i64 0) 1 8 Tryd.underlying34 hi hz0 hz1 hz2 rfl (by decide) _ out.length _ rfl (hrow.alloc _) ⟨wr.heap.size, 0, none⟩ 1 1 [.int .i64 v] rfl rfl (cell_one_new _ _ _) (by simp [Value.oneCell']) (by unfold maxLen; omega) (by omega) (by simp; omega) ?_
               go_must (
               intro v1 w1 hown1 hgr1 _
               have hB1 : Below w.heap.size w w1 := (hBr.alloc hBrs _).grown hgr1 (by simp; omega) fun g hg => (hrl g hg).1
               have p1 := cell_on hB1 hpb pw
               have hB1s := hB1.size
               clear hgr1))
            | (at_builtin
               go_must (
               refine wpList_append_own _ rfl _ _ 34 rfl w.heap.size 3 i0 (.int .i64 0) 1 8 Tryd.underlying34 hi hz0 hz1 hz2 rfl (by decide) _ (out.length + 1) _ rfl (hown1.alloc _) ⟨w1.heap.size, 0, none⟩ 1 1 [.int .i64 x] rfl rfl (cell_one_new _ _ _) (by simp [Value.oneCell']) (by unfold maxLen; omega) (by omega) (by simp; omega) ?_
               intro v2 w2 hown2 hgr2 _
               have hB2 : Below w.heap.size w w2 := (hB1.alloc hB1s _).grown hgr2 (by simp; omega) fun g hg => (row_lt hown1 g hg).1
               clear hgr2))
            | fail)
          refine ⟨⟨k + 1, true, out ++ [v] ++ [x], by omega, by go_num, rfl, ?_, hB2, hgo.out, by simp at hol0 ⊢; omega, ?_⟩, by simp [intOf]; omega⟩
          · simpa [List.map_append] using hown2
          · simp only [List.mem_append, List.mem_cons, List.not_mem_nil, or_false]
            rintro y ((hy | rfl) | rfl)
            · exact H.out.2.2 y hy
            · exact hv
            · exact hxi
        · have hgo : insGo v l false [] = insGo v (l.drop (k + 1)) dn (out ++ [x]) := by
            rw [H.out.1, Hd.out]
            simp only [insGo, if_neg e]
            rw [if_neg hd]
          have hgo := Lib.hid hgo
          have hfin : ∀ (w2 : World) (v2 : Value), w2.ownsRow w.heap.size 3 1 v2 (out.length + 1) (out.map (Value.int .i64) ++ [.int .i64 x]) → w2.ownsRow w.heap.size 3 1 v2 (out ++ [x]).length ((out ++ [x]).map (Value.int .i64)) := fun w2 v2 h => by simpa [List.map_append] using h
          have hxs : ∀ y ∈ out ++ [x], I64 y := by
            simp only [List.mem_append, List.mem_cons, List.not_mem_nil, or_false]
            rintro y (hy | rfl)
            · exact H.out.2.2 y hy
            · exact hxi
          by_cases hvx : v < x
          · have hdt : dn = true := by
              cases dn
              · exact absurd ⟨hvx, rfl⟩ hd
              · rfl
            subst hdt
            clear hd
            go_wp2_with (first
              | (at_builtin
                 go_must (
                 refine wpList_append_own _ rfl _ _ 34 rfl w.heap.size 3 i0 (.int .i64 0) 1 8 Tryd.underlying34 hi hz0 hz1 hz2 rfl (by decide) _ out.length _ rfl (hrow.alloc _) ⟨wr.heap.size, 0, none⟩ 1 1 [.int .i64 x] rfl rfl (cell_one_new _ _ _) (by simp [Value.oneCell']) (by unfold maxLen; omega) (by omega) (by simp; omega) ?_
                 intro v2 w2 hown2 hgr2 _
                 have hB2 : Below w.heap.size w w2 := (hBr.alloc hBrs _).grown hgr2 (by simp; omega) fun g hg => (hrl g hg).1
                 clear hgr2))
              | fail)
            exact ⟨⟨k + 1, true, out ++ [x], by omega, by go_num, rfl, hfin _ _ hown2, hB2, hgo.out, by simp at hol0 ⊢; omega, hxs⟩, by simp [intOf]; omega⟩
          · clear hd
            go_wp2_with (first
              | (at_builtin
                 go_must (
                 refine wpList_append_own _ rfl _ _ 34 rfl w.heap.size 3 i0 (.int .i64 0) 1 8 Tryd.underlying34 hi hz0 hz1 hz2 rfl (by decide) _ out.length _ rfl (hrow.alloc _) ⟨wr.heap.size, 0, none⟩ 1 1 [.int .i64 x] rfl rfl (cell_one_new _ _ _) (by simp [Value.oneCell']) (by unfold maxLen; omega) (by omega) (by simp; omega) ?_
                 intro v2 w2 hown2 hgr2 _
                 have hB2 : Below w.heap.size w w2 := (hBr.alloc hBrs _).grown hgr2 (by simp; omega) fun g hg => (hrl g hg).1
                 clear hgr2))
              | fail)
            exact ⟨⟨k + 1, dn, out ++ [x], by omega, by go_num, rfl, hfin _ _ hown2, hB2, hgo.out, by rw [List.length_append]; simp only [List.length_cons, List.length_nil]; omega, hxs⟩, by simp [intOf]; omega⟩
    · obtain rfl : k = l.length := by omega
      have hrl := row_lt hrow
      have hBrs := hBr.size
      have hol0 := H.out.2.1
      have hol : out.length ≤ l.length + 1 := by split at hol0 <;> omega
      cases dn with
      | true =>
        have hn : insI l v = out := by
          unfold insI
          rw [H.out.1, List.drop_length]
          simp [insGo]
        have HN := Lib.hid hn
        clear hn
        go_wp2
        go_ret
        exact ⟨u5, rfl, by rw [HN.out]; exact row_ints hrow (by omega) H.out.2.2, hBr⟩
      | false =>
        have hn : insI l v = out ++ [v] := by
          unfold insI
          rw [H.out.1, List.drop_length]
          simp [insGo]
        have HN := Lib.hid hn
        clear hn
        go_wp2_with (first
          | (at_builtin
             go_must (
             refine wpList_append_own _ rfl _ _ 34 rfl w.heap.size 3 i0 (.int .i64 0) 1 8 Tryd.underlying34 hi hz0 hz1 hz2 rfl (by decide) _ out.length _ rfl (hrow.alloc _) ⟨wr.heap.size, 0, none⟩ 1 1 [.int .i64 v] rfl rfl (cell_one_new _ _ _) (by simp [Value.oneCell']) (by unfold maxLen; omega) (by omega) (by simp; omega) ?_
             intro v2 w2 hown2 hgr2 _
             have hB2 : Below w.heap.size w w2 := (hBr.alloc hBrs _).grown hgr2 (by simp; omega) fun g hg => (hrl g hg).1
             clear hgr2))
          | fail)
        go_ret
        refine ⟨v2, rfl, ?_, hB2⟩
        rw [HN.out]
        refine row_ints (by simpa [List.map_append] using hown2) (by simp; omega) ?_
        simp only [List.mem_append, List.mem_cons, List.not_mem_nil, or_false]
        rintro y (hy | rfl)
        · exact H.out.2.2 y hy
        · exact hv
end Go.Proofs.YtkgikjjngbifjaaDoor
