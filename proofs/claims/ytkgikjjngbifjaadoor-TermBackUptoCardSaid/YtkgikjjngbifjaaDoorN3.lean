/- The document's own answer: Vars, by Join. -/
import Derived.Test.YtkgikjjngbifjaaDoorN2
import Derived.Test.YtkgikjjngbifjaaDoorD1
namespace Go.Proofs.YtkgikjjngbifjaaDoor
open Go.RowKit
set_option maxRecDepth 100000

theorem fold_len : ∀ (r l : List Int), (r.foldl insI l).length ≤ l.length + r.length
  | [], l => by simp
  | v :: r, l => by
    have h1 := fold_len r (insI l v)
    have h2 := insI_len l v
    simp only [List.foldl_cons, List.length_cons]
    omega
theorem vnL_le (xs : List Tm) (k : Nat) : (vnL (xs.take k)).length ≤ (vnL xs).length := by
  have := congrArg List.length (vnL_app (xs.take k) (xs.drop k))
  rw [List.take_append_drop, List.length_append] at this
  omega

def RJoin (t : Tm) : Prop := ∀ (l : List Int), l.length + (vn t).length ≤ 4398046511104 → ∀ (Al A : Option Addr) (cl c : Nat) (w : World), I64 t.fn → Ints w w.heap.size Al l → Args w w.heap.size A t.args →
  Calls Tryd.prog 49 #[.slice Al l.length cl, .agg #[.int .i64 t.fn, .slice A t.args.length c]] w (InsPost ((vn t).foldl insI l) w)

set_option maxHeartbeats 2000000 in
theorem ref2Join_any (t : Tm) : RJoin t := by
  refine Tm.ind (P := RJoin) (fun f xs ih => ?_) t
  intro l hl Al A cl c w hf hI hA
  simp only [Tm.fn, Tm.args] at hf hA ⊢
  have hlen := hA.len
  obtain ⟨W, hW⟩ : ∃ W, w.alloc (.cells #[.int .i64 f, .slice A xs.length c] 27) = W := ⟨_, rfl⟩
  obtain ⟨hB, hlt, hS⟩ := box_term hW
  have HW := Lib.hid hW
  have hI' := Lib.hid (hI.on hB)
  obtain ⟨x0, x1⟩ := hS W (Below.refl _ _)
  -- what stands in the row as the loop begins
  obtain ⟨l0, hl0, hv, hl0l⟩ : ∃ l0, l0 = (if f < 0 then insI l (-1 - f) else l) ∧ (vn (.node f xs)).foldl insI l = (vnL xs).foldl insI l0 ∧ l0.length + (vnL xs).length ≤ 4398046511104 := by
    refine ⟨_, rfl, ?_, ?_⟩
    · simp only [vn]
      by_cases h : f < 0
      · simp [h]
      · simp [h]
    · simp only [vn] at hl
      by_cases h : f < 0
      · have := insI_len l (-1 - f)
        simp [h] at hl ⊢; omega
      · simp [h] at hl ⊢; omega
  have Hv := Lib.hid hv
  clear hW hv hI
  by_cases hf0 : f < 0
  · rw [if_pos hf0] at hl0
    have h64 : I64 (-1 - f) := ⟨by have := hf.1; omega, by have := hf.1; omega⟩
    have hf1 := hf.1
    have Hl0 := Lib.hid hl0
    clear hl0
    go_enter Tryd.func49, Tryd.ntmps49
    go_upto_region 1 with fail
    rw [HW.out]
    go_wp2_with (first
      | (go_at_call 69
         go_must (
         refine (ref2Insert_any l (-1 - f) Al cl W (by omega) h64 hI'.out).mono ?_
         rintro e w1 ⟨v1, rfl, hv1, hb1⟩
         rw [← Hl0.out] at hv1))
      | fail)
    go_loopw [0, 5] (fun o i wr => ∃ (k : Nat) (r : List Int), k ≤ xs.length ∧ i = .int .i64 (k : Int) ∧ IntsV wr o r ∧ Below W.heap.size W wr ∧ Hid (r = (vnL (xs.take k)).foldl insI l0)) (fun _ i _ => xs.length - (intOf i).toNat)
    case atStart => exact ⟨0, l0, Nat.zero_le _, rfl, hv1, hb1, Lib.hid (by simp [vnL])⟩
    case round =>
      obtain ⟨k, r, hk, rfl, ⟨Ar, cr, rfl, hIr⟩, hBr, Hr⟩ := hrel
      obtain ⟨_, z1⟩ := hS _ hBr
      by_cases hkl : k < xs.length
      · obtain ⟨u, hu⟩ : ∃ u, xs[k]? = some u := ⟨_, List.getElem?_eq_getElem hkl⟩
        obtain ⟨bb, off, A1, c1, rfl, ha⟩ := (hA.on (hB.trans (hBr.mono hB.size))).get hu
        have e0 := ha.c0
        have e1 := ha.c1
        have hmem := List.mem_of_getElem? hu
        have hsub := Lib.hid ha.sub
        have hu64 := ha.hi
        have hvk := vnL_take hu
        have hIr' := Lib.hid hIr
        have hrl : r.length + (vn u).length ≤ 4398046511104 := by
          have h1 := fold_len (vnL (xs.take k)) l0
          have h2 := vnL_le xs (k + 1)
          rw [hvk, List.length_append] at h2
          rw [← Hr.out] at h1
          omega
        have hVk := Lib.hid hvk
        clear hu ha hvk hIr
        go_wp2_with (first
          | (go_at_call 49
             go_must (
             refine (ih u hmem r hrl Ar A1 cr c1 wr hu64 hIr'.out hsub.out).mono ?_
             rintro e w2 ⟨v2, rfl, hv2, hb2⟩))
          | fail)
        exact ⟨⟨k + 1, _, by omega, by go_num, hv2, hBr.trans (hb2.mono hBr.size), Lib.hid (by rw [hVk.out, List.foldl_append, ← Hr.out])⟩, by simp [intOf]; omega⟩
      · obtain rfl : k = xs.length := by omega
        have Hf := Lib.hid (show (vn (.node f xs)).foldl insI l = r by rw [Hv.out, Hr.out, List.take_length])
        clear Hv Hr
        go_wp2
        go_ret
        exact ⟨.slice Ar r.length cr, rfl, by rw [Hf.out]; exact ⟨Ar, cr, rfl, hIr⟩, hB.trans (hBr.mono hB.size)⟩
  · rw [if_neg hf0] at hl0
    subst hl0
    go_enter Tryd.func49, Tryd.ntmps49
    go_upto_region 1 with fail
    rw [HW.out]
    go_wp2
    go_loopw [0, 5] (fun o i wr => ∃ (k : Nat) (r : List Int), k ≤ xs.length ∧ i = .int .i64 (k : Int) ∧ IntsV wr o r ∧ Below W.heap.size W wr ∧ Hid (r = (vnL (xs.take k)).foldl insI l0)) (fun _ i _ => xs.length - (intOf i).toNat)
    case atStart => exact ⟨0, l0, Nat.zero_le _, rfl, ⟨Al, cl, rfl, hI'.out⟩, Below.refl _ _, Lib.hid (by simp [vnL])⟩
    case round =>
      obtain ⟨k, r, hk, rfl, ⟨Ar, cr, rfl, hIr⟩, hBr, Hr⟩ := hrel
      obtain ⟨_, z1⟩ := hS _ hBr
      by_cases hkl : k < xs.length
      · obtain ⟨u, hu⟩ : ∃ u, xs[k]? = some u := ⟨_, List.getElem?_eq_getElem hkl⟩
        obtain ⟨bb, off, A1, c1, rfl, ha⟩ := (hA.on (hB.trans (hBr.mono hB.size))).get hu
        have e0 := ha.c0
        have e1 := ha.c1
        have hmem := List.mem_of_getElem? hu
        have hsub := Lib.hid ha.sub
        have hu64 := ha.hi
        have hvk := vnL_take hu
        have hIr' := Lib.hid hIr
        have hrl : r.length + (vn u).length ≤ 4398046511104 := by
          have h1 := fold_len (vnL (xs.take k)) l0
          have h2 := vnL_le xs (k + 1)
          rw [hvk, List.length_append] at h2
          rw [← Hr.out] at h1
          omega
        have hVk := Lib.hid hvk
        clear hu ha hvk hIr
        go_wp2_with (first
          | (go_at_call 49
             go_must (
             refine (ih u hmem r hrl Ar A1 cr c1 wr hu64 hIr'.out hsub.out).mono ?_
             rintro e w2 ⟨v2, rfl, hv2, hb2⟩))
          | fail)
        exact ⟨⟨k + 1, _, by omega, by go_num, hv2, hBr.trans (hb2.mono hBr.size), Lib.hid (by rw [hVk.out, List.foldl_append, ← Hr.out])⟩, by simp [intOf]; omega⟩
      · obtain rfl : k = xs.length := by omega
        have Hf := Lib.hid (show (vn (.node f xs)).foldl insI l0 = r by rw [Hv.out, Hr.out, List.take_length])
        clear Hv Hr
        go_wp2
        go_ret
        exact ⟨.slice Ar r.length cr, rfl, by rw [Hf.out]; exact ⟨Ar, cr, rfl, hIr⟩, hB.trans (hBr.mono hB.size)⟩

theorem ref2Vars_any (t : Tm) (A : Option Addr) (c : Nat) (w : World) (hf : I64 t.fn) (hl : t.size ≤ 4398046511104) (hA : Args w w.heap.size A t.args) :
    Calls Tryd.prog 24 #[.agg #[.int .i64 t.fn, .slice A t.args.length c]] w (InsPost ((vn t).foldl insI []) w) := by
  have hB : Below w.heap.size w (w.alloc (.cells #[.int .i64 t.fn, .slice A t.args.length c] 27)) := (Below.refl _ _).alloc (Nat.le_refl _) _
  have hN := fun w1 => (⟨by simp, by simp, fun h => by simp at h⟩ : Ints w1 w1.heap.size none [])
  have hvl := vn_len t
  go_enter Tryd.func24, Tryd.ntmps24
  go_wp2_with (first
    | (go_at_call 49
       go_must (
       refine (ref2Join_any t [] (by simp; omega) none A 0 c _ hf (hN _) (hA.on hB)).mono ?_
       rintro e w1 ⟨v1, rfl, hv1, hb1⟩
       have hB1 := bl_step hB hb1))
    | fail)
  go_ret
  exact ⟨v1, rfl, hv1, hB1⟩
end Go.Proofs.YtkgikjjngbifjaaDoor
