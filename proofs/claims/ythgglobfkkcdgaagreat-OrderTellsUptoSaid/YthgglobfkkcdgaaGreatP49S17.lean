import Derived.Test.YthgglobfkkcdgaaGreatP49S16
import Derived.Test.YthgglobfkkcdgaaGreatP49S2
import Derived.Test.YthgglobfkkcdgaaGreatP49S3
import Derived.Test.YthgglobfkkcdgaaGreatP49S1
import Derived.Deep.RegionLaw
import Derived.Test.YthgglobfkkcdgaaGreatP49S10
import Derived.Test.YthgglobfkkcdgaaGreatP49S13
import Derived.Test.YthgglobfkkcdgaaGreatP49S15
namespace Go.Proofs.YthgglobfkkcdgaaGreat
open Go.RowKit Go.Shelf
set_option maxRecDepth 100000
def sizC : List Li → Nat
  | [] => 0
  | x :: l => x.l.size + x.r.size + sizC l
theorem sizC_take {l : List Li} {k : Nat} {x : Li} (h : l[k]? = some x) : sizC (l.take (k + 1)) = sizC (l.take k) + (x.l.size + x.r.size) := by
  have : ∀ a b : List Li, sizC (a ++ b) = sizC a + sizC b := fun a b => by
    induction a with
    | nil => simp [sizC]
    | cons y a ih => simp only [List.cons_append, sizC, ih]; omega
  rw [List.take_add_one, h, this]
  simp [sizC]
theorem sizC_le {l : List Li} (h : ∀ x ∈ l, x.l.size + x.r.size ≤ 2097152) : sizC l ≤ l.length * 2097152 := by
  induction l with
  | nil => simp [sizC]
  | cons x l ih =>
    have h1 := h x (by simp)
    have h2 := ih fun y hy => h y (by simp [hy])
    rw [sizC, List.length_cons, Nat.succ_mul]; omega
set_option maxHeartbeats 2000000 in
theorem oSize_any (l : List Li) (A : Option Addr) (c : Nat) (w : World) (hL : ClsK w (· < w.heap.size) A l) (hl : l.length ≤ 1048576) (hz : ∀ x ∈ l, x.l.size + x.r.size ≤ 2097152) :
    Calls Tryz.prog 5 #[.slice A l.length c] w fun e w' => e = .returned (.int .i64 (sizC l : Int)) ∧ Below w.heap.size w w' := by
  have HL := Lib.hid hL
  have HZ := Lib.hid hz
  clear hL hz
  go_enter Tryz.func5, Tryz.ntmps5
  go_wp2
  go_loopw [3, 7] (fun n i wr => ∃ k : Nat, k ≤ l.length ∧ i = .int .i64 (k : Int) ∧ n = .int .i64 (sizC (l.take k) : Int) ∧ Below w.heap.size w wr) (fun _ i _ => l.length - (intOf i).toNat)
  case atStart => exact ⟨0, Nat.zero_le _, rfl, rfl, Below.refl _ _⟩
  case round =>
    obtain ⟨k, hk, rfl, rfl, hBr⟩ := hrel
    by_cases hlt : k < l.length
    · obtain ⟨x, hx⟩ : ∃ x, l[k]? = some x := ⟨_, List.getElem?_eq_getElem hlt⟩
      obtain ⟨b, off, A1, c1, A2, c2, rfl, hb, e0, e1, e2, e3, e4, hK⟩ := HL.out.get hx
      have hst := Lib.hid (sizC_take hx)
      have hxz := HZ.out x (List.mem_of_getElem? hx)
      have hsk : sizC (l.take k) ≤ k * 2097152 := by
        have := sizC_le (l := l.take k) fun y hy => HZ.out y (List.mem_of_mem_take hy)
        rwa [List.length_take, Nat.min_eq_left hk] at this
      have hk2 : k * 2097152 ≤ 1048576 * 2097152 := Nat.mul_le_mul_right _ (by omega)
      have hwr1 : IntKind.i64.wrap ((k : Int) + 1) = (k : Int) + 1 := by rw [IntKind.wrap_i64]; omega
      have hw1 : IntKind.i64.wrap ((x.l.size : Int) + (x.r.size : Int)) = ((x.l.size + x.r.size : Nat) : Int) := by rw [IntKind.wrap_i64]; omega
      have hw2 : IntKind.i64.wrap ((sizC (l.take k) : Int) + ((x.l.size : Int) + (x.r.size : Int))) = ((sizC (l.take k) + (x.l.size + x.r.size) : Nat) : Int) := by rw [IntKind.wrap_i64]; omega
      have hBz := fun z : Later wr.heap.size wr => hBr.trans (z.h.mono hBr.size)
      have m1 := fun z : Later wr.heap.size wr => cell_on (hBz z) hb e1
      have m2 := fun z : Later wr.heap.size wr => cell_on (hBz z) hb e2
      have m3 := fun z : Later wr.heap.size wr => cell_on (hBz z) hb e3
      have m4 := fun z : Later wr.heap.size wr => cell_on (hBz z) hb e4
      have H1 := Lib.hid fun z : Later wr.heap.size wr => refSize_any x.l (by omega) A1 c1 z.w hK.il ((hK.on (hBz z)).sl.toA)
      have H2 := Lib.hid fun z : Later wr.heap.size wr => refSize_any x.r (by omega) A2 c2 z.w hK.ir ((hK.on (hBz z)).sr.toA)
      clear hx hb e0 e1 e2 e3 e4 hK hBz hxz hsk hk2
      go_upto_region 5 with fail
      refine wp_region_later wr.heap.size wr (by kernel_rfl) (by kernel_rfl) (bl_drewN (Below.refl _ _) 1) ?_
      repeat (go_big_quiet_step (first
        | (go_at_call 18; first
          | (with_reducible refine calls_later _ (Nat.le_refl _) (H1.out _))
          | (with_reducible refine calls_later _ (Nat.le_refl _) (H2.out _)))
        | fail))
      refine wpQuiet_nil ?_
      rintro _ ⟨z, rfl⟩
      clear m1 m2 m3 m4 H1 H2
      go_wp2
      go_roundw
      case rel => exact ⟨k + 1, by omega, by go_num, by rw [hst.out, Int.natCast_add, Int.natCast_add], hBr.trans (z.h.mono hBr.size)⟩
      case measure => simp [intOf]; omega
    · obtain rfl : k = l.length := by omega
      go_wp2
      go_ret
      exact ⟨ret_int (by rw [List.take_length]), hBr⟩
end Go.Proofs.YthgglobfkkcdgaaGreat
namespace Go.Proofs.YthgglobfkkcdgaaGreat
open Go.RowKit Go.Shelf
set_option maxRecDepth 100000
end Go.Proofs.YthgglobfkkcdgaaGreat
namespace Go.Proofs.YthgglobfkkcdgaaGreat
open Go.RowKit Go.Shelf Go.Maps
set_option maxRecDepth 100000
set_option maxHeartbeats 4000000 in
theorem oPlain_any (n : Nat) (hn : n ≤ 1000) (w : World) : Calls Tryz.prog 19 #[.int .i64 (n : Int)] w fun e w' => ∃ vP vQ, e = .returned (.agg #[.bool false, vP, vQ, .int .i64 1]) ∧ IntsR w' w.heap.size vP (numsI n) ∧ IntsR w' w.heap.size vQ (List.replicate n 1) ∧ (∀ g, vP.ownBlock = some g → vQ.ownBlock ≠ some g) ∧ Below w.heap.size w w' := by
  obtain ⟨q0, q1⟩ := heap2 w (.cells #[.bool false, .slice none 0 0, .slice none 0 0, .int .i64 0] 24) (.cells #[.bool false, .slice none 0 0, .slice none 0 0, .int .i64 1] 24)
  obtain ⟨W, hW⟩ : ∃ W, ((w.alloc (.cells #[.bool false, .slice none 0 0, .slice none 0 0, .int .i64 0] 24)).alloc (.cells #[.bool false, .slice none 0 0, .slice none 0 0, .int .i64 1] 24)) = W := ⟨_, rfl⟩
  have hB : Below w.heap.size w W := by rw [← hW]; exact ((Below.refl _ _).alloc (Nat.le_refl _) _).alloc (by simp) _
  rw [hW] at q0 q1
  have hWz : W.heap.size = w.heap.size + 2 := by rw [← hW]; simp
  obtain ⟨i0, hi, hz0, hz1, hz2⟩ := info_parts info_int
  have hL0 : LstW W (w.heap.size + 1) (.slice none 0 0) (.slice none 0 0) [] [] W := ⟨q1, ⟨⟨by simp, .inl ⟨rfl, rfl⟩⟩, by simp⟩, ⟨⟨by simp, .inl ⟨rfl, rfl⟩⟩, by simp⟩, (fun g e => by cases e), KeepsC.refl _ _, by omega⟩
  have HL0 := Lib.hid hL0
  have HW := Lib.hid hW
  have Hq0 := Lib.hid q0
  clear hW hL0 q0 q1
  go_enter Tryz.func19, Tryz.ntmps19
  go_upto_region 2 with fail
  rw [HW.out]
  go_wp2
  go_loopw [7] (fun i wr => ∃ (k : Nat) (vP vQ : Value), k ≤ n ∧ i = .int .i64 (k : Int) ∧ Hid (LstW W (w.heap.size + 1) vP vQ (numsI k) (List.replicate k 1) wr)) (fun i _ => n - (intOf i).toNat)
  case atStart => exact ⟨0, _, _, Nat.zero_le _, rfl, HL0⟩
  case round =>
    obtain ⟨k, vP, vQ, hk, rfl, HL⟩ := hrel
    obtain ⟨c0, c1, c2, c3⟩ := cells_four HL.out.box
    by_cases hkl : k < n
    · obtain ⟨Ap, cp, hvp⟩ := row_slice HL.out.P.row
      obtain ⟨Aq, cq, hvq⟩ := row_slice HL.out.Q.row
      rw [numsI_len] at hvp
      rw [List.length_replicate] at hvq
      subst hvp; subst hvq
      have hrl := row_lt HL.out.P.row
      have hkp := HL.out.kp.size
      have hwr1 : IntKind.i64.wrap ((k : Int) + 1) = (k : Int) + 1 := by rw [IntKind.wrap_i64]; omega
      go_upto_region 6 with (first
        | (at_builtin
           go_must (
           refine wpList_append_own_at _ rfl _ _ 22 rfl W.heap.size 3 i0 (.int .i64 0) 1 8 Tryz.underlying22 hi hz0 hz1 hz2 rfl (by decide) (.slice Ap k cp) k _ rfl (row_keep (by have := HL.out.P.row; rwa [numsI_len] at this) fun g e => Below.heap_alloc wr _ g (hrl g e).2) ⟨wr.heap.size, 0, none⟩ 1 1 [.int .i64 (k : Int)] rfl rfl (cell_one_new _ _ _) (by simp [Value.oneCell']) (by unfold maxLen; omega) (by omega) (by simp; omega) ?_
           intro v5 w5 hown5 hgr5 _ hat5
           obtain ⟨A5, c5, rfl⟩ := row_slice hown5
           have H5 := Lib.hid (HL.out.p (x := (k : Int)) ⟨by omega, by omega⟩ (by rw [numsI_len]; exact hown5) hgr5 hat5)
           have hfz := frozen_9 H5.out.2 1
           have hc5 := (cells_four H5.out.2).2.1
           clear hown5 hgr5 hat5))
        | fail)
      obtain ⟨X, hX⟩ : ∃ X, w5.setCell ⟨w.heap.size + 1, 1, none⟩ (.slice A5 (k + 1) c5) = X := ⟨_, rfl⟩
      have HX : Hid (LstW W (w.heap.size + 1) (.slice A5 (k + 1) c5) (.slice Aq k cq) (numsI (k + 1)) (List.replicate k 1) X) := Lib.hid (by rw [← hX, numsI_succ]; exact H5.out.1)
      have HXe := Lib.hid hX
      obtain ⟨d0, d1, d2, d3⟩ := cells_four HX.out.box
      have hrl2 := row_lt HX.out.Q.row
      have hkp2 := HX.out.kp.size
      clear hX c0 c1 c2 c3 hfz hrl hkp hc5
      rw [HXe.out]
      go_wp2_with (first
        | (at_builtin
           go_must (
           refine wpList_append_own_at _ rfl _ _ 22 rfl W.heap.size 3 i0 (.int .i64 0) 1 8 Tryz.underlying22 hi hz0 hz1 hz2 rfl (by decide) (.slice Aq k cq) k _ rfl (row_keep (by have := HX.out.Q.row; rwa [List.length_replicate] at this) fun g e => Below.heap_alloc X _ g (hrl2 g e).2) ⟨X.heap.size, 0, none⟩ 1 1 [.int .i64 1] rfl rfl (cell_one_new _ _ _) (by simp [Value.oneCell']) (by unfold maxLen; omega) (by omega) (by simp; omega) ?_
           intro v6 w6 hown6 hgr6 _ hat6
           obtain ⟨A6, c6, rfl⟩ := row_slice hown6
           have H6 := Lib.hid (HX.out.q (x := 1) ⟨by omega, by omega⟩ (by rw [List.length_replicate]; exact hown6) hgr6 hat6)
           have hfz6 := frozen_9 H6.out.2 2
           have hc6 := (cells_four H6.out.2).2.2.1
           clear hown6 hgr6 hat6))
        | fail)
      go_roundw
      case rel => exact ⟨k + 1, _, _, by omega, by go_num, Lib.hid (by rw [ones_succ]; exact H6.out.1)⟩
      case measure => simp [intOf]; omega
    · obtain rfl : k = n := by omega
      obtain ⟨Ap, cp, hvp⟩ := row_slice HL.out.P.row
      obtain ⟨Aq, cq, hvq⟩ := row_slice HL.out.Q.row
      rw [numsI_len] at hvp
      rw [List.length_replicate] at hvq
      subst hvp; subst hvq
      have hr0 := (HL.out.kp.block (show w.heap.size < W.heap.size by omega) (show ¬ w.heap.size = w.heap.size + 1 by omega)).trans Hq0.out
      have hfr := frozen_9 hr0
      obtain ⟨r0, r1, r2, r3⟩ := cells_four hr0
      have hset := Lib.hid (fun (x y z u : Value) => set_four (x' := x) (y' := y) (z' := z) (u' := u) hr0)
      have hP := HL.out.P
      have hQ := HL.out.Q
      have hne := HL.out.ne
      have hkk := HL.out.kp
      have hs4 := fun (x y z u : Value) => keepsC_set1 (b := w.heap.size) (keepsC_set1 (keepsC_set1 (keepsC_set1 (KeepsC.refl _ wr) 0 x) 1 y) 2 z) 3 u
      have HR : Hid (∀ x y z u : Value, let W' := ((((wr.setCell ⟨w.heap.size, 0, none⟩ x).setCell ⟨w.heap.size, 1, none⟩ y).setCell ⟨w.heap.size, 2, none⟩ z).setCell ⟨w.heap.size, 3, none⟩ u); IntsR W' w.heap.size (.slice Ap k cp) (numsI k) ∧ IntsR W' w.heap.size (.slice Aq k cq) (List.replicate k 1) ∧ Below w.heap.size w W') := Lib.hid fun x y z u => by
        have h4 := hs4 x y z u
        have hw1 := hkk.size
        refine ⟨⟨row_low (row_keep hP.row fun g e => h4.block (row_lt hP.row g e).2 (by have := (row_lt hP.row g e).1; omega)) (by omega), hP.i64⟩, ⟨row_low (row_keep hQ.row fun g e => h4.block (row_lt hQ.row g e).2 (by have := (row_lt hQ.row g e).1; omega)) (by omega), hQ.i64⟩, ?_⟩
        exact (hB.trans (hkk.below (n := w.heap.size) (by omega) fun g hg => by omega)).trans (h4.below (by omega) fun g hg => by omega)
      have Hne := Lib.hid hne
      clear hP hQ hne hkk hs4 hr0
      go_wp2
      have hfin := hset.out (.bool false) (.slice Ap k cp) (.slice Aq k cq) (.int .i64 1)
      have hrr := Lib.hid (HR.out (.bool false) (.slice Ap k cp) (.slice Aq k cq) (.int .i64 1))
      obtain ⟨Y, hY⟩ : ∃ Y, ((((wr.setCell ⟨w.heap.size, 0, none⟩ (.bool false)).setCell ⟨w.heap.size, 1, none⟩ (.slice Ap k cp)).setCell ⟨w.heap.size, 2, none⟩ (.slice Aq k cq)).setCell ⟨w.heap.size, 3, none⟩ (.int .i64 1)) = Y := ⟨_, rfl⟩
      simp only [hY] at hrr
      rw [hY] at hfin ⊢
      obtain ⟨f0, f1, f2, f3⟩ := cells_four hfin
      refine bodyPost_ret (v := .agg #[.bool false, .slice Ap k cp, .slice Aq k cq, .int .i64 1]) (by simp [results, Tryz.results19, go_sem, f0, f1, f2, f3]) rfl ⟨_, _, rfl, ?_, ?_, Hne.out, ?_⟩
      · exact hrr.out.1
      · exact hrr.out.2.1
      · exact hrr.out.2.2
end Go.Proofs.YthgglobfkkcdgaaGreat
namespace Go.Proofs.YthgglobfkkcdgaaGreat
open Go.RowKit Go.Shelf
set_option maxRecDepth 100000
def dsqO (o : Odr) (y x : Li) (st : Bool) : Bool := litsO o y x == 3 || (litsO o y x == 2 && st)
def maxB (o : Odr) (l : List Li) (k : Nat) (x : Li) (st : Bool) : Bool := l.zipIdx.all fun p => p.2 == k || !dsqO o p.1 x st
theorem maxB_iff {o : Odr} {l : List Li} {k : Nat} {x : Li} {st : Bool} : maxB o l k x st = true ↔ ∀ (j : Nat) (y : Li), l[j]? = some y → j ≠ k → dsqO o y x st = false := by
  unfold maxB
  rw [List.all_eq_true]
  constructor
  · intro h j y hy hj
    have := h (y, j) (by rw [List.mem_zipIdx_iff_getElem?]; simpa using hy)
    simpa [hj] using this
  · intro h p hp
    rw [List.mem_zipIdx_iff_getElem?] at hp
    by_cases e : p.2 = k
    · simp [e]
    · have := h p.2 p.1 (by simpa using hp) e
      simp [this]
set_option maxHeartbeats 4000000 in
theorem oMaximal_any (o : Odr) (l : List Li) (k : Nat) (x : Li) (st : Bool) (P Q A : Option Addr) (pc qc c : Nat) (w : World) (hrk : o.prec.length ≤ 140737488351232) (hM : OdrM w w.heap.size o P Q) (hL : ClsK w (· < w.heap.size) A l) (hll : l.length ≤ 1048576) (hx : l[k]? = some x) :
    Calls Tryz.prog 9 #[.agg #[.bool o.lpo, .slice P o.prec.length pc, .slice Q o.wts.length qc, .int .i64 o.var], .slice A l.length c, .int .i64 (k : Int), .bool st] w fun e w' => e = .returned (.bool (maxB o l k x st)) ∧ Below w.heap.size w w' := by
  have q0 := heap_alloc_new w (.cells #[.bool o.lpo, .slice P o.prec.length pc, .slice Q o.wts.length qc, .int .i64 o.var] 24)
  obtain ⟨W, hW⟩ : ∃ W, w.alloc (.cells #[.bool o.lpo, .slice P o.prec.length pc, .slice Q o.wts.length qc, .int .i64 o.var] 24) = W := ⟨_, rfl⟩
  have hB : Below w.heap.size w W := by rw [← hW]; exact (Below.refl _ _).alloc (Nat.le_refl _) _
  rw [hW] at q0
  have hq := (Array.getElem?_eq_some_iff.1 q0).1
  have hkl := (List.getElem?_eq_some_iff.1 hx).1
  obtain ⟨b, off, X1, xc1, X2, xc2, rfl, hb, e0, e1, e2, e3, e4, hxK⟩ := hL.get hx
  have HE := Lib.hid (And.intro e0 (And.intro e1 (And.intro e2 (And.intro e3 e4))))
  have HX := Lib.hid hxK
  have HL := Lib.hid hL
  have HM := Lib.hid hM
  have HW := Lib.hid hW
  have Hq := Lib.hid q0
  have Hb := Lib.hid hb
  have g0 : decide ((k : Int) < 0) = false := decide_eq_false (by omega)
  have g1 : decide ((k : Int) ≥ (l.length : Int)) = false := decide_eq_false (by omega)
  clear e0 e1 e2 e3 e4 hxK hL hM hW q0 hb hx
  go_enter Tryz.func9, Tryz.ntmps9
  go_upto_region 1 with fail
  rw [HW.out]
  go_wp2
  go_loopw [20] (fun i wr => ∃ m : Nat, m ≤ l.length ∧ i = .int .i64 (m : Int) ∧ Below W.heap.size W wr ∧ Hid (∀ (j : Nat) (y : Li), j < m → l[j]? = some y → j ≠ k → dsqO o y x st = false)) (fun i _ => l.length - (intOf i).toNat)
  case atStart => exact ⟨0, Nat.zero_le _, rfl, Below.refl _ _, Lib.hid fun j y hj => absurd hj (Nat.not_lt_zero _)⟩
  case round =>
    obtain ⟨m, hm, rfl, hBr, Hn⟩ := hrel
    have hBw : Below w.heap.size w wr := hB.trans (hBr.mono hB.size)
    by_cases hlt : m < l.length
    · obtain ⟨y, hy⟩ : ∃ y, l[m]? = some y := ⟨_, List.getElem?_eq_getElem hlt⟩
      have hwr1 : IntKind.i64.wrap ((m : Int) + 1) = (m : Int) + 1 := by rw [IntKind.wrap_i64]; omega
      by_cases hmk : m = k
      · have e : ((m : Int) == (k : Int)) = true := by simpa using (by omega : (m : Int) = (k : Int))
        have HN2 : Hid (∀ (j : Nat) (y : Li), j < m + 1 → l[j]? = some y → j ≠ k → dsqO o y x st = false) := Lib.hid fun j y hj hy hjk => Hn.out j y (by omega) hy hjk
        clear hy hmk
        go_wp2
        go_roundw
        case rel => exact ⟨m + 1, by omega, by go_num, hBr, HN2⟩
        case measure => simp [intOf]; omega
      · have e : ((m : Int) == (k : Int)) = false := by simpa using (by omega : ¬ (m : Int) = (k : Int))
        obtain ⟨b', off', Y1, yc1, Y2, yc2, hA, hb', d0, d1, d2, d3, d4, hyK⟩ := HL.out.get hy
        injection hA with hA
        injection hA with hA1 hA2
        subst hA1
        subst hA2
        have hy2 := fun z : Later wr.heap.size wr => hBw.trans (z.h.mono hBw.size)
        have HLit := Lib.hid fun z : Later wr.heap.size wr => oLits_any o y x P Q Y1 Y2 X1 X2 pc qc yc1 yc2 xc1 xc2 z.w hrk (HM.out.on (hy2 z)) (hyK.on (hy2 z)) (HX.out.on (hy2 z))
        have hbo := fun z : Later wr.heap.size wr => cells_four (((hBr.trans (z.h.mono hBr.size)).block _ hq).trans Hq.out)
        have m1 := fun z : Later wr.heap.size wr => (hbo z).1
        have m2 := fun z : Later wr.heap.size wr => (hbo z).2.1
        have m3 := fun z : Later wr.heap.size wr => (hbo z).2.2.1
        have m4 := fun z : Later wr.heap.size wr => (hbo z).2.2.2
        have x0 := fun z : Later wr.heap.size wr => cell_on (hy2 z) Hb.out HE.out.1
        have x1 := fun z : Later wr.heap.size wr => cell_on (hy2 z) Hb.out HE.out.2.1
        have x2 := fun z : Later wr.heap.size wr => cell_on (hy2 z) Hb.out HE.out.2.2.1
        have x3 := fun z : Later wr.heap.size wr => cell_on (hy2 z) Hb.out HE.out.2.2.2.1
        have x4 := fun z : Later wr.heap.size wr => cell_on (hy2 z) Hb.out HE.out.2.2.2.2
        have y0 := fun z : Later wr.heap.size wr => cell_on (hy2 z) hb' d0
        have y1 := fun z : Later wr.heap.size wr => cell_on (hy2 z) hb' d1
        have y2 := fun z : Later wr.heap.size wr => cell_on (hy2 z) hb' d2
        have y3 := fun z : Later wr.heap.size wr => cell_on (hy2 z) hb' d3
        have y4 := fun z : Later wr.heap.size wr => cell_on (hy2 z) hb' d4
        obtain ⟨r, hr⟩ : ∃ r, litsO o y x = r := ⟨_, rfl⟩
        rw [hr] at HLit
        have hds : dsqO o y x st = (r == 3 || (r == 2 && st)) := by unfold dsqO; rw [hr]
        have Hds := Lib.hid hds
        have Hy := Lib.hid hy
        have Hmk := Lib.hid hmk
        clear hy hyK d0 d1 d2 d3 d4 hbo hr hy2 hds hmk
        go_upto_region 7 with fail
        refine wp_region_later wr.heap.size wr (by kernel_rfl) (by kernel_rfl) (bl_drewN (Below.refl _ _) 1) ?_
        repeat (go_big_quiet_step (first
          | (go_at_call 11; with_reducible refine calls_later _ (Nat.le_refl _) (HLit.out _))
          | fail))
        refine wpQuiet_nil ?_
        rintro _ ⟨z, rfl⟩
        clear m1 m2 m3 m4 x0 x1 x2 x3 x4 y0 y1 y2 y3 y4 HLit
        have hBz := hBr.trans (z.h.mono hBr.size)
        have HBz := Lib.hid (hB.trans (hBz.mono hB.size))
        have hno : Hid ((r == 3 || (r == 2 && st)) = true → maxB o l k x st = false) := Lib.hid fun h => by
          rw [← Bool.not_eq_true, maxB_iff]
          intro hh
          have := hh m y Hy.out Hmk.out
          rw [Hds.out, h] at this
          cases this
        have hyes : Hid ((r == 3 || (r == 2 && st)) = false → ∀ (j : Nat) (y : Li), j < m + 1 → l[j]? = some y → j ≠ k → dsqO o y x st = false) := Lib.hid fun h j y' hj hy' hjk => by
          by_cases ej : j = m
          · subst ej
            rw [Hy.out] at hy'; injection hy' with hy'; subst hy'
            rw [Hds.out, h]
          · exact Hn.out j y' (by omega) hy' hjk
        by_cases h3 : r = 3
        · subst h3
          have HR := Lib.hid (hno.out rfl)
          go_wp2
          go_ret
          exact ⟨ret_bool HR.out.symm, HBz.out⟩
        · have f3 : ((r : Int) == 3) = false := by simpa using h3
          by_cases h2 : r = 2
          · subst h2
            cases st with
            | true =>
              have HR := Lib.hid (hno.out rfl)
              go_wp2
              go_ret
              exact ⟨ret_bool HR.out.symm, HBz.out⟩
            | false =>
              have HR := Lib.hid (hyes.out rfl)
              go_wp2
              go_roundw
              case rel => exact ⟨m + 1, by omega, by go_num, hBz, HR⟩
              case measure => simp [intOf]; omega
          · have f2 : ((r : Int) == 2) = false := by simpa using h2
            have HR := Lib.hid (hyes.out (by rw [f3, f2]; rfl))
            clear h2 h3
            go_wp2
            go_roundw
            case rel => exact ⟨m + 1, by omega, by go_num, hBz, HR⟩
            case measure => simp [intOf]; omega
    · obtain rfl : m = l.length := by omega
      have hfin : Hid (maxB o l k x st = true) := Lib.hid (maxB_iff.2 fun j y hy hjk => Hn.out j y (List.getElem?_eq_some_iff.1 hy).1 hy hjk)
      go_wp2
      go_ret
      exact ⟨ret_bool hfin.out.symm, hBw⟩
end Go.Proofs.YthgglobfkkcdgaaGreat
namespace Go.Proofs.YthgglobfkkcdgaaGreat
open Go.RowKit Go.Shelf
set_option maxRecDepth 100000
def kA : Tm := .node 1 []
def kB : Tm := .node 2 []
def kG : Tm := .node 3 [.node 1 []]
def ordK : Odr := ⟨false, [0, 1, 2, 3], [1, 1, 1, 1], 1⟩
theorem wakeO1 : litsO ordK ⟨false, kG, kA⟩ ⟨false, kG, kB⟩ = 1 := by decide +kernel
theorem wakeO2 : litsO ordK ⟨false, kA, kB⟩ ⟨false, kB, kA⟩ = 2 := by decide +kernel
theorem wakeO3 : litsO ordK ⟨true, kA, kB⟩ ⟨false, kA, kB⟩ = 3 := by decide +kernel
theorem wakeO4 : ordV ordK kG kA = 3 := by decide +kernel
structure WkX (w w1 : World) (b : Nat) (P Q : Option Addr) (pc qc : Nat) (bo : Nat) : Prop where
  a0 : w1.cell? ⟨b, 0, none⟩ = some (.int .i64 1)
  a1 : w1.cell? ⟨b, 1, none⟩ = some (.slice none 0 0)
  b0 : w1.cell? ⟨b + 1, 0, none⟩ = some (.int .i64 2)
  b1 : w1.cell? ⟨b + 1, 1, none⟩ = some (.slice none 0 0)
  g0 : w1.cell? ⟨b + 1 + 1 + 1, 0, none⟩ = some (.int .i64 3)
  g1 : w1.cell? ⟨b + 1 + 1 + 1, 1, none⟩ = some (.slice (some ⟨b + 1 + 1, 0, none⟩) 1 1)
  o0 : w1.cell? ⟨bo, 0, none⟩ = some (.bool false)
  o1 : w1.cell? ⟨bo, 1, none⟩ = some (.slice P 4 pc)
  o2 : w1.cell? ⟨bo, 2, none⟩ = some (.slice Q 4 qc)
  o3 : w1.cell? ⟨bo, 3, none⟩ = some (.int .i64 1)
  h1 : Calls Tryz.prog 11 #[.agg #[.bool false, .slice P 4 pc, .slice Q 4 qc, .int .i64 1], .agg #[.bool false, .int .i64 3, .slice (some ⟨b + 1 + 1, 0, none⟩) 1 1, .int .i64 1, .slice none 0 0], .agg #[.bool false, .int .i64 3, .slice (some ⟨b + 1 + 1, 0, none⟩) 1 1, .int .i64 2, .slice none 0 0]] w1 fun e w' => e = .returned (.int .i64 1) ∧ Below w1.heap.size w1 w'
  h2 : Calls Tryz.prog 11 #[.agg #[.bool false, .slice P 4 pc, .slice Q 4 qc, .int .i64 1], .agg #[.bool false, .int .i64 1, .slice none 0 0, .int .i64 2, .slice none 0 0], .agg #[.bool false, .int .i64 2, .slice none 0 0, .int .i64 1, .slice none 0 0]] w1 fun e w' => e = .returned (.int .i64 2) ∧ Below w1.heap.size w1 w'
  h3 : Calls Tryz.prog 11 #[.agg #[.bool false, .slice P 4 pc, .slice Q 4 qc, .int .i64 1], .agg #[.bool true, .int .i64 1, .slice none 0 0, .int .i64 2, .slice none 0 0], .agg #[.bool false, .int .i64 1, .slice none 0 0, .int .i64 2, .slice none 0 0]] w1 fun e w' => e = .returned (.int .i64 3) ∧ Below w1.heap.size w1 w'
  h4 : Calls Tryz.prog 13 #[.agg #[.bool false, .slice P 4 pc, .slice Q 4 qc, .int .i64 1], .agg #[.int .i64 3, .slice (some ⟨b + 1 + 1, 0, none⟩) 1 1], .agg #[.int .i64 1, .slice none 0 0]] w1 fun e w' => e = .returned (.int .i64 3) ∧ Below w1.heap.size w1 w'
  hb : Below w.heap.size w w1
theorem wkX_of {w w1 : World} {b bo pc qc : Nat} {P Q : Option Addr} (hb : Below w.heap.size w w1) (ha : w1.heap[b]? = some (.cells #[.int .i64 1, .slice none 0 0] 36)) (hbb : w1.heap[b + 1]? = some (.cells #[.int .i64 2, .slice none 0 0] 36)) (hr : w1.heap[b + 1 + 1]? = some (.cells #[.int .i64 1, .slice none 0 0] 36)) (hg : w1.heap[b + 1 + 1 + 1]? = some (.cells #[.int .i64 3, .slice (some ⟨b + 1 + 1, 0, none⟩) 1 1] 36))
    (ho : w1.heap[bo]? = some (.cells #[.bool false, .slice P 4 pc, .slice Q 4 qc, .int .i64 1] 24)) (hP : Ints w1 w1.heap.size P [0, 1, 2, 3]) (hQ : Ints w1 w1.heap.size Q [1, 1, 1, 1]) : WkX w w1 b P Q pc qc bo := by
  obtain ⟨a0, a1, _, _⟩ := cells_two ha
  obtain ⟨b0, b1, _, _⟩ := cells_two hbb
  obtain ⟨g0, g1, _, _⟩ := cells_two hg
  obtain ⟨o0, o1, o2, o3⟩ := cells_four ho
  have hM : OdrM w1 w1.heap.size ordK P Q := ⟨hP, hQ, i64s _ (by decide) (by decide)⟩
  have hG : ArgsK w1 (· < w1.heap.size) (some ⟨b + 1 + 1, 0, none⟩) 1 [.node 1 []] := argsK_one (t := .node 1 []) hr (Array.getElem?_eq_some_iff.1 hr).1 (i64s _ (by decide) (by decide)) (.nil _ _)
  have iA : I64 kA.fn := i64s _ (by decide) (by decide)
  have iB : I64 kB.fn := i64s _ (by decide) (by decide)
  have iG : I64 kG.fn := i64s _ (by decide) (by decide)
  have e1 : LiK w1 (· < w1.heap.size) ⟨false, kG, kA⟩ (some ⟨b + 1 + 1, 0, none⟩) 1 none 0 := ⟨iG, iA, hG, .nil _ _, by decide, by decide⟩
  have e2 : LiK w1 (· < w1.heap.size) ⟨false, kG, kB⟩ (some ⟨b + 1 + 1, 0, none⟩) 1 none 0 := ⟨iG, iB, hG, .nil _ _, by decide, by decide⟩
  have e3 : ∀ n, LiK w1 (· < w1.heap.size) ⟨n, kA, kB⟩ none 0 none 0 := fun n => ⟨iA, iB, .nil _ _, .nil _ _, by show kA.size ≤ _; decide, by show kB.size ≤ _; decide⟩
  have e4 : LiK w1 (· < w1.heap.size) ⟨false, kB, kA⟩ none 0 none 0 := ⟨iB, iA, .nil _ _, .nil _ _, by decide, by decide⟩
  have l1 := oLits_any ordK ⟨false, kG, kA⟩ ⟨false, kG, kB⟩ P Q _ _ _ _ pc qc _ _ _ _ w1 (by decide) hM e1 e2
  have l2 := oLits_any ordK ⟨false, kA, kB⟩ ⟨false, kB, kA⟩ P Q _ _ _ _ pc qc _ _ _ _ w1 (by decide) hM (e3 false) e4
  have l3 := oLits_any ordK ⟨true, kA, kB⟩ ⟨false, kA, kB⟩ P Q _ _ _ _ pc qc _ _ _ _ w1 (by decide) hM (e3 true) (e3 false)
  have l4 := oCmp_any ordK kG kA P Q (some ⟨b + 1 + 1, 0, none⟩) none pc qc 1 0 w1 (by decide) hM ⟨iG, hG⟩ ⟨iA, .nil _ _⟩ (by decide)
  rw [wakeO1] at l1
  rw [wakeO2] at l2
  rw [wakeO3] at l3
  rw [wakeO4] at l4
  exact ⟨a0, a1, b0, b1, g0, g1, o0, o1, o2, o3, l1, l2, l3, l4, hb⟩
theorem heap4o (w : World) (o1 o2 o3 o4 : Obj) : ((((w.alloc o1).alloc o2).alloc o3).alloc o4).heap[w.heap.size]? = some o1 ∧ ((((w.alloc o1).alloc o2).alloc o3).alloc o4).heap[w.heap.size + 1]? = some o2 ∧ ((((w.alloc o1).alloc o2).alloc o3).alloc o4).heap[w.heap.size + 1 + 1]? = some o3 ∧ ((((w.alloc o1).alloc o2).alloc o3).alloc o4).heap[w.heap.size + 1 + 1 + 1]? = some o4 := by
  obtain ⟨e1, e2, e3⟩ := heap3o w o1 o2 o3
  have e4 := heap_alloc_new (((w.alloc o1).alloc o2).alloc o3) o4
  have hz : (((w.alloc o1).alloc o2).alloc o3).heap.size = w.heap.size + 1 + 1 + 1 := by simp
  rw [hz] at e4
  exact ⟨(Below.heap_alloc _ _ _ (by omega)).trans e1, (Below.heap_alloc _ _ _ (by omega)).trans e2, (Below.heap_alloc _ _ _ (by omega)).trans e3, e4⟩
set_option maxHeartbeats 4000000 in
theorem oWakes_any (w : World) : Calls Tryz.prog 6 #[] w fun e w' => e = .returned (.bool true) ∧ Below w.heap.size w w' := by
  obtain ⟨W, hW⟩ : ∃ W, ((((w.alloc (.cells #[.int .i64 1, .slice none 0 0] 36)).alloc (.cells #[.int .i64 2, .slice none 0 0] 36)).alloc (.cells #[.int .i64 1, .slice none 0 0] 36)).alloc (.cells #[.int .i64 3, .slice (some ⟨w.heap.size + 1 + 1, 0, none⟩) 1 1] 36)) = W := ⟨_, rfl⟩
  obtain ⟨q0, q1, q2, q3⟩ := heap4o w (.cells #[.int .i64 1, .slice none 0 0] 36) (.cells #[.int .i64 2, .slice none 0 0] 36) (.cells #[.int .i64 1, .slice none 0 0] 36) (.cells #[.int .i64 3, .slice (some ⟨w.heap.size + 1 + 1, 0, none⟩) 1 1] 36)
  have hB : Below w.heap.size w W := by rw [← hW]; exact ((((Below.refl _ _).alloc (Nat.le_refl _) _).alloc (by simp) _).alloc (by simp; omega) _).alloc (by simp; omega) _
  rw [hW] at q0 q1 q2 q3
  have HX : Hid (∀ (A B : Option Addr) (pc qc : Nat) (w1 w2 : World), Below W.heap.size W w1 → IntsR w1 W.heap.size (.slice A 4 pc) [0, 1, 2, 3] → IntsR w1 W.heap.size (.slice B 4 qc) [1, 1, 1, 1] → w2 = w1.alloc (.cells #[.bool false, .slice A 4 pc, .slice B 4 qc, .int .i64 1] 24) → ∀ w3, Below w2.heap.size w2 w3 → WkX w w3 w.heap.size A B pc qc w1.heap.size) := Lib.hid fun A B pc qc w1 w2 hb1 hP hQ e2 w3 hb3 => by
    have hb2 : Below w1.heap.size w1 w2 := by rw [e2]; exact (Below.refl _ _).alloc (Nat.le_refl _) _
    have p2 : w2.heap[w1.heap.size]? = some (.cells #[.bool false, .slice A 4 pc, .slice B 4 qc, .int .i64 1] 24) := by rw [e2]; exact heap_alloc_new w1 _
    have h13 := hb2.trans (hb3.mono hb2.size)
    have hW3 := hb1.trans (h13.mono hb1.size)
    have k := fun {i : Nat} {ob : Obj} (h : W.heap[i]? = some ob) => (hW3.block i (Array.getElem?_eq_some_iff.1 h).1).trans h
    exact wkX_of (hB.trans (hW3.mono hB.size)) (k q0) (k q1) (k q2) (k q3) ((hb3.block _ (Array.getElem?_eq_some_iff.1 p2).1).trans p2) ((hP.on h13).ints (by decide)) ((hQ.on h13).ints (by decide))
  have hpl : Calls Tryz.prog 19 #[.int .i64 4] W _ := oPlain_any 4 (by decide) W
  have h1 : numsI 4 = [0, 1, 2, 3] := by decide
  have h2 : List.replicate 4 (1 : Int) = [1, 1, 1, 1] := by decide
  rw [h1, h2] at hpl
  have HP := Lib.hid hpl
  have HW := Lib.hid hW
  obtain ⟨a0, a1, _, _⟩ := cells_two q0
  clear hW q0 q1 q2 q3 hpl h1 h2 a0 a1
  go_enter Tryz.func6, Tryz.ntmps6
  go_upto_region 3 with fail
  rw [HW.out]
  go_upto_region 4 with (first
    | (go_at_call 19; (with_reducible refine HP.out.mono ?_); go_must (rintro e w1 ⟨vP, vQ, rfl, hvP, hvQ, _, hb1⟩; obtain ⟨A, pc, rfl⟩ := row_slice hvP.row; obtain ⟨B, qc, rfl⟩ := row_slice hvQ.row; have H1 := Lib.hid (And.intro hvP (And.intro hvQ hb1)); clear hvP hvQ))
    | fail)
  obtain ⟨W2, hW2⟩ : ∃ W2, w1.alloc (.cells #[.bool false, .slice A 4 pc, .slice B 4 qc, .int .i64 1] 24) = W2 := ⟨_, rfl⟩
  have HY := Lib.hid (HX.out A B pc qc w1 W2 H1.out.2.2 H1.out.1 H1.out.2.1 hW2.symm)
  have hx := HY.out W2 (Below.refl _ _)
  obtain ⟨a0, a1, b0, b1, g0, g1, o0, o1, o2, o3, l1, l2, l3, l4, hb0⟩ := hx
  have L1 := Lib.hid l1
  have HW2 := Lib.hid hW2
  clear hW2 l1 l2 l3 l4 hb1
  first
    | rw [HW2.out]
    | simp only [List.length_cons, List.length_nil, Nat.zero_add, Nat.reduceAdd]; rw [HW2.out]
  go_wp2_with (first
    | (go_at_call 11; first
      | ((with_reducible refine L1.out.mono ?_); go_must (rintro e w3 ⟨rfl, hb3⟩; obtain ⟨c0, c1, d0, d1, e0, e1, p0, p1, p2, p3, m1, m2, m3, m4, hbm⟩ := HY.out w3 hb3; have L2 := Lib.hid m2; clear m1 m2 m3 m4 L1))
      | ((with_reducible refine L2.out.mono ?_); go_must (rintro e w4 ⟨rfl, hb4⟩; have hB4 := hb3.trans (hb4.mono hb3.size); obtain ⟨x0, x1, y0, y1, z0, z1, r0, r1, r2, r3, n1, n2, n3, n4, hbn⟩ := HY.out w4 hB4; have L3 := Lib.hid n3; clear n1 n2 n3 n4 L2))
      | ((with_reducible refine L3.out.mono ?_); go_must (rintro e w5 ⟨rfl, hb5⟩; have hB5 := hB4.trans (hb5.mono hB4.size); obtain ⟨s0, s1, t0, t1, u0, u1, v0, v1, v2, v3, k1, k2, k3, k4, hbk⟩ := HY.out w5 hB5; have L4 := Lib.hid k4; clear k1 k2 k3 k4 L3)))
    | (go_at_call 13; (with_reducible refine L4.out.mono ?_); go_must (rintro e w6 ⟨rfl, hb6⟩))
    | fail)
  go_ret
  exact ⟨rfl, hbk.trans (hb6.mono hbk.size)⟩
end Go.Proofs.YthgglobfkkcdgaaGreat
namespace Go.Proofs.YthgglobfkkcdgaaGreat
open Go Go.RowKit Go.Shelf
set_option maxRecDepth 100000
structure TNew (w w' : World) (N g1 g2 g3 : Nat) : Prop where
  r1 : w'.heap[g1]? = some (.cells (bC (List.replicate N false)) 4)
  r2 : w'.heap[g2]? = some (.cells (bC (List.replicate N false)) 4)
  r3 : w'.heap[g3]? = some (.cells (bC (List.replicate N false)) 4)
  n12 : g1 ≠ g2
  n13 : g1 ≠ g3
  n23 : g2 ≠ g3
  l1 : w.heap.size ≤ g1
  l2 : w.heap.size ≤ g2
  l3 : w.heap.size ≤ g3
  bl : Below w.heap.size w w'
theorem tnew_set {w V : World} {b N g1 g2 g3 : Nat} {x0 x1 x2 x3 x4 v0 v1 v2 v3 v4 : Value} {ty : TypeId} (hB : Below w.heap.size w V) (hb : w.heap.size ≤ b) (hx : V.heap[b]? = some (.cells #[x0, x1, x2, x3, x4] ty)) (h1 : V.heap[g1]? = some (.cells (bC (List.replicate N false)) 4)) (h2 : V.heap[g2]? = some (.cells (bC (List.replicate N false)) 4)) (h3 : V.heap[g3]? = some (.cells (bC (List.replicate N false)) 4)) (n12 : g1 ≠ g2) (n13 : g1 ≠ g3) (n23 : g2 ≠ g3) (l1 : b < g1) (l2 : b < g2) (l3 : b < g3) {U : World} (hU : (((((V.setCell ⟨b, 0, none⟩ v0).setCell ⟨b, 1, none⟩ v1).setCell ⟨b, 2, none⟩ v2).setCell ⟨b, 3, none⟩ v3).setCell ⟨b, 4, none⟩ v4).drew = U) :
    (U.cell? ⟨b, 0, none⟩ = some v0 ∧ U.cell? ⟨b, 1, none⟩ = some v1 ∧ U.cell? ⟨b, 2, none⟩ = some v2 ∧ U.cell? ⟨b, 3, none⟩ = some v3 ∧ U.cell? ⟨b, 4, none⟩ = some v4) ∧ TNew w U N g1 g2 g3 := by
  obtain ⟨U0, hU0⟩ : ∃ U0, ((((V.setCell ⟨b, 0, none⟩ v0).setCell ⟨b, 1, none⟩ v1).setCell ⟨b, 2, none⟩ v2).setCell ⟨b, 3, none⟩ v3).setCell ⟨b, 4, none⟩ v4 = U0 := ⟨_, rfl⟩
  rw [hU0] at hU
  have hd : U.heap = U0.heap := by rw [← hU]; rfl
  have k : ∀ g, b < g → U.heap[g]? = V.heap[g]? := fun g hg => by
    have hne : g ≠ b := by omega
    rw [hd, ← hU0, heap_setCell_other _ ⟨b, 4, none⟩ g v4 hne, heap_setCell_other _ ⟨b, 3, none⟩ g v3 hne, heap_setCell_other _ ⟨b, 2, none⟩ g v2 hne, heap_setCell_other _ ⟨b, 1, none⟩ g v1 hne, heap_setCell_other _ ⟨b, 0, none⟩ g v0 hne]
  have hq : U.heap[b]? = some (.cells #[v0, v1, v2, v3, v4] ty) := by
    rw [hd, ← hU0]
    simp [World.setCell, Array.getElem?_modify, hx]
  have hbl : Below w.heap.size w U0 := by rw [← hU0]; exact ((((hB.setCell hb _).setCell hb _).setCell hb _).setCell hb _).setCell hb _
  refine ⟨by refine ⟨?_, ?_, ?_, ?_, ?_⟩ <;> simp [World.cell?, hq], ⟨(k g1 l1).trans h1, (k g2 l2).trans h2, (k g3 l3).trans h3, n12, n13, n23, by omega, by omega, by omega, ?_⟩⟩
  rw [← hU]
  exact hbl.drew
set_option maxHeartbeats 8000000 in
theorem tabOf_any (n m N : Nat) (w : World) (hn : n ≤ 1000) (hm : m ≤ 1000) (hN : N = n * m) :
    Calls Tryz.prog 23 #[.int .i64 (n : Int), .int .i64 (m : Int)] w fun e w' => ∃ g1 g2 g3, e = .returned (.agg #[.int .i64 (n : Int), .int .i64 (m : Int), .slice (some ⟨g1, 0, none⟩) N N, .slice (some ⟨g2, 0, none⟩) N N, .slice (some ⟨g3, 0, none⟩) N N]) ∧ TNew w w' N g1 g2 g3 := by
  have hN6 : N ≤ 1000000 := by rw [hN]; exact Nat.mul_le_mul hn hm
  have q0 := heap_alloc_new w (.cells #[.int .i64 0, .int .i64 0, .slice none 0 0, .slice none 0 0, .slice none 0 0] 54)
  obtain ⟨W, hW⟩ : ∃ W, w.alloc (.cells #[.int .i64 0, .int .i64 0, .slice none 0 0, .slice none 0 0, .slice none 0 0] 54) = W := ⟨_, rfl⟩
  have hB : Below w.heap.size w W := by rw [← hW]; exact (Below.refl _ _).alloc (Nat.le_refl _) _
  rw [hW] at q0
  have hbx := (Array.getElem?_eq_some_iff.1 q0).1
  have hw1 : IntKind.i64.wrap ((n : Int) * (m : Int)) = (N : Int) := by
    have : (n : Int) * (m : Int) = (N : Int) := by rw [hN]; simp
    rw [this, IntKind.wrap_i64]; omega
  have hmk := make_bools N hN6
  have hK : ∀ w' : World, w'.heap[w.heap.size]? = some (.cells #[.int .i64 0, .int .i64 0, .slice none 0 0, .slice none 0 0, .slice none 0 0] 54) → w'.cell? ⟨w.heap.size, 0, none⟩ = some (.int .i64 0) ∧ w'.cell? ⟨w.heap.size, 1, none⟩ = some (.int .i64 0) ∧ w'.cell? ⟨w.heap.size, 2, none⟩ = some (.slice none 0 0) ∧ w'.cell? ⟨w.heap.size, 3, none⟩ = some (.slice none 0 0) ∧ w'.cell? ⟨w.heap.size, 4, none⟩ = some (.slice none 0 0) ∧ w'.frozen? ⟨w.heap.size, 0, none⟩ = false ∧ w'.frozen? ⟨w.heap.size, 1, none⟩ = false ∧ w'.frozen? ⟨w.heap.size, 2, none⟩ = false ∧ w'.frozen? ⟨w.heap.size, 3, none⟩ = false ∧ w'.frozen? ⟨w.heap.size, 4, none⟩ = false := fun w' q => by
    refine ⟨?_, ?_, ?_, ?_, ?_, ?_, ?_, ?_, ?_, ?_⟩ <;> simp [World.cell?, World.frozen?, q]
  have h1 : ∀ (o : Obj), (W.alloc o).heap[w.heap.size]? = some (.cells #[.int .i64 0, .int .i64 0, .slice none 0 0, .slice none 0 0, .slice none 0 0] 54) := fun o => (Below.heap_alloc W o _ hbx).trans q0
  have h2 : ∀ (o o' : Obj), ((W.alloc o).alloc o').heap[w.heap.size]? = some (.cells #[.int .i64 0, .int .i64 0, .slice none 0 0, .slice none 0 0, .slice none 0 0] 54) := fun o o' => (Below.heap_alloc _ o' _ (by simp; omega)).trans (h1 o)
  have h3 : ∀ (o o' o2 : Obj), (((W.alloc o).alloc o').alloc o2).heap[w.heap.size]? = some (.cells #[.int .i64 0, .int .i64 0, .slice none 0 0, .slice none 0 0, .slice none 0 0] 54) := fun o o' o2 => (Below.heap_alloc _ o2 _ (by simp; omega)).trans (h2 o o')
  have k0 := hK W q0
  have k1 := hK _ (h1 (.cells (bC (List.replicate N false)) 4))
  have k2 := hK _ (h2 (.cells (bC (List.replicate N false)) 4) (.cells (bC (List.replicate N false)) 4))
  have k3 := hK _ (h3 (.cells (bC (List.replicate N false)) 4) (.cells (bC (List.replicate N false)) 4) (.cells (bC (List.replicate N false)) 4))
  have K0 := Lib.hid k0
  have K1 := Lib.hid k1
  have K2 := Lib.hid k2
  have K3 := Lib.hid k3
  have HW := Lib.hid hW
  have HB := Lib.hid hB
  have Hq := Lib.hid q0
  obtain ⟨V, hV⟩ : ∃ V, ((W.alloc (.cells (bC (List.replicate N false)) 4)).alloc (.cells (bC (List.replicate N false)) 4)).alloc (.cells (bC (List.replicate N false)) 4) = V := ⟨_, rfl⟩
  obtain ⟨p1, p2, p3⟩ := heap3o W (.cells (bC (List.replicate N false)) 4) (.cells (bC (List.replicate N false)) 4) (.cells (bC (List.replicate N false)) 4)
  have pq := h3 (.cells (bC (List.replicate N false)) 4) (.cells (bC (List.replicate N false)) 4) (.cells (bC (List.replicate N false)) 4)
  have hbV : Below w.heap.size w V := by rw [← hV]; exact ((hB.alloc hB.size _).alloc (by have := hB.size; simp; omega) _).alloc (by have := hB.size; simp; omega) _
  rw [hV] at p1 p2 p3 pq
  have HP := Lib.hid (And.intro p1 (And.intro p2 (And.intro p3 pq)))
  have HV := Lib.hid hV
  have HbV := Lib.hid hbV
  clear hW hB q0 hN hK h1 h2 h3 k0 k1 k2 k3 hV p1 p2 p3 pq hbV
  go_enter Tryz.func23, Tryz.ntmps23
  go_upto_region 1 with fail
  rw [HW.out]
  obtain ⟨e0, e1, e2, e3, e4, f0, f1, f2, f3, f4⟩ := K0.out
  obtain ⟨d0, d1, d2, d3, d4, h0, h1, h2, h3, h4⟩ := K3.out
  go_region_law (fail)
  all_goals
    obtain ⟨p1, p2, p3, pq⟩ := HP.out
    rw [HV.out]
    clear e0 e1 e2 e3 e4 f0 f1 f2 f3 f4 d0 d1 d2 d3 d4 h0 h1 h2 h3 h4 hmk hw1
    first
      | (obtain ⟨U, hU⟩ : ∃ U, (((((V.setCell ⟨w.heap.size, 0, none⟩ (.int .i64 (n : Int))).setCell ⟨w.heap.size, 1, none⟩ (.int .i64 (m : Int))).setCell ⟨w.heap.size, 2, none⟩ (.slice (some ⟨W.heap.size, 0, none⟩) N N)).setCell ⟨w.heap.size, 3, none⟩ (.slice (some ⟨W.heap.size + 1, 0, none⟩) N N)).setCell ⟨w.heap.size, 4, none⟩ (.slice (some ⟨W.heap.size + 1 + 1, 0, none⟩) N N)).drew = U := ⟨_, rfl⟩
         obtain ⟨⟨u0, u1, u2, u3, u4⟩, hT⟩ := tnew_set HbV.out (Nat.le_refl _) pq p1 p2 p3 (by omega) (by omega) (by omega) (by omega) (by omega) (by omega) hU
         rw [hU]
         clear hU
         go_wp2
         exact bodyPost_ret (v := .agg #[.int .i64 (n : Int), .int .i64 (m : Int), .slice (some ⟨W.heap.size, 0, none⟩) N N, .slice (some ⟨W.heap.size + 1, 0, none⟩) N N, .slice (some ⟨W.heap.size + 1 + 1, 0, none⟩) N N]) (by simp [results, Tryz.results23, go_sem, u0, u1, u2, u3, u4]) rfl ⟨_, _, _, rfl, hT⟩)
      | (obtain ⟨U, hU⟩ : ∃ U, (((((V.setCell ⟨w.heap.size, 0, none⟩ (.int .i64 (n : Int))).setCell ⟨w.heap.size, 1, none⟩ (.int .i64 (m : Int))).setCell ⟨w.heap.size, 2, none⟩ (.slice (some ⟨W.heap.size, 0, none⟩) N N)).setCell ⟨w.heap.size, 3, none⟩ (.slice (some ⟨W.heap.size + 1 + 1, 0, none⟩) N N)).setCell ⟨w.heap.size, 4, none⟩ (.slice (some ⟨W.heap.size + 1, 0, none⟩) N N)).drew = U := ⟨_, rfl⟩
         obtain ⟨⟨u0, u1, u2, u3, u4⟩, hT⟩ := tnew_set HbV.out (Nat.le_refl _) pq p1 p3 p2 (by omega) (by omega) (by omega) (by omega) (by omega) (by omega) hU
         rw [hU]
         clear hU
         go_wp2
         exact bodyPost_ret (v := .agg #[.int .i64 (n : Int), .int .i64 (m : Int), .slice (some ⟨W.heap.size, 0, none⟩) N N, .slice (some ⟨W.heap.size + 1 + 1, 0, none⟩) N N, .slice (some ⟨W.heap.size + 1, 0, none⟩) N N]) (by simp [results, Tryz.results23, go_sem, u0, u1, u2, u3, u4]) rfl ⟨_, _, _, rfl, hT⟩)
      | (obtain ⟨U, hU⟩ : ∃ U, (((((V.setCell ⟨w.heap.size, 0, none⟩ (.int .i64 (n : Int))).setCell ⟨w.heap.size, 1, none⟩ (.int .i64 (m : Int))).setCell ⟨w.heap.size, 2, none⟩ (.slice (some ⟨W.heap.size + 1, 0, none⟩) N N)).setCell ⟨w.heap.size, 3, none⟩ (.slice (some ⟨W.heap.size, 0, none⟩) N N)).setCell ⟨w.heap.size, 4, none⟩ (.slice (some ⟨W.heap.size + 1 + 1, 0, none⟩) N N)).drew = U := ⟨_, rfl⟩
         obtain ⟨⟨u0, u1, u2, u3, u4⟩, hT⟩ := tnew_set HbV.out (Nat.le_refl _) pq p2 p1 p3 (by omega) (by omega) (by omega) (by omega) (by omega) (by omega) hU
         rw [hU]
         clear hU
         go_wp2
         exact bodyPost_ret (v := .agg #[.int .i64 (n : Int), .int .i64 (m : Int), .slice (some ⟨W.heap.size + 1, 0, none⟩) N N, .slice (some ⟨W.heap.size, 0, none⟩) N N, .slice (some ⟨W.heap.size + 1 + 1, 0, none⟩) N N]) (by simp [results, Tryz.results23, go_sem, u0, u1, u2, u3, u4]) rfl ⟨_, _, _, rfl, hT⟩)
      | (obtain ⟨U, hU⟩ : ∃ U, (((((V.setCell ⟨w.heap.size, 0, none⟩ (.int .i64 (n : Int))).setCell ⟨w.heap.size, 1, none⟩ (.int .i64 (m : Int))).setCell ⟨w.heap.size, 2, none⟩ (.slice (some ⟨W.heap.size + 1, 0, none⟩) N N)).setCell ⟨w.heap.size, 3, none⟩ (.slice (some ⟨W.heap.size + 1 + 1, 0, none⟩) N N)).setCell ⟨w.heap.size, 4, none⟩ (.slice (some ⟨W.heap.size, 0, none⟩) N N)).drew = U := ⟨_, rfl⟩
         obtain ⟨⟨u0, u1, u2, u3, u4⟩, hT⟩ := tnew_set HbV.out (Nat.le_refl _) pq p2 p3 p1 (by omega) (by omega) (by omega) (by omega) (by omega) (by omega) hU
         rw [hU]
         clear hU
         go_wp2
         exact bodyPost_ret (v := .agg #[.int .i64 (n : Int), .int .i64 (m : Int), .slice (some ⟨W.heap.size + 1, 0, none⟩) N N, .slice (some ⟨W.heap.size + 1 + 1, 0, none⟩) N N, .slice (some ⟨W.heap.size, 0, none⟩) N N]) (by simp [results, Tryz.results23, go_sem, u0, u1, u2, u3, u4]) rfl ⟨_, _, _, rfl, hT⟩)
      | (obtain ⟨U, hU⟩ : ∃ U, (((((V.setCell ⟨w.heap.size, 0, none⟩ (.int .i64 (n : Int))).setCell ⟨w.heap.size, 1, none⟩ (.int .i64 (m : Int))).setCell ⟨w.heap.size, 2, none⟩ (.slice (some ⟨W.heap.size + 1 + 1, 0, none⟩) N N)).setCell ⟨w.heap.size, 3, none⟩ (.slice (some ⟨W.heap.size, 0, none⟩) N N)).setCell ⟨w.heap.size, 4, none⟩ (.slice (some ⟨W.heap.size + 1, 0, none⟩) N N)).drew = U := ⟨_, rfl⟩
         obtain ⟨⟨u0, u1, u2, u3, u4⟩, hT⟩ := tnew_set HbV.out (Nat.le_refl _) pq p3 p1 p2 (by omega) (by omega) (by omega) (by omega) (by omega) (by omega) hU
         rw [hU]
         clear hU
         go_wp2
         exact bodyPost_ret (v := .agg #[.int .i64 (n : Int), .int .i64 (m : Int), .slice (some ⟨W.heap.size + 1 + 1, 0, none⟩) N N, .slice (some ⟨W.heap.size, 0, none⟩) N N, .slice (some ⟨W.heap.size + 1, 0, none⟩) N N]) (by simp [results, Tryz.results23, go_sem, u0, u1, u2, u3, u4]) rfl ⟨_, _, _, rfl, hT⟩)
      | (obtain ⟨U, hU⟩ : ∃ U, (((((V.setCell ⟨w.heap.size, 0, none⟩ (.int .i64 (n : Int))).setCell ⟨w.heap.size, 1, none⟩ (.int .i64 (m : Int))).setCell ⟨w.heap.size, 2, none⟩ (.slice (some ⟨W.heap.size + 1 + 1, 0, none⟩) N N)).setCell ⟨w.heap.size, 3, none⟩ (.slice (some ⟨W.heap.size + 1, 0, none⟩) N N)).setCell ⟨w.heap.size, 4, none⟩ (.slice (some ⟨W.heap.size, 0, none⟩) N N)).drew = U := ⟨_, rfl⟩
         obtain ⟨⟨u0, u1, u2, u3, u4⟩, hT⟩ := tnew_set HbV.out (Nat.le_refl _) pq p3 p2 p1 (by omega) (by omega) (by omega) (by omega) (by omega) (by omega) hU
         rw [hU]
         clear hU
         go_wp2
         exact bodyPost_ret (v := .agg #[.int .i64 (n : Int), .int .i64 (m : Int), .slice (some ⟨W.heap.size + 1 + 1, 0, none⟩) N N, .slice (some ⟨W.heap.size + 1, 0, none⟩) N N, .slice (some ⟨W.heap.size, 0, none⟩) N N]) (by simp [results, Tryz.results23, go_sem, u0, u1, u2, u3, u4]) rfl ⟨_, _, _, rfl, hT⟩)
end Go.Proofs.YthgglobfkkcdgaaGreat
namespace Go.Proofs.YthgglobfkkcdgaaGreat
open Go.RowKit Go.Shelf
set_option maxRecDepth 20000
def tmS (s t : Tm) : Int := if cmpT s t = 0 then 2 else 0
theorem ordV_not (o : Odr) {s t : Tm} (h : ¬ cmpT s t = 0) : ordV o s t ≠ 2 := by
  unfold ordV cmpP cmpR
  repeat' split
  all_goals first | exact absurd ‹_› h | decide
theorem ordV_same (o : Odr) {s t : Tm} (h : cmpT s t = 0) : ordV o s t = 2 ∨ ordV o s t = 0 := by
  unfold ordV cmpP cmpR
  repeat' split
  all_goals first | exact .inl rfl | exact .inr rfl | exact absurd h ‹_›
theorem tmI_2 (o : Odr) (s t : Tm) : (tmI o s t == 2) = decide (cmpT s t = 0) := by
  unfold tmI
  by_cases h : cmpT s t = 0
  · rw [if_pos h, decide_eq_true h]; rfl
  · rw [if_neg h, decide_eq_false h]
    simpa using ordV_not o h
theorem tmI_3 (o : Odr) (s t : Tm) : (tmI o s t == 3) = (ordV o s t == 3) := by
  unfold tmI
  by_cases h : cmpT s t = 0
  · rw [if_pos h]
    rcases ordV_same o h with e | e <;> rw [e] <;> rfl
  · rw [if_neg h]
theorem tmI_1 (o : Odr) (s t : Tm) : (tmI o s t == 1) = (ordV o s t == 1) := by
  unfold tmI
  by_cases h : cmpT s t = 0
  · rw [if_pos h]
    rcases ordV_same o h with e | e <;> rw [e] <;> rfl
  · rw [if_neg h]
section
variable {α : Type} {rel rel' : α → α → Int}
theorem strike_two (h : ∀ x y, rel x y = 2 ↔ rel' x y = 2) (a : α) : ∀ l : List α, strike rel a l = strike rel' a l
  | [] => rfl
  | x :: l => by
    rw [strike, strike, strike_two h a l]
    by_cases e : rel a x = 2
    · rw [if_pos e, if_pos ((h a x).1 e)]
    · rw [if_neg e, if_neg (fun e' => e ((h a x).2 e'))]
theorem left_two (h : ∀ x y, rel x y = 2 ↔ rel' x y = 2) : ∀ m n : List α, leftM rel m n = leftM rel' m n
  | [], n => rfl
  | a :: m, n => by
    rw [leftM, leftM, strike_two h a n]
    cases strike rel' a n with
    | none => simp only []; rw [left_two h m n]
    | some n' => exact left_two h m n'
theorem mul_is2 (m n : List α) : (mulR rel m n == 2) = ((leftM rel m n).1.isEmpty && (leftM rel m n).2.isEmpty) := by
  unfold mulR relM
  split
  · rename_i h; rw [h]; rfl
  · rename_i h
    have h' : ((leftM rel m n).1.isEmpty && (leftM rel m n).2.isEmpty) = false := by simpa using h
    rw [h']
    split
    · rfl
    · split <;> rfl
theorem mul_two' (h : ∀ x y, rel x y = 2 ↔ rel' x y = 2) (m n : List α) : (mulR rel m n == 2) = (mulR rel' m n == 2) := by
  rw [mul_is2, mul_is2, left_two h]
theorem strike_len {a : α} : ∀ {l l' : List α}, strike rel a l = some l' → l.length = l'.length + 1
  | [], _, h => by simp [strike] at h
  | x :: l, l', h => by
    rw [strike] at h
    split at h
    · injection h with h; subst h; rfl
    · rw [Option.map_eq_some_iff] at h
      obtain ⟨l2, h2, rfl⟩ := h
      rw [List.length_cons, strike_len h2, List.length_cons]
theorem left_len : ∀ m n : List α, (leftM rel m n).1.length + n.length = (leftM rel m n).2.length + m.length
  | [], n => by simp [leftM]
  | a :: m, n => by
    rw [leftM]
    split
    · rename_i n' e
      have := left_len m n'
      have := strike_len e
      rw [List.length_cons]; omega
    · have := left_len m n
      simp only [List.length_cons]; omega
theorem mul_len {m n : List α} (h : mulR rel m n = 2) : m.length = n.length := by
  have h1 : (mulR rel m n == 2) = true := by rw [h]; rfl
  rw [mul_is2, Bool.and_eq_true, List.isEmpty_iff, List.isEmpty_iff] at h1
  have := left_len (rel := rel) m n
  rw [h1.1, h1.2] at this
  simpa using this.symm
theorem mul_uneq {m n : List α} (h : m.length ≠ n.length) : (mulR rel m n == 2) = false := by
  cases e : mulR rel m n == 2 with
  | false => rfl
  | true => exact absurd (mul_len (eq_of_beq e)) h
end
theorem strike_map3 {α β : Type} {rel : β → β → Int} {r : α → α → Int} {f : α → β} (h : ∀ a b, rel (f a) (f b) = r a b) (a : α) : ∀ l : List α, strike rel (f a) (l.map f) = (strike r a l).map (List.map f)
  | [] => rfl
  | x :: l => by
    rw [List.map_cons, strike, strike, h, strike_map3 h a l]
    by_cases e : r a x = 2
    · rw [if_pos e, if_pos e]; rfl
    · rw [if_neg e, if_neg e]
      cases strike r a l <;> simp
theorem left_map3 {α β : Type} {rel : β → β → Int} {r : α → α → Int} {f : α → β} (h : ∀ a b, rel (f a) (f b) = r a b) : ∀ m n : List α, leftM rel (m.map f) (n.map f) = ((leftM r m n).1.map f, (leftM r m n).2.map f)
  | [], n => rfl
  | a :: m, n => by
    rw [List.map_cons, leftM, leftM, strike_map3 h a n]
    cases strike r a n with
    | none => simp only [Option.map_none]; rw [left_map3 h m n]; rfl
    | some n' => simp only [Option.map_some]; exact left_map3 h m n'
theorem mul_map3 {α β : Type} {rel : β → β → Int} {r : α → α → Int} {f : α → β} (h : ∀ a b, rel (f a) (f b) = r a b) (m n : List α) : mulR rel (m.map f) (n.map f) = mulR r m n := by
  unfold mulR relM
  rw [left_map3 h]
  simp only [List.isEmpty_map, List.all_map, List.any_map, Function.comp_def, h]
theorem mulS_eq (o : Odr) (m n : List Tm) : (mulR tmS m n == 2) = (mulR (tmI o) m n == 2) := mul_two' (fun x y => by
  have h := tmI_2 o x y
  unfold tmS
  by_cases e : cmpT x y = 0
  · rw [decide_eq_true e] at h
    rw [if_pos e]
    exact ⟨fun _ => eq_of_beq h, fun _ => rfl⟩
  · rw [decide_eq_false e] at h
    rw [if_neg e]
    exact ⟨fun e => (by cases e), fun e2 => by rw [e2] at h; cases h⟩) m n
theorem tmS_2 (s t : Tm) : (tmS s t == 2) = decide (cmpT s t = 0) := by
  unfold tmS
  by_cases h : cmpT s t = 0
  · rw [if_pos h, decide_eq_true h]; rfl
  · rw [if_neg h, decide_eq_false h]; rfl
theorem tmS_31 (s t : Tm) : (tmS s t == 3) = false ∧ (tmS s t == 1) = false := by
  unfold tmS
  split <;> exact ⟨rfl, rfl⟩
def slB (x y : Li) : Bool := (x.neg == y.neg) && (mulR tmS [x.l, x.r] [y.l, y.r] == 2)
theorem slB_eq (o : Odr) (x y : Li) : slB x y = (litsO o x y == 2) := by
  obtain ⟨xn, xl, xr⟩ := x
  obtain ⟨yn, yl, yr⟩ := y
  unfold slB litsO ltR Li.mb membs
  simp only []
  rw [mulS_eq o]
  have h1 : ∀ m n : List Tm, In4 (sdR o m n) := fun m n => mulR_in4 _ _ _
  cases xn <;> cases yn
  · have h2 : ∀ a b : Tm, sdR o [a] [b] = tmI o a b := fun a b => mulR_one (tmI_in4 o a b)
    have h3 := mul_map3 (rel := sdR o) (r := tmI o) (f := fun t => [t]) (fun a b => h2 a b) [xl, xr] [yl, yr]
    simp only [List.map_cons, List.map_nil] at h3
    simp [h3]
  · rw [if_neg (by decide), if_pos rfl, mul_uneq (m := [[xl], [xr]]) (n := [[yl, yr]]) (by simp)]; rfl
  · rw [if_pos rfl, if_neg (by decide), mul_uneq (m := [[xl, xr]]) (n := [[yl], [yr]]) (by simp)]; rfl
  · rw [if_pos rfl, if_pos rfl, mulR_one (h1 _ _)]
    simp [sdR]
end Go.Proofs.YthgglobfkkcdgaaGreat
namespace Go.Proofs.YthgglobfkkcdgaaGreat
open Go.RowKit
set_option maxRecDepth 20000
def askB (p : List Int) (s t : Tm) : Bool := !decide (s.fn < 0) && (if t.fn < 0 then decide (0 < ofT t.fn s) else
  ((s.args.any fun x => decide (cmpT x t = 0) || lpT p x t) || (if s.fn = t.fn then (t.args.all fun y => lpT p s y) && lexA (lpT p) s.args t.args else decide (rkI p t.fn < rkI p s.fn) && t.args.all fun y => lpT p s y)))
theorem ask_eq {p : List Int} {s t : Tm} (hs : vnT s = true) (ht : vnT t = true) : askB p s t = lpT p s t := by
  obtain ⟨f, xs⟩ := s
  have hlex : lexB (lpT p) xs t.args = lexA (lpT p) xs t.args := lexA_B xs t.args fun x hx => vn_args hs hx
  rw [Bool.eq_iff_iff, lp_iff]
  unfold askB
  rw [Bool.and_eq_true, Bool.not_eq_true', decide_eq_false_iff_not]
  change ¬ f < 0 ∧ _ ↔ ¬ f < 0 ∧ _
  refine and_congr_right fun hf => ?_
  change (if t.fn < 0 then decide (0 < ofT t.fn (.node f xs)) else ((xs.any fun x => decide (cmpT x t = 0) || lpT p x t) || (if f = t.fn then (t.args.all fun y => lpT p (.node f xs) y) && lexA (lpT p) xs t.args else decide (rkI p t.fn < rkI p f) && t.args.all fun y => lpT p (.node f xs) y))) = true ↔ _
  by_cases htv : t.fn < 0
  · rw [if_pos htv, decide_eq_true_eq]
    constructor
    · intro h; exact .var htv h
    · intro r
      cases r with
      | var _ ho => exact ho
      | sub x hx hxt =>
        have h0 : 0 < ofT t.fn x := by
          rcases hxt with rfl | hxt
          · rw [vn_var (vn_args hs hx) htv, ofT]
            change 0 < (if x.fn = x.fn then 1 else 0) + ofL x.fn []
            rw [if_pos rfl]; omega
          · refine lp_vars _ x t t.fn (Nat.le_refl _) ht hxt htv ?_
            rw [vn_var ht htv]
            change 0 < ofT t.fn (.node t.fn [])
            rw [ofT, if_pos rfl]; omega
        have h1 := of_le (v := t.fn) hx
        rw [ofT]; omega
      | rank h _ _ => exact absurd htv h
      | lex h _ _ _ => exact absurd htv h
  · rw [if_neg htv, Bool.or_eq_true, List.any_eq_true]
    constructor
    · rintro (⟨x, hx, h⟩ | h)
      · rw [Bool.or_eq_true, decide_eq_true_eq, cmp_zero_iff] at h
        exact .sub x hx h
      · by_cases hfg : f = t.fn
        · rw [if_pos hfg, Bool.and_eq_true, List.all_eq_true] at h
          exact .lex htv h.1 hfg (by rw [hlex]; exact h.2)
        · rw [if_neg hfg, Bool.and_eq_true, List.all_eq_true, decide_eq_true_eq] at h
          exact .rank htv h.2 h.1
    · intro r
      cases r with
      | var h _ => exact absurd h htv
      | sub x hx h => exact .inl ⟨x, hx, by rw [Bool.or_eq_true, decide_eq_true_eq, cmp_zero_iff]; exact h⟩
      | rank _ ha hr =>
        have hfg : ¬ f = t.fn := fun e => by rw [e] at hr; omega
        exact .inr (by rw [if_neg hfg, Bool.and_eq_true, List.all_eq_true, decide_eq_true_eq]; exact ⟨hr, ha⟩)
      | lex _ ha he hl => exact .inr (by rw [if_pos he, Bool.and_eq_true, List.all_eq_true]; exact ⟨ha, by rw [← hlex]; exact hl⟩)
end Go.Proofs.YthgglobfkkcdgaaGreat
namespace Go.Proofs.YthgglobfkkcdgaaGreat
open Go.RowKit Go.Shelf Go.Maps
set_option maxRecDepth 100000
theorem layKL_one {R : Nat} {xs : List Tm} {k : Nat} {u : Tm} (h : xs[k]? = some u) : layKL R (xs.take (k + 1)) = (layKL R (xs.take k) && layK R u) := by
  rw [List.take_add_one, h, Option.toList_some, Bool.eq_iff_iff, Bool.and_eq_true, layKL_take, layKL_take]
  simp only [List.mem_append, List.mem_singleton]
  exact ⟨fun h => ⟨fun x hx => h x (.inl hx), h u (.inr rfl)⟩, fun h x hx => hx.elim (h.1 x) fun e => e ▸ h.2⟩
def RKnow9 (o : Odr) (t : Tm) : Prop := ∀ (P Q A : Option Addr) (pc qc c : Nat) (w : World), I64 t.fn → Args w w.heap.size A t.args →
  Calls Tryz.prog 49 #[.agg #[.bool o.lpo, .slice P o.prec.length pc, .slice Q o.wts.length qc, .int .i64 o.var], .agg #[.int .i64 t.fn, .slice A t.args.length c]] w fun e w' => e = .returned (.bool (layK o.prec.length t)) ∧ Below w.heap.size w w'
set_option maxHeartbeats 2000000 in
theorem refKnows9_any (o : Odr) (t : Tm) : RKnow9 o t := by
  refine Tm.ind (P := RKnow9 o) (fun f xs ih => ?_) t
  intro P Q A pc qc c w hf hA
  simp only [Tm.fn, Tm.args] at hf hA ⊢
  have hlen := hA.len
  obtain ⟨W, hW⟩ : ∃ W, ((w.alloc (.cells #[.bool o.lpo, .slice P o.prec.length pc, .slice Q o.wts.length qc, .int .i64 o.var] 24)).alloc (.cells #[.int .i64 f, .slice A xs.length c] 36)) = W := ⟨_, rfl⟩
  obtain ⟨hB, hz, hS⟩ := box_ot hW
  have HW := Lib.hid hW
  obtain ⟨x0, x1, x2, x3, x4, x5⟩ := hS W (Below.refl _ _)
  have HS := Lib.hid hS
  have HA := Lib.hid hA
  clear hW hS hA
  by_cases hneg : f < 0
  · have hfin := Lib.hid (show layK o.prec.length (.node f xs) = (xs.length == 0) by
      match xs with
      | [] => rw [layK_top (by simp; omega)]; rfl
      | x :: xs => rw [layK_no (.inr ⟨hneg, by simp⟩)]; simp)
    go_enter Tryz.func49, Tryz.ntmps49
    go_upto_region 1 with fail
    rw [HW.out]
    go_wp2
    go_ret
    exact ⟨ret_bool (by rw [hfin.out, Bool.eq_iff_iff, beq_iff_eq, beq_iff_eq]; omega), hB⟩
  · by_cases h1 : f < (o.prec.length : Int)
    · have htop := Lib.hid (show layK o.prec.length (.node f xs) = layKL o.prec.length xs from layK_top (by omega))
      have g1 : ¬ f ≥ (o.prec.length : Int) := by omega
      go_enter Tryz.func49, Tryz.ntmps49
      go_upto_region 1 with fail
      rw [HW.out]
      go_wp2
      go_loopw [5] (fun i wr => ∃ k : Nat, k ≤ xs.length ∧ i = .int .i64 (k : Int) ∧ Below W.heap.size W wr ∧ Hid (layKL o.prec.length (xs.take k) = true)) (fun i _ => xs.length - (intOf i).toNat)
      case atStart => exact ⟨0, Nat.zero_le _, rfl, Below.refl _ _, Lib.hid (by simp [layKL])⟩
      case round =>
        obtain ⟨k, hk, rfl, hBr, Hkn⟩ := hrel
        obtain ⟨y0, y1, y2, y3, y4, y5⟩ := HS.out wr hBr
        by_cases hkl : k < xs.length
        · obtain ⟨u, hu⟩ : ∃ u, xs[k]? = some u := ⟨_, List.getElem?_eq_getElem hkl⟩
          have hAr := HA.out.on (hB.trans (hBr.mono hB.size))
          obtain ⟨bb, off, A1, c1, hAA, ha⟩ := hAr.get hu
          have HI := Lib.hid (fun y : Later wr.heap.size wr => ih u (List.mem_of_getElem? hu) P Q A1 pc qc c1 y.w ha.hi ((ha.sub.blw y.h).more y.h.size))
          have hT := Lib.hid (layKL_one (R := o.prec.length) hu)
          have m0 : ∀ y : Later wr.heap.size wr, y.w.cell? ⟨w.heap.size, 0, none⟩ = some (.bool o.lpo) := fun y => (HS.out y.w (hBr.trans (y.h.mono hBr.size))).1
          have m1 : ∀ y : Later wr.heap.size wr, y.w.cell? ⟨w.heap.size, 1, none⟩ = some (.slice P o.prec.length pc) := fun y => (HS.out y.w (hBr.trans (y.h.mono hBr.size))).2.1
          have m2 : ∀ y : Later wr.heap.size wr, y.w.cell? ⟨w.heap.size, 2, none⟩ = some (.slice Q o.wts.length qc) := fun y => (HS.out y.w (hBr.trans (y.h.mono hBr.size))).2.2.1
          have m3 : ∀ y : Later wr.heap.size wr, y.w.cell? ⟨w.heap.size, 3, none⟩ = some (.int .i64 o.var) := fun y => (HS.out y.w (hBr.trans (y.h.mono hBr.size))).2.2.2.1
          have m5 : ∀ y : Later wr.heap.size wr, y.w.cell? ⟨w.heap.size + 1, 1, none⟩ = some (.slice A xs.length c) := fun y => (HS.out y.w (hBr.trans (y.h.mono hBr.size))).2.2.2.2.2
          have m6 : ∀ y : Later wr.heap.size wr, y.w.cell? ⟨bb, off + k * 2, none⟩ = some (.int .i64 u.fn) := fun y => cell_on y.h ha.hb ha.c0
          have m7 : ∀ y : Later wr.heap.size wr, y.w.cell? ⟨bb, off + k * 2 + 1, none⟩ = some (.slice A1 u.args.length c1) := fun y => cell_on y.h ha.hb ha.c1
          subst hAA
          cases hku : layK o.prec.length u with
          | false =>
            have hfin := Lib.hid (show layKL o.prec.length xs = false by
              cases h : layKL o.prec.length xs with
              | false => rfl
              | true => rw [(layKL_take xs).1 h u (List.mem_of_getElem? hu)] at hku; cases hku)
            rw [hku] at HI
            clear hku hAr ha hu
            go_upto_region 8 with fail
            refine wp_region_later wr.heap.size wr (by kernel_rfl) (by kernel_rfl) (bl_drewN (Below.refl _ _) 1) ?_
            repeat (go_big_quiet_step (first | (go_at_call 49; with_reducible refine calls_later _ (Nat.le_refl _) (HI.out _)) | fail))
            refine wpQuiet_nil ?_
            rintro _ ⟨z, rfl⟩
            clear m0 m1 m2 m3 m5 m6 m7
            go_wp2
            go_ret
            exact ⟨by rw [htop.out, hfin.out]; rfl, (hB.trans (hBr.mono hB.size)).trans (z.h.mono (Nat.le_trans hB.size hBr.size))⟩
          | true =>
            rw [hku] at HI
            rw [hku, Hkn.out] at hT
            clear hku hAr ha hu
            go_upto_region 8 with fail
            refine wp_region_later wr.heap.size wr (by kernel_rfl) (by kernel_rfl) (bl_drewN (Below.refl _ _) 1) ?_
            repeat (go_big_quiet_step (first | (go_at_call 49; with_reducible refine calls_later _ (Nat.le_refl _) (HI.out _)) | fail))
            refine wpQuiet_nil ?_
            rintro _ ⟨z, rfl⟩
            clear m0 m1 m2 m3 m5 m6 m7
            go_wp2
            go_roundw
            case rel => exact ⟨k + 1, by omega, by go_num, hBr.trans (z.h.mono hBr.size), hT⟩
            case measure => simp [intOf]; omega
        · obtain rfl : k = xs.length := by omega
          have hfin := Lib.hid (show layKL o.prec.length xs = true by have := Hkn.out; rwa [List.take_length] at this)
          go_wp2
          go_ret
          exact ⟨by rw [htop.out, hfin.out]; rfl, hB.trans (hBr.mono hB.size)⟩
    · have hfin := Lib.hid (show layK o.prec.length (.node f xs) = false from layK_no (.inl (by omega)))
      have g3 : f ≥ (o.prec.length : Int) := by omega
      clear h1
      go_enter Tryz.func49, Tryz.ntmps49
      go_upto_region 1 with fail
      rw [HW.out]
      go_wp2
      go_ret
      exact ⟨by rw [hfin.out]; rfl, hB⟩
end Go.Proofs.YthgglobfkkcdgaaGreat
namespace Go.Proofs.YthgglobfkkcdgaaGreat
open Go.RowKit Go.Shelf Go.Maps
set_option maxRecDepth 100000
theorem hasL_some {v : Int} {xs : List Tm} {k : Nat} {u : Tm} (h : xs[k]? = some u) (hu : 0 < ofT v u) : 0 < ofL v xs := by
  have h1 := ofL_take (v := v) h
  have h2 := ofL_append v (xs.take (k + 1)) (xs.drop (k + 1))
  rw [List.take_append_drop] at h2
  omega
def RHas (v : Int) (t : Tm) : Prop := ∀ (A : Option Addr) (c : Nat) (w : World), I64 t.fn → Args w w.heap.size A t.args →
  Calls Tryz.prog 113 #[.agg #[.int .i64 t.fn, .slice A t.args.length c], .int .i64 (-1 - v)] w fun e w' => e = .returned (.bool (decide (0 < ofT v t))) ∧ Below w.heap.size w w'
set_option maxHeartbeats 2000000 in
theorem refHas2_any (v : Int) (hv : I64 v) (t : Tm) : RHas v t := by
  refine Tm.ind (P := RHas v) (fun f xs ih => ?_) t
  intro A c w hf hA
  simp only [Tm.fn, Tm.args] at hf hA ⊢
  have hlen := hA.len
  obtain ⟨W, hW⟩ : ∃ W, w.alloc (.cells #[.int .i64 f, .slice A xs.length c] 36) = W := ⟨_, rfl⟩
  obtain ⟨hB, hlt, hS⟩ := box_term hW
  have HW := Lib.hid hW
  have HS := Lib.hid hS
  have HA := Lib.hid hA
  obtain ⟨x0, x1⟩ := hS W (Below.refl _ _)
  have hwr : IntKind.i64.wrap (-1 - (-1 - v)) = v := by rw [IntKind.wrap_i64]; unfold I64 at hv; omega
  clear hW hS hA
  by_cases hfv : f = v
  · have hfin := Lib.hid (show decide (0 < ofT v (.node f xs)) = true by rw [ofT, if_pos hfv, decide_eq_true_eq]; omega)
    have g1 : (f == v) = true := by rw [beq_iff_eq]; exact hfv
    clear hfv
    go_enter Tryz.func113, Tryz.ntmps113
    go_upto_region 1 with fail
    rw [HW.out]
    go_wp2
    go_ret
    exact ⟨by rw [hfin.out]; rfl, hB⟩
  · have hfin0 : ofT v (.node f xs) = ofL v xs := by rw [ofT, if_neg hfv]; omega
    have Hfin := Lib.hid hfin0
    have g1 : (f == v) = false := by rw [beq_eq_false_iff_ne]; exact hfv
    clear hfin0 hfv
    go_enter Tryz.func113, Tryz.ntmps113
    go_upto_region 1 with fail
    rw [HW.out]
    go_wp2
    clear g1
    go_loopw [5] (fun i wr => ∃ k : Nat, k ≤ xs.length ∧ i = .int .i64 (k : Int) ∧ Below W.heap.size W wr ∧ Hid (ofL v (xs.take k) = 0)) (fun i _ => xs.length - (intOf i).toNat)
    case atStart => exact ⟨0, Nat.zero_le _, rfl, Below.refl _ _, Lib.hid (by simp [ofL])⟩
    case round =>
      obtain ⟨k, hk, rfl, hBr, Hz⟩ := hrel
      obtain ⟨y0, y1⟩ := HS.out wr hBr
      by_cases hkl : k < xs.length
      · obtain ⟨u, hu⟩ : ∃ u, xs[k]? = some u := ⟨_, List.getElem?_eq_getElem hkl⟩
        obtain ⟨bb, off, A1, c1, rfl, ha⟩ := (HA.out.on (hB.trans (hBr.mono hB.size))).get hu
        have e0 := ha.c0
        have e1 := ha.c1
        have HI := Lib.hid (ih u (List.mem_of_getElem? hu) A1 c1 wr ha.hi ha.sub)
        cases hku : decide (0 < ofT v u) with
        | true =>
          have hfin := Lib.hid (show decide (0 < ofT v (.node f xs)) = true by rw [decide_eq_true_eq] at hku ⊢; rw [Hfin.out]; exact hasL_some hu hku)
          rw [hku] at HI
          clear hku ha hu
          go_wp2_with (first
            | (go_at_call 113; (with_reducible refine HI.out.mono ?_); go_must (rintro e w1 ⟨rfl, hb1⟩))
            | fail)
          go_ret
          exact ⟨by rw [hfin.out]; rfl, (hB.trans (hBr.mono hB.size)).trans (hb1.mono (Nat.le_trans hB.size hBr.size))⟩
        | false =>
          have hT := Lib.hid (show ofL v (xs.take (k + 1)) = 0 by rw [decide_eq_false_iff_not] at hku; rw [ofL_take hu, Hz.out]; omega)
          rw [hku] at HI
          clear hku ha hu
          go_wp2_with (first
            | (go_at_call 113; (with_reducible refine HI.out.mono ?_); go_must (rintro e w1 ⟨rfl, hb1⟩))
            | fail)
          go_roundw
          case rel => exact ⟨k + 1, by omega, by go_num, hBr.trans (hb1.mono hBr.size), hT⟩
          case measure => simp [intOf]; omega
      · obtain rfl : k = xs.length := by omega
        have hfin := Lib.hid (show decide (0 < ofT v (.node f xs)) = false by rw [decide_eq_false_iff_not, Hfin.out]; have := Hz.out; rw [List.take_length] at this; omega)
        go_wp2
        go_ret
        exact ⟨by rw [hfin.out]; rfl, hB.trans (hBr.mono hB.size)⟩
end Go.Proofs.YthgglobfkkcdgaaGreat
namespace Go.Proofs.YthgglobfkkcdgaaGreat
open Go.RowKit
set_option maxRecDepth 20000
def kidN : Nat → List Tm → List Nat
  | _, [] => []
  | n, x :: xs => n :: kidN (n + x.size) xs
mutual
def ndT : Nat → Tm → List (Tm × List Nat)
  | n, .node f xs => (.node f xs, kidN (n + 1) xs) :: ndL (n + 1) xs
def ndL : Nat → List Tm → List (Tm × List Nat)
  | _, [] => []
  | n, x :: xs => ndT n x ++ ndL (n + x.size) xs
end
theorem kidN_len : ∀ (n : Nat) (xs : List Tm), (kidN n xs).length = xs.length
  | _, [] => rfl
  | n, x :: xs => by rw [kidN, List.length_cons, List.length_cons, kidN_len]
mutual
theorem ndT_len : ∀ (n : Nat) (t : Tm), (ndT n t).length = t.size
  | n, .node f xs => by rw [ndT, List.length_cons, ndL_len, Tm.size]
theorem ndL_len : ∀ (n : Nat) (xs : List Tm), (ndL n xs).length = sizes xs
  | _, [] => by rw [ndL, sizes]; rfl
  | n, x :: xs => by rw [ndL, List.length_append, ndT_len, ndL_len, sizes]
end
theorem ndT_head (n : Nat) (t : Tm) : (ndT n t)[0]? = some (t, kidN (n + 1) t.args) := by
  obtain ⟨f, xs⟩ := t
  rw [ndT]; rfl
theorem kid_at : ∀ (n : Nat) (xs : List Tm) (k : Nat) (x : Tm), xs[k]? = some x → (kidN n xs)[k]? = some (n + sizes (xs.take k)) ∧ (ndL n xs)[sizes (xs.take k)]? = some (x, kidN (n + sizes (xs.take k) + 1) x.args)
  | _, [], _, _, h => by simp at h
  | n, y :: xs, 0, x, h => by
    simp only [List.getElem?_cons_zero, Option.some.injEq] at h
    subst h
    refine ⟨by rw [kidN]; simp [sizes], ?_⟩
    simp only [List.take_zero, sizes, Nat.add_zero]
    rw [ndL, List.getElem?_append_left (by rw [ndT_len]; obtain ⟨f, ys⟩ := y; simp only [Tm.size]; omega)]
    exact ndT_head n y
  | n, y :: xs, k + 1, x, h => by
    rw [List.getElem?_cons_succ] at h
    obtain ⟨h1, h2⟩ := kid_at (n + y.size) xs k x h
    simp only [List.take_succ_cons, sizes]
    refine ⟨?_, ?_⟩
    · rw [kidN, List.getElem?_cons_succ, h1]; congr 1; omega
    · rw [ndL, List.getElem?_append_right (by rw [ndT_len]; omega), ndT_len, show y.size + sizes (xs.take k) - y.size = sizes (xs.take k) by omega, h2, show n + y.size + sizes (xs.take k) + 1 = n + (y.size + sizes (xs.take k)) + 1 by omega]
def NdOk (n : Nat) (L : List (Tm × List Nat)) : Prop := ∀ (i : Nat) (u : Tm) (ks : List Nat), L[i]? = some (u, ks) → ks.length = u.args.length ∧ ∀ (k : Nat) (x : Tm), u.args[k]? = some x → ∃ (j : Nat) (kx : List Nat), ks[k]? = some (n + j) ∧ L[j]? = some (x, kx)
mutual
theorem ndT_ok : ∀ (n : Nat) (t : Tm), NdOk n (ndT n t)
  | n, .node f xs => by
    intro i u ks h
    rw [ndT] at h ⊢
    cases i with
    | zero =>
      simp only [List.getElem?_cons_zero, Option.some.injEq, Prod.mk.injEq] at h
      obtain ⟨rfl, rfl⟩ := h
      refine ⟨kidN_len _ _, fun k x hx => ?_⟩
      obtain ⟨h1, h2⟩ := kid_at (n + 1) xs k x hx
      exact ⟨sizes (xs.take k) + 1, _, by rw [h1]; congr 1; omega, by rw [List.getElem?_cons_succ]; exact h2⟩
    | succ i =>
      rw [List.getElem?_cons_succ] at h
      obtain ⟨h1, h2⟩ := ndL_ok (n + 1) xs i u ks h
      refine ⟨h1, fun k x hx => ?_⟩
      obtain ⟨j, kx, h3, h4⟩ := h2 k x hx
      exact ⟨j + 1, kx, by rw [h3]; congr 1; omega, by rw [List.getElem?_cons_succ]; exact h4⟩
theorem ndL_ok : ∀ (n : Nat) (xs : List Tm), NdOk n (ndL n xs)
  | _, [] => by intro i u ks h; rw [ndL] at h; simp at h
  | n, x :: xs => by
    intro i u ks h
    rw [ndL] at h ⊢
    by_cases hi : i < (ndT n x).length
    · rw [List.getElem?_append_left hi] at h
      obtain ⟨h1, h2⟩ := ndT_ok n x i u ks h
      refine ⟨h1, fun k y hy => ?_⟩
      obtain ⟨j, kx, h3, h4⟩ := h2 k y hy
      exact ⟨j, kx, h3, by rw [List.getElem?_append_left (List.getElem?_eq_some_iff.1 h4).1]; exact h4⟩
    · rw [List.getElem?_append_right (by omega)] at h
      obtain ⟨h1, h2⟩ := ndL_ok (n + x.size) xs _ u ks h
      refine ⟨h1, fun k y hy => ?_⟩
      obtain ⟨j, kx, h3, h4⟩ := h2 k y hy
      exact ⟨x.size + j, kx, by rw [h3]; congr 1; omega, by rw [List.getElem?_append_right (by rw [ndT_len]; omega), ndT_len, show x.size + j - x.size = j by omega]; exact h4⟩
end
end Go.Proofs.YthgglobfkkcdgaaGreat
namespace Go.Proofs.YthgglobfkkcdgaaGreat
open Go.RowKit Go.Shelf Go.Maps
set_option maxRecDepth 100000
def NdAt (w : World) (m b o : Nat) (u : Tm) (ks : List Nat) : Prop := I64 u.fn ∧ ∃ (A1 : Option Addr) (c1 : Nat) (K : Option Addr) (kc : Nat),
  w.cell? ⟨b, o, none⟩ = some (.int .i64 u.fn) ∧ w.cell? ⟨b, o + 1, none⟩ = some (.slice A1 u.args.length c1) ∧ w.cell? ⟨b, o + 2, none⟩ = some (.slice K ks.length kc) ∧ Args w m A1 u.args ∧
  (0 < ks.length → ∃ kb ko, K = some ⟨kb, ko, none⟩ ∧ kb < m ∧ ∀ (k j : Nat), ks[k]? = some j → w.cell? ⟨kb, ko + k, none⟩ = some (.int .i64 (j : Int)))
theorem NdAt.blw {w w' : World} {m b o : Nat} {u : Tm} {ks : List Nat} (h : NdAt w m b o u ks) (hb : b < m) (hk : Below m w w') : NdAt w' m b o u ks := by
  obtain ⟨h0, A1, c1, K, kc, e0, e1, e2, hA, hK⟩ := h
  refine ⟨h0, A1, c1, K, kc, cell_on hk hb e0, cell_on hk hb e1, cell_on hk hb e2, hA.blw hk, fun hp => ?_⟩
  obtain ⟨kb, ko, rfl, hkb, hc⟩ := hK hp
  exact ⟨kb, ko, rfl, hkb, fun k j hj => cell_on hk hkb (hc k j hj)⟩
structure NdW (w : World) (m : Nat) (A : Option Addr) (L : List (Tm × List Nat)) : Prop where
  len : L.length ≤ 9223372036854775807
  ad : 0 < L.length → ∃ b off, A = some ⟨b, off, none⟩ ∧ b < m ∧ ∀ (i : Nat) (u : Tm) (ks : List Nat), L[i]? = some (u, ks) → NdAt w m b (off + i * 3) u ks
theorem NdW.blw {w w' : World} {m : Nat} {A : Option Addr} {L : List (Tm × List Nat)} (h : NdW w m A L) (hk : Below m w w') : NdW w' m A L := by
  refine ⟨h.len, fun hp => ?_⟩
  obtain ⟨b, off, rfl, hb, hc⟩ := h.ad hp
  exact ⟨b, off, rfl, hb, fun i u ks hi => (hc i u ks hi).blw hb hk⟩
theorem NdW.get {w : World} {m : Nat} {A : Option Addr} {L : List (Tm × List Nat)} (h : NdW w m A L) {i : Nat} {u : Tm} {ks : List Nat} (hi : L[i]? = some (u, ks)) : ∃ b off, A = some ⟨b, off, none⟩ ∧ b < m ∧ NdAt w m b (off + i * 3) u ks := by
  obtain ⟨b, off, hA, hb, hc⟩ := h.ad (by have := (List.getElem?_eq_some_iff.1 hi).1; omega)
  exact ⟨b, off, hA, hb, hc i u ks hi⟩
structure PrW (w : World) (bp : Nat) (o : Odr) (P Q : Option Addr) (pc qc : Nat) (A B : Option Addr) (ca cb : Nat) (La Lb : List (Tm × List Nat)) (bo fc : Nat) (rb : Nat → Nat) (F : Nat → Nat → Int) : Prop where
  lt : bp < w.heap.size
  c0 : w.cell? ⟨bp, 0, none⟩ = some (.bool o.lpo)
  c1 : w.cell? ⟨bp, 1, none⟩ = some (.slice P o.prec.length pc)
  c2 : w.cell? ⟨bp, 2, none⟩ = some (.slice Q o.wts.length qc)
  c3 : w.cell? ⟨bp, 3, none⟩ = some (.int .i64 o.var)
  c4 : w.cell? ⟨bp, 4, none⟩ = some (.slice A La.length ca)
  c5 : w.cell? ⟨bp, 5, none⟩ = some (.slice B Lb.length cb)
  c6 : w.cell? ⟨bp, 6, none⟩ = some (.slice (some ⟨bo, 0, none⟩) La.length fc)
  pr : Ints w bp P o.prec
  na : NdW w bp A La
  nb : NdW w bp B Lb
  bol : bp < bo ∧ bo < w.heap.size
  fo : ∀ i, i < La.length → w.cell? ⟨bo, i, none⟩ = some (.slice (some ⟨rb i, 0, none⟩) Lb.length Lb.length)
  rr : ∀ i, i < La.length → bp < rb i ∧ rb i < w.heap.size ∧ rb i ≠ bo
  inj : ∀ i j, i < La.length → j < La.length → rb i = rb j → i = j
  ff : ∀ i k, i < La.length → k < Lb.length → w.cell? ⟨rb i, k, none⟩ = some (.int .i64 (F i k))
  fz : ∀ i k, i < La.length → k < Lb.length → w.frozen? ⟨rb i, k, none⟩ = false
def FndC (n : Nat) (rb : Nat → Nat) (g : Nat) : Prop := ∃ i, i < n ∧ rb i = g
def updF (F : Nat → Nat → Int) (i k : Nat) (v : Int) : Nat → Nat → Int := fun i' k' => if i' = i ∧ k' = k then v else F i' k'
section
variable {w w' : World} {bp : Nat} {o : Odr} {P Q : Option Addr} {pc qc : Nat} {A B : Option Addr} {ca cb : Nat} {La Lb : List (Tm × List Nat)} {bo fc : Nat} {rb : Nat → Nat} {F : Nat → Nat → Int}
theorem PrW.on (h : PrW w bp o P Q pc qc A B ca cb La Lb bo fc rb F) (hb : Below w.heap.size w w') : PrW w' bp o P Q pc qc A B ca cb La Lb bo fc rb F := by
  have hm : Below bp w w' := hb.mono (Nat.le_of_lt h.lt)
  exact ⟨Nat.lt_of_lt_of_le h.lt hb.size, cell_on hb h.lt h.c0, cell_on hb h.lt h.c1, cell_on hb h.lt h.c2, cell_on hb h.lt h.c3, cell_on hb h.lt h.c4, cell_on hb h.lt h.c5, cell_on hb h.lt h.c6, h.pr.blw hm, h.na.blw hm, h.nb.blw hm,
    ⟨h.bol.1, Nat.lt_of_lt_of_le h.bol.2 hb.size⟩, fun i hi => cell_on hb h.bol.2 (h.fo i hi), fun i hi => ⟨(h.rr i hi).1, Nat.lt_of_lt_of_le (h.rr i hi).2.1 hb.size, (h.rr i hi).2.2⟩, h.inj,
    fun i k hi hk => cell_on hb (h.rr i hi).2.1 (h.ff i k hi hk), fun i k hi hk => frozen_on hb (h.rr i hi).2.1 (h.fz i k hi hk)⟩
theorem PrW.set (h : PrW w bp o P Q pc qc A B ca cb La Lb bo fc rb F) {i k : Nat} (hi : i < La.length) (hk : k < Lb.length) (v : Int) : PrW (w.setCell ⟨rb i, k, none⟩ (.int .i64 v)) bp o P Q pc qc A B ca cb La Lb bo fc rb (updF F i k v) := by
  obtain ⟨r1, r2, r3⟩ := h.rr i hi
  have hsz : (w.setCell ⟨rb i, k, none⟩ (.int .i64 v)).heap.size = w.heap.size := by simp
  have far : ∀ g o, g ≠ rb i → (w.setCell ⟨rb i, k, none⟩ (.int .i64 v)).cell? ⟨g, o, none⟩ = w.cell? ⟨g, o, none⟩ := fun g o hg => World.cell?_setCell_far w _ _ _ (fun e => hg e.symm)
  have hm : Below bp w (w.setCell ⟨rb i, k, none⟩ (.int .i64 v)) := (Below.refl _ _).setCell (Nat.le_of_lt r1) _
  have hne : bp ≠ rb i := by omega
  refine ⟨by rw [hsz]; exact h.lt, (far _ _ hne).trans h.c0, (far _ _ hne).trans h.c1, (far _ _ hne).trans h.c2, (far _ _ hne).trans h.c3, (far _ _ hne).trans h.c4, (far _ _ hne).trans h.c5, (far _ _ hne).trans h.c6, h.pr.blw hm, h.na.blw hm, h.nb.blw hm,
    ⟨h.bol.1, by rw [hsz]; exact h.bol.2⟩, fun j hj => (far _ _ (Ne.symm r3)).trans (h.fo j hj), fun j hj => by rw [hsz]; exact h.rr j hj, h.inj, fun j l hj hl => ?_, fun j l hj hl => (World.frozen?_setCell _ _ _ _).trans (h.fz j l hj hl)⟩
  by_cases e : j = i ∧ l = k
  · obtain ⟨rfl, rfl⟩ := e
    rw [show updF F j l v j l = v from if_pos ⟨rfl, rfl⟩]
    exact World.cell?_setCell_same _ _ _ (h.ff j l hj hl)
  · rw [show updF F i k v j l = F j l from if_neg e]
    rw [World.cell?_setCell_other]
    · exact h.ff j l hj hl
    · intro e2
      simp only [Addr.mk.injEq] at e2
      exact e ⟨h.inj j i hj hi e2.1.symm, e2.2.1.symm⟩
theorem PrW.below (h : PrW w bp o P Q pc qc A B ca cb La Lb bo fc rb F) (hk : KeepsC (FndC La.length rb) w w') : Below (bp + 1) w w' :=
  hk.below h.lt fun g hg ⟨i, hi, e⟩ => by have := (h.rr i hi).1; omega
end
def Rgt (p : List Int) (La Lb : List (Tm × List Nat)) (i k : Nat) (v : Int) : Prop := ∀ u ku x kx, La[i]? = some (u, ku) → Lb[k]? = some (x, kx) → v = if lpT p u x = true then 1 else 2
def UndR (p : List Int) (La Lb : List (Tm × List Nat)) (m : Nat) (F : Nat → Nat → Int) : Prop := ∀ i k u ku x kx, La[i]? = some (u, ku) → Lb[k]? = some (x, kx) → u.size + x.size ≤ m → F i k = 0 ∨ Rgt p La Lb i k (F i k)
def GoesR (p : List Int) (La Lb : List (Tm × List Nat)) (F G : Nat → Nat → Int) : Prop := ∀ i k, G i k = F i k ∨ Rgt p La Lb i k (G i k)
section
variable {p : List Int} {La Lb : List (Tm × List Nat)} {m m' : Nat} {F G H : Nat → Nat → Int}
theorem GoesR.refl (F : Nat → Nat → Int) : GoesR p La Lb F F := fun _ _ => .inl rfl
theorem GoesR.trans (h : GoesR p La Lb F G) (k : GoesR p La Lb G H) : GoesR p La Lb F H := fun i j => by
  rcases k i j with e | e
  · rcases h i j with e2 | e2
    · exact .inl (e.trans e2)
    · exact .inr (by rw [e]; exact e2)
  · exact .inr e
theorem UndR.goes (h : UndR p La Lb m F) (k : GoesR p La Lb F G) : UndR p La Lb m G := fun i j u ku x kx h1 h2 h3 => by
  rcases k i j with e | e
  · rw [e]; exact h i j u ku x kx h1 h2 h3
  · exact .inr e
theorem UndR.mono (h : UndR p La Lb m F) (hm : m' ≤ m) : UndR p La Lb m' F := fun i j u ku x kx h1 h2 h3 => h i j u ku x kx h1 h2 (by omega)
theorem UndR.ask {i k : Nat} {u x : Tm} {ku kx : List Nat} (h : UndR p La Lb (u.size + x.size) F) (h1 : La[i]? = some (u, ku)) (h2 : Lb[k]? = some (x, kx)) (v : Int) : UndR p La Lb (u.size + x.size - 1) (updF F i k v) := by
  intro j l u' ku' x' kx' e1 e2 e3
  have := size_pos u
  have hne : ¬ (j = i ∧ l = k) := by
    rintro ⟨rfl, rfl⟩
    rw [h1] at e1
    rw [h2] at e2
    cases e1
    cases e2
    omega
  rw [show updF F i k v j l = F j l from if_neg hne]
  exact h j l u' ku' x' kx' e1 e2 (by omega)
theorem rgt_one {i k : Nat} {u x : Tm} {ku kx : List Nat} (h1 : La[i]? = some (u, ku)) (h2 : Lb[k]? = some (x, kx)) {v : Int} (hv : v = if lpT p u x = true then 1 else 2) : Rgt p La Lb i k v := by
  intro u' ku' x' kx' e1 e2
  rw [h1] at e1
  rw [h2] at e2
  cases e1
  cases e2
  exact hv
theorem Rgt.eq {i k : Nat} {u x : Tm} {ku kx : List Nat} {v : Int} (h : Rgt p La Lb i k v) (h1 : La[i]? = some (u, ku)) (h2 : Lb[k]? = some (x, kx)) : v = if lpT p u x = true then 1 else 2 := h u ku x kx h1 h2
theorem goes_ask {i k : Nat} {u x : Tm} {ku kx : List Nat} (h1 : La[i]? = some (u, ku)) (h2 : Lb[k]? = some (x, kx)) (h : GoesR p La Lb (updF F i k 2) G) : GoesR p La Lb F (if lpT p u x = true then updF G i k 1 else G) ∧ (if lpT p u x = true then updF G i k 1 else G) i k = if lpT p u x = true then 1 else 2 := by
  cases hl : lpT p u x with
  | true =>
    simp only [if_true]
    refine ⟨fun j l => ?_, if_pos ⟨rfl, rfl⟩⟩
    by_cases e : j = i ∧ l = k
    · obtain ⟨rfl, rfl⟩ := e
      rw [show updF G j l 1 j l = 1 from if_pos ⟨rfl, rfl⟩]
      exact .inr (rgt_one h1 h2 (by rw [hl]; rfl))
    · rw [show updF G i k 1 j l = G j l from if_neg e]
      rcases h j l with e2 | e2
      · exact .inl (e2.trans (if_neg e))
      · exact .inr e2
  | false =>
    simp only [Bool.false_eq_true, if_false]
    have hik : G i k = 2 := by
      rcases h i k with e2 | e2
      · exact e2.trans (if_pos ⟨rfl, rfl⟩)
      · have := e2.eq h1 h2
        rw [hl] at this
        exact this
    refine ⟨fun j l => ?_, hik⟩
    by_cases e : j = i ∧ l = k
    · obtain ⟨rfl, rfl⟩ := e
      exact .inr (by rw [hik]; exact rgt_one h1 h2 (by rw [hl]; rfl))
    · rcases h j l with e2 | e2
      · exact .inl (e2.trans (if_neg e))
      · exact .inr e2
end
end Go.Proofs.YthgglobfkkcdgaaGreat
namespace Go.Proofs.YthgglobfkkcdgaaGreat
open Go.RowKit Go.Shelf Go.Maps
set_option maxRecDepth 100000
section
variable {bp : Nat} {o : Odr} {P Q : Option Addr} {pc qc : Nat} {A B : Option Addr} {ca cb : Nat} {La Lb : List (Tm × List Nat)} {bo fc : Nat} {rb : Nat → Nat}
def PrP (bp : Nat) (o : Odr) (P Q : Option Addr) (pc qc : Nat) (A B : Option Addr) (ca cb : Nat) (La Lb : List (Tm × List Nat)) (bo fc : Nat) (rb : Nat → Nat) (F : Nat → Nat → Int) (w w' : World) : Prop := KeepsC (FndC La.length rb) w w' ∧ ∃ G, PrW w' bp o P Q pc qc A B ca cb La Lb bo fc rb G ∧ GoesR o.prec La Lb F G
def AbvI (bp : Nat) (o : Odr) (P Q : Option Addr) (pc qc : Nat) (A B : Option Addr) (ca cb : Nat) (La Lb : List (Tm × List Nat)) (bo fc : Nat) (rb : Nat → Nat) (m : Nat) : Prop :=
  ∀ (i k : Nat) (u : Tm) (ku : List Nat) (x : Tm) (kx : List Nat) (F : Nat → Nat → Int) (w : World), La[i]? = some (u, ku) → Lb[k]? = some (x, kx) → u.size + x.size ≤ m → UndR o.prec La Lb (u.size + x.size) F → PrW w bp o P Q pc qc A B ca cb La Lb bo fc rb F →
    Calls Tryz.prog 74 #[.pointer (some ⟨bp, 0, none⟩), .int .i64 (i : Int), .int .i64 (k : Int)] w fun e w' => e = .returned (.bool (lpT o.prec u x)) ∧ PrP bp o P Q pc qc A B ca cb La Lb bo fc rb F w w'
def AskI (bp : Nat) (o : Odr) (P Q : Option Addr) (pc qc : Nat) (A B : Option Addr) (ca cb : Nat) (La Lb : List (Tm × List Nat)) (bo fc : Nat) (rb : Nat → Nat) (m : Nat) : Prop :=
  ∀ (i k : Nat) (u : Tm) (ku : List Nat) (x : Tm) (kx : List Nat) (F : Nat → Nat → Int) (w : World), La[i]? = some (u, ku) → Lb[k]? = some (x, kx) → u.size + x.size ≤ m → UndR o.prec La Lb (u.size + x.size - 1) F → PrW w bp o P Q pc qc A B ca cb La Lb bo fc rb F →
    Calls Tryz.prog 93 #[.pointer (some ⟨bp, 0, none⟩), .int .i64 (i : Int), .int .i64 (k : Int)] w fun e w' => e = .returned (.bool (lpT o.prec u x)) ∧ PrP bp o P Q pc qc A B ca cb La Lb bo fc rb F w w'
theorem PrP.trans {F G : Nat → Nat → Int} {w w1 w2 : World} (hk : KeepsC (FndC La.length rb) w w1) (hg : GoesR o.prec La Lb F G) (h : PrP bp o P Q pc qc A B ca cb La Lb bo fc rb G w1 w2) : PrP bp o P Q pc qc A B ca cb La Lb bo fc rb F w w2 := by
  obtain ⟨h1, H, h2, h3⟩ := h
  exact ⟨hk.trans h1, H, h2, hg.trans h3⟩
theorem keepsC_fnd {n i : Nat} {w w1 : World} (h : KeepsC (FndC n rb) w w1) (hi : i < n) (k : Nat) (v : Value) : KeepsC (FndC n rb) w (w1.setCell ⟨rb i, k, none⟩ v) :=
  Keeps.trans h ((Keeps.set w1 ⟨rb i, k, none⟩ v).mono fun g e => by
    show g ≠ rb i
    rintro rfl
    exact e.2 ⟨i, hi, rfl⟩)
set_option maxHeartbeats 2000000 in
theorem refAbove9_any {m : Nat} (h : AskI bp o P Q pc qc A B ca cb La Lb bo fc rb m) : AbvI bp o P Q pc qc A B ca cb La Lb bo fc rb m := by
  intro i k u ku x kx F w hu hx hz hU hP
  have hi := (List.getElem?_eq_some_iff.1 hu).1
  have hk := (List.getElem?_eq_some_iff.1 hx).1
  have hla := hP.na.len
  have hlb := hP.nb.len
  have e6 := hP.c6
  have e7 := hP.fo i hi
  have e8 := hP.ff i k hi hk
  have e9 := hP.fz i k hi hk
  by_cases h0 : F i k = 0
  · rw [h0] at e8
    have hP1 := hP.set hi hk 2
    have hA := h i k u ku x kx (updF F i k 2) _ hu hx hz (hU.ask hu hx 2) hP1
    cases hl : lpT o.prec u x with
    | true =>
      rw [hl] at hA
      have HA := Lib.hid hA
      have HP := Lib.hid hP
      have HF := Lib.hid (fun G => @goes_ask o.prec La Lb F G i k u x ku kx hu hx)
      simp only [hl, if_true] at HF
      clear hA hP1 hP hU hu hx hl h
      go_enter Tryz.func74, Tryz.ntmps74
      go_wp2_with (first
        | (go_at_call 93; (with_reducible refine HA.out.mono ?_); go_must (rintro e w2 ⟨rfl, hK2, G, hP2, hG⟩; have f6 := hP2.c6; have f7 := hP2.fo i hi; have f8 := hP2.ff i k hi hk; have f9 := hP2.fz i k hi hk; have hP3 := hP2.set hi hk 1; have g6 := hP3.c6; have g7 := hP3.fo i hi; have g8 := hP3.ff i k hi hk; rw [show updF G i k 1 i k = 1 from if_pos ⟨rfl, rfl⟩] at g8; have HP3 := Lib.hid hP3; have HG := Lib.hid hG; clear hP2 hP3 hG))
        | fail)
      go_ret
      exact ⟨rfl, keepsC_fnd ((keepsC_fnd (KeepsC.refl _ _) hi k _).trans hK2) hi k _, _, HP3.out, (HF.out _ HG.out).1⟩
    | false =>
      rw [hl] at hA
      have HA := Lib.hid hA
      have HP := Lib.hid hP
      have HF := Lib.hid (fun G => @goes_ask o.prec La Lb F G i k u x ku kx hu hx)
      simp only [hl, Bool.false_eq_true, if_false] at HF
      clear hA hP1 hP hU hu hx hl h
      go_enter Tryz.func74, Tryz.ntmps74
      go_wp2_with (first
        | (go_at_call 93; (with_reducible refine HA.out.mono ?_); go_must (rintro e w2 ⟨rfl, hK2, G, hP2, hG⟩; have f6 := hP2.c6; have f7 := hP2.fo i hi; have f8 := hP2.ff i k hi hk; rw [(HF.out _ hG).2] at f8; have HP2 := Lib.hid hP2; have HG := Lib.hid hG; clear hP2 hG))
        | fail)
      go_ret
      exact ⟨rfl, (keepsC_fnd (KeepsC.refl _ _) hi k _).trans hK2, _, HP2.out, (HF.out _ HG.out).1⟩
  · have hR : F i k = if lpT o.prec u x = true then 1 else 2 := by
      rcases hU i k u ku x kx hu hx (Nat.le_refl _) with e | e
      · exact absurd e h0
      · exact e.eq hu hx
    rw [hR] at e8
    have HP := Lib.hid hP
    clear hP hU hu hx h h0 hR
    cases hl : lpT o.prec u x with
    | true =>
      simp only [hl, if_true] at e8
      clear hl
      go_enter Tryz.func74, Tryz.ntmps74
      go_wp2
      go_ret
      exact ⟨rfl, KeepsC.refl _ _, F, HP.out, GoesR.refl F⟩
    | false =>
      simp only [hl, Bool.false_eq_true, if_false] at e8
      clear hl
      go_enter Tryz.func74, Tryz.ntmps74
      go_wp2
      go_ret
      exact ⟨rfl, KeepsC.refl _ _, F, HP.out, GoesR.refl F⟩
end
end Go.Proofs.YthgglobfkkcdgaaGreat
namespace Go.Proofs.YthgglobfkkcdgaaGreat
open Go.RowKit Go.Shelf Go.Maps
set_option maxRecDepth 100000
section
variable {bp : Nat} {o : Odr} {P Q : Option Addr} {pc qc : Nat} {A B : Option Addr} {ca cb : Nat} {La Lb : List (Tm × List Nat)} {bo fc : Nat} {rb : Nat → Nat}
def AllI (bp : Nat) (o : Odr) (P Q : Option Addr) (pc qc : Nat) (A B : Option Addr) (ca cb : Nat) (La Lb : List (Tm × List Nat)) (bo fc : Nat) (rb : Nat → Nat) (m : Nat) : Prop :=
  ∀ (i k : Nat) (u : Tm) (ku : List Nat) (x : Tm) (kx : List Nat) (F : Nat → Nat → Int) (w : World), La[i]? = some (u, ku) → Lb[k]? = some (x, kx) → u.size + x.size ≤ m + 1 → UndR o.prec La Lb (u.size + x.size - 1) F → PrW w bp o P Q pc qc A B ca cb La Lb bo fc rb F →
    Calls Tryz.prog 114 #[.pointer (some ⟨bp, 0, none⟩), .int .i64 (i : Int), .int .i64 (k : Int)] w fun e w' => e = .returned (.bool (x.args.all fun y => lpT o.prec u y)) ∧ PrP bp o P Q pc qc A B ca cb La Lb bo fc rb F w w'
def PrI (bp : Nat) (o : Odr) (P Q : Option Addr) (pc qc : Nat) (A B : Option Addr) (ca cb : Nat) (La Lb : List (Tm × List Nat)) (bo fc : Nat) (rb : Nat → Nat) (F : Nat → Nat → Int) (w : World) : Prop := ∃ G, PrW w bp o P Q pc qc A B ca cb La Lb bo fc rb G ∧ GoesR o.prec La Lb F G
theorem PrI.on {F : Nat → Nat → Int} {w w' : World} (h : PrI bp o P Q pc qc A B ca cb La Lb bo fc rb F w) (hb : Below w.heap.size w w') : PrI bp o P Q pc qc A B ca cb La Lb bo fc rb F w' := by
  obtain ⟨G, h1, h2⟩ := h
  exact ⟨G, h1.on hb, h2⟩
theorem AbvI.lat {m : Nat} (h : AbvI bp o P Q pc qc A B ca cb La Lb bo fc rb m) {F : Nat → Nat → Int} {n i k : Nat} {u x : Tm} {ku kx : List Nat} (hU : UndR o.prec La Lb n F) (hu : La[i]? = some (u, ku)) (hx : Lb[k]? = some (x, kx)) (hm : u.size + x.size ≤ m) (hn : u.size + x.size ≤ n) (w : World) (hI : PrI bp o P Q pc qc A B ca cb La Lb bo fc rb F w) :
    Calls Tryz.prog 74 #[.pointer (some ⟨bp, 0, none⟩), .int .i64 (i : Int), .int .i64 (k : Int)] w fun e w' => e = .returned (.bool (lpT o.prec u x)) ∧ KeepsC (FndC La.length rb) w w' ∧ PrI bp o P Q pc qc A B ca cb La Lb bo fc rb F w' := by
  obtain ⟨G, h1, h2⟩ := hI
  refine (h i k u ku x kx G w hu hx hm ((hU.goes h2).mono hn) h1).mono fun e w' ⟨he, hk, H, h3, h4⟩ => ⟨he, hk, H, h3, h2.trans h4⟩
theorem cellK {C : Nat → Prop} {w w' : World} (h : KeepsC C w w') {g o : Nat} {v : Value} (hg : g < w.heap.size) (hc : ¬ C g) (e : w.cell? ⟨g, o, none⟩ = some v) : w'.cell? ⟨g, o, none⟩ = some v := (World.cell?_of_block (h.block hg hc)).trans e
theorem AllI.lat {m : Nat} (h : AllI bp o P Q pc qc A B ca cb La Lb bo fc rb m) {F : Nat → Nat → Int} {i k : Nat} {u x : Tm} {ku kx : List Nat} (hU : UndR o.prec La Lb (u.size + x.size - 1) F) (hu : La[i]? = some (u, ku)) (hx : Lb[k]? = some (x, kx)) (hm : u.size + x.size ≤ m + 1) (w : World) (hI : PrI bp o P Q pc qc A B ca cb La Lb bo fc rb F w) :
    Calls Tryz.prog 114 #[.pointer (some ⟨bp, 0, none⟩), .int .i64 (i : Int), .int .i64 (k : Int)] w fun e w' => e = .returned (.bool (x.args.all fun y => lpT o.prec u y)) ∧ KeepsC (FndC La.length rb) w w' ∧ PrI bp o P Q pc qc A B ca cb La Lb bo fc rb F w' := by
  obtain ⟨G, h1, h2⟩ := hI
  refine (h i k u ku x kx G w hu hx hm (hU.goes h2) h1).mono fun e w' ⟨he, hk, H, h3, h4⟩ => ⟨he, hk, H, h3, h2.trans h4⟩
theorem nd_size {x y : Tm} (h : y ∈ x.args) : y.size + 1 ≤ x.size := by
  obtain ⟨f, xs⟩ := x
  have := size_mem (xs := xs) h
  simp only [Tm.size]; omega
theorem all_take {p : Tm → Bool} {xs : List Tm} {j : Nat} {y : Tm} (h : xs[j]? = some y) : (xs.take (j + 1)).all p = ((xs.take j).all p && p y) := by
  rw [List.take_add_one, h, Option.toList_some, List.all_append]; simp
set_option maxHeartbeats 2000000 in
theorem refAll9_any {m : Nat} (h : AbvI bp o P Q pc qc A B ca cb La Lb bo fc rb m) (hNb : NdOk 0 Lb) : AllI bp o P Q pc qc A B ca cb La Lb bo fc rb m := by
  intro i k u ku x kx F w hu hx hz hU hP
  have hi := (List.getElem?_eq_some_iff.1 hu).1
  have hk := (List.getElem?_eq_some_iff.1 hx).1
  have hla := hP.na.len
  have hlb := hP.nb.len
  obtain ⟨b, off, rfl, hb, hN⟩ := hP.nb.get hx
  obtain ⟨_, A1, c1, K, kc, n0, n1, n2, hAx, hK⟩ := hN
  obtain ⟨hkl, hkk⟩ := hNb k x kx hx
  rw [hkl] at n2
  have hS := Lib.hid (fun wr (hk : KeepsC (FndC La.length rb) w wr) => show wr.cell? ⟨bp, 5, none⟩ = some (.slice (some ⟨b, off, none⟩) Lb.length cb) ∧ wr.cell? ⟨b, off + k * 3 + 2, none⟩ = some (.slice K x.args.length kc) from
    have hB := hP.below hk; ⟨cell_on hB (by omega) hP.c5, cell_on hB (by omega) n2⟩)
  have HK := Lib.hid (fun (hp : 0 < x.args.length) => hK (by rw [hkl]; exact hp))
  have Hkk := Lib.hid hkk
  have HPB := Lib.hid (fun wr (hk : KeepsC (FndC La.length rb) w wr) => hP.below hk)
  have HU := Lib.hid hU
  have HP := Lib.hid hP
  have HH := Lib.hid h
  have hxl := hAx.len
  clear hU hP h hK hkk n0 n1 n2 hAx
  go_enter Tryz.func114, Tryz.ntmps114
  go_wp2
  go_loopw [7] (fun j wr => ∃ n : Nat, n ≤ x.args.length ∧ j = .int .i64 (n : Int) ∧ Hid (PrP bp o P Q pc qc A (some ⟨b, off, none⟩) ca cb La Lb bo fc rb F w wr) ∧ Hid ((x.args.take n).all (fun y => lpT o.prec u y) = true)) (fun j _ => x.args.length - (intOf j).toNat)
  case atStart => exact ⟨0, Nat.zero_le _, rfl, Lib.hid ⟨KeepsC.refl _ _, F, HP.out, GoesR.refl F⟩, Lib.hid (by simp)⟩
  case round =>
    obtain ⟨n, hn, rfl, Hpr, Hal⟩ := hrel
    obtain ⟨y0, y1⟩ := hS.out wr Hpr.out.1
    by_cases hnl : n < x.args.length
    · obtain ⟨y, hy⟩ : ∃ y, x.args[n]? = some y := ⟨_, List.getElem?_eq_getElem hnl⟩
      obtain ⟨q, kq, hq, hLq⟩ := Hkk.out n y hy
      obtain ⟨kb, ko, rfl, hkb, hkc⟩ := HK.out (by omega)
      have z0 := cell_on (HPB.out wr Hpr.out.1) (show kb < bp + 1 by omega) (hkc n (0 + q) hq)
      rw [Nat.zero_add] at z0
      have hsz := nd_size (List.mem_of_getElem? hy)
      have HI := Lib.hid (show Calls Tryz.prog 74 #[.pointer (some ⟨bp, 0, none⟩), .int .i64 (i : Int), .int .i64 (q : Int)] wr fun e w' => e = .returned (.bool (lpT o.prec u y)) ∧ PrP bp o P Q pc qc A (some ⟨b, off, none⟩) ca cb La Lb bo fc rb F w w' by
        obtain ⟨hK1, G, hG, hGo⟩ := Hpr.out
        exact (HH.out i q u ku y kq G wr hu hLq (by omega) ((HU.out.goes hGo).mono (by omega)) hG).mono fun e w' ⟨he, hp⟩ => ⟨he, hp.trans hK1 hGo⟩)
      have hT := Lib.hid (all_take (p := fun y => lpT o.prec u y) hy)
      cases hl : lpT o.prec u y with
      | false =>
        rw [hl] at HI
        have hfin := Lib.hid (show (x.args.all fun y => lpT o.prec u y) = false by
          rw [List.all_eq_false]; exact ⟨y, List.mem_of_getElem? hy, by rw [hl]; simp⟩)
        clear hl hkc hq hLq hy
        go_wp2_with (first
          | (go_at_call 74; (with_reducible refine HI.out.mono ?_); go_must (rintro e w1 ⟨rfl, hp1⟩; have Hp1 := Lib.hid hp1; clear hp1))
          | fail)
        go_ret
        exact ⟨by rw [hfin.out]; rfl, Hp1.out⟩
      | true =>
        rw [hl] at HI
        have hT := Lib.hid (show (x.args.take (n + 1)).all (fun y => lpT o.prec u y) = true by rw [hT.out, Hal.out, hl]; rfl)
        clear hl hkc hq hLq hy
        go_wp2_with (first
          | (go_at_call 74; (with_reducible refine HI.out.mono ?_); go_must (rintro e w1 ⟨rfl, hp1⟩; have Hp1 := Lib.hid hp1; clear hp1))
          | fail)
        go_roundw
        case rel => exact ⟨n + 1, by omega, by go_num, Hp1, hT⟩
        case measure => simp [intOf]; omega
    · obtain rfl : n = x.args.length := by omega
      have hfin := Lib.hid (show (x.args.all fun y => lpT o.prec u y) = true by have := Hal.out; rwa [List.take_length] at this)
      go_wp2
      go_ret
      exact ⟨by rw [hfin.out]; rfl, Hpr.out⟩
end
end Go.Proofs.YthgglobfkkcdgaaGreat
namespace Go.Proofs.YthgglobfkkcdgaaGreat
open Go Go.RowKit Go.Shelf Go.Maps
set_option maxRecDepth 100000
section
variable {Fs : List Fct} {a0 : Act} {W : World} {dst : Option Tmp} {ty : TypeId} {pos : String} {after : Array Edge}
theorem sa_move {s : Nat} {v : Value} (hs : a0.eval (.tmp s) = v) : stepB Tryz.prog Fs a0 W ⟨dst, .move (.tmp s), ty, pos, after, none⟩ [(s, none)] (.val v) := by
  refine ⟨rfl, fun a w hb hl => ?_⟩
  have e1 := ev_get (hl.1.trans hs)
  simp [go_sem, leaves, e1]
  exact Below.refl _ _
theorem sa_nil {s j : Nat} {p : Addr} (hF : Fs.getD j Fct.any = Fct.eq (.pointer (some p))) : stepB Tryz.prog Fs a0 W ⟨dst, .nilCheck (.tmp s), ty, pos, after, none⟩ [(s, some j)] (.val (.pointer (some p))) := by
  refine ⟨rfl, fun a w hb hl => ?_⟩
  have h0 := hl.1
  rw [hF] at h0
  have e1 := ev_get h0
  simp [go_sem, leaves, e1]
  exact Below.refl _ _
theorem sa_fld1 {s j b : Nat} (hF : Fs.getD j Fct.any = Fct.eq (.pointer (some ⟨b, 0, none⟩))) : stepB Tryz.prog Fs a0 W ⟨dst, .fieldAddr 113 (.tmp s) 1, ty, pos, after, none⟩ [(s, some j)] (.val (.pointer (some ⟨b, 4, none⟩))) := by
  refine ⟨rfl, fun a w hb hl => ?_⟩
  have h0 := hl.1
  rw [hF] at h0
  have e1 := ev_get h0
  simp [go_sem, leaves, e1]
  exact Below.refl _ _
theorem sa_fld2 {s j b : Nat} (hF : Fs.getD j Fct.any = Fct.eq (.pointer (some ⟨b, 0, none⟩))) : stepB Tryz.prog Fs a0 W ⟨dst, .fieldAddr 113 (.tmp s) 2, ty, pos, after, none⟩ [(s, some j)] (.val (.pointer (some ⟨b, 5, none⟩))) := by
  refine ⟨rfl, fun a w hb hl => ?_⟩
  have h0 := hl.1
  rw [hF] at h0
  have e1 := ev_get h0
  simp [go_sem, leaves, e1]
  exact Below.refl _ _
theorem sa_fldT {s j b o : Nat} (hF : Fs.getD j Fct.any = Fct.eq (.pointer (some ⟨b, o, none⟩))) : stepB Tryz.prog Fs a0 W ⟨dst, .fieldAddr 128 (.tmp s) 0, ty, pos, after, none⟩ [(s, some j)] (.val (.pointer (some ⟨b, o, none⟩))) := by
  refine ⟨rfl, fun a w hb hl => ?_⟩
  have h0 := hl.1
  rw [hF] at h0
  have e1 := ev_get h0
  simp [go_sem, leaves, e1]
  exact Below.refl _ _
theorem sa_load {s j b o : Nat} {v : Value} (hF : Fs.getD j Fct.any = Fct.eq (.pointer (some ⟨b, o, none⟩))) (hb0 : b < W.heap.size) (hc : W.cell? ⟨b, o, none⟩ = some v) : stepB Tryz.prog Fs a0 W ⟨dst, .load 109 (.tmp s), ty, pos, after, none⟩ [(s, some j)] (.val v) := by
  refine ⟨rfl, fun a w hb hl => ?_⟩
  have h0 := hl.1
  rw [hF] at h0
  have e1 := ev_get h0
  have c0 := cell_on hb hb0 hc
  simp [go_sem, leaves, e1, c0]
  exact Below.refl _ _
theorem sa_loadT {s j b o : Nat} {x y : Value} (hF : Fs.getD j Fct.any = Fct.eq (.pointer (some ⟨b, o, none⟩))) (hb0 : b < W.heap.size) (hc : W.cell? ⟨b, o, none⟩ = some x) (hd : W.cell? ⟨b, o + 1, none⟩ = some y) : stepB Tryz.prog Fs a0 W ⟨dst, .load 36 (.tmp s), ty, pos, after, none⟩ [(s, some j)] (.val (.agg #[x, y])) := by
  refine ⟨rfl, fun a w hb hl => ?_⟩
  have h0 := hl.1
  rw [hF] at h0
  have e1 := ev_get h0
  have c0 := cell_on hb hb0 hc
  have c1 := cell_on hb hb0 hd
  simp [go_sem, leaves, e1, c0, c1]
  exact Below.refl _ _
theorem sa_idx {s s2 j j2 b o n c i : Nat} (hF : Fs.getD j Fct.any = Fct.eq (.slice (some ⟨b, o, none⟩) n c)) (hF2 : Fs.getD j2 Fct.any = Fct.eq (.int .i64 (i : Int))) (hi : i < n) : stepB Tryz.prog Fs a0 W ⟨dst, .indexAddr 109 (.tmp s) (.tmp s2), ty, pos, after, none⟩ [(s, some j), (s2, some j2)] (.val (.pointer (some ⟨b, o + i * 3, none⟩))) := by
  refine ⟨rfl, fun a w hb hl => ?_⟩
  obtain ⟨h0, h1, _⟩ := hl
  rw [hF] at h0
  rw [hF2] at h1
  have e1 := ev_get h0
  have e2 := ev_get h1
  simp [go_sem, leaves, e1, e2, hi]
  exact Below.refl _ _
theorem sa_boxT {j d k : Nat} {x : Array Value} : stepB Tryz.prog Fs a0 W ⟨dst, .alloc 36, ty, pos, after, none⟩ [] (.box ⟨j, d, k, #[.int .i64 0, .slice none 0 0], x, 36⟩) := by
  refine ⟨rfl, fun a w => ?_⟩
  simp [go_sem]
theorem sa_putT {j d k s i i2 n c : Nat} {m : Int} {p : Option Addr} {u v : Value} (hF : Fs.getD i Fct.any = Fct.eq (.agg #[.int .i64 m, .slice p n c])) : stepB Tryz.prog Fs a0 W ⟨none, .store 36 (.tmp d) (.tmp s), ty, pos, after, none⟩ [(d, some i2), (s, some i)] (.put ⟨j, d, k, #[u, v], #[.int .i64 m, .slice p n c], 36⟩) := by
  refine ⟨rfl, fun a w b h1 h2 hl => ?_⟩
  have h0 := hl.2.1
  rw [hF] at h0
  have e1 := ev_get h0
  have e2 := ev_get h1
  obtain ⟨c0, c1, f0, f1⟩ := cells_two h2
  have h3 := (set2_two (u := .int .i64 m) (v := .slice p n c) h2).2
  simp [go_sem, leaves, e1, e2, c0, c1, f0, f1]
  exact ⟨h3, fun g hg => (heap_setCell_other _ _ _ _ hg).trans (heap_setCell_other _ _ _ _ hg), rfl, rfl⟩
end
structure LatC (W : World) (C : Nat → Prop) (I : World → Prop) where
  w : World
  h : KeepsC C W w
  i : I W → I w
instance (W : World) (C : Nat → Prop) (I : World → Prop) : Nonempty (LatC W C I) := ⟨⟨W, KeepsC.refl _ _, id⟩⟩
theorem wp_region_latC {P : Program} {id : Nat} {Q : Exit → Act → World → Prop} {a : Act} {w : World} {l : List Oper} (W : World) (C : Nat → Prop) (I : World → Prop) (hm : P.follows .mixedOrders = true) (hB : Region.lexB .any l.toArray = true) (h0 : KeepsC C W w.drew) (h1 : I W → I w.drew)
    (h : wpQuiet P l.toArray (fun w' => ∃ x : LatC W C I, w' = x.w) (fun a' => ∀ w', (∃ x : LatC W C I, w' = x.w) → Q .normal a' w') l a) : (Code.region id l.toArray true).wp P Q a w :=
  wp_region_quiet (C := fun w' => ∃ x : LatC W C I, w' = x.w) hm hB ⟨⟨_, h0, h1⟩, rfl⟩ (by simpa using h)
theorem calls_latCB {P : Program} {f : FuncId} {args : Array Value} {W : World} {C : Nat → Prop} {I : World → Prop} {v : Value} (x : LatC W C I) (hI : ∀ a b, I a → Below a.heap.size a b → I b) (h : Calls P f args x.w fun e w' => e = .returned v ∧ Below x.w.heap.size x.w w') :
    Calls P f args x.w fun e w' => e = .returned v ∧ ∃ y : LatC W C I, w' = y.w :=
  h.mono fun _ _ ⟨he, hb⟩ => ⟨he, ⟨_, x.h.trans (KeepsC.of_below hb), fun k => hI _ _ (x.i k) hb⟩, rfl⟩
theorem calls_latCF {P : Program} {f : FuncId} {args : Array Value} {W : World} {C : Nat → Prop} {I : World → Prop} {v : Value} (x : LatC W C I) (h : Calls P f args x.w fun e w' => e = .returned v ∧ KeepsC C x.w w' ∧ (I x.w → I w')) :
    Calls P f args x.w fun e w' => e = .returned v ∧ ∃ y : LatC W C I, w' = y.w :=
  h.mono fun _ _ ⟨he, hb, hi⟩ => ⟨he, ⟨_, x.h.trans hb, fun k => hi (x.i k)⟩, rfl⟩
theorem LatC.cell {W : World} {C : Nat → Prop} {I : World → Prop} (x : LatC W C I) {g : Nat} (hg : g < W.heap.size) (hne : ¬ C g) {o : Nat} {v : Value} (h : W.cell? ⟨g, o, none⟩ = some v) : x.w.cell? ⟨g, o, none⟩ = some v := (World.cell?_of_block (x.h.block hg hne)).trans h
theorem lexA_same {R : Tm → Tm → Bool} {xs ys : List Tm} {k : Nat} {u v : Tm} (hu : xs[k]? = some u) (hv : ys[k]? = some v) (h : cmpT u v = 0) : lexA R (xs.drop k) (ys.drop k) = lexA R (xs.drop (k + 1)) (ys.drop (k + 1)) := by
  obtain ⟨h1, h2⟩ := List.getElem?_eq_some_iff.1 hu
  obtain ⟨h3, h4⟩ := List.getElem?_eq_some_iff.1 hv
  rw [List.drop_eq_getElem_cons h1, h2, List.drop_eq_getElem_cons h3, h4, lexA, if_pos h]
theorem lexA_other {R : Tm → Tm → Bool} {xs ys : List Tm} {k : Nat} {u v : Tm} (hu : xs[k]? = some u) (hv : ys[k]? = some v) (h : ¬ cmpT u v = 0) : lexA R (xs.drop k) (ys.drop k) = R u v := by
  obtain ⟨h1, h2⟩ := List.getElem?_eq_some_iff.1 hu
  obtain ⟨h3, h4⟩ := List.getElem?_eq_some_iff.1 hv
  rw [List.drop_eq_getElem_cons h1, h2, List.drop_eq_getElem_cons h3, h4, lexA, if_neg h]
theorem lexA_end {R : Tm → Tm → Bool} {xs ys : List Tm} {k : Nat} (h1 : k ≤ xs.length) (h2 : k ≤ ys.length) (h : ¬ (k < xs.length ∧ k < ys.length)) : lexA R (xs.drop k) (ys.drop k) = decide (ys.length < xs.length) := by
  by_cases hx : k < xs.length
  · have hy : ys.drop k = [] := List.drop_eq_nil_of_le (by omega)
    rw [hy, List.drop_eq_getElem_cons hx, lexA, decide_eq_true (by omega)]
  · have hx0 : xs.drop k = [] := List.drop_eq_nil_of_le (by omega)
    rw [hx0, lexA, decide_eq_false (by omega)]
theorem layK_lt {R : Nat} {u : Tm} (h : layK R u = true) : u.fn < (R : Int) := by
  have h2 := layK_rk u h
  obtain ⟨f, xs⟩ := u
  rw [rkT, Bool.and_eq_true, decide_eq_true_eq] at h2
  exact h2.1
theorem any_take {p : Tm → Bool} {xs : List Tm} {j : Nat} {y : Tm} (h : xs[j]? = some y) : (xs.take (j + 1)).any p = ((xs.take j).any p || p y) := by
  rw [List.take_add_one, h, Option.toList_some, List.any_append]; simp
def ndL1 (x y : Value) : BoxN := ⟨16, 7, 18, #[.int .i64 0, .slice none 0 0], #[x, y], 36⟩
def ndM1 (x y : Value) : BoxN := ⟨17, 8, 19, #[.int .i64 0, .slice none 0 0], #[x, y], 36⟩
end Go.Proofs.YthgglobfkkcdgaaGreat
namespace Go.Proofs.YthgglobfkkcdgaaGreat
open Go Go.RowKit Go.Shelf Go.Maps
set_option maxRecDepth 100000
section
variable {bp : Nat} {o : Odr} {P Q : Option Addr} {pc qc : Nat} {A B : Option Addr} {ca cb : Nat} {La Lb : List (Tm × List Nat)} {bo fc : Nat} {rb : Nat → Nat}
set_option maxHeartbeats 4000000 in
theorem refAsk9_any {m : Nat} (h : AbvI bp o P Q pc qc A B ca cb La Lb bo fc rb m) (hL : AllI bp o P Q pc qc A B ca cb La Lb bo fc rb m) (hNa : NdOk 0 La) (hNb : NdOk 0 Lb) (hka : ∀ (i : Nat) (u : Tm) (ku : List Nat), La[i]? = some (u, ku) → layK o.prec.length u = true) (hkb : ∀ (i : Nat) (u : Tm) (ku : List Nat), Lb[i]? = some (u, ku) → layK o.prec.length u = true) : AskI bp o P Q pc qc A B ca cb La Lb bo fc rb (m + 1) := by
  intro i k u ku x kx F w hu hx hz hU hP
  have hi := (List.getElem?_eq_some_iff.1 hu).1
  have hk := (List.getElem?_eq_some_iff.1 hx).1
  have hla := hP.na.len
  have hlb := hP.nb.len
  have hlt := hP.lt
  obtain ⟨b1, o1, rfl, hb1, hN1⟩ := hP.na.get hu
  obtain ⟨b2, o2, rfl, hb2, hN2⟩ := hP.nb.get hx
  obtain ⟨hfu, U, uc, K1, kc1, n0, n1, n2, hAu, hK1⟩ := hN1
  obtain ⟨hfx, X, xc, K2, kc2, p0, p1, p2, hAx, hK2⟩ := hN2
  have C4 := hP.c4
  have C5 := hP.c5
  have HP := Lib.hid hP
  have HU := Lib.hid hU
  have Hu := Lib.hid hu
  have Hx := Lib.hid hx
  have HAu := Lib.hid hAu
  have HAx := Lib.hid hAx
  have HK1 := Lib.hid hK1
  have HK2 := Lib.hid hK2
  clear hP hU hu hx hAu hAx hK1 hK2
  go_enter Tryz.func93, Tryz.ntmps93
  go_upto_region 1 with fail
  refine wp_region_boxes 166 [[(0, none)], [(11, some 0)], [(12, some 1)], [(13, some 2)], [(1, none)], [(14, some 3), (15, some 4)], [(16, some 5)], [(17, some 6)], [(0, none)], [(19, some 8)], [(20, some 9)], [(21, some 10)], [(2, none)], [(22, some 11), (23, some 12)], [(24, some 13)], [(25, some 14)], [], [], [(7, some 16), (18, some 7)], [(8, some 17), (26, some 15)]]
      [.val (.pointer (some ⟨bp, 0, none⟩)), .val (.pointer (some ⟨bp, 0, none⟩)), .val (.pointer (some ⟨bp, 4, none⟩)), .val (.slice (some ⟨b1, o1, none⟩) La.length ca), .val (.int .i64 (i : Int)), .val (.pointer (some ⟨b1, o1 + i * 3, none⟩)), .val (.pointer (some ⟨b1, o1 + i * 3, none⟩)), .val (.agg #[.int .i64 u.fn, .slice U u.args.length uc]), .val (.pointer (some ⟨bp, 0, none⟩)), .val (.pointer (some ⟨bp, 0, none⟩)), .val (.pointer (some ⟨bp, 5, none⟩)), .val (.slice (some ⟨b2, o2, none⟩) Lb.length cb), .val (.int .i64 (k : Int)), .val (.pointer (some ⟨b2, o2 + k * 3, none⟩)), .val (.pointer (some ⟨b2, o2 + k * 3, none⟩)), .val (.agg #[.int .i64 x.fn, .slice X x.args.length xc]), .box (ndL1 (.int .i64 u.fn) (.slice U u.args.length uc)), .box (ndM1 (.int .i64 x.fn) (.slice X x.args.length xc)), .put (ndL1 (.int .i64 u.fn) (.slice U u.args.length uc)), .put (ndM1 (.int .i64 x.fn) (.slice X x.args.length xc))] [(ndL1 (.int .i64 u.fn) (.slice U u.args.length uc)), (ndM1 (.int .i64 x.fn) (.slice X x.args.length xc))] (by kernel_rfl) (by decide +kernel) ?_ (by kernel_rfl) ?_ ?_
  · refine ⟨fun r hr => ?_, fun r hr => ?_, fun r hr r' hr' he => ?_, fun k r hk => ?_, fun k r hk => ?_⟩
    · simp only [List.mem_cons, List.not_mem_nil, or_false] at hr
      rcases hr with rfl | rfl
      · exact ⟨_, rfl, rfl, rfl⟩
      · exact ⟨_, rfl, rfl, rfl⟩
    · simp only [List.mem_cons, List.not_mem_nil, or_false] at hr
      rcases hr with rfl | rfl
      · exact ⟨_, rfl, rfl, rfl, show waits _ 16 = true by decide +kernel⟩
      · exact ⟨_, rfl, rfl, rfl, show waits _ 17 = true by decide +kernel⟩
    · simp only [List.mem_cons, List.not_mem_nil, or_false] at hr hr'
      rcases hr with rfl | rfl <;> rcases hr' with rfl | rfl
      · rfl
      · simp [ndL1, ndM1] at he
      · simp [ndL1, ndM1] at he
      · rfl
    · have hk12 : k < 20 := (List.getElem?_eq_some_iff.1 hk).1
      obtain rfl | rfl | rfl | rfl | rfl | rfl | rfl | rfl | rfl | rfl | rfl | rfl | rfl | rfl | rfl | rfl | rfl | rfl | rfl | rfl : k = 0 ∨ k = 1 ∨ k = 2 ∨ k = 3 ∨ k = 4 ∨ k = 5 ∨ k = 6 ∨ k = 7 ∨ k = 8 ∨ k = 9 ∨ k = 10 ∨ k = 11 ∨ k = 12 ∨ k = 13 ∨ k = 14 ∨ k = 15 ∨ k = 16 ∨ k = 17 ∨ k = 18 ∨ k = 19 := by omega
      all_goals simp at hk
      · subst hk; exact ⟨by simp, rfl⟩
      · subst hk; exact ⟨by simp, rfl⟩
    · have hk12 : k < 20 := (List.getElem?_eq_some_iff.1 hk).1
      obtain rfl | rfl | rfl | rfl | rfl | rfl | rfl | rfl | rfl | rfl | rfl | rfl | rfl | rfl | rfl | rfl | rfl | rfl | rfl | rfl : k = 0 ∨ k = 1 ∨ k = 2 ∨ k = 3 ∨ k = 4 ∨ k = 5 ∨ k = 6 ∨ k = 7 ∨ k = 8 ∨ k = 9 ∨ k = 10 ∨ k = 11 ∨ k = 12 ∨ k = 13 ∨ k = 14 ∨ k = 15 ∨ k = 16 ∨ k = 17 ∨ k = 18 ∨ k = 19 := by omega
      all_goals simp at hk
      · subst hk; exact ⟨by simp, rfl⟩
      · subst hk; exact ⟨by simp, rfl⟩
  · exact ⟨sa_move rfl, sa_nil rfl, sa_fld1 rfl, sa_load rfl hlt C4, sa_move rfl, sa_idx rfl rfl hi, sa_fldT rfl, sa_loadT rfl (Nat.lt_trans hb1 hlt) n0 n1, sa_move rfl, sa_nil rfl, sa_fld2 rfl, sa_load rfl hlt C5, sa_move rfl, sa_idx rfl rfl hk, sa_fldT rfl, sa_loadT rfl (Nat.lt_trans hb2 hlt) p0 p1, sa_boxT, sa_boxT, sa_putT rfl, sa_putT rfl, trivial⟩
  · intro w4 hb4
    generalize hA0 : ({ tmps := _, defers := _ } : Act) = a0
    have hsz : a0.tmps.size = 166 := by rw [← hA0]; rfl
    simp only [List.map_cons, List.map_nil]
    refine (FinS.some rfl (fun u0 (e0 : u0 = _) => ?_)).go
    subst e0
    refine FinS.some rfl (fun u1 (e1 : u1 = _) => ?_)
    subst e1
    refine FinS.some rfl (fun u2 (e2 : u2 = _) => ?_)
    subst e2
    refine FinS.some rfl (fun u3 (e3 : u3 = _) => ?_)
    subst e3
    refine FinS.some rfl (fun u4 (e4 : u4 = _) => ?_)
    subst e4
    refine FinS.some rfl (fun u5 (e5 : u5 = _) => ?_)
    subst e5
    refine FinS.some rfl (fun u6 (e6 : u6 = _) => ?_)
    subst e6
    refine FinS.some rfl (fun u7 (e7 : u7 = _) => ?_)
    subst e7
    refine FinS.some rfl (fun u8 (e8 : u8 = _) => ?_)
    subst e8
    refine FinS.some rfl (fun u9 (e9 : u9 = _) => ?_)
    subst e9
    refine FinS.some rfl (fun u10 (e10 : u10 = _) => ?_)
    subst e10
    refine FinS.some rfl (fun u11 (e11 : u11 = _) => ?_)
    subst e11
    refine FinS.some rfl (fun u12 (e12 : u12 = _) => ?_)
    subst e12
    refine FinS.some rfl (fun u13 (e13 : u13 = _) => ?_)
    subst e13
    refine FinS.some rfl (fun u14 (e14 : u14 = _) => ?_)
    subst e14
    refine FinS.some rfl (fun u15 (e15 : u15 = _) => ?_)
    subst e15
    refine FinS.some rfl (fun u16 e16 => FinS.some rfl (fun u17 e17 => FinS.skip rfl (FinS.skip rfl (FinS.nil fun hdj => ?_))))
    obtain ⟨b5, rfl, g1, g2, g3⟩ := e16
    obtain ⟨b6, rfl, k1, k2, k3⟩ := e17
    have hne : ¬ b5 = b6 := fun e => by
      subst e
      exact hdj (ndL1 (.int .i64 u.fn) (.slice U u.args.length uc)) (by simp) (ndM1 (.int .i64 x.fn) (.slice X x.args.length xc)) (by simp) (by simp [ndL1, ndM1]) b5 (by simp [Act.put, Act.eval, hsz, ndL1]) (by simp [Act.put, Act.eval, hsz, ndM1])
    clear hdj
    subst hA0
    clear hsz
    simp only [Act.put, List.setIfInBounds_toArray, List.set_cons_succ, List.set_cons_zero]
    have hB4 : Below w.heap.size w w4 := (Below.refl _ _).drew.trans hb4
    have hP4 := HP.out.on hB4
    change w4.heap[b5]? = some (.cells #[.int .i64 u.fn, .slice U u.args.length uc] 36) at g3
    change w4.heap[b6]? = some (.cells #[.int .i64 x.fn, .slice X x.args.length xc] 36) at k3
    change w.heap.size ≤ b5 at g1
    change w.heap.size ≤ b6 at k1
    obtain ⟨u0, u1, _, _⟩ := cells_two g3
    obtain ⟨x0, x1, _, _⟩ := cells_two k3
    have hC5 : ¬ FndC La.length rb b5 := fun ⟨l, hl, e⟩ => by have := (HP.out.rr l hl).2.1; omega
    have hC6 : ¬ FndC La.length rb b6 := fun ⟨l, hl, e⟩ => by have := (HP.out.rr l hl).2.1; omega
    have hCb : ∀ g, g < bp + 1 → ¬ FndC La.length rb g := fun g hg ⟨l, hl, e⟩ => by have := (HP.out.rr l hl).1; omega
    have hK4 : KeepsC (FndC La.length rb) w w4 := KeepsC.of_below hB4
    have hask := ask_eq (p := o.prec) (layK_vn u (hka i u ku Hu.out)) (layK_vn x (hkb k x kx Hx.out))
    have HK4 := Lib.hid hK4
    have HP4 := Lib.hid hP4
    have HB4 := Lib.hid hB4
    have HCb := Lib.hid hCb
    clear hb4 hK4 hP4 g3 k3 C4 C5 n0 n1 p0 p1 hCb hB4
    by_cases hun : u.fn < 0
    · have hfin := Lib.hid (show lpT o.prec u x = false by rw [← hask]; unfold askB; rw [decide_eq_true hun]; rfl)
      clear hask
      go_wp2
      go_ret
      exact ⟨by rw [hfin.out]; rfl, HK4.out, F, HP4.out, GoesR.refl F⟩
    · by_cases hxn : x.fn < 0
      · have hfin := Lib.hid (show lpT o.prec u x = decide (0 < ofT x.fn u) by rw [← hask]; unfold askB; rw [decide_eq_false hun, if_pos hxn]; rfl)
        have hwr : IntKind.i64.wrap (-1 - x.fn) = -1 - x.fn := by rw [IntKind.wrap_i64]; unfold I64 at hfx; omega
        have hH := Lib.hid (refHas2_any x.fn hfx u U uc w4 hfu ((HAu.out.blw (HB4.out.mono (Nat.le_of_lt hlt))).more (by have := HB4.out.size; omega)))
        clear hask
        go_wp2_with (first
          | (go_at_call 113; (with_reducible refine hH.out.mono ?_); go_must (rintro e w5 ⟨rfl, hb5⟩))
          | fail)
        go_ret
        exact ⟨by rw [hfin.out]; rfl, HK4.out.trans (KeepsC.of_below hb5), F, HP4.out.on hb5, GoesR.refl F⟩
      · have hq0 : lpT o.prec u x = ((u.args.any fun y => decide (cmpT y x = 0) || lpT o.prec y x) || (if u.fn = x.fn then (x.args.all fun y => lpT o.prec u y) && lexA (lpT o.prec) u.args x.args else decide (rkI o.prec x.fn < rkI o.prec u.fn) && x.args.all fun y => lpT o.prec u y)) := by
          rw [← hask]; unfold askB; rw [decide_eq_false hun, if_neg hxn]; rfl
        have Hq := Lib.hid hq0
        obtain ⟨hka1, hka2⟩ := hNa i u ku Hu.out
        obtain ⟨hkb1, hkb2⟩ := hNb k x kx Hx.out
        have hul := HAu.out.len
        have hxl := HAx.out.len
        have hs4 := HB4.out.size
        have q4 := HP4.out.c4
        have r2 := cell_on HB4.out (Nat.lt_trans hb1 hlt) n2
        rw [hka1] at r2
        have HS4 := Lib.hid (⟨q4, r2, u0, u1, x0, x1⟩ : w4.cell? ⟨bp, 4, none⟩ = some (.slice (some ⟨b1, o1, none⟩) La.length ca) ∧ w4.cell? ⟨b1, o1 + i * 3 + 2, none⟩ = some (.slice K1 u.args.length kc1) ∧ w4.cell? ⟨b5, 0, none⟩ = some (.int .i64 u.fn) ∧ w4.cell? ⟨b5, 1, none⟩ = some (.slice U u.args.length uc) ∧ w4.cell? ⟨b6, 0, none⟩ = some (.int .i64 x.fn) ∧ w4.cell? ⟨b6, 1, none⟩ = some (.slice X x.args.length xc))
        have Hka2 := Lib.hid hka2
        have Hkb2 := Lib.hid hkb2
        have HI4 := Lib.hid (show PrI bp o P Q pc qc (some ⟨b1, o1, none⟩) (some ⟨b2, o2, none⟩) ca cb La Lb bo fc rb F w4 from ⟨F, HP4.out, GoesR.refl F⟩)
        have hst : ∀ a b, PrI bp o P Q pc qc (some ⟨b1, o1, none⟩) (some ⟨b2, o2, none⟩) ca cb La Lb bo fc rb F a → Below a.heap.size a b → PrI bp o P Q pc qc (some ⟨b1, o1, none⟩) (some ⟨b2, o2, none⟩) ca cb La Lb bo fc rb F b := fun _ _ h hb => h.on hb
        have Hst := Lib.hid hst
        clear hask hq0 hka2 hkb2 hst q4 r2
        go_wp2
        go_loopw [9] (fun j wr => ∃ n : Nat, n ≤ u.args.length ∧ j = .int .i64 (n : Int) ∧ Hid (KeepsC (FndC La.length rb) w4 wr) ∧ Hid (PrI bp o P Q pc qc (some ⟨b1, o1, none⟩) (some ⟨b2, o2, none⟩) ca cb La Lb bo fc rb F wr) ∧ Hid ((u.args.take n).any (fun y => decide (cmpT y x = 0) || lpT o.prec y x) = false)) (fun j _ => u.args.length - (intOf j).toNat)
        case atStart => exact ⟨0, Nat.zero_le _, rfl, Lib.hid (KeepsC.refl _ _), HI4, Lib.hid (by simp)⟩
        case round =>
          obtain ⟨n, hn, rfl, hKr, HIr, Hany⟩ := hrel
          obtain ⟨s0, s1, s2, s3, s4, s5⟩ := HS4.out
          have hsr := hKr.out.size
          have a0 := cellK hKr.out (show bp < w4.heap.size by omega) (HCb.out _ (by omega)) s0
          have a1 := cellK hKr.out (show b1 < w4.heap.size by omega) (HCb.out _ (by omega)) s1
          have a2 := cellK hKr.out k2 hC6 s4
          have a3 := cellK hKr.out k2 hC6 s5
          have a4 := cellK hKr.out g2 hC5 s2
          have a5 := cellK hKr.out g2 hC5 s3
          clear s0 s1 s2 s3 s4 s5
          by_cases hnl : n < u.args.length
          · obtain ⟨y, hy⟩ : ∃ y, u.args[n]? = some y := ⟨_, List.getElem?_eq_getElem hnl⟩
            obtain ⟨q, kq, hq, hLq⟩ := Hka2.out n y hy
            obtain ⟨kb, ko, hKe, hkb', hkc⟩ := HK1.out (by rw [hka1]; omega)
            obtain ⟨bb, off, Y, yc, hUe, ha⟩ := HAu.out.get hy
            have hbb := ha.hb
            have hBw := HP.out.below (HK4.out.trans hKr.out)
            have z0 := cell_on hBw (show kb < bp + 1 by omega) (hkc n (0 + q) hq)
            rw [Nat.zero_add] at z0
            have z1 := cell_on hBw (show bb < bp + 1 by omega) ha.c0
            have z2 := cell_on hBw (show bb < bp + 1 by omega) ha.c1
            subst hKe hUe
            have hszy := nd_size (List.mem_of_getElem? hy)
            have HSm : Hid (∀ z : LatC wr (FndC La.length rb) (PrI bp o P Q pc qc (some ⟨b1, o1, none⟩) (some ⟨b2, o2, none⟩) ca cb La Lb bo fc rb F), Calls Tryz.prog 43 #[.agg #[.int .i64 y.fn, .slice Y y.args.length yc], .agg #[.int .i64 x.fn, .slice X x.args.length xc]] z.w fun e w' => e = .returned (.bool (decide (cmpT y x = 0))) ∧ Below z.w.heap.size z.w w') := Lib.hid fun z => by
              have hBz := (HP.out.below (HK4.out.trans (hKr.out.trans z.h))).mono (Nat.le_succ _)
              have hz1 := hBz.size
              exact ref2Same_any' y x Y X yc xc z.w ha.hi hfx ((ha.sub.blw hBz).more (by omega)) ((HAx.out.blw hBz).more (by omega))
            have HAb : Hid (∀ z : LatC wr (FndC La.length rb) (PrI bp o P Q pc qc (some ⟨b1, o1, none⟩) (some ⟨b2, o2, none⟩) ca cb La Lb bo fc rb F), Calls Tryz.prog 74 #[.pointer (some ⟨bp, 0, none⟩), .int .i64 (q : Int), .int .i64 (k : Int)] z.w fun e w' => e = .returned (.bool (lpT o.prec y x)) ∧ KeepsC (FndC La.length rb) z.w w' ∧ (PrI bp o P Q pc qc (some ⟨b1, o1, none⟩) (some ⟨b2, o2, none⟩) ca cb La Lb bo fc rb F z.w → PrI bp o P Q pc qc (some ⟨b1, o1, none⟩) (some ⟨b2, o2, none⟩) ca cb La Lb bo fc rb F w')) := Lib.hid fun z => by
              have hIz := z.i HIr.out
              exact (h.lat HU.out hLq Hx.out (by omega) (by omega) z.w hIz).mono fun e w' ⟨he, hk', hi'⟩ => ⟨he, hk', fun _ => hi'⟩
            have hT := Lib.hid (any_take (p := fun y => decide (cmpT y x = 0) || lpT o.prec y x) hy)
            have hmem := Lib.hid (List.mem_of_getElem? hy)
            have m0 : ∀ z : LatC wr (FndC La.length rb) (PrI bp o P Q pc qc (some ⟨b1, o1, none⟩) (some ⟨b2, o2, none⟩) ca cb La Lb bo fc rb F), z.w.cell? ⟨bp, 4, none⟩ = some (.slice (some ⟨b1, o1, none⟩) La.length ca) := fun z => z.cell (by omega) (HCb.out _ (by omega)) a0
            have m1 : ∀ z : LatC wr (FndC La.length rb) (PrI bp o P Q pc qc (some ⟨b1, o1, none⟩) (some ⟨b2, o2, none⟩) ca cb La Lb bo fc rb F), z.w.cell? ⟨b1, o1 + i * 3 + 2, none⟩ = some (.slice (some ⟨kb, ko, none⟩) u.args.length kc1) := fun z => z.cell (by omega) (HCb.out _ (by omega)) a1
            have m2 : ∀ z : LatC wr (FndC La.length rb) (PrI bp o P Q pc qc (some ⟨b1, o1, none⟩) (some ⟨b2, o2, none⟩) ca cb La Lb bo fc rb F), z.w.cell? ⟨b6, 0, none⟩ = some (.int .i64 x.fn) := fun z => z.cell (by omega) hC6 a2
            have m3 : ∀ z : LatC wr (FndC La.length rb) (PrI bp o P Q pc qc (some ⟨b1, o1, none⟩) (some ⟨b2, o2, none⟩) ca cb La Lb bo fc rb F), z.w.cell? ⟨b6, 1, none⟩ = some (.slice X x.args.length xc) := fun z => z.cell (by omega) hC6 a3
            have m4 : ∀ z : LatC wr (FndC La.length rb) (PrI bp o P Q pc qc (some ⟨b1, o1, none⟩) (some ⟨b2, o2, none⟩) ca cb La Lb bo fc rb F), z.w.cell? ⟨b5, 1, none⟩ = some (.slice (some ⟨bb, off, none⟩) u.args.length uc) := fun z => z.cell (by omega) hC5 a5
            have m5 : ∀ z : LatC wr (FndC La.length rb) (PrI bp o P Q pc qc (some ⟨b1, o1, none⟩) (some ⟨b2, o2, none⟩) ca cb La Lb bo fc rb F), z.w.cell? ⟨bb, off + n * 2, none⟩ = some (.int .i64 y.fn) := fun z => z.cell (by omega) (HCb.out _ (by omega)) z1
            have m6 : ∀ z : LatC wr (FndC La.length rb) (PrI bp o P Q pc qc (some ⟨b1, o1, none⟩) (some ⟨b2, o2, none⟩) ca cb La Lb bo fc rb F), z.w.cell? ⟨bb, off + n * 2 + 1, none⟩ = some (.slice Y y.args.length yc) := fun z => z.cell (by omega) (HCb.out _ (by omega)) z2
            have m7 : ∀ z : LatC wr (FndC La.length rb) (PrI bp o P Q pc qc (some ⟨b1, o1, none⟩) (some ⟨b2, o2, none⟩) ca cb La Lb bo fc rb F), z.w.cell? ⟨kb, ko + n, none⟩ = some (.int .i64 (q : Int)) := fun z => z.cell (by omega) (HCb.out _ (by omega)) z0
            clear hkc hq hLq hy ha hBw
            cases hc : decide (cmpT y x = 0) with
            | true =>
              rw [hc] at HSm
              have hfin := Lib.hid (show lpT o.prec u x = true by
                rw [Hq.out, Bool.or_eq_true]
                exact .inl (List.any_eq_true.2 ⟨y, hmem.out, by rw [hc]; rfl⟩))
              clear hc
              go_upto_region 9 with fail
              refine wp_region_latC wr (FndC La.length rb) (PrI bp o P Q pc qc (some ⟨b1, o1, none⟩) (some ⟨b2, o2, none⟩) ca cb La Lb bo fc rb F) (by kernel_rfl) (by kernel_rfl) (KeepsC.of_below (bl_drewN (Below.refl _ _) 1)) (fun h => h.on (bl_drewN (Below.refl _ _) 1)) ?_
              repeat (go_big_quiet_step (first
                | (go_at_call 43; with_reducible refine calls_latCB _ Hst.out (HSm.out _))
                | (go_at_call 74; with_reducible refine calls_latCF _ (HAb.out _))
                | fail))
              refine wpQuiet_nil ?_
              rintro _ ⟨z, rfl⟩
              clear m0 m1 m2 m3 m4 m5 m6 m7
              go_wp2
              go_ret
              exact ⟨by rw [hfin.out]; rfl, HK4.out.trans (hKr.out.trans z.h), z.i HIr.out⟩
            | false =>
              rw [hc] at HSm
              cases hl : lpT o.prec y x with
              | true =>
                rw [hl] at HAb
                have hfin := Lib.hid (show lpT o.prec u x = true by
                  rw [Hq.out, Bool.or_eq_true]
                  exact .inl (List.any_eq_true.2 ⟨y, hmem.out, by rw [hl]; simp⟩))
                clear hc hl
                go_upto_region 9 with fail
                refine wp_region_latC wr (FndC La.length rb) (PrI bp o P Q pc qc (some ⟨b1, o1, none⟩) (some ⟨b2, o2, none⟩) ca cb La Lb bo fc rb F) (by kernel_rfl) (by kernel_rfl) (KeepsC.of_below (bl_drewN (Below.refl _ _) 1)) (fun h => h.on (bl_drewN (Below.refl _ _) 1)) ?_
                repeat (go_big_quiet_step (first
                  | (go_at_call 43; with_reducible refine calls_latCB _ Hst.out (HSm.out _))
                  | (go_at_call 74; with_reducible refine calls_latCF _ (HAb.out _))
                  | fail))
                refine wpQuiet_nil ?_
                rintro _ ⟨z, rfl⟩
                clear m0 m1 m2 m3 m4 m5 m6 m7
                go_wp2
                go_ret
                exact ⟨by rw [hfin.out]; rfl, HK4.out.trans (hKr.out.trans z.h), z.i HIr.out⟩
              | false =>
                rw [hl] at HAb
                have hN := Lib.hid (show (u.args.take (n + 1)).any (fun y => decide (cmpT y x = 0) || lpT o.prec y x) = false by rw [hT.out, Hany.out, hc, hl]; rfl)
                clear hc hl
                go_upto_region 9 with fail
                refine wp_region_latC wr (FndC La.length rb) (PrI bp o P Q pc qc (some ⟨b1, o1, none⟩) (some ⟨b2, o2, none⟩) ca cb La Lb bo fc rb F) (by kernel_rfl) (by kernel_rfl) (KeepsC.of_below (bl_drewN (Below.refl _ _) 1)) (fun h => h.on (bl_drewN (Below.refl _ _) 1)) ?_
                repeat (go_big_quiet_step (first
                  | (go_at_call 43; with_reducible refine calls_latCB _ Hst.out (HSm.out _))
                  | (go_at_call 74; with_reducible refine calls_latCF _ (HAb.out _))
                  | fail))
                refine wpQuiet_nil ?_
                rintro _ ⟨z, rfl⟩
                clear m0 m1 m2 m3 m4 m5 m6 m7
                go_wp2
                go_roundw
                case rel => exact ⟨n + 1, by omega, by go_num, Lib.hid (hKr.out.trans z.h), Lib.hid (z.i HIr.out), hN⟩
                case measure => simp [intOf]; omega
          · obtain rfl : n = u.args.length := by omega
            have Hq1 := Lib.hid (show lpT o.prec u x = (if u.fn = x.fn then (x.args.all fun y => lpT o.prec u y) && lexA (lpT o.prec) u.args x.args else decide (rkI o.prec x.fn < rkI o.prec u.fn) && x.args.all fun y => lpT o.prec u y) by
              have := Hany.out
              rw [List.take_length] at this
              rw [Hq.out, this, Bool.false_or])
            by_cases hfn : u.fn = x.fn
            · have e1 : (u.fn != x.fn) = false := by simp [hfn]
              have hval := Lib.hid (show lpT o.prec u x = ((x.args.all fun y => lpT o.prec u y) && lexA (lpT o.prec) u.args x.args) by rw [Hq1.out, if_pos hfn])
              have HAl := Lib.hid (hL.lat HU.out Hu.out Hx.out hz wr HIr.out)
              clear hfn
              cases hal : (x.args.all fun y => lpT o.prec u y) with
              | false =>
                rw [hal] at HAl hval
                clear hal
                go_wp2_with (first
                  | (go_at_call 114; (with_reducible refine HAl.out.mono ?_); go_must (rintro e w5 ⟨rfl, hK5, hI5⟩; have HI5 := Lib.hid hI5; clear hI5))
                  | fail)
                go_ret
                exact ⟨by rw [hval.out]; rfl, HK4.out.trans (hKr.out.trans hK5), HI5.out⟩
              | true =>
                rw [hal] at HAl hval
                have Hlex := Lib.hid (show lpT o.prec u x = lexA (lpT o.prec) u.args x.args by rw [hval.out, Bool.true_and])
                clear hal hval
                go_wp2_with (first
                  | (go_at_call 114; (with_reducible refine HAl.out.mono ?_); go_must (rintro e w5 ⟨rfl, hK5, hI5⟩; have HI5 := Lib.hid hI5; have HK5 := Lib.hid (hKr.out.trans hK5); clear hI5 hK5))
                  | fail)
                clear a0 a1 a2 a3 a4 a5 hsr
                go_loopw [10] (fun j ws => ∃ n : Nat, n ≤ u.args.length ∧ n ≤ x.args.length ∧ j = .int .i64 (n : Int) ∧ Hid (KeepsC (FndC La.length rb) w4 ws) ∧ Hid (PrI bp o P Q pc qc (some ⟨b1, o1, none⟩) (some ⟨b2, o2, none⟩) ca cb La Lb bo fc rb F ws) ∧ Hid (lexA (lpT o.prec) (u.args.drop n) (x.args.drop n) = lexA (lpT o.prec) u.args x.args)) (fun j _ => u.args.length - (intOf j).toNat)
                case atStart => exact ⟨0, Nat.zero_le _, Nat.zero_le _, rfl, HK5, HI5, Lib.hid rfl⟩
                case round =>
                  obtain ⟨n, hn, hn2, rfl, hKs, HIs, Hlx⟩ := hrel
                  obtain ⟨s0, s1, s2, s3, s4, s5⟩ := HS4.out
                  have hsr := (hKs.out).size
                  have a0 := cellK (hKs.out) (show bp < w4.heap.size by omega) (HCb.out _ (by omega)) s0
                  have a1 := cellK (hKs.out) (show b1 < w4.heap.size by omega) (HCb.out _ (by omega)) s1
                  have a2 := cellK (hKs.out) k2 hC6 s4
                  have a3 := cellK (hKs.out) k2 hC6 s5
                  have a4 := cellK (hKs.out) g2 hC5 s2
                  have a5 := cellK (hKs.out) g2 hC5 s3
                  clear s0 s1 s2 s3 s4 s5
                  by_cases hnl : n < u.args.length ∧ n < x.args.length
                  · obtain ⟨hnl, hnl2⟩ := hnl
                    obtain ⟨y, hy⟩ : ∃ y, u.args[n]? = some y := ⟨_, List.getElem?_eq_getElem hnl⟩
                    obtain ⟨v, hv⟩ : ∃ v, x.args[n]? = some v := ⟨_, List.getElem?_eq_getElem hnl2⟩
                    obtain ⟨q, kq, hq, hLq⟩ := Hka2.out n y hy
                    obtain ⟨r, kr, hr, hLr⟩ := Hkb2.out n v hv
                    obtain ⟨kb, ko, hKe, hkb', hkc⟩ := HK1.out (by rw [hka1]; omega)
                    obtain ⟨kb2, ko2, hKe2, hkb2', hkc2⟩ := HK2.out (by rw [hkb1]; omega)
                    obtain ⟨bb, off, Y, yc, hUe, ha⟩ := HAu.out.get hy
                    obtain ⟨bb2, off2, V, vc, hXe, ha2⟩ := HAx.out.get hv
                    have hbb := ha.hb
                    have hbb2 := ha2.hb
                    have hBw := HP.out.below (HK4.out.trans hKs.out)
                    have z0 := cell_on hBw (show kb < bp + 1 by omega) (hkc n (0 + q) hq)
                    have z3 := cell_on hBw (show kb2 < bp + 1 by omega) (hkc2 n (0 + r) hr)
                    rw [Nat.zero_add] at z0 z3
                    have z1 := cell_on hBw (show bb < bp + 1 by omega) ha.c0
                    have z2 := cell_on hBw (show bb < bp + 1 by omega) ha.c1
                    have z4 := cell_on hBw (show bb2 < bp + 1 by omega) ha2.c0
                    have z5 := cell_on hBw (show bb2 < bp + 1 by omega) ha2.c1
                    have z6 := cell_on hBw (show bp < bp + 1 by omega) HP.out.c5
                    have z7 := cell_on hBw (show b2 < bp + 1 by omega) p2
                    rw [hkb1] at z7
                    subst hKe hKe2 hUe hXe
                    have hszy := nd_size (List.mem_of_getElem? hy)
                    have hszv := nd_size (List.mem_of_getElem? hv)
                    have HSm : Hid (∀ z : LatC wr (FndC La.length rb) (PrI bp o P Q pc qc (some ⟨b1, o1, none⟩) (some ⟨b2, o2, none⟩) ca cb La Lb bo fc rb F), Calls Tryz.prog 43 #[.agg #[.int .i64 y.fn, .slice Y y.args.length yc], .agg #[.int .i64 v.fn, .slice V v.args.length vc]] z.w fun e w' => e = .returned (.bool (decide (cmpT y v = 0))) ∧ Below z.w.heap.size z.w w') := Lib.hid fun z => by
                      have hBz := (HP.out.below (HK4.out.trans (hKs.out.trans z.h))).mono (Nat.le_succ _)
                      have hz1 := hBz.size
                      exact ref2Same_any' y v Y V yc vc z.w ha.hi ha2.hi ((ha.sub.blw hBz).more (by omega)) ((ha2.sub.blw hBz).more (by omega))
                    have HAb : Hid (∀ z : LatC wr (FndC La.length rb) (PrI bp o P Q pc qc (some ⟨b1, o1, none⟩) (some ⟨b2, o2, none⟩) ca cb La Lb bo fc rb F), Calls Tryz.prog 74 #[.pointer (some ⟨bp, 0, none⟩), .int .i64 (q : Int), .int .i64 (r : Int)] z.w fun e w' => e = .returned (.bool (lpT o.prec y v)) ∧ KeepsC (FndC La.length rb) z.w w' ∧ (PrI bp o P Q pc qc (some ⟨b1, o1, none⟩) (some ⟨b2, o2, none⟩) ca cb La Lb bo fc rb F z.w → PrI bp o P Q pc qc (some ⟨b1, o1, none⟩) (some ⟨b2, o2, none⟩) ca cb La Lb bo fc rb F w')) := Lib.hid fun z => (h.lat HU.out hLq hLr (by omega) (by omega) z.w (z.i HIs.out)).mono fun e w' ⟨he, hk', hi'⟩ => ⟨he, hk', fun _ => hi'⟩
                    have m0 : ∀ z : LatC wr (FndC La.length rb) (PrI bp o P Q pc qc (some ⟨b1, o1, none⟩) (some ⟨b2, o2, none⟩) ca cb La Lb bo fc rb F), z.w.cell? ⟨bp, 4, none⟩ = some (.slice (some ⟨b1, o1, none⟩) La.length ca) := fun z => z.cell (by omega) (HCb.out _ (by omega)) a0
                    have m1 : ∀ z : LatC wr (FndC La.length rb) (PrI bp o P Q pc qc (some ⟨b1, o1, none⟩) (some ⟨b2, o2, none⟩) ca cb La Lb bo fc rb F), z.w.cell? ⟨b1, o1 + i * 3 + 2, none⟩ = some (.slice (some ⟨kb, ko, none⟩) u.args.length kc1) := fun z => z.cell (by omega) (HCb.out _ (by omega)) a1
                    have m2 : ∀ z : LatC wr (FndC La.length rb) (PrI bp o P Q pc qc (some ⟨b1, o1, none⟩) (some ⟨b2, o2, none⟩) ca cb La Lb bo fc rb F), z.w.cell? ⟨bp, 5, none⟩ = some (.slice (some ⟨b2, o2, none⟩) Lb.length cb) := fun z => z.cell (by omega) (HCb.out _ (by omega)) z6
                    have m3 : ∀ z : LatC wr (FndC La.length rb) (PrI bp o P Q pc qc (some ⟨b1, o1, none⟩) (some ⟨b2, o2, none⟩) ca cb La Lb bo fc rb F), z.w.cell? ⟨b2, o2 + k * 3 + 2, none⟩ = some (.slice (some ⟨kb2, ko2, none⟩) x.args.length kc2) := fun z => z.cell (by omega) (HCb.out _ (by omega)) z7
                    have m4 : ∀ z : LatC wr (FndC La.length rb) (PrI bp o P Q pc qc (some ⟨b1, o1, none⟩) (some ⟨b2, o2, none⟩) ca cb La Lb bo fc rb F), z.w.cell? ⟨b6, 1, none⟩ = some (.slice (some ⟨bb2, off2, none⟩) x.args.length xc) := fun z => z.cell (by omega) hC6 a3
                    have m5 : ∀ z : LatC wr (FndC La.length rb) (PrI bp o P Q pc qc (some ⟨b1, o1, none⟩) (some ⟨b2, o2, none⟩) ca cb La Lb bo fc rb F), z.w.cell? ⟨b5, 1, none⟩ = some (.slice (some ⟨bb, off, none⟩) u.args.length uc) := fun z => z.cell (by omega) hC5 a5
                    have m6 : ∀ z : LatC wr (FndC La.length rb) (PrI bp o P Q pc qc (some ⟨b1, o1, none⟩) (some ⟨b2, o2, none⟩) ca cb La Lb bo fc rb F), z.w.cell? ⟨bb, off + n * 2, none⟩ = some (.int .i64 y.fn) := fun z => z.cell (by omega) (HCb.out _ (by omega)) z1
                    have m7 : ∀ z : LatC wr (FndC La.length rb) (PrI bp o P Q pc qc (some ⟨b1, o1, none⟩) (some ⟨b2, o2, none⟩) ca cb La Lb bo fc rb F), z.w.cell? ⟨bb, off + n * 2 + 1, none⟩ = some (.slice Y y.args.length yc) := fun z => z.cell (by omega) (HCb.out _ (by omega)) z2
                    have m8 : ∀ z : LatC wr (FndC La.length rb) (PrI bp o P Q pc qc (some ⟨b1, o1, none⟩) (some ⟨b2, o2, none⟩) ca cb La Lb bo fc rb F), z.w.cell? ⟨bb2, off2 + n * 2, none⟩ = some (.int .i64 v.fn) := fun z => z.cell (by omega) (HCb.out _ (by omega)) z4
                    have m9 : ∀ z : LatC wr (FndC La.length rb) (PrI bp o P Q pc qc (some ⟨b1, o1, none⟩) (some ⟨b2, o2, none⟩) ca cb La Lb bo fc rb F), z.w.cell? ⟨bb2, off2 + n * 2 + 1, none⟩ = some (.slice V v.args.length vc) := fun z => z.cell (by omega) (HCb.out _ (by omega)) z5
                    have l0 : ∀ z : LatC wr (FndC La.length rb) (PrI bp o P Q pc qc (some ⟨b1, o1, none⟩) (some ⟨b2, o2, none⟩) ca cb La Lb bo fc rb F), z.w.cell? ⟨kb, ko + n, none⟩ = some (.int .i64 (q : Int)) := fun z => z.cell (by omega) (HCb.out _ (by omega)) z0
                    have l1 : ∀ z : LatC wr (FndC La.length rb) (PrI bp o P Q pc qc (some ⟨b1, o1, none⟩) (some ⟨b2, o2, none⟩) ca cb La Lb bo fc rb F), z.w.cell? ⟨kb2, ko2 + n, none⟩ = some (.int .i64 (r : Int)) := fun z => z.cell (by omega) (HCb.out _ (by omega)) z3
                    by_cases heq : cmpT y v = 0
                    · rw [decide_eq_true heq] at HSm
                      have Hn := Lib.hid (show lexA (lpT o.prec) (u.args.drop (n + 1)) (x.args.drop (n + 1)) = lexA (lpT o.prec) u.args x.args by rw [← lexA_same hy hv heq]; exact Hlx.out)
                      clear heq hkc hkc2 hq hr hLq hLr hy hv ha ha2 hBw
                      go_upto_region 18 with fail
                      refine wp_region_latC wr (FndC La.length rb) (PrI bp o P Q pc qc (some ⟨b1, o1, none⟩) (some ⟨b2, o2, none⟩) ca cb La Lb bo fc rb F) (by kernel_rfl) (by kernel_rfl) (KeepsC.of_below (bl_drewN (Below.refl _ _) 1)) (fun h => h.on (bl_drewN (Below.refl _ _) 1)) ?_
                      repeat (go_big_quiet_step (first
                        | (go_at_call 43; with_reducible refine calls_latCB _ Hst.out (HSm.out _))
                        | fail))
                      refine wpQuiet_nil ?_
                      rintro _ ⟨z, rfl⟩
                      clear m0 m1 m2 m3 m4 m5 m6 m7 m8 m9 l0 l1
                      go_wp2
                      go_roundw
                      case rel => exact ⟨n + 1, by omega, by omega, by go_num, Lib.hid (hKs.out.trans z.h), Lib.hid (z.i HIs.out), Hn⟩
                      case measure => simp [intOf]; omega
                    · rw [decide_eq_false heq] at HSm
                      have Hn := Lib.hid (show lpT o.prec u x = lpT o.prec y v by rw [Hlex.out, ← Hlx.out]; exact lexA_other hy hv heq)
                      obtain ⟨rv, hrv⟩ : ∃ b, lpT o.prec y v = b := ⟨_, rfl⟩
                      rw [hrv] at HAb Hn
                      clear heq hkc hkc2 hq hr hLq hLr hy hv ha ha2 hBw hrv
                      go_upto_region 18 with fail
                      refine wp_region_latC wr (FndC La.length rb) (PrI bp o P Q pc qc (some ⟨b1, o1, none⟩) (some ⟨b2, o2, none⟩) ca cb La Lb bo fc rb F) (by kernel_rfl) (by kernel_rfl) (KeepsC.of_below (bl_drewN (Below.refl _ _) 1)) (fun h => h.on (bl_drewN (Below.refl _ _) 1)) ?_
                      repeat (go_big_quiet_step (first
                        | (go_at_call 43; with_reducible refine calls_latCB _ Hst.out (HSm.out _))
                        | fail))
                      refine wpQuiet_nil ?_
                      rintro _ ⟨z, rfl⟩
                      have HAb : Hid (∀ z2 : LatC z.w (FndC La.length rb) (PrI bp o P Q pc qc (some ⟨b1, o1, none⟩) (some ⟨b2, o2, none⟩) ca cb La Lb bo fc rb F), Calls Tryz.prog 74 #[.pointer (some ⟨bp, 0, none⟩), .int .i64 (q : Int), .int .i64 (r : Int)] z2.w fun e w' => e = .returned (.bool rv) ∧ KeepsC (FndC La.length rb) z2.w w' ∧ (PrI bp o P Q pc qc (some ⟨b1, o1, none⟩) (some ⟨b2, o2, none⟩) ca cb La Lb bo fc rb F z2.w → PrI bp o P Q pc qc (some ⟨b1, o1, none⟩) (some ⟨b2, o2, none⟩) ca cb La Lb bo fc rb F w')) := Lib.hid fun z2 => HAb.out ⟨z2.w, z.h.trans z2.h, fun k => z2.i (z.i k)⟩
                      have n0 : ∀ z2 : LatC z.w (FndC La.length rb) (PrI bp o P Q pc qc (some ⟨b1, o1, none⟩) (some ⟨b2, o2, none⟩) ca cb La Lb bo fc rb F), z2.w.cell? ⟨bp, 4, none⟩ = some (.slice (some ⟨b1, o1, none⟩) La.length ca) := fun z2 => m0 ⟨z2.w, z.h.trans z2.h, fun k => z2.i (z.i k)⟩
                      have n1 : ∀ z2 : LatC z.w (FndC La.length rb) (PrI bp o P Q pc qc (some ⟨b1, o1, none⟩) (some ⟨b2, o2, none⟩) ca cb La Lb bo fc rb F), z2.w.cell? ⟨b1, o1 + i * 3 + 2, none⟩ = some (.slice (some ⟨kb, ko, none⟩) u.args.length kc1) := fun z2 => m1 ⟨z2.w, z.h.trans z2.h, fun k => z2.i (z.i k)⟩
                      have n2 : ∀ z2 : LatC z.w (FndC La.length rb) (PrI bp o P Q pc qc (some ⟨b1, o1, none⟩) (some ⟨b2, o2, none⟩) ca cb La Lb bo fc rb F), z2.w.cell? ⟨bp, 5, none⟩ = some (.slice (some ⟨b2, o2, none⟩) Lb.length cb) := fun z2 => m2 ⟨z2.w, z.h.trans z2.h, fun k => z2.i (z.i k)⟩
                      have n3 : ∀ z2 : LatC z.w (FndC La.length rb) (PrI bp o P Q pc qc (some ⟨b1, o1, none⟩) (some ⟨b2, o2, none⟩) ca cb La Lb bo fc rb F), z2.w.cell? ⟨b2, o2 + k * 3 + 2, none⟩ = some (.slice (some ⟨kb2, ko2, none⟩) x.args.length kc2) := fun z2 => m3 ⟨z2.w, z.h.trans z2.h, fun k => z2.i (z.i k)⟩
                      have n4 : ∀ z2 : LatC z.w (FndC La.length rb) (PrI bp o P Q pc qc (some ⟨b1, o1, none⟩) (some ⟨b2, o2, none⟩) ca cb La Lb bo fc rb F), z2.w.cell? ⟨kb, ko + n, none⟩ = some (.int .i64 (q : Int)) := fun z2 => l0 ⟨z2.w, z.h.trans z2.h, fun k => z2.i (z.i k)⟩
                      have n5 : ∀ z2 : LatC z.w (FndC La.length rb) (PrI bp o P Q pc qc (some ⟨b1, o1, none⟩) (some ⟨b2, o2, none⟩) ca cb La Lb bo fc rb F), z2.w.cell? ⟨kb2, ko2 + n, none⟩ = some (.int .i64 (r : Int)) := fun z2 => l1 ⟨z2.w, z.h.trans z2.h, fun k => z2.i (z.i k)⟩
                      clear m0 m1 m2 m3 m4 m5 m6 m7 m8 m9 l0 l1
                      go_upto_region 19 with fail
                      refine wp_region_latC z.w (FndC La.length rb) (PrI bp o P Q pc qc (some ⟨b1, o1, none⟩) (some ⟨b2, o2, none⟩) ca cb La Lb bo fc rb F) (by kernel_rfl) (by kernel_rfl) (KeepsC.of_below (bl_drewN (Below.refl _ _) 1)) (fun h => h.on (bl_drewN (Below.refl _ _) 1)) ?_
                      repeat (go_big_quiet_step (first
                        | (go_at_call 74; with_reducible refine calls_latCF _ (HAb.out _))
                        | fail))
                      refine wpQuiet_nil ?_
                      rintro _ ⟨z3, rfl⟩
                      clear n0 n1 n2 n3 n4 n5
                      go_wp2
                      go_ret
                      exact ⟨by rw [Hn.out]; rfl, HK4.out.trans (hKs.out.trans (z.h.trans z3.h)), z3.i (z.i HIs.out)⟩
                  · have hfin := Lib.hid (show lpT o.prec u x = decide (x.args.length < u.args.length) by rw [Hlex.out, ← Hlx.out]; exact lexA_end hn hn2 hnl)
                    by_cases hnl2 : n < u.args.length
                    · have g1 : ¬ n < x.args.length := fun e => hnl ⟨hnl2, e⟩
                      go_wp2
                      go_ret
                      exact ⟨by rw [hfin.out]; simp, HK4.out.trans hKs.out, HIs.out⟩
                    · go_wp2
                      go_ret
                      exact ⟨by rw [hfin.out]; simp, HK4.out.trans hKs.out, HIs.out⟩
            · obtain ⟨un, hun'⟩ : ∃ un : Nat, u.fn = (un : Int) := ⟨u.fn.toNat, by omega⟩
              obtain ⟨xn, hxn'⟩ : ∃ xn : Nat, x.fn = (xn : Int) := ⟨x.fn.toNat, by omega⟩
              have hul' := layK_lt (hka i u ku Hu.out)
              have hxl' := layK_lt (hkb k x kx Hx.out)
              have e1 : (u.fn != x.fn) = true := by simp [hfn]
              obtain ⟨pu, hpu⟩ : ∃ v, o.prec[un]? = some v := ⟨_, List.getElem?_eq_getElem (by omega)⟩
              obtain ⟨px, hpx⟩ : ∃ v, o.prec[xn]? = some v := ⟨_, List.getElem?_eq_getElem (by omega)⟩
              have hru : rkI o.prec u.fn = pu := by unfold rkI; rw [hun', Int.toNat_natCast, List.getD_eq_getElem?_getD, hpu]; rfl
              have hrx : rkI o.prec x.fn = px := by unfold rkI; rw [hxn', Int.toNat_natCast, List.getD_eq_getElem?_getD, hpx]; rfl
              obtain ⟨pb, po, hPe, hpb, hpc1⟩ := HP.out.pr.get hpu
              obtain ⟨pb', po', hPe', _, hpc2⟩ := HP.out.pr.get hpx
              have hpe := hPe.symm.trans hPe'
              simp only [Option.some.injEq, Addr.mk.injEq, and_true] at hpe
              obtain ⟨rfl, rfl⟩ := hpe
              have hBw := HP.out.below (HK4.out.trans hKr.out)
              have z0 := cell_on hBw (show pb < bp + 1 by omega) hpc1
              have z1 := cell_on hBw (show pb < bp + 1 by omega) hpc2
              have z2 := cell_on hBw (show bp < bp + 1 by omega) HP.out.c1
              rw [hPe] at z2
              have hval : lpT o.prec u x = (decide (px < pu) && x.args.all fun y => lpT o.prec u y) := by rw [Hq1.out, if_neg hfn, hru, hrx]
              have Hval := Lib.hid hval
              have HAl : Hid (∀ z : LatC wr (FndC La.length rb) (PrI bp o P Q pc qc (some ⟨b1, o1, none⟩) (some ⟨b2, o2, none⟩) ca cb La Lb bo fc rb F), Calls Tryz.prog 114 #[.pointer (some ⟨bp, 0, none⟩), .int .i64 (i : Int), .int .i64 (k : Int)] z.w fun e w' => e = .returned (.bool (x.args.all fun y => lpT o.prec u y)) ∧ KeepsC (FndC La.length rb) z.w w' ∧ (PrI bp o P Q pc qc (some ⟨b1, o1, none⟩) (some ⟨b2, o2, none⟩) ca cb La Lb bo fc rb F z.w → PrI bp o P Q pc qc (some ⟨b1, o1, none⟩) (some ⟨b2, o2, none⟩) ca cb La Lb bo fc rb F w')) := Lib.hid fun z => (hL.lat HU.out Hu.out Hx.out hz z.w (z.i HIr.out)).mono fun e w' ⟨he, hk', hi'⟩ => ⟨he, hk', fun _ => hi'⟩
              have hlo := HP.out.pr.len
              have m0 : ∀ z : LatC wr (FndC La.length rb) (PrI bp o P Q pc qc (some ⟨b1, o1, none⟩) (some ⟨b2, o2, none⟩) ca cb La Lb bo fc rb F), z.w.cell? ⟨bp, 1, none⟩ = some (.slice (some ⟨pb, po, none⟩) o.prec.length pc) := fun z => z.cell (by omega) (HCb.out _ (by omega)) z2
              have m1 : ∀ z : LatC wr (FndC La.length rb) (PrI bp o P Q pc qc (some ⟨b1, o1, none⟩) (some ⟨b2, o2, none⟩) ca cb La Lb bo fc rb F), z.w.cell? ⟨b5, 0, none⟩ = some (.int .i64 (un : Int)) := fun z => hun' ▸ z.cell (by omega) hC5 a4
              have m2 : ∀ z : LatC wr (FndC La.length rb) (PrI bp o P Q pc qc (some ⟨b1, o1, none⟩) (some ⟨b2, o2, none⟩) ca cb La Lb bo fc rb F), z.w.cell? ⟨b6, 0, none⟩ = some (.int .i64 (xn : Int)) := fun z => hxn' ▸ z.cell (by omega) hC6 a2
              have m3 : ∀ z : LatC wr (FndC La.length rb) (PrI bp o P Q pc qc (some ⟨b1, o1, none⟩) (some ⟨b2, o2, none⟩) ca cb La Lb bo fc rb F), z.w.cell? ⟨pb, po + un, none⟩ = some (.int .i64 pu) := fun z => z.cell (by omega) (HCb.out _ (by omega)) z0
              have m4 : ∀ z : LatC wr (FndC La.length rb) (PrI bp o P Q pc qc (some ⟨b1, o1, none⟩) (some ⟨b2, o2, none⟩) ca cb La Lb bo fc rb F), z.w.cell? ⟨pb, po + xn, none⟩ = some (.int .i64 px) := fun z => z.cell (by omega) (HCb.out _ (by omega)) z1
              obtain ⟨al, hal⟩ : ∃ b, (x.args.all fun y => lpT o.prec u y) = b := ⟨_, rfl⟩
              rw [hal] at HAl Hval
              clear hal hval hpc1 hpc2 hpu hpx hru hrx hBw
              cases hg : decide (px < pu) with
              | true =>
                rw [hg, Bool.true_and] at Hval
                go_upto_region 12 with fail
                refine wp_region_latC wr (FndC La.length rb) (PrI bp o P Q pc qc (some ⟨b1, o1, none⟩) (some ⟨b2, o2, none⟩) ca cb La Lb bo fc rb F) (by kernel_rfl) (by kernel_rfl) (KeepsC.of_below (bl_drewN (Below.refl _ _) 1)) (fun h => h.on (bl_drewN (Below.refl _ _) 1)) ?_
                repeat (go_big_quiet_step (first
                  | (go_at_call 114; with_reducible refine calls_latCF _ (HAl.out _))
                  | fail))
                refine wpQuiet_nil ?_
                rintro _ ⟨z, rfl⟩
                clear m0 m1 m2 m3 m4
                go_wp2
                go_ret
                exact ⟨by rw [Hval.out]; rfl, HK4.out.trans (hKr.out.trans z.h), z.i HIr.out⟩
              | false =>
                rw [hg, Bool.false_and] at Hval
                go_upto_region 12 with fail
                refine wp_region_latC wr (FndC La.length rb) (PrI bp o P Q pc qc (some ⟨b1, o1, none⟩) (some ⟨b2, o2, none⟩) ca cb La Lb bo fc rb F) (by kernel_rfl) (by kernel_rfl) (KeepsC.of_below (bl_drewN (Below.refl _ _) 1)) (fun h => h.on (bl_drewN (Below.refl _ _) 1)) ?_
                repeat (go_big_quiet_step (first
                  | (go_at_call 114; with_reducible refine calls_latCF _ (HAl.out _))
                  | fail))
                refine wpQuiet_nil ?_
                rintro _ ⟨z, rfl⟩
                clear m0 m1 m2 m3 m4
                go_wp2
                go_ret
                exact ⟨by rw [Hval.out]; rfl, HK4.out.trans (hKr.out.trans z.h), z.i HIr.out⟩
end
end Go.Proofs.YthgglobfkkcdgaaGreat
namespace Go.Proofs.YthgglobfkkcdgaaGreat
open Go.RowKit Go.Shelf Go.Maps
set_option maxRecDepth 100000
section
variable {bp : Nat} {o : Odr} {P Q : Option Addr} {pc qc : Nat} {A B : Option Addr} {ca cb : Nat} {La Lb : List (Tm × List Nat)} {bo fc : Nat} {rb : Nat → Nat}
theorem refAbv_all (hNa : NdOk 0 La) (hNb : NdOk 0 Lb) (hka : ∀ (i : Nat) (u : Tm) (ku : List Nat), La[i]? = some (u, ku) → layK o.prec.length u = true) (hkb : ∀ (i : Nat) (u : Tm) (ku : List Nat), Lb[i]? = some (u, ku) → layK o.prec.length u = true) : ∀ m, AbvI bp o P Q pc qc A B ca cb La Lb bo fc rb m
  | 0 => refAbove9_any fun i k u ku x kx F w hu hx hz => by
    have := size_pos u
    omega
  | m + 1 => by
    have h := refAbv_all hNa hNb hka hkb m
    exact refAbove9_any (refAsk9_any h (refAll9_any h hNb) hNa hNb hka hkb)
end
theorem nd_known {R : Nat} : ∀ {n : Nat} {t : Tm}, layK R t = true → ∀ (i : Nat) (u : Tm) (ku : List Nat), (ndT n t)[i]? = some (u, ku) → layK R u = true := by
  intro n t
  revert n
  refine Tm.ind (P := fun t => ∀ {n : Nat}, layK R t = true → ∀ (i : Nat) (u : Tm) (ku : List Nat), (ndT n t)[i]? = some (u, ku) → layK R u = true) (fun f xs ih => ?_) t
  intro n h i u ku hi
  have hL : ∀ x ∈ xs, layK R x = true := by
    rw [layK, Bool.and_eq_true] at h
    exact (layKL_take xs).1 h.2
  cases i with
  | zero =>
    rw [ndT_head] at hi
    simp only [Option.some.injEq, Prod.mk.injEq] at hi
    rw [← hi.1]; exact h
  | succ i =>
    rw [ndT, List.getElem?_cons_succ] at hi
    have key : ∀ (ys : List Tm) (n i : Nat), (∀ x ∈ ys, x ∈ xs) → (ndL n ys)[i]? = some (u, ku) → layK R u = true := by
      intro ys
      induction ys with
      | nil => intro n i _ h; rw [ndL] at h; simp at h
      | cons y ys ihy =>
        intro n i hy h
        rw [ndL] at h
        by_cases hlt : i < (ndT n y).length
        · rw [List.getElem?_append_left hlt] at h
          exact ih y (hy y (by simp)) (hL y (hy y (by simp))) i u ku h
        · rw [List.getElem?_append_right (by omega)] at h
          exact ihy _ _ (fun x hx => hy x (by simp [hx])) h
    exact key xs (n + 1) i (fun x hx => hx) hi
end Go.Proofs.YthgglobfkkcdgaaGreat
namespace Go.Proofs.YthgglobfkkcdgaaGreat
open Go.RowKit Go.Shelf Go.Maps
set_option maxRecDepth 100000
def OvrI (o : Odr) : Prop := ∀ (s t : Tm) (P Q A A2 : Option Addr) (pc qc c c2 : Nat) (w : World), layK o.prec.length s = true → layK o.prec.length t = true → s.size ≤ 1073741824 → t.size ≤ 1073741824 → OdrM w w.heap.size o P Q → I64 s.fn → I64 t.fn → Args w w.heap.size A s.args → Args w w.heap.size A2 t.args →
  Calls Tryz.prog 50 #[.agg #[.bool o.lpo, .slice P o.prec.length pc, .slice Q o.wts.length qc, .int .i64 o.var], .agg #[.int .i64 s.fn, .slice A s.args.length c], .agg #[.int .i64 t.fn, .slice A2 t.args.length c2]] w fun e w' => e = .returned (.bool (lpT o.prec s t)) ∧ Below w.heap.size w w'
set_option maxHeartbeats 2000000 in
theorem refCmp9_any (o : Odr) (hO : OvrI o) (s t : Tm) (P Q A A2 : Option Addr) (pc qc c c2 : Nat) (w : World) (hzs : s.size ≤ 1073741824) (hzt : t.size ≤ 1073741824) (hM : OdrM w w.heap.size o P Q) (hfs : I64 s.fn) (hft : I64 t.fn) (hA : Args w w.heap.size A s.args) (hA2 : Args w w.heap.size A2 t.args) :
    Calls Tryz.prog 32 #[.agg #[.bool o.lpo, .slice P o.prec.length pc, .slice Q o.wts.length qc, .int .i64 o.var], .agg #[.int .i64 s.fn, .slice A s.args.length c], .agg #[.int .i64 t.fn, .slice A2 t.args.length c2]] w fun e w' => e = .returned (.int .i64 (cmpP o.prec s t)) ∧ Below w.heap.size w w' := by
  obtain ⟨W, hW⟩ : ∃ W, (((w.alloc (.cells #[.bool o.lpo, .slice P o.prec.length pc, .slice Q o.wts.length qc, .int .i64 o.var] 24)).alloc (.cells #[.int .i64 s.fn, .slice A s.args.length c] 36)).alloc (.cells #[.int .i64 t.fn, .slice A2 t.args.length c2] 36)) = W := ⟨_, rfl⟩
  obtain ⟨hB, hz, hS⟩ := box_ott hW
  have HW := Lib.hid hW
  obtain ⟨x0, x1, x2, x3, x4, x5, x6, x7⟩ := hS W (Below.refl _ _)
  have HS := Lib.hid hS
  have K1 : Hid (∀ w1, Below W.heap.size W w1 → Calls Tryz.prog 49 #[.agg #[.bool o.lpo, .slice P o.prec.length pc, .slice Q o.wts.length qc, .int .i64 o.var], .agg #[.int .i64 s.fn, .slice A s.args.length c]] w1 fun e w' => e = .returned (.bool (layK o.prec.length s)) ∧ Below w1.heap.size w1 w') := Lib.hid fun w1 hb => refKnows9_any o s P Q A pc qc c w1 hfs (hA.on (hB.trans (hb.mono hB.size)))
  have K2 : Hid (∀ w1, Below W.heap.size W w1 → Calls Tryz.prog 49 #[.agg #[.bool o.lpo, .slice P o.prec.length pc, .slice Q o.wts.length qc, .int .i64 o.var], .agg #[.int .i64 t.fn, .slice A2 t.args.length c2]] w1 fun e w' => e = .returned (.bool (layK o.prec.length t)) ∧ Below w1.heap.size w1 w') := Lib.hid fun w1 hb => refKnows9_any o t P Q A2 pc qc c2 w1 hft (hA2.on (hB.trans (hb.mono hB.size)))
  have K3 : Hid (∀ w1, Below W.heap.size W w1 → Calls Tryz.prog 43 #[.agg #[.int .i64 s.fn, .slice A s.args.length c], .agg #[.int .i64 t.fn, .slice A2 t.args.length c2]] w1 fun e w' => e = .returned (.bool (decide (cmpT s t = 0))) ∧ Below w1.heap.size w1 w') := Lib.hid fun w1 hb => ref2Same_any' s t A A2 c c2 w1 hfs hft (hA.on (hB.trans (hb.mono hB.size))) (hA2.on (hB.trans (hb.mono hB.size)))
  have K4 : Hid (∀ w1, Below W.heap.size W w1 → layK o.prec.length s = true → layK o.prec.length t = true → Calls Tryz.prog 50 #[.agg #[.bool o.lpo, .slice P o.prec.length pc, .slice Q o.wts.length qc, .int .i64 o.var], .agg #[.int .i64 s.fn, .slice A s.args.length c], .agg #[.int .i64 t.fn, .slice A2 t.args.length c2]] w1 fun e w' => e = .returned (.bool (lpT o.prec s t)) ∧ Below w1.heap.size w1 w') := Lib.hid fun w1 hb h1 h2 => hO s t P Q A A2 pc qc c c2 w1 h1 h2 hzs hzt (hM.on (hB.trans (hb.mono hB.size))) hfs hft (hA.on (hB.trans (hb.mono hB.size))) (hA2.on (hB.trans (hb.mono hB.size)))
  have K5 : Hid (∀ w1, Below W.heap.size W w1 → layK o.prec.length s = true → layK o.prec.length t = true → Calls Tryz.prog 50 #[.agg #[.bool o.lpo, .slice P o.prec.length pc, .slice Q o.wts.length qc, .int .i64 o.var], .agg #[.int .i64 t.fn, .slice A2 t.args.length c2], .agg #[.int .i64 s.fn, .slice A s.args.length c]] w1 fun e w' => e = .returned (.bool (lpT o.prec t s)) ∧ Below w1.heap.size w1 w') := Lib.hid fun w1 hb h1 h2 => hO t s P Q A2 A pc qc c2 c w1 h2 h1 hzt hzs (hM.on (hB.trans (hb.mono hB.size))) hft hfs (hA2.on (hB.trans (hb.mono hB.size))) (hA.on (hB.trans (hb.mono hB.size)))
  have hR := Lib.hid (show cmpP o.prec s t = if layK o.prec.length s && layK o.prec.length t then (if cmpT s t = 0 then 2 else if lpT o.prec s t then 3 else if lpT o.prec t s then 1 else 0) else 0 from rfl)
  clear hW hS hM hA hA2 hO
  have hb0 : Below W.heap.size W W := Below.refl _ _
  cases hs : layK o.prec.length s with
  | false =>
    rw [hs] at K1
    have hfin := Lib.hid (show cmpP o.prec s t = 0 by rw [hR.out, hs]; rfl)
    clear hs
    go_enter Tryz.func32, Tryz.ntmps32
    go_upto_region 1 with fail
    rw [HW.out]
    go_wp2_with (first
      | (go_at_call 49; (with_reducible refine (K1.out _ hb0).mono ?_); go_must (rintro e w1 ⟨rfl, hb1⟩; obtain ⟨y0, y1, y2, y3, y4, y5, y6, y7⟩ := HS.out w1 hb1))
      | fail)
    go_ret
    exact ⟨by rw [hfin.out]; rfl, hB.trans (hb1.mono hB.size)⟩
  | true =>
    cases ht : layK o.prec.length t with
    | false =>
      rw [hs] at K1
      rw [ht] at K2
      have hfin := Lib.hid (show cmpP o.prec s t = 0 by rw [hR.out, hs, ht]; rfl)
      clear hs ht
      go_enter Tryz.func32, Tryz.ntmps32
      go_upto_region 1 with fail
      rw [HW.out]
      go_wp2_with (first
        | (go_at_call 49; (with_reducible refine (K1.out _ hb0).mono ?_); go_must (rintro e w1 ⟨rfl, hb1⟩; obtain ⟨y0, y1, y2, y3, y4, y5, y6, y7⟩ := HS.out w1 hb1))
        | (go_at_call 49; (with_reducible refine (K2.out _ hb1).mono ?_); go_must (rintro e w2 ⟨rfl, hb2⟩; have hB2 := hb1.trans (hb2.mono hb1.size); obtain ⟨z0, z1, z2, z3, z4, z5, z6, z7⟩ := HS.out w2 hB2))
        | fail)
      go_ret
      exact ⟨by rw [hfin.out]; rfl, hB.trans (hB2.mono hB.size)⟩
    | true =>
      have K4 := Lib.hid fun w1 hb => K4.out w1 hb hs ht
      have K5 := Lib.hid fun w1 hb => K5.out w1 hb hs ht
      have hR := Lib.hid (show cmpP o.prec s t = if cmpT s t = 0 then 2 else if lpT o.prec s t then 3 else if lpT o.prec t s then 1 else 0 by rw [hR.out, hs, ht]; rfl)
      rw [hs] at K1
      rw [ht] at K2
      clear hs ht
      by_cases h0 : cmpT s t = 0
      · rw [decide_eq_true h0] at K3
        have hfin := Lib.hid (show cmpP o.prec s t = 2 by rw [hR.out, if_pos h0])
        clear h0
        go_enter Tryz.func32, Tryz.ntmps32
        go_upto_region 1 with fail
        rw [HW.out]
        go_wp2_with (first
          | (go_at_call 49; (with_reducible refine (K1.out _ hb0).mono ?_); go_must (rintro e w1 ⟨rfl, hb1⟩; obtain ⟨y0, y1, y2, y3, y4, y5, y6, y7⟩ := HS.out w1 hb1))
          | (go_at_call 49; (with_reducible refine (K2.out _ hb1).mono ?_); go_must (rintro e w2 ⟨rfl, hb2⟩; have hB2 := hb1.trans (hb2.mono hb1.size); obtain ⟨z0, z1, z2, z3, z4, z5, z6, z7⟩ := HS.out w2 hB2))
          | (go_at_call 43; (with_reducible refine (K3.out _ hB2).mono ?_); go_must (rintro e w3 ⟨rfl, hb3⟩; have hB3 := hB2.trans (hb3.mono hB2.size)))
          | fail)
        go_ret
        exact ⟨by rw [hfin.out]; rfl, hB.trans (hB3.mono hB.size)⟩
      · rw [decide_eq_false h0] at K3
        have hR := Lib.hid (show cmpP o.prec s t = if lpT o.prec s t then 3 else if lpT o.prec t s then 1 else 0 by rw [hR.out, if_neg h0])
        clear h0
        cases h1 : lpT o.prec s t with
        | true =>
          rw [h1] at K4 hR
          clear h1
          go_enter Tryz.func32, Tryz.ntmps32
          go_upto_region 1 with fail
          rw [HW.out]
          go_wp2_with (first
            | (go_at_call 49; (with_reducible refine (K1.out _ hb0).mono ?_); go_must (rintro e w1 ⟨rfl, hb1⟩; obtain ⟨y0, y1, y2, y3, y4, y5, y6, y7⟩ := HS.out w1 hb1))
            | (go_at_call 49; (with_reducible refine (K2.out _ hb1).mono ?_); go_must (rintro e w2 ⟨rfl, hb2⟩; have hB2 := hb1.trans (hb2.mono hb1.size); obtain ⟨z0, z1, z2, z3, z4, z5, z6, z7⟩ := HS.out w2 hB2))
            | (go_at_call 43; (with_reducible refine (K3.out _ hB2).mono ?_); go_must (rintro e w3 ⟨rfl, hb3⟩; have hB3 := hB2.trans (hb3.mono hB2.size); obtain ⟨a0, a1, a2, a3, a4, a5, a6, a7⟩ := HS.out w3 hB3))
            | (go_at_call 50; (with_reducible refine (K4.out _ hB3).mono ?_); go_must (rintro e w4 ⟨rfl, hb4⟩; have hB4 := hB3.trans (hb4.mono hB3.size)))
            | fail)
          go_ret
          exact ⟨by rw [hR.out]; rfl, hB.trans (hB4.mono hB.size)⟩
        | false =>
          rw [h1] at K4 hR
          clear h1
          cases h2 : lpT o.prec t s with
          | true =>
            rw [h2] at K5 hR
            clear h2
            go_enter Tryz.func32, Tryz.ntmps32
            go_upto_region 1 with fail
            rw [HW.out]
            go_wp2_with (first
              | (go_at_call 49; (with_reducible refine (K1.out _ hb0).mono ?_); go_must (rintro e w1 ⟨rfl, hb1⟩; obtain ⟨y0, y1, y2, y3, y4, y5, y6, y7⟩ := HS.out w1 hb1))
              | (go_at_call 49; (with_reducible refine (K2.out _ hb1).mono ?_); go_must (rintro e w2 ⟨rfl, hb2⟩; have hB2 := hb1.trans (hb2.mono hb1.size); obtain ⟨z0, z1, z2, z3, z4, z5, z6, z7⟩ := HS.out w2 hB2))
              | (go_at_call 43; (with_reducible refine (K3.out _ hB2).mono ?_); go_must (rintro e w3 ⟨rfl, hb3⟩; have hB3 := hB2.trans (hb3.mono hB2.size); obtain ⟨a0, a1, a2, a3, a4, a5, a6, a7⟩ := HS.out w3 hB3))
              | (go_at_call 50; (with_reducible refine (K4.out _ hB3).mono ?_); go_must (rintro e w4 ⟨rfl, hb4⟩; have hB4 := hB3.trans (hb4.mono hB3.size); obtain ⟨c0, c1, c2, c3, c4, c5, c6, c7⟩ := HS.out w4 hB4))
              | (go_at_call 50; (with_reducible refine (K5.out _ hB4).mono ?_); go_must (rintro e w5 ⟨rfl, hb5⟩; have hB5 := hB4.trans (hb5.mono hB4.size)))
              | fail)
            go_ret
            exact ⟨by rw [hR.out]; rfl, hB.trans (hB5.mono hB.size)⟩
          | false =>
            rw [h2] at K5 hR
            clear h2
            go_enter Tryz.func32, Tryz.ntmps32
            go_upto_region 1 with fail
            rw [HW.out]
            go_wp2_with (first
              | (go_at_call 49; (with_reducible refine (K1.out _ hb0).mono ?_); go_must (rintro e w1 ⟨rfl, hb1⟩; obtain ⟨y0, y1, y2, y3, y4, y5, y6, y7⟩ := HS.out w1 hb1))
              | (go_at_call 49; (with_reducible refine (K2.out _ hb1).mono ?_); go_must (rintro e w2 ⟨rfl, hb2⟩; have hB2 := hb1.trans (hb2.mono hb1.size); obtain ⟨z0, z1, z2, z3, z4, z5, z6, z7⟩ := HS.out w2 hB2))
              | (go_at_call 43; (with_reducible refine (K3.out _ hB2).mono ?_); go_must (rintro e w3 ⟨rfl, hb3⟩; have hB3 := hB2.trans (hb3.mono hB2.size); obtain ⟨a0, a1, a2, a3, a4, a5, a6, a7⟩ := HS.out w3 hB3))
              | (go_at_call 50; (with_reducible refine (K4.out _ hB3).mono ?_); go_must (rintro e w4 ⟨rfl, hb4⟩; have hB4 := hB3.trans (hb4.mono hB3.size); obtain ⟨c0, c1, c2, c3, c4, c5, c6, c7⟩ := HS.out w4 hB4))
              | (go_at_call 50; (with_reducible refine (K5.out _ hB4).mono ?_); go_must (rintro e w5 ⟨rfl, hb5⟩; have hB5 := hB4.trans (hb5.mono hB4.size)))
              | fail)
            go_ret
            exact ⟨by rw [hR.out]; rfl, hB.trans (hB5.mono hB.size)⟩
end Go.Proofs.YthgglobfkkcdgaaGreat
