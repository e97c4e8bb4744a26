import Derived.Test.YthgglobfkkcdgaaGreatDoorP48S24
import Derived.Test.YthgglobfkkcdgaaGreatDoorP48S21
import Derived.Test.YthgglobfkkcdgaaGreatDoorP48S22
import Derived.Test.YthgglobfkkcdgaaGreatDoorP48S2
import Derived.Deep.RegionLaw
import Derived.Test.YthgglobfkkcdgaaGreatDoorP48S1
import Derived.Deep.DeepCutAuto
namespace Go.Proofs.YthgglobfkkcdgaaGreatDoor
open Go Go.RowKit Go.Shelf
set_option maxRecDepth 100000
theorem cells_rowP {W : World} {b : Nat} {cs : Array Value} {t : TypeId} (h : W.heap[b]? = some (.cells cs t)) {j : Nat} {u : Value} (hu : cs[j]? = some u) : W.cell? ⟨b, 0 + j, none⟩ = some u := by
  simp only [World.cell?, h, Nat.zero_add]
  simpa using hu
end Go.Proofs.YthgglobfkkcdgaaGreatDoor
namespace Go.Proofs.YthgglobfkkcdgaaGreatDoor
open Go Go.RowKit Go.Shelf
set_option maxRecDepth 100000
end Go.Proofs.YthgglobfkkcdgaaGreatDoor
namespace Go.Proofs.YthgglobfkkcdgaaGreatDoor
open Go Go.RowKit Go.Shelf
set_option maxRecDepth 100000
def mkO (l : List Sm) (n : List Int) (lpo top : Bool) (b wb : Int) : Odr :=
  if lpo = true then ⟨true, rkLs l n b l.length, [], 0⟩ else ⟨false, rkLs l n b l.length, wtL l n wb top (rkLs l n b l.length), 1⟩
theorem mkO_prec (l : List Sm) (n : List Int) (lpo top : Bool) (b wb : Int) : (mkO l n lpo top b wb).prec = rkLs l n b l.length := by
  unfold mkO; split <;> rfl
theorem rkL_ranked (l : List Sm) (n : List Int) (b : Int) {m : Nat} (hm : 0 < m) : rankB (rkLs l n b m) m = true := by
  have h := (rankB_iff (p := rkLs l n b m)).2 ⟨fun i h0 hi => ?_, ?_⟩
  · rwa [rkL_len] at h
  · rw [rkL_len] at hi
    rw [rkL_getD hm, rkL_getD hi, show rnkR l n b m 0 = 0 from rfl, rnkR_eq l n b m (by omega)]
    omega
  · unfold List.Nodup
    rw [List.pairwise_iff_getElem]
    intro i j hi hj hij he
    rw [rkL_len] at hi hj
    have e1 := rkL_getD (l := l) (n := n) (b := b) hi
    have e2 := rkL_getD (l := l) (n := n) (b := b) hj
    rw [getD_el (by rw [rkL_len]; exact hi)] at e1
    rw [getD_el (by rw [rkL_len]; exact hj)] at e2
    rw [e1, e2] at he
    have := rnkR_inj hi hj (by omega : rnkR l n b m i = rnkR l n b m j)
    omega
theorem wgX_pos {l : List Sm} {n rk : List Int} {wb : Int} {i : Nat} (ha : 0 ≤ arP l i) (hc : 0 ≤ cnP n i) (hr : 0 ≤ rk.getD i 0) : 1 ≤ wgX l n wb rk i := by
  unfold wgX
  repeat' split
  all_goals omega
theorem mkO_may {l : List Sm} {n : List Int} {lpo top : Bool} {b wb : Int} (h0 : checkI l = 0) (hn : ∀ f, 0 ≤ cnP n f) : chkO l (mkO l n lpo top b wb) = 0 := by
  have hl0 := chk_some h0
  have har := chk_ar h0
  have hrk := rkL_ranked l n b hl0
  have hpos : ∀ i, 0 ≤ (rkLs l n b l.length).getD i 0 := fun i => by
    rcases Nat.lt_or_ge i l.length with hi | hi
    · rw [rkL_getD hi]; omega
    · rw [List.getD_eq_getElem?_getD, List.getElem?_eq_none (by rw [rkL_len]; exact hi)]; simp
  rw [chkO_eq]
  refine if_pos ⟨h0, by rw [mkO_prec]; exact hrk, ?_⟩
  unfold mkO
  cases lpo with
  | true => exact .inl rfl
  | false =>
    right
    rw [if_neg (by decide)]
    refine decide_eq_true ⟨by show (wtL _ _ _ _ _).length = _; rw [wtL_len, rkL_len], (by show (1 : Int) ≤ 1; decide), (by show (1 : Int) ≤ 1000; decide), ?_, chkW_yes fun i hi => ?_⟩
    · show (wtL l n wb top (rkLs l n b l.length)).getD 0 0 = 1
      rw [getD_of (wtL_get (by rw [rkL_len]; exact hl0))]
      unfold wtR
      have h00 : arP l 0 = 0 := by
        have := (chk_one h0).2.1
        unfold arP; rw [this]; rfl
      rw [if_neg (fun e => by rw [h00] at e; exact absurd e.2.1 (by decide)), if_pos rfl]
      decide
    · obtain ⟨s, hs⟩ : ∃ s, l[i]? = some s := ⟨_, List.getElem?_eq_getElem hi⟩
      have hx := wtL_get (l := l) (n := n) (w := wb) (top := top) (rk := rkLs l n b l.length) (i := i) (by rw [rkL_len]; exact hi)
      rw [badW_at hs hx]
      have ha : arP l i = s.arity := by unfold arP; rw [hs]; rfl
      have hw := wgX_pos (wb := wb) (har i).1 (hn i) (hpos i)
      show badX s (wtR l n wb top (rkLs l n b l.length) i) 1 (highB (rkLs l n b l.length) i) = false
      unfold badX wtR
      rw [ha]
      by_cases ht : top = true ∧ s.arity = 1 ∧ highB (rkLs l n b l.length) i = true
      · rw [if_pos ht, ht.2.1, ht.2.2]; decide
      · rw [if_neg ht]
        have h1 : 1 ≤ (if i = 0 then 1 else wgX l n wb (rkLs l n b l.length) i) := by split <;> omega
        obtain ⟨y, hy⟩ : ∃ y, (if i = 0 then (1 : Int) else wgX l n wb (rkLs l n b l.length) i) = y := ⟨_, rfl⟩
        rw [hy] at h1 ⊢
        have h2 : 1 ≤ min y 1000 := by omega
        have h3 : min y 1000 ≤ 1000 := by omega
        obtain ⟨z, hz⟩ : ∃ z, min y 1000 = z := ⟨_, rfl⟩
        rw [hz] at h2 h3 ⊢
        rw [decide_eq_false (by omega : ¬ z < 0), decide_eq_false (by omega : ¬ 1000 < z), decide_eq_false (by omega : ¬ z < 1), decide_eq_false (by omega : ¬ z = 0)]
        simp
theorem mk_yes (l : List Sm) (cl : List (List Lp)) (b wb : Int) (lpo top : Bool) (As Aq : Option Addr) (cs cq : Nat) (w : World) (hno : cntNo l cl = false) (hnm : nameB b wb = true) (hS : Syms w w.heap.size As l.length l) (hn : l.length * 32 ≤ 140737488351232) (ht : tru w) (hC : ClRow w (· < w.heap.size) Aq cl) (hz : (itms cl).length ≤ 281474976710656) :
    Calls Tryz.prog 5 #[.agg #[.slice As l.length cs], .slice Aq cl.length cq, .agg #[.bool lpo, .int .i64 b, .int .i64 wb, .bool top]] w fun e w' => ∃ P Q, e = .returned (.tuple #[.agg #[.bool (mkO l (cntN l cl) lpo top b wb).lpo, .slice P (mkO l (cntN l cl) lpo top b wb).prec.length (mkO l (cntN l cl) lpo top b wb).prec.length, .slice Q (mkO l (cntN l cl) lpo top b wb).wts.length (mkO l (cntN l cl) lpo top b wb).wts.length, .int .i64 (mkO l (cntN l cl) lpo top b wb).var], .int .i64 0]) ∧
      Below w.heap.size w w' ∧ OdrM w' w'.heap.size (mkO l (cntN l cl) lpo top b wb) P Q := by
  refine (make_any l cl b wb lpo top As Aq cs cq w hS hn ht hC hz).mono ?_
  rintro e w' ⟨hbl, hp⟩
  have hb : checkI l = 0 ∧ okI l (itms cl) = true := by unfold cntNo at hno; simpa using hno
  have h96 := (chk_one hb.1).1
  have hr64 : ∀ x ∈ rkLs l (cntN l cl) b l.length, I64 x := by
    intro x hx
    obtain ⟨i, hi, rfl⟩ := List.getElem_of_mem hx
    rw [rkL_len] at hi
    have := rkL_getD (l := l) (n := cntN l cl) (b := b) hi
    rw [getD_el (by rw [rkL_len]; exact hi)] at this
    rw [this]
    have := rnkR_less l (cntN l cl) b hi
    exact ⟨by omega, by omega⟩
  rw [hno, hnm] at hp
  simp only [Bool.false_eq_true, Bool.true_eq_false, or_self, if_false] at hp
  cases lpo with
  | true =>
    rw [if_pos rfl] at hp
    obtain ⟨g, rfl, hg, h1⟩ := hp
    have he : mkO l (cntN l cl) true top b wb = ⟨true, rkLs l (cntN l cl) b l.length, [], 0⟩ := if_pos rfl
    rw [he]
    refine ⟨some ⟨g, 0, none⟩, none, by simp [rkL_len], hbl, ⟨(ints_of h1 (by rw [rkL_len]; omega) hr64).more (Array.getElem?_eq_some_iff.1 h1).1, ⟨by simp, by simp, fun h => by simp at h⟩, ⟨(by show (-9223372036854775808 : Int) ≤ 0; decide), (by show (0 : Int) ≤ 9223372036854775807; decide)⟩⟩⟩
  | false =>
    rw [if_neg (by decide)] at hp
    obtain ⟨g, g2, rfl, hg, hg2, h1, h2⟩ := hp
    have he : mkO l (cntN l cl) false top b wb = ⟨false, rkLs l (cntN l cl) b l.length, wtL l (cntN l cl) wb top (rkLs l (cntN l cl) b l.length), 1⟩ := if_neg (by decide)
    rw [he]
    have hw64 : ∀ x ∈ wtL l (cntN l cl) wb top (rkLs l (cntN l cl) b l.length), I64 x := by
      intro x hx
      obtain ⟨i, hi, rfl⟩ := List.getElem_of_mem hx
      rw [wtL_len] at hi
      have h9 := wtL_get (l := l) (n := cntN l cl) (w := wb) (top := top) hi
      rw [List.getElem?_eq_getElem (by rw [wtL_len]; exact hi)] at h9
      rw [Option.some.inj h9]
      rw [rkL_len] at hi
      have hw := wgX_pos (wb := wb) (rk := rkLs l (cntN l cl) b l.length) (chk_ar hb.1 i).1 (cntN_le hz hb.2 i).1 (by rw [rkL_getD hi]; omega)
      unfold wtR
      split
      · exact ⟨by decide, by decide⟩
      · split <;> exact ⟨by omega, by omega⟩
    refine ⟨some ⟨g, 0, none⟩, some ⟨g2, 0, none⟩, by simp [rkL_len, wtL_len], hbl, ⟨(ints_of h1 (by rw [rkL_len]; omega) hr64).more (Array.getElem?_eq_some_iff.1 h1).1, (ints_of h2 (by rw [wtL_len, rkL_len]; omega) hw64).more (Array.getElem?_eq_some_iff.1 h2).1, ⟨(by show (-9223372036854775808 : Int) ≤ 1; decide), (by show (1 : Int) ≤ 9223372036854775807; decide)⟩⟩⟩
theorem mk_no (l : List Sm) (cl : List (List Lp)) (b wb : Int) (lpo top : Bool) (As Aq : Option Addr) (cs cq : Nat) (w : World) (hno : cntNo l cl = true ∨ nameB b wb = false) (hS : Syms w w.heap.size As l.length l) (hn : l.length * 32 ≤ 140737488351232) (ht : tru w) (hC : ClRow w (· < w.heap.size) Aq cl) (hz : (itms cl).length ≤ 281474976710656) :
    Calls Tryz.prog 5 #[.agg #[.slice As l.length cs], .slice Aq cl.length cq, .agg #[.bool lpo, .int .i64 b, .int .i64 wb, .bool top]] w fun e w' => e = .returned (.tuple #[.agg #[.bool false, .slice none 0 0, .slice none 0 0, .int .i64 0], .int .i64 2]) ∧ Below w.heap.size w w' := by
  refine (make_any l cl b wb lpo top As Aq cs cq w hS hn ht hC hz).mono ?_
  rintro e w' ⟨hbl, hp⟩
  rw [if_pos hno] at hp
  exact ⟨hp, hbl⟩
end Go.Proofs.YthgglobfkkcdgaaGreatDoor
namespace Go.Proofs.YthgglobfkkcdgaaGreatDoor
open Go Go.RowKit Go.Shelf
set_option maxRecDepth 100000
def tS : List Sm := [truthSm, ⟨⟨#[97]⟩, 0, false⟩, ⟨⟨#[98]⟩, 0, false⟩, ⟨⟨#[103]⟩, 1, false⟩, ⟨⟨#[112]⟩, 1, true⟩]
set_option maxHeartbeats 1000000 in
theorem topSig_any (w : World) :
    Calls Tryz.prog 14 #[] w fun e w' => ∃ b, e = .returned (.agg #[.slice (some ⟨b, 0, none⟩) 5 5]) ∧ Syms w' w'.heap.size (some ⟨b, 0, none⟩) 5 tS ∧ Below w.heap.size w w' := by
  have q0 := heap_alloc_new w (.cells #[.slice none 0 0] 24)
  obtain ⟨W, hW⟩ : ∃ W, w.alloc (.cells #[.slice none 0 0] 24) = W := ⟨_, rfl⟩
  have hB : Below w.heap.size w W := by rw [← hW]; exact (Below.refl _ _).alloc (Nat.le_refl _) _
  rw [hW] at q0
  have hz : w.heap.size < W.heap.size := (Array.getElem?_eq_some_iff.1 q0).1
  have HW := Lib.hid hW
  have vq := fun o => (Below.heap_alloc W o _ hz).trans q0
  have f0 := fun o => (cells_one (vq o)).1
  have f1 := fun o => (cells_one (vq o)).2
  have HQ0 := Lib.hid q0
  clear hW q0 vq
  go_enter Tryz.func14, Tryz.ntmps14
  go_upto_region 1 with fail
  rw [HW.out]
  go_wp2
  obtain ⟨W1, hW1⟩ : ∃ W1, W.setCell ⟨w.heap.size, 0, none⟩ (.slice (some ⟨W.heap.size, 0, none⟩) 5 5) = W1 := ⟨_, rfl⟩
  have z1 : W1.heap.size = W.heap.size := by rw [← hW1]; simp
  have q1 : W1.heap[w.heap.size]? = some (.cells #[.slice (some ⟨W.heap.size, 0, none⟩) 5 5] 24) := by rw [← hW1]; exact Boxed.set (.slice (some ⟨W.heap.size, 0, none⟩) 5 5) HQ0.out
  have hB1 : Below w.heap.size w W1 := by rw [← hW1]; exact hB.setCell (Nat.le_refl _) _
  rw [hW1]
  obtain ⟨V, hV⟩ : ∃ V, W1.alloc (.cells #[.string ⟨#[36, 116, 114, 117, 101]⟩, .int .i64 0, .bool true, .string ⟨#[97]⟩, .int .i64 0, .bool false, .string ⟨#[98]⟩, .int .i64 0, .bool false, .string ⟨#[103]⟩, .int .i64 1, .bool false, .string ⟨#[112]⟩, .int .i64 1, .bool true] 67) = V := ⟨_, rfl⟩
  have v1 : V.heap[W.heap.size]? = some (.cells #[.string ⟨#[36, 116, 114, 117, 101]⟩, .int .i64 0, .bool true, .string ⟨#[97]⟩, .int .i64 0, .bool false, .string ⟨#[98]⟩, .int .i64 0, .bool false, .string ⟨#[103]⟩, .int .i64 1, .bool false, .string ⟨#[112]⟩, .int .i64 1, .bool true] 67) := by rw [← hV, ← z1]; exact heap_alloc_new _ _
  have vr := (cells_one ((Below.heap_alloc W1 (.cells #[.string ⟨#[36, 116, 114, 117, 101]⟩, .int .i64 0, .bool true, .string ⟨#[97]⟩, .int .i64 0, .bool false, .string ⟨#[98]⟩, .int .i64 0, .bool false, .string ⟨#[103]⟩, .int .i64 1, .bool false, .string ⟨#[112]⟩, .int .i64 1, .bool true] 67) _ (by omega)).trans q1)).1
  have hBV : Below w.heap.size w V := by rw [← hV]; exact hB1.alloc hB1.size _
  rw [hV] at vr ⊢
  refine bodyPost_ret (v := .agg #[.slice (some ⟨W.heap.size, 0, none⟩) 5 5]) (by simp [results, Tryz.results14, go_sem, vr]) rfl ⟨W.heap.size, rfl, Syms.of_flat rfl ?_ fun _ => ⟨W.heap.size, 0, rfl, (Array.getElem?_eq_some_iff.1 v1).1, fun j u hu => cells_rowP v1 ?_⟩, hBV⟩
  · intro x hx
    simp only [tS, List.mem_cons, List.not_mem_nil, or_false] at hx
    rcases hx with rfl | rfl | rfl | rfl | rfl <;> exact ⟨by decide, by decide, by decide⟩
  · have e : (tS.flatMap Sm.cells) = [.string ⟨#[36, 116, 114, 117, 101]⟩, .int .i64 0, .bool true, .string ⟨#[97]⟩, .int .i64 0, .bool false, .string ⟨#[98]⟩, .int .i64 0, .bool false, .string ⟨#[103]⟩, .int .i64 1, .bool false, .string ⟨#[112]⟩, .int .i64 1, .bool true] := rfl
    rw [e] at hu
    simpa using hu
def tO : Odr := mkO tS (cntN tS []) false false 0 0
theorem t_no : cntNo tS [] = false := by decide +kernel
theorem t_lpo : tO.lpo = false := rfl
theorem t_var : tO.var = 1 := rfl
theorem t_pl : tO.prec.length = 5 := by decide +kernel
theorem t_wl : tO.wts.length = 5 := by decide +kernel
theorem t_w1 : ordV tO (.node 3 [.node 1 []]) (.node 1 []) = 3 := by decide +kernel
theorem t_w2 : ordV tO (.node 1 []) (.node 2 []) = 1 := by decide +kernel
structure TopX (w1 : World) (b : Nat) (P Q : Option Addr) (bo : Nat) : Prop where
  a0 : w1.cell? ⟨b, 0, none⟩ = some (.int .i64 1)
  a1 : w1.cell? ⟨b, 1, none⟩ = some (.slice none 0 0)
  o0 : w1.cell? ⟨bo, 0, none⟩ = some (.bool false)
  o1 : w1.cell? ⟨bo, 1, none⟩ = some (.slice P 5 5)
  o2 : w1.cell? ⟨bo, 2, none⟩ = some (.slice Q 5 5)
  o3 : w1.cell? ⟨bo, 3, none⟩ = some (.int .i64 1)
set_option maxHeartbeats 4000000 in
theorem topOrders0_any (w : World) (ht : tru w) :
    Calls Tryz.prog 4 #[] w fun e w' => e = .returned (.bool true) ∧ Below w.heap.size w w' := by
  have HT := Lib.hid ht
  have HMk : Hid (∀ (w1 : World) (b : Nat), Syms w1 w1.heap.size (some ⟨b, 0, none⟩) 5 tS → tru w1 → Calls Tryz.prog 5 #[.agg #[.slice (some ⟨b, 0, none⟩) 5 5], .slice none 0 0, .agg #[.bool false, .int .i64 0, .int .i64 0, .bool false]] w1 fun e w' => ∃ P Q, e = .returned (.tuple #[.agg #[.bool false, .slice P 5 5, .slice Q 5 5, .int .i64 1], .int .i64 0]) ∧ Below w1.heap.size w1 w' ∧ OdrM w' w'.heap.size tO P Q) := Lib.hid fun w1 b hS ht1 => by
    have h := mk_yes tS [] 0 0 false false (some ⟨b, 0, none⟩) none 5 0 w1 t_no (by decide) hS (by decide) ht1 ⟨by decide, fun h => by simp at h⟩ (by decide)
    refine Calls.mono h ?_
    rintro e w' ⟨P, Q, he, hb, hM⟩
    have hM' : OdrM w' w'.heap.size tO P Q := hM
    refine ⟨P, Q, ?_, hb, hM'⟩
    rw [he]
    have e1 : (mkO tS (cntN tS []) false false 0 0).prec.length = 5 := t_pl
    have e2 : (mkO tS (cntN tS []) false false 0 0).wts.length = 5 := t_wl
    have e3 : (mkO tS (cntN tS []) false false 0 0).lpo = false := t_lpo
    have e4 : (mkO tS (cntN tS []) false false 0 0).var = 1 := t_var
    rw [e1, e2, e3, e4]
  have HC1 : Hid (∀ (w1 : World) (P Q : Option Addr) (b : Nat), OdrM w1 w1.heap.size tO P Q → w1.heap[b]? = some (.cells #[.int .i64 1, .slice none 0 0] 32) → Calls Tryz.prog 8 #[.agg #[.bool false, .slice P 5 5, .slice Q 5 5, .int .i64 1], .agg #[.int .i64 3, .slice (some ⟨b, 0, none⟩) 1 1], .agg #[.int .i64 1, .slice none 0 0]] w1 fun e w' => e = .returned (.int .i64 3) ∧ Below w1.heap.size w1 w') := Lib.hid fun w1 P Q b hM hr => by
    have hG : ArgsK w1 (· < w1.heap.size) (some ⟨b, 0, none⟩) 1 [.node 1 []] := argsK_one (t := .node 1 []) hr (Array.getElem?_eq_some_iff.1 hr).1 (i64s _ (by decide) (by decide)) (.nil _ _)
    have h := oCmp_any tO (.node 3 [.node 1 []]) (.node 1 []) P Q (some ⟨b, 0, none⟩) none 5 5 1 0 w1 (by rw [t_pl]; decide) hM ⟨i64s _ (by decide) (by decide), hG⟩ ⟨i64s _ (by decide) (by decide), .nil _ _⟩ (by decide)
    rw [t_w1, t_pl, t_wl, t_lpo, t_var] at h
    exact h
  have HC2 : Hid (∀ (w1 : World) (P Q : Option Addr), OdrM w1 w1.heap.size tO P Q → Calls Tryz.prog 8 #[.agg #[.bool false, .slice P 5 5, .slice Q 5 5, .int .i64 1], .agg #[.int .i64 1, .slice none 0 0], .agg #[.int .i64 2, .slice none 0 0]] w1 fun e w' => e = .returned (.int .i64 1) ∧ Below w1.heap.size w1 w') := Lib.hid fun w1 P Q hM => by
    have h := oCmp_any tO (.node 1 []) (.node 2 []) P Q none none 5 5 0 0 w1 (by rw [t_pl]; decide) hM ⟨i64s _ (by decide) (by decide), .nil _ _⟩ ⟨i64s _ (by decide) (by decide), .nil _ _⟩ (by decide)
    rw [t_w2, t_pl, t_wl, t_lpo, t_var] at h
    exact h
  clear ht
  go_enter Tryz.func4, Tryz.ntmps4
  go_upto_region 2 with (first
    | (go_at_call 14; (with_reducible refine (topSig_any _).mono ?_); go_must (rintro e w1 ⟨b, rfl, hS, hb1⟩; have HS := Lib.hid hS; have HB1 := Lib.hid hb1; have HT1 := Lib.hid (tru_below HT.out hb1); clear hS hb1))
    | (go_at_call 5; (with_reducible refine (HMk.out _ _ HS.out HT1.out).mono ?_); go_must (rintro e w2 ⟨P, Q, rfl, hb2, hM⟩; have HM := Lib.hid hM; have HB2 := Lib.hid (bl_step HB1.out hb2); clear hM hb2))
    | fail)
  obtain ⟨W3, hW3⟩ : ∃ W3, w2.alloc (.cells #[.bool false, .slice P 5 5, .slice Q 5 5, .int .i64 1] 38) = W3 := ⟨_, rfl⟩
  have q3 : W3.heap[w2.heap.size]? = some (.cells #[.bool false, .slice P 5 5, .slice Q 5 5, .int .i64 1] 38) := by rw [← hW3]; exact heap_alloc_new _ _
  have hb3 : Below w2.heap.size w2 W3 := by rw [← hW3]; exact (Below.refl _ _).alloc (Nat.le_refl _) _
  have HB3 := Lib.hid (bl_step HB2.out hb3)
  have HM3 := Lib.hid (HM.out.on hb3)
  have HW3 := Lib.hid hW3
  have Hq3 := Lib.hid q3
  clear hW3 q3 hb3
  rw [HW3.out]
  go_upto_region 3 with fail
  obtain ⟨W4, hW4⟩ : ∃ W4, W3.alloc (.cells #[.int .i64 1, .slice none 0 0] 32) = W4 := ⟨_, rfl⟩
  have hb4 : Below W3.heap.size W3 W4 := by rw [← hW4]; exact (Below.refl _ _).alloc (Nat.le_refl _) _
  have q4 : W4.heap[W3.heap.size]? = some (.cells #[.int .i64 1, .slice none 0 0] 32) := by rw [← hW4]; exact heap_alloc_new _ _
  have q3' := (hb4.block _ (Array.getElem?_eq_some_iff.1 Hq3.out).1).trans Hq3.out
  have HX : Hid (∀ w', Below W4.heap.size W4 w' → TopX w' W3.heap.size P Q w2.heap.size) := Lib.hid fun w' h => by
    obtain ⟨a0, a1, _, _⟩ := cells_two ((h.block _ (Array.getElem?_eq_some_iff.1 q4).1).trans q4)
    obtain ⟨o0, o1, o2, o3⟩ := cells_four ((h.block _ (Array.getElem?_eq_some_iff.1 q3').1).trans q3')
    exact ⟨a0, a1, o0, o1, o2, o3⟩
  have HB4 := Lib.hid (bl_step HB3.out hb4)
  have HM4 := Lib.hid (HM3.out.on hb4)
  have HW4 := Lib.hid hW4
  have hb5 : Below W4.heap.size W4 (W4.alloc (.cells #[.int .i64 1, .slice none 0 0] 32)) := (Below.refl _ _).alloc (Nat.le_refl _) _
  have HB5 := Lib.hid hb5
  have H5 := Lib.hid (HC1.out _ P Q W4.heap.size (HM4.out.on hb5) (heap_alloc_new W4 (.cells #[.int .i64 1, .slice none 0 0] 32)))
  obtain ⟨a0, a1, o0, o1, o2, o3⟩ := HX.out W4 (Below.refl _ _)
  obtain ⟨b0, b1, p0, p1, p2, p3⟩ := HX.out _ hb5
  clear hW4 q4 q3' hb4 hb5
  rw [HW4.out]
  go_wp2_with (first
    | (go_at_call 8; first
      | ((with_reducible refine H5.out.mono ?_); go_must (rintro e w6 ⟨rfl, hb6⟩; have hB6 := HB5.out.trans (hb6.mono HB5.out.size); obtain ⟨c0, c1, r0, r1, r2, r3⟩ := HX.out w6 hB6; have H6 := Lib.hid (HC2.out w6 P Q (HM4.out.on hB6)); have HB6 := Lib.hid (bl_step HB4.out hB6); clear hb6 hB6 H5))
      | ((with_reducible refine H6.out.mono ?_); go_must (rintro e w7 ⟨rfl, hb7⟩; have HB7 := Lib.hid (bl_step HB6.out hb7))))
    | fail)
  go_ret
  exact ⟨ret_bool rfl, HB7.out⟩
def prB (sy : List Sm) (t : Tm) : Bool := decide (chkP sy t = 0) && (decide (t.size ≤ 30) && !prdB sy t.fn)
theorem prB_yes {sy : List Sm} {t : Tm} (h : prB sy t = true) : chkP sy t = 0 ∧ t.size ≤ 30 := by
  unfold prB at h
  simp only [Bool.and_eq_true, decide_eq_true_eq] at h
  exact ⟨h.1, h.2.1⟩
set_option maxHeartbeats 2000000 in
theorem proper_any (sy : List Sm) (t : Tm) (As A : Option Addr) (n cs c : Nat) (w : World) (hsz : t.size ≤ 4611686018427387904) (hS : Syms w w.heap.size As n sy) (hn : n * 32 ≤ 140737488351232) (hf : I64 t.fn) (hA : Args w w.heap.size A t.args) :
    Calls Tryz.prog 6 #[.agg #[.slice As n cs], .agg #[.int .i64 t.fn, .slice A t.args.length c]] w fun e w' => e = .returned (.bool (prB sy t)) ∧ Below w.heap.size w w' := by
  obtain rfl := hS.len
  obtain ⟨p0, p1⟩ := heap2 w (.cells #[.slice As sy.length cs] 24) (.cells #[.int .i64 t.fn, .slice A t.args.length c] 32)
  obtain ⟨W, hW⟩ : ∃ W, ((w.alloc (.cells #[.slice As sy.length cs] 24)).alloc (.cells #[.int .i64 t.fn, .slice A t.args.length c] 32)) = W := ⟨_, rfl⟩
  have hB : Below w.heap.size w W := by rw [← hW]; exact ((Below.refl _ _).alloc (Nat.le_refl _) _).alloc (by simp) _
  rw [hW] at p0 p1
  have hWs : w.heap.size + 1 < W.heap.size := (Array.getElem?_eq_some_iff.1 p1).1
  have HW := Lib.hid hW
  have HB := Lib.hid hB
  have HS := Lib.hid (hS.on hB)
  have HA := Lib.hid (hA.on hB)
  have HX : Hid (∀ w', Below W.heap.size W w' → w'.cell? ⟨w.heap.size, 0, none⟩ = some (.slice As sy.length cs) ∧ w'.cell? ⟨w.heap.size + 1, 0, none⟩ = some (.int .i64 t.fn) ∧ w'.cell? ⟨w.heap.size + 1, 1, none⟩ = some (.slice A t.args.length c)) := Lib.hid fun w' h =>
    ⟨(cells_one ((h.block _ (by omega)).trans p0)).1, (cells_two ((h.block _ hWs).trans p1)).1, (cells_two ((h.block _ hWs).trans p1)).2.1⟩
  obtain ⟨x, hx⟩ : ∃ x, chkP sy t = x := ⟨_, rfl⟩
  have HC := Lib.hid (ref2ChkP_any sy t As A sy.length cs c W hsz HS.out hn hf HA.out)
  rw [hx] at HC
  have HZ : Hid (∀ w', Below W.heap.size W w' → Calls Tryz.prog 20 #[.agg #[.int .i64 t.fn, .slice A t.args.length c]] w' fun e w'' => e = .returned (.int .i64 (t.size : Int)) ∧ Below w'.heap.size w' w'') := Lib.hid fun w' h => refSize_any t hsz A c w' hf (HA.out.on h)
  obtain ⟨x0, x1, x2⟩ := HX.out W (Below.refl _ _)
  have hpr : prB sy t = (decide (x = 0) && (decide (t.size ≤ 30) && !prdB sy t.fn)) := by unfold prB; rw [hx]
  clear hW hB hS hA p0 p1 hWs
  by_cases h0 : x = 0
  · subst h0
    have hz3 : ((t.size : Int) ≤ 30) ↔ t.size ≤ 30 := by omega
    by_cases h30 : t.size ≤ 30
    · have g30 : decide ((t.size : Int) ≤ 30) = true := decide_eq_true (by omega)
      rw [decide_eq_true h30] at hpr
      by_cases hf0 : t.fn < 0
      · have hp : prdB sy t.fn = false := by unfold prdB; rw [if_neg (by omega)]
        rw [hp] at hpr
        have g0 : decide (t.fn < 0) = true := decide_eq_true hf0
        have Hpr := Lib.hid hpr
        clear hz3 hx hpr h30 hp hf0 hsz
        go_enter Tryz.func6, Tryz.ntmps6
        go_upto_region 1 with fail
        rw [HW.out]
        go_wp2_with (first
          | (go_at_call 19; (with_reducible refine HC.out.mono ?_); go_must (rintro e w1 ⟨rfl, hb1⟩; obtain ⟨y0, y1, y2⟩ := HX.out w1 hb1))
          | (go_at_call 20; (with_reducible refine (HZ.out w1 hb1).mono ?_); go_must (rintro e w2 ⟨rfl, hb2⟩; have hB2 := bl_step hb1 hb2; obtain ⟨z0, z1, z2⟩ := HX.out w2 hB2))
          | fail)
        go_ret
        exact ⟨ret_bool (by rw [Hpr.out]; rfl), HB.out.trans (hB2.mono HB.out.size)⟩
      · obtain ⟨k, hk⟩ : ∃ k : Nat, t.fn = (k : Int) := ⟨t.fn.toNat, by omega⟩
        have hkl := chkP_top hx (by omega)
        obtain ⟨s, hs⟩ : ∃ s, sy[k]? = some s := ⟨_, List.getElem?_eq_getElem (by omega)⟩
        obtain ⟨sb, so, hAs, hsb, hsc⟩ := HS.out.ad (by omega)
        have e5 := (hsc _ _ hs).2.2
        have hp : prdB sy t.fn = s.pred := by unfold prdB; rw [if_pos (by omega), hk, Int.toNat_natCast, hs]
        rw [hp] at hpr
        subst hAs
        rw [hk] at x1 HC HZ HX hkl
        have hkl2 : (k : Int) < (sy.length : Int) := hkl
        have g0 : decide ((k : Int) < 0) = false := decide_eq_false (by omega)
        have Hpr := Lib.hid hpr
        have HE : Hid (∀ w', Below W.heap.size W w' → w'.cell? ⟨sb, so + k * 3 + 2, none⟩ = some (.bool s.pred)) := Lib.hid fun w' h => cell_on h hsb e5
        have hf1 : I64 (k : Int) := by rw [← hk]; exact hf
        clear hz3 hx hpr h30 hp hf0 hsz hs hsc e5 hk hkl hf
        go_enter Tryz.func6, Tryz.ntmps6
        go_upto_region 1 with fail
        rw [HW.out]
        go_wp2_with (first
          | (go_at_call 19; (with_reducible refine HC.out.mono ?_); go_must (rintro e w1 ⟨rfl, hb1⟩; obtain ⟨y0, y1, y2⟩ := HX.out w1 hb1))
          | (go_at_call 20; (with_reducible refine (HZ.out w1 hb1).mono ?_); go_must (rintro e w2 ⟨rfl, hb2⟩; have hB2 := bl_step hb1 hb2; obtain ⟨z0, z1, z2⟩ := HX.out w2 hB2; have z3 := HE.out w2 hB2))
          | fail)
        go_ret
        exact ⟨ret_bool (by rw [Hpr.out]; simp), HB.out.trans (hB2.mono HB.out.size)⟩
    · have g30 : decide ((t.size : Int) ≤ 30) = false := decide_eq_false (by omega)
      rw [decide_eq_false h30] at hpr
      have Hpr := Lib.hid hpr
      clear hz3 hx hpr h30 hsz
      go_enter Tryz.func6, Tryz.ntmps6
      go_upto_region 1 with fail
      rw [HW.out]
      go_wp2_with (first
        | (go_at_call 19; (with_reducible refine HC.out.mono ?_); go_must (rintro e w1 ⟨rfl, hb1⟩; obtain ⟨y0, y1, y2⟩ := HX.out w1 hb1))
        | (go_at_call 20; (with_reducible refine (HZ.out w1 hb1).mono ?_); go_must (rintro e w2 ⟨rfl, hb2⟩; have hB2 := bl_step hb1 hb2; obtain ⟨z0, z1, z2⟩ := HX.out w2 hB2))
        | fail)
      go_ret
      exact ⟨ret_bool (by rw [Hpr.out]; rfl), HB.out.trans (hB2.mono HB.out.size)⟩
  · have g0 : ((x : Int) == 0) = false := by simpa using h0
    rw [decide_eq_false h0] at hpr
    have Hpr := Lib.hid hpr
    clear hx hpr h0 hsz
    go_enter Tryz.func6, Tryz.ntmps6
    go_upto_region 1 with fail
    rw [HW.out]
    go_wp2_with (first
      | (go_at_call 19; (with_reducible refine HC.out.mono ?_); go_must (rintro e w1 ⟨rfl, hb1⟩; obtain ⟨y0, y1, y2⟩ := HX.out w1 hb1))
      | fail)
    go_ret
    exact ⟨ret_bool (by rw [Hpr.out]; rfl), HB.out.trans (hb1.mono HB.out.size)⟩
theorem topTurn_any (r : Int) (w : World) : Calls Tryz.prog 9 #[.int .i64 r] w fun e w' => e = .returned (.int .i64 (turnI r)) ∧ Below w.heap.size w w' := by
  unfold turnI
  by_cases h1 : r = 1
  · subst h1
    go_enter Tryz.func9, Tryz.ntmps9
    go_wp2
    go_ret
    exact ⟨rfl, Below.refl _ _⟩
  · by_cases h3 : r = 3
    · subst h3
      go_enter Tryz.func9, Tryz.ntmps9
      go_wp2
      go_ret
      exact ⟨rfl, Below.refl _ _⟩
    · rw [if_neg h1, if_neg h3]
      have e1 : ((r : Int) == 1) = false := by simpa using h1
      have e3 : ((r : Int) == 3) = false := by simpa using h3
      go_enter Tryz.func9, Tryz.ntmps9
      go_wp2
      go_ret
      exact ⟨rfl, Below.refl _ _⟩
end Go.Proofs.YthgglobfkkcdgaaGreatDoor
namespace Go.Proofs.YthgglobfkkcdgaaGreatDoor
open Go.RowKit Go.Shelf
set_option maxRecDepth 100000
structure RowTK (w : World) (base : Nat) (v : Value) (l : List Ti) (N : Nat → Prop) : Prop where
  row : w.ownsRow base 32 2 v l.length (l.flatMap Ti.cells)
  i64 : ∀ x ∈ l, I64 x.t.fn
  sub : ∀ x ∈ l, ArgsK w N x.A x.c x.t.args
section
variable {w w' : World} {base base' : Nat} {v : Value} {l : List Ti} {N M : Nat → Prop}
theorem RowTK.nil_ (w : World) (base : Nat) (N : Nat → Prop) : RowTK w base (.slice none 0 0) [] N :=
  ⟨World.ownsRow_nil w _ _ _, fun x hx => by simp at hx, fun x hx => by simp at hx⟩
theorem RowTK.keep (h : RowTK w base v l N) (hv : ∀ g, v.ownBlock = some g → w'.heap[g]? = w.heap[g]?) (hN : ∀ g, N g → w'.heap[g]? = w.heap[g]?) : RowTK w' base v l N :=
  ⟨row_keep h.row hv, h.i64, fun x hx => (h.sub x hx).keep hN⟩
theorem RowTK.wide (h : RowTK w base v l N) (hk : ∀ g, N g → M g) : RowTK w base v l M := ⟨h.row, h.i64, fun x hx => (h.sub x hx).wide hk⟩
theorem RowTK.argsK (h : RowTK w base v l N) (hl : l.length ≤ 9223372036854775807) (hv : ∀ g, v.ownBlock = some g → M g) (hN : ∀ g, N g → M g) : ∃ A c, v = .slice A l.length c ∧ ArgsK w M A c (l.map Ti.t) := by
  rcases h.row.2 with ⟨rfl, h0⟩ | ⟨g, cap, cur, rfl, hb, hg, hcap, _⟩
  · obtain rfl : l = [] := List.eq_nil_of_length_eq_zero h0
    exact ⟨none, 0, rfl, .nil _ _⟩
  · refine ⟨_, _, rfl, .row g 0 cap _ (fun i => ((l[i]?).map Ti.A).getD none) (fun i => ((l[i]?).map Ti.c).getD 0) (by simpa using hcap) (hv g rfl) (by simpa using hl) (fun i t e => ?_) (fun i t e => ?_) (fun i t e => ?_) fun i t e => ?_⟩
    all_goals
      rw [List.getElem?_map] at e
      cases hx : l[i]? with
      | none => rw [hx] at e; cases e
      | some x =>
        rw [hx] at e
        injection e with e
        subst e
        have hlt := (List.getElem?_eq_some_iff.1 hx).1
        have hm := List.mem_of_getElem? hx
        have q0 := ti_get l i 0 (by omega)
        have q1 := ti_get l i 1 (by omega)
        have c0 := h.row.cellAt (i * 2) (by omega)
        have c1 := h.row.cellAt (i * 2 + 1) (by omega)
        rw [Nat.add_zero, hx] at q0
        rw [hx] at q1
        rw [q0] at c0
        rw [q1] at c1
        try simp only [Option.map_some, Option.getD_some]
        try rw [Nat.zero_add]
        first | exact h.i64 x hm | exact c0 | exact c1 | exact (h.sub x hm).wide hN
theorem RowTK.push {x : Ti} {v' : Value} (h : RowTK w base v l N) (hrow : w'.ownsRow base 32 2 v' (l.length + 1) (l.flatMap Ti.cells ++ x.cells)) (hi : I64 x.t.fn) (hx : ArgsK w' M x.A x.c x.t.args) (hk : ∀ g, N g → w'.heap[g]? = w.heap[g]?) (hNM : ∀ g, N g → M g) : RowTK w' base v' (l ++ [x]) M := by
  refine ⟨?_, ?_, ?_⟩
  · rw [List.length_append, List.flatMap_append]
    simpa using hrow
  · intro y hy
    rcases List.mem_append.1 hy with hy | hy
    · exact h.i64 y hy
    · simp only [List.mem_cons, List.not_mem_nil, or_false] at hy
      subst hy; exact hi
  · intro y hy
    rcases List.mem_append.1 hy with hy | hy
    · exact ((h.sub y hy).keep hk).wide hNM
    · simp only [List.mem_cons, List.not_mem_nil, or_false] at hy
      subst hy; exact hx
end
def RCopyPostK (t : Tm) (w : World) (e : Ending) (w' : World) : Prop := ∃ v l, e = .returned (.agg #[.int .i64 t.fn, v]) ∧ l.map Ti.t = t.args ∧ RowTK w' w.heap.size v l (Apart w.heap.size v w') ∧ Below w.heap.size w w'
def RCopyAtK (t : Tm) : Prop := t.size ≤ 4398046511104 → ∀ (A : Option Addr) (c : Nat) (w : World), I64 t.fn → Args w w.heap.size A t.args → Calls Tryz.prog 27 #[.agg #[.int .i64 t.fn, .slice A t.args.length c]] w (RCopyPostK t w)
structure RCopyIK (w wr : World) (f : Int) (xs : List Tm) (k : Nat) (v : Value) (l : List Ti) : Prop where
  box : wr.heap[w.heap.size + 2]? = some (.cells #[.int .i64 f, v] 32)
  key : l.map Ti.t = xs.take k
  row : RowTK wr (w.heap.size + 3) v l (Apart (w.heap.size + 3) v wr)
theorem RCopyIK.len {w wr : World} {f : Int} {xs : List Tm} {k : Nat} {v : Value} {l : List Ti} (h : RCopyIK w wr f xs k v l) (hk : k ≤ xs.length) : l.length = k := by
  have := congrArg List.length h.key
  simpa [Nat.min_eq_left hk] using this
theorem RowTK.base {w : World} {base base' : Nat} {v : Value} {l : List Ti} {N : Nat → Prop} (h : RowTK w base v l N) (hb : base' ≤ base) : RowTK w base' v l N := by
  refine ⟨⟨h.row.1, ?_⟩, h.i64, h.sub⟩
  rcases h.row.2 with h0 | ⟨g, cap, cur, hv, h1, hrest⟩
  · exact .inl h0
  · exact .inr ⟨g, cap, cur, hv, Nat.le_trans hb h1, hrest⟩
theorem RCopyIK.next {w wr w4 w5 : World} {f : Int} {xs : List Tm} {k : Nat} {v v4 v5 : Value} {l l4 : List Ti} {u : Tm} {A4 : Option Addr} {c4 : Nat} {o : Obj} (h : RCopyIK w wr f xs k v l) (hu : xs[k]? = some u) (hi : I64 u.fn) (hl4 : l4.map Ti.t = u.args) (h64 : u.args.length ≤ 9223372036854775807) (hv4 : v4 = .slice A4 u.args.length c4)
    (hR4 : RowTK w4 wr.heap.size v4 l4 (Apart wr.heap.size v4 w4)) (hb4 : Below wr.heap.size wr w4) (hown : w5.ownsRow (w.heap.size + 3) 32 2 v5 (k + 1) (l.flatMap Ti.cells ++ (⟨u, A4, c4⟩ : Ti).cells))
    (hgr : (w4.alloc o).grownBy w5 v.ownBlock) (hat : v5.ownBlock = v.ownBlock ∨ v5.ownBlock = some (w4.alloc o).heap.size) :
    RCopyIK w (w5.setCell ⟨w.heap.size + 2, 1, none⟩ v5) f xs (k + 1) v5 (l ++ [⟨u, A4, c4⟩]) := by
  have hkl := (List.getElem?_eq_some_iff.1 hu).1
  have hlen := h.len (by omega)
  have hlt := row_lt h.row.row
  have hs4 := hb4.size
  have hs5 := hgr.size
  have hbs : w.heap.size + 2 < wr.heap.size := (Array.getElem?_eq_some_iff.1 h.box).1
  have hK : ∀ g, g < wr.heap.size → v.ownBlock ≠ some g → w5.heap[g]? = wr.heap[g]? := fun g h1 h2 => (hgr.block g (by simp; omega) (fun e => h2 e.symm)).trans ((Below.heap_alloc w4 o g (by omega)).trans (hb4.block g h1))
  have hK4 : ∀ g, g < w4.heap.size → v.ownBlock ≠ some g → w5.heap[g]? = w4.heap[g]? := fun g h1 h2 => (hgr.block g (by simp; omega) (fun e => h2 e.symm)).trans (Below.heap_alloc w4 o g h1)
  have hb2 : v.ownBlock ≠ some (w.heap.size + 2) := fun e => by have := (hlt _ e).1; omega
  have hbox5 := (hK _ hbs hb2).trans h.box
  obtain ⟨_, z1⟩ := set2_two (u := .int .i64 f) (v := v5) hbox5
  have hset : ∀ g, g ≠ w.heap.size + 2 → (w5.setCell ⟨w.heap.size + 2, 1, none⟩ v5).heap[g]? = w5.heap[g]? := fun g e => heap_setCell_other _ _ _ _ e
  have hlt5 := row_lt hown
  have hv5 : ∀ g, g < wr.heap.size → v.ownBlock ≠ some g → v5.ownBlock ≠ some g := fun g h1 h2 e => by
    rcases hat with h3 | h3
    · rw [h3] at e; exact h2 e
    · rw [h3] at e; injection e with e; simp at e; omega
  have hv54 : ∀ g, wr.heap.size ≤ g → g < w4.heap.size → v5.ownBlock ≠ some g := fun g h1 h2 e => by
    rcases hat with h3 | h3
    · rw [h3] at e; have := (hlt _ e).2; omega
    · rw [h3] at e; injection e with e; simp at e; omega
  have hsz5 : w4.heap.size + 1 ≤ w5.heap.size := by simpa using hs5
  refine ⟨?_, ?_, ?_⟩
  · exact heap_setCell_same w5 _ 1 _ _ _ hbox5
  · rw [List.map_append, h.key, List.take_add_one, hu]; rfl
  · refine RowTK.push (w := wr) (N := Apart (w.heap.size + 3) v wr) h.row ?_ hi ?_ (fun g hg => ?_) (fun g hg => ⟨hg.1, by have := hg.2.1; simp; omega, hv5 g hg.2.1 hg.2.2⟩)
    · rw [hlen]
      exact row_keep hown fun g e => hset g (by have := (hlt5 g e).1; omega)
    · have hl4l : l4.length ≤ 9223372036854775807 := by have := congrArg List.length hl4; simp at this; omega
      obtain ⟨A', c', e, hA⟩ := hR4.argsK (M := fun g => wr.heap.size ≤ g ∧ g < w4.heap.size) hl4l (fun g e => row_lt hR4.row g e) (fun g hg => ⟨hg.1, hg.2.1⟩)
      rw [hv4] at e
      injection e with e1 _ e3
      subst e1
      subst e3
      rw [hl4] at hA
      refine (hA.keep fun g hg => ?_).wide fun g hg => ⟨by omega, by simp; omega, hv54 g hg.1 hg.2⟩
      exact (hset g (by omega)).trans (hK4 g hg.2 fun e => by have := (hlt _ e).2; omega)
    · exact (hset g (by have := hg.1; omega)).trans (hK g hg.2.1 hg.2.2)
set_option maxHeartbeats 2000000 in
theorem refCopyK_any (t : Tm) : RCopyAtK t := by
  refine Tm.ind (P := RCopyAtK) (fun f xs ih => ?_) t
  intro hsz A c w hf hA
  simp only [Tm.fn, Tm.args] at hf hA ⊢
  have hlen : xs.length ≤ 4398046511104 := by have := sizes_len xs; simp only [Tm.size] at hsz; omega
  obtain ⟨i0, hi, hz0, hz1, hz2⟩ := info_parts info_term
  obtain ⟨q0, q1, q2⟩ := heap3 w (.cells #[.int .i64 f, .slice A xs.length c] 32) (.cells #[.int .i64 0, .slice none 0 0] 32) (.cells #[.int .i64 f, .slice none 0 0] 32)
  obtain ⟨W, hW⟩ : ∃ W, (((w.alloc (.cells #[.int .i64 f, .slice A xs.length c] 32)).alloc (.cells #[.int .i64 0, .slice none 0 0] 32)).alloc (.cells #[.int .i64 f, .slice none 0 0] 32)) = W := ⟨_, rfl⟩
  have hB : Below w.heap.size w W := by rw [← hW]; exact (((Below.refl _ _).alloc (Nat.le_refl _) _).alloc (by simp) _).alloc (by simp; omega) _
  rw [hW] at q0 q1 q2
  have hWs : w.heap.size + 2 < W.heap.size := (Array.getElem?_eq_some_iff.1 q2).1
  have hI0 : RCopyIK w W f xs 0 (.slice none 0 0) [] := ⟨q2, by simp, RowTK.nil_ _ _ _⟩
  have HI0 := Lib.hid hI0
  have HA := Lib.hid hA
  have HW := Lib.hid hW
  clear hW hA q2 hI0
  go_enter Tryz.func27, Tryz.ntmps27
  go_wp2
  rw [HW.out]
  go_loopw [4] (fun i wr => ∃ (k : Nat) (v : Value) (l : List Ti), k ≤ xs.length ∧ i = .int .i64 (k : Int) ∧ Below (w.heap.size + 2) W wr ∧ Hid (RCopyIK w wr f xs k v l)) (fun i _ => xs.length - (intOf i).toNat)
  case atStart => exact ⟨0, _, [], Nat.zero_le _, rfl, Below.refl _ _, HI0⟩
  case round =>
    obtain ⟨k, v, l, hk, rfl, hBr, H⟩ := hrel
    have hbx := H.out.box
    have hbs : w.heap.size + 2 < wr.heap.size := (Array.getElem?_eq_some_iff.1 hbx).1
    obtain ⟨a0, a1, _, _⟩ := cells_two ((hBr.block _ (by omega)).trans q0)
    obtain ⟨c0, c1, g0, g1⟩ := cells_two hbx
    have hBw : Below w.heap.size w wr := hB.trans (hBr.mono (by omega))
    by_cases hlt : k < xs.length
    · obtain ⟨u, hu⟩ : ∃ u, xs[k]? = some u := ⟨_, List.getElem?_eq_getElem hlt⟩
      obtain ⟨bb, off, A1, c1', rfl, ha⟩ := HA.out.get hu
      have hbw := ha.hb
      have e0 := cell_on hBw hbw ha.c0
      have e1 := cell_on hBw hbw ha.c1
      have hbb : bb < wr.heap.size := by omega
      have hs1 : Hid (Args wr.drew wr.drew.heap.size A1 u.args) := (ha.sub.on hBw).drewN 1
      have hi64 := ha.hi
      have hmem := List.mem_of_getElem? hu
      have hszt : u.size ≤ 4398046511104 := by have := size_mem hmem; simp only [Tm.size] at hsz; omega
      have hul : u.args.length ≤ 9223372036854775807 := ha.sub.len
      have Hu := Lib.hid hu
      have hrow := H.out.row.row
      have hll := H.out.len hk
      rw [hll] at hrow
      obtain ⟨Av, cv, hv⟩ := row_own hrow
      subst hv
      have hrl := row_lt hrow
      have Hrow := Lib.hid hrow
      have hSS : ∀ w', Below wr.heap.size wr w' → w'.cell? ⟨w.heap.size + 2, 1, none⟩ = some (.slice Av k cv) ∧ w'.cell? ⟨w.heap.size, 1, none⟩ = some (.slice (some ⟨bb, off, none⟩) xs.length c) ∧ w'.cell? ⟨bb, off + k * 2, none⟩ = some (.int .i64 u.fn) ∧ w'.cell? ⟨bb, off + k * 2 + 1, none⟩ = some (.slice A1 u.args.length c1') := fun w' h => ⟨cell_on h hbs c1, cell_on h (by omega) a1, cell_on h hbb e0, cell_on h hbb e1⟩
      have hne : ∀ g, g < w.heap.size + 3 → (Value.slice Av k cv).ownBlock ≠ some g := fun g h e => by have := (hrl g e).1; omega
      have hBX : ∀ w' : World, (∀ g, g < wr.heap.size → (Value.slice Av k cv).ownBlock ≠ some g → w'.heap[g]? = wr.heap[g]?) → w'.cell? ⟨w.heap.size + 2, 1, none⟩ = some (.slice Av k cv) ∧ w'.frozen? ⟨w.heap.size + 2, 1, none⟩ = false := fun w' h => ⟨(cell_of_heap (h _ hbs (hne _ (by omega)))).trans c1, (frozen_of_heap (h _ hbs (hne _ (by omega)))).trans g1⟩
      clear hu ha hrow
      go_wp2
      go_region_law
        (first
          | (go_simp
             go_at_call 27
             refine (ih u hmem hszt A1 c1' wr.drew hi64 hs1.out).mono ?_
             rintro e w4 ⟨v4, l4, rfl, hl4, hR4, hb4⟩
             have hB4 : Below wr.heap.size wr w4 := ⟨hb4.os, hb4.tape, hb4.output, hb4.size, hb4.block⟩
             obtain ⟨A4, c4, hv4⟩ := row_own hR4.row
             have hl4l : l4.length = u.args.length := by rw [← hl4, List.length_map]
             rw [hl4l] at hv4
             have HR4 := Lib.hid hR4
             obtain ⟨k4, _, _, _⟩ := hSS _ hB4
             obtain ⟨k4', _, _, _⟩ := hSS _ (hB4.alloc hB4.size (.cells #[.int .i64 u.fn, .slice A4 u.args.length c4] 32))
             subst hv4
             clear hR4
             dsimp only)
          | (refine step_append_at rfl (.tmp 16) (.tmp 23) 30 rfl (w.heap.size + 3) 32 i0 (.agg #[.int .i64 0, .slice none 0 0]) 2 32 Tryz.underlying30 hi hz0 hz1 hz2 rfl (by decide) (.slice Av k cv) k _ (by simp [Act.eval]) (row_keep Hrow.out fun g e => (Below.heap_alloc w4 _ g (Nat.lt_of_lt_of_le (hrl g e).2 hB4.size)).trans (hB4.block g (hrl g e).2)) ⟨w4.heap.size, 0, none⟩ 1 1 [.int .i64 u.fn, .slice A4 u.args.length c4] (by simp [Act.eval]) rfl (cells_new_two _ _ _ _) (by simp [Value.oneCell']) (by unfold maxLen; omega) (by omega) (by have := hB4.size; simp; omega) ?_
             intro v5 w5 hown5 hgr5 hat5
             have hK5 : ∀ g, g < wr.heap.size → (Value.slice Av k cv).ownBlock ≠ some g → w5.heap[g]? = wr.heap[g]? := fun g h1 h2 => (hgr5.block g (by have := hB4.size; simp; omega) (fun e => h2 e.symm)).trans ((Below.heap_alloc w4 _ g (by have := hB4.size; omega)).trans (hB4.block g h1))
             obtain ⟨k1, kf⟩ := hBX w5 hK5
             obtain ⟨g5, cap5, hv5⟩ := ownsRow_succ hown5
             have Hown5 := Lib.hid hown5
             have Hgr5 := Lib.hid hgr5
             have Hat5 := Lib.hid hat5
             subst hv5
             clear hown5 hgr5 hat5 hK5)
          | fail)
      all_goals
        have hst := H.out.next Hu.out hi64 hl4 hul rfl HR4.out hB4 Hown5.out Hgr5.out Hat5.out
        have hBe : Below (w.heap.size + 2) W w5 := ((hBr.trans (hB4.mono (by omega))).alloc (by have := hB4.size; omega) _).grown Hgr5.out (by have := hB4.size; simp; omega) (fun g e => by have := (hrl g e).1; omega)
        go_wp2
        go_roundw
        case rel => exact ⟨k + 1, _, _, by omega, by go_num, hBe.setCell (Nat.le_refl _) _, hst⟩
        case measure => simp [intOf]; omega
    · obtain rfl : k = xs.length := by omega
      have hrow := H.out.row.row
      have hll := H.out.len hk
      rw [hll] at hrow
      obtain ⟨Av, cv, hv⟩ := row_own hrow
      subst hv
      have hkey := Lib.hid H.out.key
      have HR := Lib.hid H.out.row
      obtain ⟨b0, b1, bg0, bg1⟩ := cells_two ((hBr.block _ (by omega)).trans q1)
      clear hrow
      go_wp2
      have z1 : (wr.setCell ⟨w.heap.size + 1, 0, none⟩ (.int .i64 f)).heap[w.heap.size + 1]? = some (.cells #[.int .i64 f, .slice none 0 0] 32) := heap_setCell_same wr _ 0 _ _ _ ((hBr.block _ (by omega)).trans q1)
      have z2 : ((wr.setCell ⟨w.heap.size + 1, 0, none⟩ (.int .i64 f)).setCell ⟨w.heap.size + 1, 1, none⟩ (.slice Av xs.length cv)).heap[w.heap.size + 1]? = some (.cells #[.int .i64 f, .slice Av xs.length cv] 32) := heap_setCell_same _ _ 1 _ _ _ z1
      have p0 := (cells_two z1).1
      have p1 := (cells_two z2).2.1
      have hoth : ∀ g, g ≠ w.heap.size + 1 → ((wr.setCell ⟨w.heap.size + 1, 0, none⟩ (.int .i64 f)).setCell ⟨w.heap.size + 1, 1, none⟩ (.slice Av xs.length cv)).heap[g]? = wr.heap[g]? := fun g e => (heap_setCell_other _ _ _ _ e).trans (heap_setCell_other _ _ _ _ e)
      refine bodyPost_ret (v := .agg #[.int .i64 f, .slice Av xs.length cv]) (by simp [results, Tryz.results27, go_sem, p0, p1]) rfl ⟨_, l, rfl, by rw [hkey.out, List.take_length]; rfl, ?_, ?_⟩
      · have hk3 := (HR.out.keep (fun g e => hoth g (by have := (row_lt HR.out.row g e).1; omega)) (fun g e => hoth g (by have := e.1; omega))).base (base' := w.heap.size) (by omega)
        exact hk3.wide fun g e => show Apart _ _ _ g from ⟨by have := e.1; omega, by have := e.2.1; simpa using this, e.2.2⟩
      · exact (hBw.setCell (by show _ ≤ w.heap.size + 1; omega) _).setCell (by show _ ≤ w.heap.size + 1; omega) _
theorem refCopyK_at (t : Tm) (A : Option Addr) (c : Nat) (w : World) (hsz : t.size ≤ 4398046511104) (hf : I64 t.fn) (hA : Args w w.heap.size A t.args) :
    Calls Tryz.prog 27 #[.agg #[.int .i64 t.fn, .slice A t.args.length c]] w fun e w' => ∃ A' c', e = .returned (.agg #[.int .i64 t.fn, .slice A' t.args.length c']) ∧ ArgsK w' (fun g => w.heap.size ≤ g ∧ g < w'.heap.size) A' c' t.args ∧ Below w.heap.size w w' := by
  refine (refCopyK_any t hsz A c w hf hA).mono ?_
  rintro e w' ⟨v, l, rfl, hl, hR, hb⟩
  have hlen : l.length = t.args.length := by rw [← hl, List.length_map]
  obtain ⟨A', c', rfl, hN⟩ := hR.argsK (M := fun g => w.heap.size ≤ g ∧ g < w'.heap.size) (by rw [hlen]; exact hA.len) (fun g e => row_lt hR.row g e) (fun g hg => ⟨hg.1, hg.2.1⟩)
  rw [hl] at hN
  exact ⟨A', c', by rw [hlen], hN, hb⟩
end Go.Proofs.YthgglobfkkcdgaaGreatDoor
namespace Go.Proofs.YthgglobfkkcdgaaGreatDoor
open Go.RowKit Go.Shelf
set_option maxRecDepth 100000
def OwnRowK (t : Tm) (w : World) (v : Value) (w' : World) : Prop := ∃ l, l.map Ti.t = t.args ∧ RowTK w' w.heap.size v l (Apart w.heap.size v w')
def RGetPostK (l : List Bd) (v : Int) (w : World) (e : Ending) (w' : World) : Prop := Below w.heap.size w w' ∧
  match findB l v with
  | none => e = .returned (.tuple #[.agg #[.int .i64 0, .slice none 0 0], .bool false])
  | some x => ∃ v4, e = .returned (.tuple #[.agg #[.int .i64 x.t.fn, v4], .bool true]) ∧ I64 x.t.fn ∧ OwnRowK x.t w v4 w'
theorem rgetK_yes {l : List Bd} {v : Int} {x : Bd} {w w1 w2 : World} {v4 : Value} (hf : findB l v = some x) (hi : I64 x.t.fn) {b : Nat} (hb0 : w.heap.size ≤ b) (hb : b < w1.heap.size) (h1 : Below w.heap.size w w1) {l4 : List Ti} (hl : l4.map Ti.t = x.t.args) (hR : RowTK w2 w1.heap.size v4 l4 (Apart w1.heap.size v4 w2)) (h2 : Below w1.heap.size w1 w2) :
    RGetPostK l v w (.returned (.tuple #[.agg #[.int .i64 x.t.fn, v4], .bool true])) ((w2.setCell ⟨b, 0, none⟩ (.int .i64 x.t.fn)).setCell ⟨b, 1, none⟩ v4) := by
  have hoth : ∀ g, g ≠ b → ((w2.setCell ⟨b, 0, none⟩ (.int .i64 x.t.fn)).setCell ⟨b, 1, none⟩ v4).heap[g]? = w2.heap[g]? := fun g e => (heap_setCell_other _ _ _ _ e).trans (heap_setCell_other _ _ _ _ e)
  have hs := h1.size
  refine ⟨((h1.trans (h2.mono hs)).setCell (by show _ ≤ b; omega) _).setCell (by show _ ≤ b; omega) _, ?_⟩
  rw [hf]
  refine ⟨v4, rfl, hi, l4, hl, ?_⟩
  have hk := (hR.keep (fun g e => hoth g (by have := (row_lt hR.row g e).1; omega)) (fun g e => hoth g (by have := e.1; omega))).base (base' := w.heap.size) hs
  exact hk.wide fun g e => ⟨Nat.le_trans hs e.1, by have := e.2.1; simpa using this, e.2.2⟩
set_option maxHeartbeats 2000000 in
theorem refGetK_any (l : List Bd) (v : Int) (A : Option Addr) (c : Nat) (w : World) (hsm : ∀ x ∈ l, x.t.size ≤ 4398046511104) (hA : Binds w (· < w.heap.size) A l) :
    Calls Tryz.prog 25 #[.slice A l.length c, .int .i64 v] w (RGetPostK l v w) := by
  obtain ⟨W, hW⟩ : ∃ W, w.alloc (.cells #[.int .i64 0, .slice none 0 0] 32) = W := ⟨_, rfl⟩
  have hB : Below w.heap.size w W := by rw [← hW]; exact (Below.refl _ _).alloc (Nat.le_refl _) _
  have q0 := heap_alloc_new w (.cells #[.int .i64 0, .slice none 0 0] 32)
  rw [hW] at q0
  have hWs : w.heap.size < W.heap.size := (Array.getElem?_eq_some_iff.1 q0).1
  have hlen := hA.len
  have HA := Lib.hid hA
  have Hsm := Lib.hid hsm
  have HW := Lib.hid hW
  clear hA hW hsm
  go_enter Tryz.func25, Tryz.ntmps25
  go_upto_region 1 with fail
  rw [HW.out]
  go_wp2
  go_loopw [6] (fun i wr => ∃ k : Nat, k ≤ l.length ∧ i = .int .i64 (k : Int) ∧ wr = W ∧ Hid (∀ j, j < k → ∀ x, l[j]? = some x → ¬ x.v = v)) (fun i _ => l.length - (intOf i).toNat)
  case atStart => exact ⟨0, Nat.zero_le _, rfl, rfl, Lib.hid fun j hj => by omega⟩
  case round =>
    obtain ⟨k, hk, rfl, rfl, Hn⟩ := hrel
    by_cases hlt : k < l.length
    · obtain ⟨x, hx⟩ : ∃ x, l[k]? = some x := ⟨_, List.getElem?_eq_getElem hlt⟩
      obtain ⟨b, off, A', c', rfl, h⟩ := HA.out.get hx
      have e0 := cell_on hB h.hb h.c0
      have e1 := cell_on hB h.hb h.c1
      have e2 := cell_on hB h.hb h.c2
      have Hx := Lib.hid hx
      by_cases hv : x.v = v
      · have hfind : Hid (findB l v = some x) := Lib.hid (by
          unfold findB
          rw [List.find?_eq_some_iff_getElem]
          obtain ⟨h1, h2⟩ := List.getElem?_eq_some_iff.1 hx
          exact ⟨decide_eq_true hv, k, h1, h2, fun j hj => by have := Hn.out j hj _ (List.getElem?_eq_getElem (by omega)); simpa using this⟩)
        have hv' : ((x.v : Int) == v) = true := by simp [hv]
        have HC := Lib.hid (refCopyK_any x.t (Hsm.out x (List.mem_of_getElem? hx)) A' c' wr h.it ((h.sub.keep fun g e => hB.block g e).args fun g e => Nat.lt_of_lt_of_le e hB.size))
        have hit := Lib.hid h.it
        clear hx h hv
        go_wp2_with (first
          | (go_at_call 27; (with_reducible refine HC.out.mono ?_); go_must (rintro e w2 ⟨v4, l4, rfl, hl4, hR4, hb4⟩; obtain ⟨Av, cv, hv4⟩ := row_own hR4.row; subst hv4; have hl4 := Lib.hid hl4; have hR4 := Lib.hid hR4; have y3 := (hb4.block _ hWs).trans q0; obtain ⟨d0, d1, g0, g1⟩ := cells_two y3))
          | fail)
        obtain ⟨z0, z1⟩ := set2_two (u := .int .i64 x.t.fn) (v := .slice Av l4.length cv) y3
        have k0 := (cells_two z0).1
        have k1 := (cells_two z1).2.1
        exact bodyPost_ret (v := .tuple #[.agg #[.int .i64 x.t.fn, .slice Av l4.length cv], .bool true]) (by simp [results, Tryz.results25, go_sem, k0, k1]) rfl (rgetK_yes hfind.out hit.out (Nat.le_refl _) hWs hB hl4.out hR4.out hb4)
      · have hv' : ((x.v : Int) == v) = false := by simp [hv]
        clear hx h
        go_wp2
        go_roundw
        case rel => exact ⟨k + 1, by omega, by go_num, trivial, Lib.hid fun j hj y hy => by
          rcases Nat.lt_or_ge j k with h | h
          · exact Hn.out j h y hy
          · obtain rfl : j = k := by omega
            rw [Hx.out] at hy; injection hy with hy; rw [← hy]; exact hv⟩
        case measure => simp [intOf]; omega
    · obtain rfl : k = l.length := by omega
      have hfind : Hid (findB l v = none) := Lib.hid (findB_none fun i y hy => Hn.out i (List.getElem?_eq_some_iff.1 hy).1 y hy)
      obtain ⟨a0, a1, f0, f1⟩ := cells_two q0
      go_wp2
      obtain ⟨z0, z1⟩ := set2_two (u := .int .i64 0) (v := .slice none 0 0) q0
      have k0 := (cells_two z0).1
      have k1 := (cells_two z1).2.1
      refine bodyPost_ret (v := .tuple #[.agg #[.int .i64 0, .slice none 0 0], .bool false]) (by simp [results, Tryz.results25, go_sem, k0, k1]) rfl ⟨(hB.setCell (by show _ ≤ w.heap.size; omega) _).setCell (by show _ ≤ w.heap.size; omega) _, ?_⟩
      rw [hfind.out]
end Go.Proofs.YthgglobfkkcdgaaGreatDoor
namespace Go.Proofs.YthgglobfkkcdgaaGreatDoor
open Go.RowKit Go.Shelf
set_option maxRecDepth 100000
structure ApIK (n : Nat) (wr : World) (f : Int) (ys : List Tm) (k : Nat) (v : Value) (l : List Ti) : Prop where
  box : wr.heap[n]? = some (.cells #[.int .i64 f, v] 32)
  key : l.map Ti.t = ys.take k
  row : RowTK wr (n + 1) v l (Apart (n + 1) v wr)
theorem ApIK.len {n : Nat} {wr : World} {f : Int} {xs : List Tm} {k : Nat} {v : Value} {l : List Ti} (h : ApIK n wr f xs k v l) (hk : k ≤ xs.length) : l.length = k := by
  have := congrArg List.length h.key
  simpa [Nat.min_eq_left hk] using this
theorem ApIK.next {n : Nat} {wr w4 w5 : World} {f : Int} {xs : List Tm} {k : Nat} {v v4 v5 : Value} {l l4 : List Ti} {u : Tm} {A4 : Option Addr} {c4 : Nat} {o : Obj} (h : ApIK n wr f xs k v l) (hu : xs[k]? = some u) (hi : I64 u.fn) (hl4 : l4.map Ti.t = u.args) (h64 : u.args.length ≤ 9223372036854775807) (hv4 : v4 = .slice A4 u.args.length c4)
    (hR4 : RowTK w4 wr.heap.size v4 l4 (Apart wr.heap.size v4 w4)) (hb4 : Below wr.heap.size wr w4) (hown : w5.ownsRow (n + 1) 32 2 v5 (k + 1) (l.flatMap Ti.cells ++ (⟨u, A4, c4⟩ : Ti).cells))
    (hgr : (w4.alloc o).grownBy w5 v.ownBlock) (hat : v5.ownBlock = v.ownBlock ∨ v5.ownBlock = some (w4.alloc o).heap.size) :
    ApIK n (w5.setCell ⟨n, 1, none⟩ v5) f xs (k + 1) v5 (l ++ [⟨u, A4, c4⟩]) := by
  have hkl := (List.getElem?_eq_some_iff.1 hu).1
  have hlen := h.len (by omega)
  have hlt := row_lt h.row.row
  have hs4 := hb4.size
  have hs5 := hgr.size
  have hbs : n < wr.heap.size := (Array.getElem?_eq_some_iff.1 h.box).1
  have hK : ∀ g, g < wr.heap.size → v.ownBlock ≠ some g → w5.heap[g]? = wr.heap[g]? := fun g h1 h2 => (hgr.block g (by simp; omega) (fun e => h2 e.symm)).trans ((Below.heap_alloc w4 o g (by omega)).trans (hb4.block g h1))
  have hK4 : ∀ g, g < w4.heap.size → v.ownBlock ≠ some g → w5.heap[g]? = w4.heap[g]? := fun g h1 h2 => (hgr.block g (by simp; omega) (fun e => h2 e.symm)).trans (Below.heap_alloc w4 o g h1)
  have hb2 : v.ownBlock ≠ some (n) := fun e => by have := (hlt _ e).1; omega
  have hbox5 := (hK _ hbs hb2).trans h.box
  obtain ⟨_, z1⟩ := set2_two (u := .int .i64 f) (v := v5) hbox5
  have hset : ∀ g, g ≠ n → (w5.setCell ⟨n, 1, none⟩ v5).heap[g]? = w5.heap[g]? := fun g e => heap_setCell_other _ _ _ _ e
  have hlt5 := row_lt hown
  have hv5 : ∀ g, g < wr.heap.size → v.ownBlock ≠ some g → v5.ownBlock ≠ some g := fun g h1 h2 e => by
    rcases hat with h3 | h3
    · rw [h3] at e; exact h2 e
    · rw [h3] at e; injection e with e; simp at e; omega
  have hv54 : ∀ g, wr.heap.size ≤ g → g < w4.heap.size → v5.ownBlock ≠ some g := fun g h1 h2 e => by
    rcases hat with h3 | h3
    · rw [h3] at e; have := (hlt _ e).2; omega
    · rw [h3] at e; injection e with e; simp at e; omega
  have hsz5 : w4.heap.size + 1 ≤ w5.heap.size := by simpa using hs5
  refine ⟨?_, ?_, ?_⟩
  · exact heap_setCell_same w5 _ 1 _ _ _ hbox5
  · rw [List.map_append, h.key, List.take_add_one, hu]; rfl
  · refine RowTK.push (w := wr) (N := Apart (n + 1) v wr) h.row ?_ hi ?_ (fun g hg => ?_) (fun g hg => ⟨hg.1, by have := hg.2.1; simp; omega, hv5 g hg.2.1 hg.2.2⟩)
    · rw [hlen]
      exact row_keep hown fun g e => hset g (by have := (hlt5 g e).1; omega)
    · have hl4l : l4.length ≤ 9223372036854775807 := by have := congrArg List.length hl4; simp at this; omega
      obtain ⟨A', c', e, hA⟩ := hR4.argsK (M := fun g => wr.heap.size ≤ g ∧ g < w4.heap.size) hl4l (fun g e => row_lt hR4.row g e) (fun g hg => ⟨hg.1, hg.2.1⟩)
      rw [hv4] at e
      injection e with e1 _ e3
      subst e1
      subst e3
      rw [hl4] at hA
      refine (hA.keep fun g hg => ?_).wide fun g hg => ⟨by omega, by simp; omega, hv54 g hg.1 hg.2⟩
      exact (hset g (by omega)).trans (hK4 g hg.2 fun e => by have := (hlt _ e).2; omega)
    · exact (hset g (by have := hg.1; omega)).trans (hK g hg.2.1 hg.2.2)
def RAppAtK (l : List Bd) (t : Tm) : Prop := t.size ≤ 4398046511104 → ∀ (B : Option Addr) (cb : Nat) (A : Option Addr) (c : Nat) (w : World), Binds w (· < w.heap.size) B l → I64 t.fn → Args w w.heap.size A t.args →
  Calls Tryz.prog 11 #[.slice B l.length cb, .agg #[.int .i64 t.fn, .slice A t.args.length c]] w (RCopyPostK (appT (bdT l) t) w)
theorem rappK_fin {y : Tm} {w w1 : World} {v4 : Value} {b : Nat} {o : Obj} (hb0 : w.heap.size ≤ b) {W : World} (hbW : b < W.heap.size) (hB : Below w.heap.size w W) (h1 : Below W.heap.size W w1) (hO : OwnRowK y W v4 w1) :
    RCopyPostK y w (.returned (.agg #[.int .i64 y.fn, v4])) (((w1.alloc o).setCell ⟨b, 0, none⟩ (.int .i64 y.fn)).setCell ⟨b, 1, none⟩ v4) := by
  obtain ⟨l4, hl, hR⟩ := hO
  have hoth : ∀ g, g ≠ b → g < w1.heap.size → (((w1.alloc o).setCell ⟨b, 0, none⟩ (.int .i64 y.fn)).setCell ⟨b, 1, none⟩ v4).heap[g]? = w1.heap[g]? := fun g e h => ((heap_setCell_other _ _ _ _ e).trans (heap_setCell_other _ _ _ _ e)).trans (Below.heap_alloc w1 o g h)
  have hs := hB.size
  have hs1 := h1.size
  refine ⟨v4, l4, rfl, hl, ?_, ((((hB.trans (h1.mono hs)).alloc (by omega) _)).setCell (by show _ ≤ b; omega) _).setCell (by show _ ≤ b; omega) _⟩
  have hk := (hR.keep (fun g e => hoth g (by have := (row_lt hR.row g e).1; omega) (row_lt hR.row g e).2) (fun g e => hoth g (by have := e.1; omega) e.2.1)).base (base' := w.heap.size) hs
  exact hk.wide fun g e => ⟨Nat.le_trans hs e.1, by have := e.2.1; simp; omega, e.2.2⟩
set_option maxHeartbeats 4000000 in
theorem refApplyK_any (l : List Bd) (hsm : ∀ x ∈ l, x.t.size ≤ 4398046511104) (t : Tm) : RAppAtK l t := by
  refine Tm.ind (P := RAppAtK l) (fun f xs ih => ?_) t
  intro hsz B cb A c w hBd hf hA
  simp only [Tm.fn, Tm.args] at hf hA ⊢
  have hlen : xs.length ≤ 4398046511104 := by have := sizes_len xs; simp only [Tm.size] at hsz; omega
  obtain ⟨i0, hi, hz0, hz1, hz2⟩ := info_parts info_term
  obtain ⟨q0, q1⟩ := heap2 w (.cells #[.int .i64 f, .slice A xs.length c] 32) (.cells #[.int .i64 0, .slice none 0 0] 32)
  obtain ⟨W, hW⟩ : ∃ W, ((w.alloc (.cells #[.int .i64 f, .slice A xs.length c] 32)).alloc (.cells #[.int .i64 0, .slice none 0 0] 32)) = W := ⟨_, rfl⟩
  have hB0 : Below w.heap.size w W := by rw [← hW]; exact ((Below.refl _ _).alloc (Nat.le_refl _) _).alloc (by simp) _
  rw [hW] at q0 q1
  have hWs : w.heap.size + 1 < W.heap.size := (Array.getElem?_eq_some_iff.1 q1).1
  have HW := Lib.hid hW
  have HA := Lib.hid hA
  have HBd := Lib.hid hBd
  have hlo := hf.1
  have hhi := hf.2
  obtain ⟨x0, x1, _, _⟩ := cells_two q0
  have lift : ∀ w1, Below w.heap.size w w1 → Binds w1 (· < w1.heap.size) B l := fun w1 hb => (hBd.keep fun g e => hb.block g e).wide fun g e => Nat.lt_of_lt_of_le e hb.size
  have HG := Lib.hid (refGetK_any l (-1 - f) B cb W hsm (lift W hB0))
  have HL := Lib.hid lift
  clear hW hA hBd lift
  by_cases hbound : f < 0 ∧ (findB l (-1 - f)).isSome
  · obtain ⟨hneg, hso⟩ := hbound
    obtain ⟨x, hx⟩ := Option.isSome_iff_exists.1 hso
    rw [appT_bound hneg hx]
    have Hx := Lib.hid hx
    obtain ⟨r0, r1, rf0, rf1⟩ := cells_two q1
    clear hso hx
    go_enter Tryz.func11, Tryz.ntmps11
    go_upto_region 1 with fail
    rw [HW.out]
    go_wp2_with (first
      | (go_at_call 25; (with_reducible refine HG.out.mono ?_); go_must (rintro e w1 ⟨hb1, he⟩; rw [Hx.out] at he; obtain ⟨v4, rfl, hi4, hO4⟩ := he; obtain ⟨l4, hl4, hR4⟩ := hO4; obtain ⟨Av, cv, hv4⟩ := row_own hR4.row; subst hv4; have y1 := (hb1.block _ hWs).trans q1; have zq := heap_alloc_new w1 (Obj.cells #[.int .i64 x.t.fn, .slice Av l4.length cv] 32); obtain ⟨p0, p1, _, _⟩ := cells_two zq; obtain ⟨d0, d1, g0, g1⟩ := cells_two (alloc_old (o := (Obj.cells #[.int .i64 x.t.fn, .slice Av l4.length cv] 32)) y1); obtain ⟨m0, m1⟩ := set2_two (u := .int .i64 x.t.fn) (v := .slice Av l4.length cv) (alloc_old (o := (Obj.cells #[.int .i64 x.t.fn, .slice Av l4.length cv] 32)) y1); have HO4 : Hid (OwnRowK x.t W (.slice Av l4.length cv) w1) := Lib.hid ⟨l4, hl4, hR4⟩; clear hR4 hl4))
      | fail)
    have k0 := (cells_two m0).1
    have k1 := (cells_two m1).2.1
    have k2 := (cells_two m1).1
    exact bodyPost_ret (v := .agg #[.int .i64 x.t.fn, .slice Av l4.length cv]) (by simp [results, Tryz.results11, go_sem, k0, k1]) rfl (rappK_fin (by omega) hWs hB0 hb1 HO4.out)
  · have hfree : ¬ f < 0 ∨ findB l (-1 - f) = none := by
      by_cases h : f < 0
      · exact .inr (by
          rcases hx : findB l (-1 - f) with _ | x
          · rfl
          · exact absurd ⟨h, by rw [hx]; rfl⟩ hbound)
      · exact .inl h
    have hmv := Lib.hid (appT_free (xs := xs) hfree)
    go_enter Tryz.func11, Tryz.ntmps11
    go_upto_region 1 with fail
    rw [HW.out]
    go_upto_if 11 with fail
    go_cut [] (fun wx => Below W.heap.size W wx)
    case first =>
      by_cases hneg : f < 0
      · have Hx := Lib.hid (show findB l (-1 - f) = none by rcases hfree with h | h; exact absurd hneg h; exact h)
        clear hfree hbound
        go_wp2_with (first
          | (go_at_call 25; (with_reducible refine HG.out.mono ?_); go_must (rintro e w1 ⟨hb1, he⟩; rw [Hx.out] at he; obtain rfl := he))
          | fail)
        go_meet
        exact hb1.alloc hb1.size _
      · clear hfree hbound
        go_wp2
        go_meet
        exact Below.refl _ _
    case rest =>
      have hBc : Below W.heap.size W wc := hcut
      obtain ⟨n, hn⟩ : ∃ n, wc.heap.size = n := ⟨_, rfl⟩
      have hnW : W.heap.size ≤ n := by rw [← hn]; exact hBc.size
      obtain ⟨x0, x1, _, _⟩ := cells_two ((hBc.block _ (by omega)).trans q0)
      have q2 := heap_alloc_new wc (.cells #[.int .i64 f, .slice none 0 0] 32)
      obtain ⟨X, hX⟩ : ∃ X, wc.alloc (.cells #[.int .i64 f, .slice none 0 0] 32) = X := ⟨_, rfl⟩
      have hWX : Below W.heap.size W X := by rw [← hX]; exact hBc.alloc hBc.size _
      have hwX : Below w.heap.size w X := hB0.trans (hWX.mono hB0.size)
      have q0X := (hWX.block _ (by omega)).trans q0
      have q1X := (hWX.block _ hWs).trans q1
      rw [hX, hn] at q2
      have HI0 : Hid (ApIK n X f (xs.map (appT (bdT l))) 0 (.slice none 0 0) []) := ⟨q2, by simp, RowTK.nil_ _ _ _⟩
      have HX := Lib.hid hX
      have Hn := Lib.hid hn
      have hnX : n < X.heap.size := (Array.getElem?_eq_some_iff.1 q2).1
      clear hX hn q2
      go_upto_region 6 with fail
      rw [HX.out, Hn.out]
      clear x0 x1
      go_wp2
      go_loopw [8] (fun i wr => ∃ (k : Nat) (v : Value) (r : List Ti), k ≤ xs.length ∧ i = .int .i64 (k : Int) ∧ Below n X wr ∧ Hid (ApIK n wr f (xs.map (appT (bdT l))) k v r)) (fun i _ => xs.length - (intOf i).toNat)
      case atStart => exact ⟨0, _, [], Nat.zero_le _, rfl, Below.refl _ _, HI0⟩
      case round =>
        obtain ⟨k, v, r, hk, rfl, hBr, H⟩ := hrel
        have hbx := H.out.box
        have hbs : n < wr.heap.size := (Array.getElem?_eq_some_iff.1 hbx).1
        have hBW : Below W.heap.size W wr := hWX.trans (hBr.mono hnW)
        obtain ⟨a0, a1, _, _⟩ := cells_two ((hBW.block _ (by omega)).trans q0)
        obtain ⟨c0, c1, g0, g1⟩ := cells_two hbx
        have hBw : Below w.heap.size w wr := hB0.trans (hBW.mono hB0.size)
        by_cases hlt : k < xs.length
        · obtain ⟨u, hu⟩ : ∃ u, xs[k]? = some u := ⟨_, List.getElem?_eq_getElem hlt⟩
          obtain ⟨bb, off, A1, c1', rfl, ha⟩ := HA.out.get hu
          have hbw := ha.hb
          have e0 := cell_on hBw hbw ha.c0
          have e1 := cell_on hBw hbw ha.c1
          have hbb : bb < wr.heap.size := Nat.lt_of_lt_of_le hbw hBw.size
          have hs1 : Hid (Args wr.drew wr.drew.heap.size A1 u.args) := (ha.sub.on hBw).drewN 1
          have hi64 := ha.hi
          have hmem := List.mem_of_getElem? hu
          have hszt : u.size ≤ 4398046511104 := by have := size_mem hmem; simp only [Tm.size] at hsz; omega
          have hul : (appT (bdT l) u).args.length ≤ 9223372036854775807 := appT_args hsm ha.sub.len
          have hm64 : I64 (appT (bdT l) u).fn := appT_fn64 HBd.out ha.hi
          have Hu := Lib.hid (show (xs.map (appT (bdT l)))[k]? = some (appT (bdT l) u) by rw [List.getElem?_map, hu]; rfl)
          have hcall := Lib.hid (ih u hmem hszt B cb A1 c1' wr.drew (HL.out wr.drew (bl_drewN hBw 1)) hi64 hs1.out)
          obtain ⟨um, hum⟩ : ∃ um, appT (bdT l) u = um := ⟨_, rfl⟩
          have hrow := H.out.row.row
          have hll := H.out.len (by rw [List.length_map]; exact hk)
          rw [hll] at hrow
          obtain ⟨Av, cv, hv⟩ := row_own hrow
          subst hv
          have hrl := row_lt hrow
          have Hrow := Lib.hid hrow
          have hSS : ∀ w', Below wr.heap.size wr w' → w'.cell? ⟨n, 1, none⟩ = some (.slice Av k cv) ∧ w'.cell? ⟨w.heap.size, 1, none⟩ = some (.slice (some ⟨bb, off, none⟩) xs.length c) ∧ w'.cell? ⟨bb, off + k * 2, none⟩ = some (.int .i64 u.fn) ∧ w'.cell? ⟨bb, off + k * 2 + 1, none⟩ = some (.slice A1 u.args.length c1') := fun w' h => ⟨cell_on h hbs c1, cell_on h (by omega) a1, cell_on h hbb e0, cell_on h hbb e1⟩
          have hne : ∀ g, g < n + 1 → (Value.slice Av k cv).ownBlock ≠ some g := fun g h e => by have := (hrl g e).1; omega
          have hBX : ∀ w' : World, (∀ g, g < wr.heap.size → (Value.slice Av k cv).ownBlock ≠ some g → w'.heap[g]? = wr.heap[g]?) → w'.cell? ⟨n, 1, none⟩ = some (.slice Av k cv) ∧ w'.frozen? ⟨n, 1, none⟩ = false := fun w' h => ⟨(cell_of_heap (h _ hbs (hne _ (by omega)))).trans c1, (frozen_of_heap (h _ hbs (hne _ (by omega)))).trans g1⟩
          rw [hum] at hul hm64 Hu hcall
          clear hu ha hrow hum
          go_wp2
          go_region_law
            (first
              | (go_simp
                 go_at_call 11
                 refine hcall.out.mono ?_
                 rintro e w4 ⟨v4, l4, rfl, hl4, hR4, hb4⟩
                 have hB4 : Below wr.heap.size wr w4 := ⟨hb4.os, hb4.tape, hb4.output, hb4.size, hb4.block⟩
                 obtain ⟨A4, c4, hv4⟩ := row_own hR4.row
                 have hl4l : l4.length = um.args.length := by rw [← hl4, List.length_map]
                 rw [hl4l] at hv4
                 have HR4 := Lib.hid hR4
                 obtain ⟨k4, _, _, _⟩ := hSS _ hB4
                 obtain ⟨k4', _, _, _⟩ := hSS _ (hB4.alloc hB4.size (.cells #[.int .i64 um.fn, .slice A4 um.args.length c4] 32))
                 subst hv4
                 clear hR4
                 dsimp only)
              | (refine step_append_at rfl (.tmp 33) (.tmp 41) 30 rfl (n + 1) 32 i0 (.agg #[.int .i64 0, .slice none 0 0]) 2 32 Tryz.underlying30 hi hz0 hz1 hz2 rfl (by decide) (.slice Av k cv) k _ (by simp [Act.eval]) (row_keep Hrow.out fun g e => (Below.heap_alloc w4 _ g (Nat.lt_of_lt_of_le (hrl g e).2 hB4.size)).trans (hB4.block g (hrl g e).2)) ⟨w4.heap.size, 0, none⟩ 1 1 [.int .i64 um.fn, .slice A4 um.args.length c4] (by simp [Act.eval]) rfl (cells_new_two _ _ _ _) (by simp [Value.oneCell']) (by unfold maxLen; omega) (by omega) (by have := hB4.size; simp; omega) ?_
                 intro v5 w5 hown5 hgr5 hat5
                 have hK5 : ∀ g, g < wr.heap.size → (Value.slice Av k cv).ownBlock ≠ some g → w5.heap[g]? = wr.heap[g]? := fun g h1 h2 => (hgr5.block g (by have := hB4.size; simp; omega) (fun e => h2 e.symm)).trans ((Below.heap_alloc w4 _ g (by have := hB4.size; omega)).trans (hB4.block g h1))
                 obtain ⟨k1, kf⟩ := hBX w5 hK5
                 obtain ⟨g5, cap5, hv5⟩ := ownsRow_succ hown5
                 have Hown5 := Lib.hid hown5
                 have Hgr5 := Lib.hid hgr5
                 have Hat5 := Lib.hid hat5
                 subst hv5
                 clear hown5 hgr5 hat5 hK5)
              | fail)
          all_goals
            have hst := H.out.next Hu.out hm64 hl4 hul rfl HR4.out hB4 Hown5.out Hgr5.out Hat5.out
            have hBe : Below n X w5 := ((hBr.trans (hB4.mono (by omega))).alloc (by have := hB4.size; omega) _).grown Hgr5.out (by have := hB4.size; simp; omega) (fun g e => by have := (hrl g e).1; omega)
            go_wp2
            go_roundw
            case rel => exact ⟨k + 1, _, _, by omega, by go_num, hBe.setCell (Nat.le_refl _) _, hst⟩
            case measure => simp [intOf]; omega
        · obtain rfl : k = xs.length := by omega
          have hrow := H.out.row.row
          have hll := H.out.len (by rw [List.length_map]; exact hk)
          rw [hll] at hrow
          obtain ⟨Av, cv, hv⟩ := row_own hrow
          subst hv
          have hkey := Lib.hid H.out.key
          have HR := Lib.hid H.out.row
          have y1 := (hBW.block _ hWs).trans q1
          obtain ⟨b0, b1, bg0, bg1⟩ := cells_two y1
          clear hrow
          go_wp2
          obtain ⟨z1, z2⟩ := set2_two (u := .int .i64 f) (v := .slice Av xs.length cv) y1
          have p0 := (cells_two z1).1
          have p1 := (cells_two z2).2.1
          have hoth : ∀ g, g ≠ w.heap.size + 1 → ((wr.setCell ⟨w.heap.size + 1, 0, none⟩ (.int .i64 f)).setCell ⟨w.heap.size + 1, 1, none⟩ (.slice Av xs.length cv)).heap[g]? = wr.heap[g]? := fun g e => (heap_setCell_other _ _ _ _ e).trans (heap_setCell_other _ _ _ _ e)
          refine bodyPost_ret (v := .agg #[.int .i64 f, .slice Av xs.length cv]) (by simp [results, Tryz.results11, go_sem, p0, p1]) rfl ⟨_, r, by rw [hmv.out]; rfl, by rw [hkey.out, hmv.out, ← List.length_map (f := appT (bdT l)), List.take_length]; rfl, ?_, ?_⟩
          · have hk3 := (HR.out.keep (fun g e => hoth g (by have := (row_lt HR.out.row g e).1; omega)) (fun g e => hoth g (by have := e.1; omega))).base (base' := w.heap.size) (by omega)
            exact hk3.wide fun g e => show Apart _ _ _ g from ⟨by have := e.1; omega, by have := e.2.1; simpa using this, e.2.2⟩
          · exact (hBw.setCell (by show _ ≤ w.heap.size + 1; omega) _).setCell (by show _ ≤ w.heap.size + 1; omega) _
end Go.Proofs.YthgglobfkkcdgaaGreatDoor
