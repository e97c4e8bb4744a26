import Derived.Test.YthgglobfkkcdgaaGreatP49S1
import Derived.Laws.EntriesVeiled
import Derived.Deep.OwnRows
import Derived.Deep.DeepCutAuto
import Derived.ProofKit
import Derived.SizedLaws
import Derived.Deep.Slices
import Derived.Carry
import Derived.Test.YthgglobfkkcdgaaGreatRows
import Derived.Deep.RegionHeld3
namespace Go.Proofs.YthgglobfkkcdgaaGreat
open Go.RowKit Go.Shelf
set_option maxRecDepth 100000
structure Odr where
  lpo : Bool
  prec : List Int
  wts : List Int
  var : Int
structure OdrM (w : World) (B : Nat) (o : Odr) (P Q : Option Addr) : Prop where
  p : Ints w B P o.prec
  q : Ints w B Q o.wts
  v : I64 o.var
theorem OdrM.on {w w' : World} {o : Odr} {P Q : Option Addr} (h : OdrM w w.heap.size o P Q) (hb : Below w.heap.size w w') : OdrM w' w'.heap.size o P Q := ⟨h.p.on hb, h.q.on hb, h.v⟩
theorem Ints.get {w : World} {B : Nat} {A : Option Addr} {l : List Int} (h : Ints w B A l) {i : Nat} {x : Int} (hx : l[i]? = some x) : ∃ b off, A = some ⟨b, off, none⟩ ∧ b < B ∧ w.cell? ⟨b, off + i, none⟩ = some (.int .i64 x) := by
  have hlt := (List.getElem?_eq_some_iff.1 hx).1
  obtain ⟨b, off, hA, hb, hc⟩ := h.ad (by omega)
  exact ⟨b, off, hA, hb, hc i x hx⟩
def capI (n : Int) : Int := max 0 (min n 2147483647)
theorem capI_bd (n : Int) : 0 ≤ capI n ∧ capI n ≤ 2147483647 := by unfold capI; omega
def wtI (o : Odr) (f : Int) : Int := capI (if f < 0 then o.var else o.wts.getD f.toNat 0)
theorem wtI_bd (o : Odr) (f : Int) : 0 ≤ wtI o f ∧ wtI o f ≤ 2147483647 := capI_bd _
theorem capped_any (n : Int) (w : World) : Calls Tryz.prog 71 #[.int .i64 n] w fun e w' => e = .returned (.int .i64 (capI n)) ∧ w' = w := by
  by_cases h1 : 2147483647 < n
  · go_enter Tryz.func71, Tryz.ntmps71
    go_wp2
    go_ret
    exact ⟨ret_int (by unfold capI; omega), rfl⟩
  · by_cases h2 : 0 < n
    · go_enter Tryz.func71, Tryz.ntmps71
      go_wp2
      go_ret
      exact ⟨ret_int (by unfold capI; omega), rfl⟩
    · go_enter Tryz.func71, Tryz.ntmps71
      go_wp2
      go_ret
      exact ⟨ret_int (by unfold capI; omega), rfl⟩
set_option maxHeartbeats 1000000 in
theorem kboWeight1_any (o : Odr) (t : Tm) (P Q A : Option Addr) (pc qc c : Nat) (w : World) (hM : OdrM w w.heap.size o P Q) (hk : t.fn < 0 ∨ t.fn < (o.wts.length : Int)) :
    Calls Tryz.prog 111 #[.agg #[.bool o.lpo, .slice P o.prec.length pc, .slice Q o.wts.length qc, .int .i64 o.var], .agg #[.int .i64 t.fn, .slice A t.args.length c]] w fun e w' => e = .returned (.int .i64 (wtI o t.fn)) ∧ Below w.heap.size w w' := by
  have hB : Below w.heap.size w ((w.alloc (.cells #[.bool o.lpo, .slice P o.prec.length pc, .slice Q o.wts.length qc, .int .i64 o.var] 24)).alloc (.cells #[.int .i64 t.fn, .slice A t.args.length c] 36)) := ((Below.refl _ _).alloc (Nat.le_refl _) _).alloc (by simp) _
  by_cases hneg : t.fn < 0
  · have hw := Lib.hid (show wtI o t.fn = capI o.var by unfold wtI; rw [if_pos hneg])
    go_enter Tryz.func111, Tryz.ntmps111
    go_wp2_with (first
      | (go_at_call 71; refine (capped_any _ _).mono ?_; go_must (rintro e w1 ⟨rfl, rfl⟩))
      | fail)
    go_ret
    exact ⟨by rw [hw.out]; rfl, hB⟩
  · obtain ⟨k, hk0⟩ : ∃ k : Nat, t.fn = (k : Int) := ⟨t.fn.toNat, by omega⟩
    rw [hk0] at hneg hk ⊢
    have hkl : k < o.wts.length := by omega
    obtain ⟨x, hx⟩ : ∃ x, o.wts[k]? = some x := ⟨_, List.getElem?_eq_getElem hkl⟩
    have hw := Lib.hid (show wtI o (k : Int) = capI x by unfold wtI; rw [if_neg hneg, List.getD_eq_getElem?_getD, show ((k : Int).toNat) = k from rfl, hx]; rfl)
    obtain ⟨b, off, rfl, hb, hc⟩ := hM.q.get hx
    rw [hk0] at hB
    have hkl' : (k : Int) < (o.wts.length : Int) := by omega
    have hc2 := cell_on hB hb hc
    go_enter Tryz.func111, Tryz.ntmps111
    go_wp2_with (first
      | (go_at_call 71; refine (capped_any _ _).mono ?_; go_must (rintro e w1 ⟨rfl, rfl⟩))
      | fail)
    go_ret
    exact ⟨by rw [hw.out]; rfl, hB⟩
def relT (r : Int) : Int := if r = 1 then 3 else if r = 3 then 1 else r
theorem turned_any (r : Int) (h0 : 0 ≤ r) (h3 : r ≤ 3) (w : World) : Calls Tryz.prog 92 #[.int .i64 r] w fun e w' => e = .returned (.int .i64 (relT r)) ∧ w' = w := by
  have hc : r = 0 ∨ r = 1 ∨ r = 2 ∨ r = 3 := by omega
  rcases hc with rfl | rfl | rfl | rfl
  · have hix : (Instr.index 120 (.agg #[.int .i64 0, .int .i64 3, .int .i64 2, .int .i64 1]) (.int .i64 0)).run Tryz.prog w = .ok (.int .i64 0) w := by kernel_rfl
    go_enter Tryz.func92, Tryz.ntmps92
    go_wp2
    go_ret
    exact ⟨rfl, rfl⟩
  · have hix : (Instr.index 120 (.agg #[.int .i64 0, .int .i64 3, .int .i64 2, .int .i64 1]) (.int .i64 1)).run Tryz.prog w = .ok (.int .i64 3) w := by kernel_rfl
    go_enter Tryz.func92, Tryz.ntmps92
    go_wp2
    go_ret
    exact ⟨rfl, rfl⟩
  · have hix : (Instr.index 120 (.agg #[.int .i64 0, .int .i64 3, .int .i64 2, .int .i64 1]) (.int .i64 2)).run Tryz.prog w = .ok (.int .i64 2) w := by kernel_rfl
    go_enter Tryz.func92, Tryz.ntmps92
    go_wp2
    go_ret
    exact ⟨rfl, rfl⟩
  · have hix : (Instr.index 120 (.agg #[.int .i64 0, .int .i64 3, .int .i64 2, .int .i64 1]) (.int .i64 3)).run Tryz.prog w = .ok (.int .i64 1) w := by kernel_rfl
    go_enter Tryz.func92, Tryz.ntmps92
    go_wp2
    go_ret
    exact ⟨rfl, rfl⟩
def relC (c : Int) : Int := if c > 0 then 3 else if c < 0 then 1 else 2
theorem relation_pos (c : Int) (h : c ≥ 0) (w : World) : Calls Tryz.prog 72 #[.int .i64 c] w fun e w' => e = .returned (.int .i64 (relC c)) ∧ w' = w := by
  by_cases hp : c > 0
  · have hr := Lib.hid (show relC c = 3 by unfold relC; rw [if_pos hp])
    go_enter Tryz.func72, Tryz.ntmps72
    go_wp2
    go_ret
    exact ⟨by rw [hr.out]; rfl, rfl⟩
  · obtain rfl : c = 0 := by omega
    go_enter Tryz.func72, Tryz.ntmps72
    go_wp2
    go_ret
    exact ⟨rfl, rfl⟩
theorem relation_any (c : Int) (hlo : -9223372036854775807 ≤ c) (hhi : c ≤ 9223372036854775807) (w : World) : Calls Tryz.prog 72 #[.int .i64 c] w fun e w' => e = .returned (.int .i64 (relC c)) ∧ w' = w := by
  by_cases h : c ≥ 0
  · exact relation_pos c h w
  · have hr := Lib.hid (show relC c = 1 by unfold relC; rw [if_neg (by omega), if_pos (by omega)])
    have hr2 : relC (-c) = 3 := by unfold relC; rw [if_pos (by omega)]
    have h1 := Lib.hid (relation_pos (-c) (by omega) w)
    have h2 := Lib.hid (turned_any 3 (by omega) (by omega) w)
    rw [hr2] at h1
    have hn1 : ¬ c > 0 := by omega
    have hn2 : c < 0 := by omega
    clear hr2 h
    go_enter Tryz.func72, Tryz.ntmps72
    go_wp2_with (first
      | (go_at_call 72; (with_reducible refine h1.out.mono ?_); go_must (rintro e w1 ⟨rfl, rfl⟩))
      | (go_at_call 92; (with_reducible refine h2.out.mono ?_); go_must (rintro e w1 ⟨rfl, rfl⟩))
      | fail)
    go_ret
    exact ⟨by rw [hr.out]; rfl, rfl⟩
def knowTop (o : Odr) (f : Int) (n : Nat) : Bool := if f < 0 then decide (n = 0) else decide (f < (o.prec.length : Int)) && decide (f < (o.wts.length : Int))
mutual
def knowT (o : Odr) : Tm → Bool
  | .node f xs => knowTop o f xs.length && knowL o xs
def knowL (o : Odr) : List Tm → Bool
  | [] => true
  | t :: ts => knowT o t && knowL o ts
end
set_option maxHeartbeats 1000000 in
theorem knows1_any (o : Odr) (t : Tm) (P Q A : Option Addr) (pc qc c bo : Nat) (w : World) (hbo : w.heap[bo]? = some (.cells #[.bool o.lpo, .slice P o.prec.length pc, .slice Q o.wts.length qc, .int .i64 o.var] 24)) :
    Calls Tryz.prog 68 #[.agg #[.int .i64 t.fn, .slice A t.args.length c], .pointer (some ⟨bo, 0, none⟩)] w fun e w' => e = .returned (.bool (knowTop o t.fn t.args.length)) ∧ Below w.heap.size w w' := by
  have hlt := (Array.getElem?_eq_some_iff.1 hbo).1
  have hB : Below w.heap.size w (w.alloc (.cells #[.int .i64 t.fn, .slice A t.args.length c] 36)) := (Below.refl _ _).alloc (Nat.le_refl _) _
  have q0 := (hB.block bo hlt).trans hbo
  have c1 : (w.alloc (.cells #[.int .i64 t.fn, .slice A t.args.length c] 36)).cell? ⟨bo, 1, none⟩ = some (.slice P o.prec.length pc) := by simp only [World.cell?, q0]; rfl
  have c2 : (w.alloc (.cells #[.int .i64 t.fn, .slice A t.args.length c] 36)).cell? ⟨bo, 2, none⟩ = some (.slice Q o.wts.length qc) := by simp only [World.cell?, q0]; rfl
  clear q0 hbo
  by_cases hneg : t.fn < 0
  · have hk := Lib.hid (show knowTop o t.fn t.args.length = decide (t.args.length = 0) by unfold knowTop; rw [if_pos hneg])
    go_enter Tryz.func68, Tryz.ntmps68
    go_wp2
    go_ret
    exact ⟨ret_bool (by rw [hk.out, Bool.eq_iff_iff, beq_iff_eq, decide_eq_true_eq]; omega), hB⟩
  · by_cases h1 : t.fn < (o.prec.length : Int)
    · have hk := Lib.hid (show knowTop o t.fn t.args.length = decide (t.fn < (o.wts.length : Int)) by unfold knowTop; rw [if_neg hneg, decide_eq_true h1, Bool.true_and])
      go_enter Tryz.func68, Tryz.ntmps68
      go_wp2
      go_ret
      exact ⟨ret_bool (by rw [hk.out]), hB⟩
    · have hk := Lib.hid (show knowTop o t.fn t.args.length = false by unfold knowTop; rw [if_neg hneg, decide_eq_false h1, Bool.false_and])
      go_enter Tryz.func68, Tryz.ntmps68
      go_wp2
      go_ret
      exact ⟨ret_bool (by rw [hk.out]), hB⟩
theorem cells_four {W : World} {b : Nat} {x y z u : Value} {t : TypeId} (h : W.heap[b]? = some (.cells #[x, y, z, u] t)) : W.cell? ⟨b, 0, none⟩ = some x ∧ W.cell? ⟨b, 1, none⟩ = some y ∧ W.cell? ⟨b, 2, none⟩ = some z ∧ W.cell? ⟨b, 3, none⟩ = some u := by
  refine ⟨?_, ?_, ?_, ?_⟩ <;> simp [World.cell?, h]
def kvis (o : Odr) (s : Unit) (t : Tm) : Unit × Bool := (s, knowTop o t.fn t.args.length)
theorem knows1_vis (o : Odr) (P Q : Option Addr) (pc qc bo B0 : Nat) (hbo : bo < B0) :
    VisC (fun _ _ => True) (kvis o) 68 #[.pointer (some ⟨bo, 0, none⟩)] (fun _ => False) (· < B0) (· < B0)
      (fun _ W => W.heap[bo]? = some (.cells #[.bool o.lpo, .slice P o.prec.length pc, .slice Q o.wts.length qc, .int .i64 o.var] 24)) B0 where
  ent := enters_of Tryz.func68 (by kernel_rfl) rfl
  call := fun s t A c W hB0 hI hf _ hA => (knows1_any o t P Q A pc qc c bo W hI).mono fun e w' ⟨he, hb⟩ => ⟨he, (hb.block bo (Nat.lt_of_lt_of_le hbo hB0)).trans hI, KeepsC.of_below hb⟩
  stay := fun s W W' h hk => (hk.block bo hbo).trans h
  cb := fun g e => e.elim
  db := fun g e => e
  nb := fun g e => e
  nc := fun g _ e => e
theorem ev_know (o : Odr) (t : Tm) : (evT (kvis o) () t).2 = knowT o t := by
  have key : ∀ xs : List Tm, (∀ t ∈ xs, (evT (kvis o) () t).2 = knowT o t) → (evL (kvis o) () xs).2 = knowL o xs := by
    intro xs
    induction xs with
    | nil => intro _; simp only [evL, knowL]
    | cons x xs ih =>
      intro h
      simp only [evL, knowL, ← h x (by simp)]
      split
      · rename_i hh
        rw [ih fun t ht => h t (by simp [ht]), hh, Bool.true_and]
      · rename_i hh
        rw [Bool.not_eq_true] at hh
        rw [hh, Bool.false_and]
  refine Tm.ind (P := fun t => (evT (kvis o) () t).2 = knowT o t) (fun f xs ih => ?_) t
  have e : (kvis o () (.node f xs)).2 = knowTop o f xs.length := rfl
  rw [evT, knowT, ← e]
  split
  · rename_i hh
    rw [hh, Bool.true_and]
    exact key xs ih
  · rename_i hh
    rw [Bool.not_eq_true] at hh
    rw [hh, Bool.false_and]
theorem ok_true {σ : Type} (vs : σ → Tm → σ × Bool) (t : Tm) : ∀ s, okT (fun _ _ => True) vs s t := by
  have key : ∀ xs : List Tm, (∀ t ∈ xs, ∀ s, okT (fun _ _ => True) vs s t) → ∀ s, okL (fun _ _ => True) vs s xs := by
    intro xs
    induction xs with
    | nil => intro _ s; simp only [okL]
    | cons x xs ih => intro h s; rw [okL]; exact ⟨h x (by simp) s, fun _ => ih (fun t ht => h t (by simp [ht])) _⟩
  refine Tm.ind (P := fun t => ∀ s, okT (fun _ _ => True) vs s t) (fun f xs ih s => ?_) t
  rw [okT]
  exact ⟨trivial, fun _ => key xs ih _⟩
set_option maxHeartbeats 1000000 in
theorem kboKnows_any (o : Odr) (t : Tm) (P Q A : Option Addr) (pc qc c : Nat) (w : World) (hf : I64 t.fn) (hA : Args w w.heap.size A t.args) :
    Calls Tryz.prog 47 #[.agg #[.bool o.lpo, .slice P o.prec.length pc, .slice Q o.wts.length qc, .int .i64 o.var], .agg #[.int .i64 t.fn, .slice A t.args.length c]] w fun e w' => e = .returned (.bool (knowT o t)) ∧ Below w.heap.size w w' := by
  obtain ⟨q0, q1⟩ := heap2 w (.cells #[.bool o.lpo, .slice P o.prec.length pc, .slice Q o.wts.length qc, .int .i64 o.var] 24) (.cells #[.int .i64 t.fn, .slice A t.args.length c] 36)
  obtain ⟨W, hW⟩ : ∃ W, ((w.alloc (.cells #[.bool o.lpo, .slice P o.prec.length pc, .slice Q o.wts.length qc, .int .i64 o.var] 24)).alloc (.cells #[.int .i64 t.fn, .slice A t.args.length c] 36)) = W := ⟨_, rfl⟩
  have hB : Below w.heap.size w W := by rw [← hW]; exact ((Below.refl _ _).alloc (Nat.le_refl _) _).alloc (by simp) _
  rw [hW] at q0 q1
  have hWs : w.heap.size + 1 < W.heap.size := (Array.getElem?_eq_some_iff.1 q1).1
  obtain ⟨x0, x1, _, _⟩ := cells_two q1
  have H1 := Lib.hid (each_any (knows1_vis o P Q pc qc w.heap.size W.heap.size (by omega)) t () A c W (Nat.le_refl _) q0 hf (ok_true _ t ()) (hA.on hB).toN)
  have hev := Lib.hid (ev_know o t)
  have HW := Lib.hid hW
  clear hW hA q0 q1
  go_enter Tryz.func47, Tryz.ntmps47
  go_upto_region 1 with fail
  rw [HW.out]
  go_wp2_with (first
    | (go_at_call 67; (with_reducible refine H1.out.mono ?_); go_must (rintro e w1 ⟨rfl, _, hk1⟩))
    | fail)
  go_ret
  exact ⟨by rw [hev.out]; rfl, hB.trans (Keeps.below hk1 fun g hg => ⟨by omega, fun e => e⟩)⟩
end Go.Proofs.YthgglobfkkcdgaaGreat
namespace Go.Proofs.YthgglobfkkcdgaaGreat
open Go.RowKit Go.Shelf
set_option maxRecDepth 100000
structure AskC (k : FuncId) (fs cv : Array Value) (W : World) (l : List Int) (q : Int → Bool) : Prop where
  ent : ∀ (args : Array Value) (w : World), (callFunc k args).run Tryz.prog w = .ok (.enter k args) w
  call : ∀ (x : Int) (w : World), x ∈ l → Below W.heap.size W w → Calls Tryz.prog k (fs.push (.int .i64 x) ++ cv) w fun e w' => e = .returned (.bool (q x)) ∧ Below w.heap.size w w'
structure StdC (k : FuncId) (fs cv : Array Value) (W : World) (l1 l2 : List Int) (st : Int → Int → Int) : Prop where
  ent : ∀ (args : Array Value) (w : World), (callFunc k args).run Tryz.prog w = .ok (.enter k args) w
  call : ∀ (x y : Int) (w : World), x ∈ l1 → y ∈ l2 → Below W.heap.size W w → Calls Tryz.prog k (fs ++ (#[.int .i64 x, .int .i64 y] ++ cv)) w fun e w' => e = .returned (.int .i64 (st x y)) ∧ Below w.heap.size w w'
section
variable {k : FuncId} {fs cv : Array Value} {q : Int → Bool} {l : List Int}
set_option maxHeartbeats 2000000 in
theorem oIndex_any (A : Option Addr) (c : Nat) (w : World) (hA : Ints w w.heap.size A l) (hC : AskC k fs cv w l q) :
    Calls Tryz.prog 96 #[.slice A l.length c, .func (.func k) fs cv] w fun e w' => ∃ i : Int, e = .returned (.int .i64 i) ∧ decide (i ≥ 0) = l.any q ∧ Below w.heap.size w w' := by
  have hlen := hA.len
  have HA := Lib.hid hA
  have HC := Lib.hid hC
  have hent := hC.ent
  clear hA hC
  go_enter Tryz.func96, Tryz.ntmps96
  go_wp2
  go_loopw [8] (fun i wr => ∃ m : Nat, m ≤ l.length ∧ i = .int .i64 (m : Int) ∧ Below w.heap.size w wr ∧ Hid ((l.take m).any q = false)) (fun i _ => l.length - (intOf i).toNat)
  case atStart => exact ⟨0, Nat.zero_le _, rfl, Below.refl _ _, Lib.hid (by simp)⟩
  case round =>
    obtain ⟨m, hm, rfl, hBr, Hn⟩ := hrel
    by_cases hlt : m < l.length
    · obtain ⟨x, hx⟩ : ∃ x, l[m]? = some x := ⟨_, List.getElem?_eq_getElem hlt⟩
      obtain ⟨b, off, rfl, hb, hc⟩ := HA.out.get hx
      have e0 := cell_on hBr hb hc
      have hmem := List.mem_of_getElem? hx
      have HQ := Lib.hid (HC.out.call x wr hmem hBr)
      have hwr1 : IntKind.i64.wrap ((m : Int) + 1) = (m : Int) + 1 := by rw [IntKind.wrap_i64]; omega
      have hn2 : Hid ((l.take (m + 1)).any q = q x) := Lib.hid (by rw [List.take_add_one, hx, List.any_append, Hn.out]; simp)
      have Hmem := Lib.hid hmem
      clear hx hb hc hmem
      cases hq : q x with
      | true =>
        rw [hq] at HQ
        have hfin : Hid (l.any q = true) := Lib.hid (List.any_eq_true.2 ⟨x, Hmem.out, hq⟩)
        clear hq
        go_wp2_with (first
          | ((with_reducible refine HQ.out.mono ?_); go_must (rintro e w1 ⟨rfl, hb1⟩))
          | fail)
        go_ret
        exact ⟨_, rfl, by rw [hfin.out]; simp, hBr.trans (hb1.mono hBr.size)⟩
      | false =>
        rw [hq] at HQ
        have hn3 : Hid ((l.take (m + 1)).any q = false) := Lib.hid (by rw [hn2.out, hq])
        clear hq
        go_wp2_with (first
          | ((with_reducible refine HQ.out.mono ?_); go_must (rintro e w1 ⟨rfl, hb1⟩))
          | fail)
        go_roundw
        case rel => exact ⟨m + 1, by omega, by go_num, hBr.trans (hb1.mono hBr.size), hn3⟩
        case measure => simp [intOf]; omega
    · obtain rfl : m = l.length := by omega
      have hfin : Hid (l.any q = false) := Lib.hid (by have := Hn.out; rwa [List.take_length] at this)
      go_wp2
      go_ret
      exact ⟨_, rfl, by rw [hfin.out]; decide, hBr⟩
theorem oContains_any (A : Option Addr) (c : Nat) (w : World) (hA : Ints w w.heap.size A l) (hC : AskC k fs cv w l q) :
    Calls Tryz.prog 78 #[.slice A l.length c, .func (.func k) fs cv] w fun e w' => e = .returned (.bool (l.any q)) ∧ Below w.heap.size w w' := by
  have H := Lib.hid (oIndex_any A c w hA hC)
  clear hA hC
  go_enter Tryz.func78, Tryz.ntmps78
  go_wp2_with (first
    | (go_at_call 96; (with_reducible refine H.out.mono ?_); go_must (rintro e w1 ⟨i, rfl, hi, hb1⟩; have Hi := Lib.hid hi; clear hi))
    | fail)
  go_ret
  exact ⟨ret_bool Hi.out, hb1⟩
end
section
variable {k : FuncId} {fs cv : Array Value} {st : Int → Int → Int} {l1 l2 : List Int}
theorem oAbove1_any {bs bj : Nat} {x y : Int} {r : Int} (w : World) (h0 : w.cell? ⟨bs, 0, none⟩ = some (.func (.func k) fs cv)) (h1 : w.cell? ⟨bj, 0, none⟩ = some (.int .i64 y)) (hent : ∀ (args : Array Value) (w : World), (callFunc k args).run Tryz.prog w = .ok (.enter k args) w)
    (hC : Calls Tryz.prog k (fs ++ (#[.int .i64 x, .int .i64 y] ++ cv)) w fun e w' => e = .returned (.int .i64 r) ∧ Below w.heap.size w w') :
    Calls Tryz.prog 79 #[.int .i64 x, .pointer (some ⟨bs, 0, none⟩), .pointer (some ⟨bj, 0, none⟩)] w fun e w' => e = .returned (.bool (r == 3)) ∧ Below w.heap.size w w' := by
  have HC := Lib.hid hC
  clear hC
  go_enter Tryz.func79, Tryz.ntmps79
  go_wp2_with (first
    | ((with_reducible refine HC.out.mono ?_); go_must (rintro e w1 ⟨rfl, hb1⟩))
    | fail)
  go_ret
  exact ⟨rfl, hb1⟩
set_option maxHeartbeats 2000000 in
theorem oAbove_any (A1 A2 : Option Addr) (c1 c2 : Nat) (w : World) (hA1 : Ints w w.heap.size A1 l1) (hA2 : Ints w w.heap.size A2 l2) (hC : StdC k fs cv w l1 l2 st) :
    Calls Tryz.prog 54 #[.slice A1 l1.length c1, .slice A2 l2.length c2, .func (.func k) fs cv] w fun e w' => e = .returned (.bool (l2.all fun j => l1.any fun i => st i j == 3)) ∧ Below w.heap.size w w' := by
  have hlen := hA2.len
  have q0 := heap_alloc_new w (.cells #[.func (.func k) fs cv] 88)
  obtain ⟨W, hW⟩ : ∃ W, w.alloc (.cells #[.func (.func k) fs cv] 88) = W := ⟨_, rfl⟩
  have hB : Below w.heap.size w W := by rw [← hW]; exact (Below.refl _ _).alloc (Nat.le_refl _) _
  rw [hW] at q0
  have hWs : w.heap.size < W.heap.size := (Array.getElem?_eq_some_iff.1 q0).1
  have HA1 := Lib.hid hA1
  have HA2 := Lib.hid hA2
  have HC := Lib.hid hC
  have HW := Lib.hid hW
  have hent := hC.ent
  have Hq := Lib.hid q0
  clear hA1 hA2 hC hW q0
  go_enter Tryz.func54, Tryz.ntmps54
  go_upto_region 1 with fail
  rw [HW.out]
  go_wp2
  go_loopw [11] (fun i wr => ∃ m : Nat, m ≤ l2.length ∧ i = .int .i64 (m : Int) ∧ Below W.heap.size W wr ∧ Hid (∀ j ∈ l2.take m, (l1.any fun i => st i j == 3) = true)) (fun i _ => l2.length - (intOf i).toNat)
  case atStart => exact ⟨0, Nat.zero_le _, rfl, Below.refl _ _, Lib.hid fun j hj => by simp at hj⟩
  case round =>
    obtain ⟨m, hm, rfl, hBr, Hn⟩ := hrel
    have hBw : Below w.heap.size w wr := hB.trans (hBr.mono hB.size)
    by_cases hlt : m < l2.length
    · obtain ⟨y, hy⟩ : ∃ x, l2[m]? = some x := ⟨_, List.getElem?_eq_getElem hlt⟩
      obtain ⟨b, off, rfl, hb, hc⟩ := HA2.out.get hy
      have e0 := cell_on hBw hb hc
      have hmem := List.mem_of_getElem? hy
      have hwr1 : IntKind.i64.wrap ((m : Int) + 1) = (m : Int) + 1 := by rw [IntKind.wrap_i64]; omega
      have hBx : Below wr.heap.size wr (wr.alloc (.cells #[.int .i64 y] 3)) := (Below.refl _ _).alloc (Nat.le_refl _) _
      have p0 := heap_alloc_new wr (.cells #[.int .i64 y] 3)
      have hBwx := hBw.trans (hBx.mono hBw.size)
      have HI1 : Hid (Calls Tryz.prog 78 #[.slice A1 l1.length c1, .func (.func 79) #[] #[.pointer (some ⟨w.heap.size, 0, none⟩), .pointer (some ⟨wr.heap.size, 0, none⟩)]] (wr.alloc (.cells #[.int .i64 y] 3)) fun e w' => e = .returned (.bool (l1.any fun i => st i y == 3)) ∧ Below (wr.alloc (.cells #[.int .i64 y] 3)).heap.size (wr.alloc (.cells #[.int .i64 y] 3)) w') := Lib.hid (by
        refine oContains_any (q := fun i => st i y == 3) A1 c1 _ (HA1.out.on hBwx) ⟨fun args w => by kernel_rfl, fun x w1 hx hb1 => ?_⟩
        have hBw1 := hBwx.trans (hb1.mono hBwx.size)
        refine oAbove1_any w1 (cells_one ((hBr.trans ((hBx.trans (hb1.mono hBx.size)).mono hBr.size)).block _ hWs |>.trans Hq.out)).1 (cells_one ((hb1.block _ (by simp)).trans p0)).1 hent (HC.out.call x y w1 hx hmem hBw1))
      have Hy := Lib.hid hy
      clear hy hb hc hmem
      cases hq : l1.any fun i => st i y == 3 with
      | true =>
        rw [hq] at HI1
        have hn2 : Hid (∀ j ∈ l2.take (m + 1), (l1.any fun i => st i j == 3) = true) := Lib.hid fun j hj => by
          rw [List.take_add_one, Hy.out] at hj
          rcases List.mem_append.1 hj with hj | hj
          · exact Hn.out j hj
          · simp at hj; subst hj; exact hq
        clear hq
        go_wp2_with (first
          | (go_at_call 78; (with_reducible refine HI1.out.mono ?_); go_must (rintro e w1 ⟨rfl, hb1⟩))
          | fail)
        go_roundw
        case rel => exact ⟨m + 1, by omega, by go_num, hBr.trans ((hBx.trans (hb1.mono hBx.size)).mono hBr.size), hn2⟩
        case measure => simp [intOf]; omega
      | false =>
        rw [hq] at HI1
        have hfin : Hid ((l2.all fun j => l1.any fun i => st i j == 3) = false) := Lib.hid (List.all_eq_false.2 ⟨y, List.mem_of_getElem? Hy.out, by rw [hq]; decide⟩)
        clear hq
        go_wp2_with (first
          | (go_at_call 78; (with_reducible refine HI1.out.mono ?_); go_must (rintro e w1 ⟨rfl, hb1⟩))
          | fail)
        go_ret
        exact ⟨ret_bool hfin.out.symm, hBwx.trans (hb1.mono hBwx.size)⟩
    · obtain rfl : m = l2.length := by omega
      have hfin : Hid ((l2.all fun j => l1.any fun i => st i j == 3) = true) := Lib.hid (by
        have := Hn.out; rw [List.take_length] at this
        exact List.all_eq_true.2 this)
      go_wp2
      go_ret
      exact ⟨ret_bool hfin.out.symm, hBw⟩
end
end Go.Proofs.YthgglobfkkcdgaaGreat
namespace Go.Proofs.YthgglobfkkcdgaaGreat
open Go.RowKit Go.Shelf
set_option maxRecDepth 100000
def relAt (rels : List Int) (i j : Int) : Int := rels.getD (i + j).toNat 0
def relG (rels rows cols : List Int) : Int :=
  if rows.isEmpty && cols.isEmpty then 2
  else if cols.all (fun j => rows.any fun i => relAt rels i j == 3) then 3
  else if rows.all (fun i => cols.any fun j => trnI (relAt rels i j) == 3) then 1 else 0
section
variable {S : Nat → Prop} {bg : Nat} {v1 v2 v3 : Value} {rels rows : List Int} {gone : List Bool}
def PlcG (rels rows cols : List Int) : Prop := ∀ i ∈ rows, ∀ j ∈ cols, ∃ a b : Nat, i = (a : Int) ∧ j = (b : Int) ∧ ∃ r, rels[a + b]? = some r
theorem relAt_of {a b : Nat} {r : Int} (h : rels[a + b]? = some r) : relAt rels (a : Int) (b : Int) = r := by
  unfold relAt
  rw [← Int.natCast_add, Int.toNat_natCast, List.getD_eq_getElem?_getD, h]; rfl
set_option maxHeartbeats 4000000 in
theorem gRelation_any (w : World) (hG : GrdW w S bg v1 v2 v3 rels rows gone) (hP : PlcG rels rows (colsI gone)) (h4 : ∀ r ∈ rels, In4 r) (hi2 : ∀ x ∈ rows, I64 x) (hl : gone.length ≤ 1099511627776) (hl1 : rels.length ≤ 4611686018427387904) (hl2 : rows.length ≤ 1099511627776) :
    Calls Tryz.prog 39 #[.pointer (some ⟨bg, 0, none⟩)] w fun e w' => e = .returned (.int .i64 (relG rels rows (colsI gone))) ∧ Below w.heap.size w w' := by
  obtain ⟨A2, c2, hv2, hI2⟩ := row_ints hG.r2 (by omega) hi2
  subst hv2
  obtain ⟨b0, b1, b2, _, _, _⟩ := cells_three hG.box
  have hbx : bg < w.heap.size := hG.lt bg (.inl rfl)
  have HCo := Lib.hid (gColumns_any w hG hl)
  have hcl := colsT_len gone gone.length
  have HI2 := Lib.hid hI2
  have Hst : Hid (∀ w1, Below w.heap.size w w1 → StdC 55 #[.pointer (some ⟨bg, 0, none⟩)] #[] w1 rows (colsI gone) (relAt rels)) := Lib.hid fun w1 hb => ⟨fun args w => by kernel_rfl, fun x y w2 hx hy hb2 => by
    obtain ⟨a, b, rfl, rfl, r, hr⟩ := hP x hx y hy
    rw [relAt_of hr]
    exact gStand_any w2 (hG.on (hb.trans (hb2.mono hb.size))) hr hl1⟩
  have Htn : Hid (∀ w1, Below w.heap.size w w1 → StdC 56 #[.pointer (some ⟨bg, 0, none⟩)] #[] w1 (colsI gone) rows (fun j i => trnI (relAt rels i j))) := Lib.hid fun w1 hb => ⟨fun args w => by kernel_rfl, fun y x w2 hy hx hb2 => by
    obtain ⟨a, b, rfl, rfl, r, hr⟩ := hP x hx y hy
    show Calls _ _ _ _ fun e w' => e = .returned (.int .i64 (trnI (relAt rels (a : Int) (b : Int)))) ∧ _
    rw [relAt_of hr]
    exact gTurned_any w2 (hG.on (hb.trans (hb2.mono hb.size))) hr (h4 r (List.mem_of_getElem? hr)) hl1⟩
  obtain ⟨cs, hcs⟩ : ∃ cs, colsI gone = cs := ⟨_, rfl⟩
  have hcl2 : cs.length ≤ 1099511627776 := by rw [← hcs]; unfold colsI; omega
  rw [hcs] at HCo Hst Htn ⊢
  clear hG hP h4 hI2 hcl hcs hl hi2
  obtain ⟨p, hp⟩ : ∃ p, (cs.all fun j => rows.any fun i => relAt rels i j == 3) = p := ⟨_, rfl⟩
  obtain ⟨q, hq⟩ : ∃ q, (rows.all fun i => cs.any fun j => trnI (relAt rels i j) == 3) = q := ⟨_, rfl⟩
  have hres : relG rels rows cs = if rows.length = 0 ∧ cs.length = 0 then 2 else if p = true then 3 else if q = true then 1 else 0 := by
    unfold relG
    rw [hp, hq]
    congr 1
    simp [List.isEmpty_iff]
  rw [hres]
  have Hab : Hid (∀ w1 c1 (B : Option Addr), Below w.heap.size w w1 → Ints w1 w1.heap.size B cs → Calls Tryz.prog 54 #[.slice A2 rows.length c2, .slice B cs.length c1, .func (.func 55) #[.pointer (some ⟨bg, 0, none⟩)] #[]] w1 fun e w' => e = .returned (.bool p) ∧ Below w1.heap.size w1 w') := Lib.hid fun w1 c1 B hb hI => by
    have := oAbove_any A2 B c2 c1 w1 (HI2.out.on hb) hI (Hst.out w1 hb)
    rwa [hp] at this
  have Hbl : Hid (∀ w1 c1 (B : Option Addr), Below w.heap.size w w1 → Ints w1 w1.heap.size B cs → Calls Tryz.prog 54 #[.slice B cs.length c1, .slice A2 rows.length c2, .func (.func 56) #[.pointer (some ⟨bg, 0, none⟩)] #[]] w1 fun e w' => e = .returned (.bool q) ∧ Below w1.heap.size w1 w') := Lib.hid fun w1 c1 B hb hI => by
    have := oAbove_any B A2 c1 c2 w1 hI (HI2.out.on hb) (Htn.out w1 hb)
    rwa [hq] at this
  clear hp hq hres Hst Htn HI2
  by_cases hr0 : rows.length = 0
  · have e0 : ((rows.length : Int) == 0) = true := by rw [hr0]; rfl
    by_cases hc0 : cs.length = 0
    · have e1 : ((cs.length : Int) == 0) = true := by rw [hc0]; rfl
      rw [if_pos ⟨hr0, hc0⟩]
      clear hr0 hc0
      go_enter Tryz.func39, Tryz.ntmps39
      go_wp2_with (first
        | (go_at_call 53; (with_reducible refine HCo.out.mono ?_); go_must (rintro e w1 ⟨v, rfl, hv, hb1⟩; obtain ⟨B, cB, rfl, hI⟩ := row_ints hv.row (by omega) hv.i64; have y0 := cell_on hb1 hbx b0; have y1 := cell_on hb1 hbx b1; have y2 := cell_on hb1 hbx b2; have HAB := Lib.hid (Hab.out w1 cB B hb1 hI); have HI := Lib.hid hI; clear hv hI))
        | (go_at_call 54; first
          | ((with_reducible refine HAB.out.mono ?_); go_must (rintro e w2 ⟨rfl, hb2⟩; have hB2 := hb1.trans (hb2.mono hb1.size); have z0 := cell_on hB2 hbx b0; have z1 := cell_on hB2 hbx b1; have z2 := cell_on hB2 hbx b2; have HBL := Lib.hid (Hbl.out w2 cB B hB2 (HI.out.on hb2)); clear HAB))
          | ((with_reducible refine HBL.out.mono ?_); go_must (rintro e w3 ⟨rfl, hb3⟩)))
        | fail)
      go_ret
      exact ⟨rfl, hb1⟩
    · have e1 : ((cs.length : Int) == 0) = false := by simpa using hc0
      rw [if_neg (fun e => hc0 e.2)]
      clear hr0 hc0
      cases p with
      | true =>
        go_enter Tryz.func39, Tryz.ntmps39
        go_wp2_with (first
          | (go_at_call 53; (with_reducible refine HCo.out.mono ?_); go_must (rintro e w1 ⟨v, rfl, hv, hb1⟩; obtain ⟨B, cB, rfl, hI⟩ := row_ints hv.row (by omega) hv.i64; have y0 := cell_on hb1 hbx b0; have y1 := cell_on hb1 hbx b1; have y2 := cell_on hb1 hbx b2; have HAB := Lib.hid (Hab.out w1 cB B hb1 hI); have HI := Lib.hid hI; clear hv hI))
          | (go_at_call 54; first
            | ((with_reducible refine HAB.out.mono ?_); go_must (rintro e w2 ⟨rfl, hb2⟩; have hB2 := hb1.trans (hb2.mono hb1.size); have z0 := cell_on hB2 hbx b0; have z1 := cell_on hB2 hbx b1; have z2 := cell_on hB2 hbx b2; have HBL := Lib.hid (Hbl.out w2 cB B hB2 (HI.out.on hb2)); clear HAB))
            | ((with_reducible refine HBL.out.mono ?_); go_must (rintro e w3 ⟨rfl, hb3⟩)))
          | fail)
        go_ret
        exact ⟨rfl, hB2⟩
      | false =>
        cases q with
        | true =>
          go_enter Tryz.func39, Tryz.ntmps39
          go_wp2_with (first
            | (go_at_call 53; (with_reducible refine HCo.out.mono ?_); go_must (rintro e w1 ⟨v, rfl, hv, hb1⟩; obtain ⟨B, cB, rfl, hI⟩ := row_ints hv.row (by omega) hv.i64; have y0 := cell_on hb1 hbx b0; have y1 := cell_on hb1 hbx b1; have y2 := cell_on hb1 hbx b2; have HAB := Lib.hid (Hab.out w1 cB B hb1 hI); have HI := Lib.hid hI; clear hv hI))
            | (go_at_call 54; first
              | ((with_reducible refine HAB.out.mono ?_); go_must (rintro e w2 ⟨rfl, hb2⟩; have hB2 := hb1.trans (hb2.mono hb1.size); have z0 := cell_on hB2 hbx b0; have z1 := cell_on hB2 hbx b1; have z2 := cell_on hB2 hbx b2; have HBL := Lib.hid (Hbl.out w2 cB B hB2 (HI.out.on hb2)); clear HAB))
              | ((with_reducible refine HBL.out.mono ?_); go_must (rintro e w3 ⟨rfl, hb3⟩)))
            | fail)
          go_ret
          exact ⟨rfl, hB2.trans (hb3.mono hB2.size)⟩
        | false =>
          go_enter Tryz.func39, Tryz.ntmps39
          go_wp2_with (first
            | (go_at_call 53; (with_reducible refine HCo.out.mono ?_); go_must (rintro e w1 ⟨v, rfl, hv, hb1⟩; obtain ⟨B, cB, rfl, hI⟩ := row_ints hv.row (by omega) hv.i64; have y0 := cell_on hb1 hbx b0; have y1 := cell_on hb1 hbx b1; have y2 := cell_on hb1 hbx b2; have HAB := Lib.hid (Hab.out w1 cB B hb1 hI); have HI := Lib.hid hI; clear hv hI))
            | (go_at_call 54; first
              | ((with_reducible refine HAB.out.mono ?_); go_must (rintro e w2 ⟨rfl, hb2⟩; have hB2 := hb1.trans (hb2.mono hb1.size); have z0 := cell_on hB2 hbx b0; have z1 := cell_on hB2 hbx b1; have z2 := cell_on hB2 hbx b2; have HBL := Lib.hid (Hbl.out w2 cB B hB2 (HI.out.on hb2)); clear HAB))
              | ((with_reducible refine HBL.out.mono ?_); go_must (rintro e w3 ⟨rfl, hb3⟩)))
            | fail)
          go_ret
          exact ⟨rfl, hB2.trans (hb3.mono hB2.size)⟩
  · have e0 : ((rows.length : Int) == 0) = false := by simpa using hr0
    rw [if_neg (fun e => hr0 e.1)]
    clear hr0
    cases p with
    | true =>
      go_enter Tryz.func39, Tryz.ntmps39
      go_wp2_with (first
        | (go_at_call 53; (with_reducible refine HCo.out.mono ?_); go_must (rintro e w1 ⟨v, rfl, hv, hb1⟩; obtain ⟨B, cB, rfl, hI⟩ := row_ints hv.row (by omega) hv.i64; have y0 := cell_on hb1 hbx b0; have y1 := cell_on hb1 hbx b1; have y2 := cell_on hb1 hbx b2; have HAB := Lib.hid (Hab.out w1 cB B hb1 hI); have HI := Lib.hid hI; clear hv hI))
        | (go_at_call 54; first
          | ((with_reducible refine HAB.out.mono ?_); go_must (rintro e w2 ⟨rfl, hb2⟩; have hB2 := hb1.trans (hb2.mono hb1.size); have z0 := cell_on hB2 hbx b0; have z1 := cell_on hB2 hbx b1; have z2 := cell_on hB2 hbx b2; have HBL := Lib.hid (Hbl.out w2 cB B hB2 (HI.out.on hb2)); clear HAB))
          | ((with_reducible refine HBL.out.mono ?_); go_must (rintro e w3 ⟨rfl, hb3⟩)))
        | fail)
      go_ret
      exact ⟨rfl, hB2⟩
    | false =>
      cases q with
      | true =>
        go_enter Tryz.func39, Tryz.ntmps39
        go_wp2_with (first
          | (go_at_call 53; (with_reducible refine HCo.out.mono ?_); go_must (rintro e w1 ⟨v, rfl, hv, hb1⟩; obtain ⟨B, cB, rfl, hI⟩ := row_ints hv.row (by omega) hv.i64; have y0 := cell_on hb1 hbx b0; have y1 := cell_on hb1 hbx b1; have y2 := cell_on hb1 hbx b2; have HAB := Lib.hid (Hab.out w1 cB B hb1 hI); have HI := Lib.hid hI; clear hv hI))
          | (go_at_call 54; first
            | ((with_reducible refine HAB.out.mono ?_); go_must (rintro e w2 ⟨rfl, hb2⟩; have hB2 := hb1.trans (hb2.mono hb1.size); have z0 := cell_on hB2 hbx b0; have z1 := cell_on hB2 hbx b1; have z2 := cell_on hB2 hbx b2; have HBL := Lib.hid (Hbl.out w2 cB B hB2 (HI.out.on hb2)); clear HAB))
            | ((with_reducible refine HBL.out.mono ?_); go_must (rintro e w3 ⟨rfl, hb3⟩)))
          | fail)
        go_ret
        exact ⟨rfl, hB2.trans (hb3.mono hB2.size)⟩
      | false =>
        go_enter Tryz.func39, Tryz.ntmps39
        go_wp2_with (first
          | (go_at_call 53; (with_reducible refine HCo.out.mono ?_); go_must (rintro e w1 ⟨v, rfl, hv, hb1⟩; obtain ⟨B, cB, rfl, hI⟩ := row_ints hv.row (by omega) hv.i64; have y0 := cell_on hb1 hbx b0; have y1 := cell_on hb1 hbx b1; have y2 := cell_on hb1 hbx b2; have HAB := Lib.hid (Hab.out w1 cB B hb1 hI); have HI := Lib.hid hI; clear hv hI))
          | (go_at_call 54; first
            | ((with_reducible refine HAB.out.mono ?_); go_must (rintro e w2 ⟨rfl, hb2⟩; have hB2 := hb1.trans (hb2.mono hb1.size); have z0 := cell_on hB2 hbx b0; have z1 := cell_on hB2 hbx b1; have z2 := cell_on hB2 hbx b2; have HBL := Lib.hid (Hbl.out w2 cB B hB2 (HI.out.on hb2)); clear HAB))
            | ((with_reducible refine HBL.out.mono ?_); go_must (rintro e w3 ⟨rfl, hb3⟩)))
          | fail)
        go_ret
        exact ⟨rfl, hB2.trans (hb3.mono hB2.size)⟩
end
end Go.Proofs.YthgglobfkkcdgaaGreat
namespace Go.Proofs.YthgglobfkkcdgaaGreat
open Go.RowKit Go.Shelf
set_option maxRecDepth 100000
def keepC {α : Type} : List α → List Bool → List α
  | x :: n, g :: gs => if g = true then keepC n gs else x :: keepC n gs
  | _, _ => []
section
variable {α : Type} {rel : α → α → Int}
theorem keepC_mem {y : α} : ∀ {n : List α} {gone : List Bool}, y ∈ keepC n gone ↔ ∃ j : Nat, n[j]? = some y ∧ gone[j]? = some false
  | [], gone => by simp [keepC]
  | x :: n, [] => by simp [keepC]
  | x :: n, g :: gs => by
    have ih := keepC_mem (y := y) (n := n) (gone := gs)
    cases g with
    | true =>
      rw [keepC, if_pos rfl, ih]
      constructor
      · rintro ⟨j, h1, h2⟩; exact ⟨j + 1, by simpa using h1, by simpa using h2⟩
      · rintro ⟨j, h1, h2⟩
        cases j with
        | zero => simp at h2
        | succ j => exact ⟨j, by simpa using h1, by simpa using h2⟩
    | false =>
      rw [keepC, if_neg (by decide), List.mem_cons, ih]
      constructor
      · rintro (rfl | ⟨j, h1, h2⟩)
        · exact ⟨0, rfl, rfl⟩
        · exact ⟨j + 1, by simpa using h1, by simpa using h2⟩
      · rintro ⟨j, h1, h2⟩
        cases j with
        | zero => simp at h1; exact .inl h1.symm
        | succ j => exact .inr ⟨j, by simpa using h1, by simpa using h2⟩
theorem keepC_all : ∀ (n : List α), keepC n (List.replicate n.length false) = n
  | [] => rfl
  | x :: n => by rw [List.length_cons, List.replicate_succ, keepC, if_neg (by decide), keepC_all n]
theorem strike_hit {a y : α} : ∀ {n : List α} {gone : List Bool} {j : Nat}, n[j]? = some y → gone[j]? = some false → rel a y = 2 → (∀ i x, i < j → n[i]? = some x → gone[i]? = some false → rel a x ≠ 2) → strike rel a (keepC n gone) = some (keepC n (gone.set j true))
  | [], _, _, h, _, _, _ => by simp at h
  | _ :: _, [], _, _, h, _, _ => by simp at h
  | x :: n, g :: gs, 0, h1, h2, h3, _ => by
    simp at h1 h2; subst h1; subst h2
    rw [keepC, if_neg (by decide), List.set_cons_zero, keepC, if_pos rfl, strike, if_pos h3]
  | x :: n, g :: gs, j + 1, h1, h2, h3, h4 => by
    have ih := strike_hit (a := a) (y := y) (n := n) (gone := gs) (j := j) (by simpa using h1) (by simpa using h2) h3 (fun i x hi e1 e2 => h4 (i + 1) x (by omega) (by simpa using e1) (by simpa using e2))
    rw [List.set_cons_succ]
    cases g with
    | true => rw [keepC, if_pos rfl, keepC, if_pos rfl, ih]
    | false =>
      rw [keepC, if_neg (by decide), keepC, if_neg (by decide), strike, if_neg (h4 0 x (by omega) rfl rfl), ih]; rfl
theorem strike_miss {a : α} : ∀ {l : List α}, (∀ x ∈ l, rel a x ≠ 2) → strike rel a l = none
  | [], _ => rfl
  | x :: l, h => by
    rw [strike, if_neg (h x (by simp)), strike_miss fun y hy => h y (by simp [hy])]; rfl
def qOf (rel : α → α → Int) (n : List α) (a : α) (j : Nat) : Int := match n[j]? with
  | some x => rel a x
  | none => 0
theorem qOf_at {n : List α} {a x : α} {j : Nat} (h : n[j]? = some x) : qOf rel n a j = rel a x := by unfold qOf; rw [h]
structure GInv (rel : α → α → Int) (m n : List α) (i : Nat) (R : List α) (rels rows : List Int) (gone : List Bool) : Prop where
  gl : gone.length = n.length
  wl : rows.length = R.length
  rl : rels.length = R.length * n.length
  ri : R.length ≤ i
  ro : ∀ k, k < R.length → rows[k]? = some ((k * n.length : Nat) : Int)
  at_ : ∀ (k j : Nat) (x y : α), R[k]? = some x → n[j]? = some y → gone[j]? = some false → rels[k * n.length + j]? = some (rel x y)
  i4 : ∀ r ∈ rels, In4 r
  lf : leftM rel m n = (R ++ (leftM rel (m.drop i) (keepC n gone)).1, (leftM rel (m.drop i) (keepC n gone)).2)
theorem GInv.start (rel : α → α → Int) (m n : List α) : GInv rel m n 0 [] [] [] (List.replicate n.length false) :=
  ⟨by simp, rfl, by simp, Nat.le_refl _, fun k hk => by simp at hk, fun k j x y h => by simp at h, fun r hr => by simp at hr, by rw [keepC_all]; simp⟩
theorem GInv.step {m n : List α} {i : Nat} {R : List α} {rels rows : List Int} {gone : List Bool} {rels' rows' : List Int} {gone' : List Bool} {a : α} (h : GInv rel m n i R rels rows gone) (ha : m[i]? = some a) (h4 : ∀ x y, x ∈ m → y ∈ n → In4 (rel x y)) (hp : AddP (qOf rel n a) rels rows gone rels' rows' gone') :
    ∃ R', GInv rel m n (i + 1) R' rels' rows' gone' := by
  have hlt := (List.getElem?_eq_some_iff.1 ha).1
  have hd : m.drop i = a :: m.drop (i + 1) := by
    rw [List.drop_eq_getElem_cons hlt]; congr 1; exact (List.getElem?_eq_some_iff.1 ha).2
  have hgn : ∀ j : Nat, gone[j]? = some false → ∃ y, n[j]? = some y := fun j e => ⟨_, List.getElem?_eq_getElem (by rw [← h.gl]; exact (List.getElem?_eq_some_iff.1 e).1)⟩
  rcases hp with ⟨j, hj, hq, hno, rfl, rfl, rfl⟩ | ⟨hno, rfl, rfl, rfl⟩
  · obtain ⟨y, hy⟩ := hgn j hj
    rw [qOf_at hy] at hq
    have hs := strike_hit (rel := rel) (a := a) hy hj hq (fun k x hk e1 e2 => by have := hno k hk e2; rwa [qOf_at e1] at this)
    refine ⟨R, ⟨by rw [List.length_set]; exact h.gl, h.wl, h.rl, Nat.le_succ_of_le h.ri, h.ro, fun k l x z e1 e2 e3 => h.at_ k l x z e1 e2 ?_, h.i4, ?_⟩⟩
    · rw [List.getElem?_set] at e3
      split at e3
      · split at e3 <;> cases e3
      · exact e3
    · rw [h.lf, hd, leftM, hs]
  · have hs : strike rel a (keepC n gone') = none := strike_miss fun x hx => by
      obtain ⟨j, e1, e2⟩ := keepC_mem.1 hx
      have := hno j e2
      rwa [qOf_at e1] at this
    have hcl : (colR (qOf rel n a) gone').length = n.length := by rw [colR_len, h.gl]
    refine ⟨R ++ [a], ⟨h.gl, by simp [h.wl], ?_, by have := h.ri; simp; omega, fun k hk => ?_, fun k j x y e1 e2 e3 => ?_, fun r hr => ?_, ?_⟩⟩
    · rw [List.length_append, hcl, h.rl, List.length_append, List.length_singleton, Nat.add_mul, Nat.one_mul]
    · rw [List.length_append, List.length_singleton] at hk
      by_cases e : k = R.length
      · subst e
        rw [← h.wl, List.getElem?_append_right (Nat.le_refl _), Nat.sub_self, h.wl, ← h.rl]; rfl
      · rw [List.getElem?_append_left (by rw [h.wl]; omega)]
        exact h.ro k (by omega)
    · have hjn : j < n.length := (List.getElem?_eq_some_iff.1 e2).1
      by_cases e : k = R.length
      · subst e
        rw [List.getElem?_append_right (Nat.le_refl _), Nat.sub_self] at e1
        simp at e1; subst e1
        rw [← h.rl, List.getElem?_append_right (by omega), Nat.add_sub_cancel_left]
        unfold colR
        rw [List.getElem?_map, List.getElem?_range (by rw [h.gl]; exact hjn)]
        simp only [Option.map_some, Option.some.injEq]
        rw [List.getD_eq_getElem?_getD, e3, if_neg (by decide), qOf_at e2]
      · have hk : k < R.length := by
          have := (List.getElem?_eq_some_iff.1 e1).1
          rw [List.length_append, List.length_singleton] at this
          omega
        rw [List.getElem?_append_left hk] at e1
        have := h.at_ k j x y e1 e2 e3
        rw [List.getElem?_append_left (List.getElem?_eq_some_iff.1 this).1]
        exact this
    · rcases List.mem_append.1 hr with hr | hr
      · exact h.i4 r hr
      · unfold colR at hr
        obtain ⟨j, hj, rfl⟩ := List.mem_map.1 hr
        split
        · exact .inl rfl
        · rw [List.mem_range, h.gl] at hj
          rw [qOf_at (List.getElem?_eq_getElem hj)]
          exact h4 _ _ (List.mem_of_getElem? ha) (List.getElem_mem hj)
    · rw [h.lf, hd, leftM, hs]
      simp
theorem colsI_mem {gone : List Bool} {x : Int} : x ∈ colsI gone ↔ ∃ j : Nat, x = (j : Int) ∧ gone[j]? = some false := by
  unfold colsI colsT
  rw [List.mem_map]
  constructor
  · rintro ⟨j, hj, rfl⟩
    rw [List.mem_filter, List.mem_range] at hj
    refine ⟨j, rfl, ?_⟩
    have h2 := hj.2
    rw [List.getD_eq_getElem?_getD, List.getElem?_eq_getElem hj.1] at h2
    rw [List.getElem?_eq_getElem hj.1]
    simpa using h2
  · rintro ⟨j, rfl, h⟩
    have hlt := (List.getElem?_eq_some_iff.1 h).1
    refine ⟨j, ?_, rfl⟩
    rw [List.mem_filter, List.mem_range]
    exact ⟨hlt, by rw [List.getD_eq_getElem?_getD, h]; rfl⟩
section
variable {m n : List α} {i : Nat} {R : List α} {rels rows : List Int} {gone : List Bool} (h : GInv rel m n i R rels rows gone)
include h
theorem GInv.row {x : Int} : x ∈ rows ↔ ∃ k : Nat, k < R.length ∧ x = ((k * n.length : Nat) : Int) := by
  constructor
  · intro hx
    obtain ⟨k, hk⟩ := List.getElem?_of_mem hx
    have hlt := (List.getElem?_eq_some_iff.1 hk).1
    rw [h.wl] at hlt
    rw [h.ro k hlt] at hk
    injection hk with hk
    exact ⟨k, hlt, hk.symm⟩
  · rintro ⟨k, hk, rfl⟩
    exact List.mem_of_getElem? (h.ro k hk)
theorem GInv.plc : PlcG rels rows (colsI gone) := by
  intro x hx y hy
  obtain ⟨k, hk, rfl⟩ := h.row.1 hx
  obtain ⟨j, rfl, hj⟩ := colsI_mem.1 hy
  have hjn : j < n.length := by rw [← h.gl]; exact (List.getElem?_eq_some_iff.1 hj).1
  exact ⟨k * n.length, j, rfl, rfl, _, h.at_ k j _ _ (List.getElem?_eq_getElem hk) (List.getElem?_eq_getElem hjn) hj⟩
theorem GInv.rel2 {k j : Nat} {x y : α} (e1 : R[k]? = some x) (e2 : n[j]? = some y) (e3 : gone[j]? = some false) : relAt rels ((k * n.length : Nat) : Int) (j : Int) = rel x y := relAt_of (h.at_ k j x y e1 e2 e3)
theorem GInv.tells : relG rels rows (colsI gone) = relM rel R (keepC n gone) := by
  have hE : (rows.isEmpty && (colsI gone).isEmpty) = (R.isEmpty && (keepC n gone).isEmpty) := by
    have h1 : rows.isEmpty = R.isEmpty := by
      rw [Bool.eq_iff_iff, List.isEmpty_iff_length_eq_zero, List.isEmpty_iff_length_eq_zero, h.wl]
    have h2 : (colsI gone).isEmpty = (keepC n gone).isEmpty := by
      rw [Bool.eq_iff_iff, List.isEmpty_iff, List.isEmpty_iff, List.eq_nil_iff_forall_not_mem, List.eq_nil_iff_forall_not_mem]
      constructor
      · intro hh y hy
        obtain ⟨j, e1, e2⟩ := keepC_mem.1 hy
        exact hh (j : Int) (colsI_mem.2 ⟨j, rfl, e2⟩)
      · intro hh x hx
        obtain ⟨j, rfl, e2⟩ := colsI_mem.1 hx
        have hjn : j < n.length := by rw [← h.gl]; exact (List.getElem?_eq_some_iff.1 e2).1
        exact hh _ (keepC_mem.2 ⟨j, List.getElem?_eq_getElem hjn, e2⟩)
    rw [h1, h2]
  have hA : ((colsI gone).all fun j => rows.any fun i => relAt rels i j == 3) = ((keepC n gone).all fun y => R.any fun x => rel x y == 3) := by
    rw [Bool.eq_iff_iff]
    simp only [List.all_eq_true, List.any_eq_true, beq_iff_eq]
    constructor
    · intro hh y hy
      obtain ⟨j, e1, e2⟩ := keepC_mem.1 hy
      obtain ⟨x, hx, e3⟩ := hh (j : Int) (colsI_mem.2 ⟨j, rfl, e2⟩)
      obtain ⟨k, hk, rfl⟩ := h.row.1 hx
      rw [h.rel2 (List.getElem?_eq_getElem hk) e1 e2] at e3
      exact ⟨_, List.getElem_mem hk, e3⟩
    · intro hh x hx
      obtain ⟨j, rfl, e2⟩ := colsI_mem.1 hx
      have hjn : j < n.length := by rw [← h.gl]; exact (List.getElem?_eq_some_iff.1 e2).1
      obtain ⟨z, hz, e3⟩ := hh _ (keepC_mem.2 ⟨j, List.getElem?_eq_getElem hjn, e2⟩)
      obtain ⟨k, hk⟩ := List.getElem?_of_mem hz
      exact ⟨_, h.row.2 ⟨k, (List.getElem?_eq_some_iff.1 hk).1, rfl⟩, by rw [h.rel2 hk (List.getElem?_eq_getElem hjn) e2]; exact e3⟩
  have hB : (rows.all fun i => (colsI gone).any fun j => trnI (relAt rels i j) == 3) = (R.all fun x => (keepC n gone).any fun y => rel x y == 1) := by
    have ht : ∀ r : Int, trnI r = 3 ↔ r = 1 := fun r => by
      unfold trnI
      constructor
      · intro e
        split at e
        · assumption
        · split at e
          · cases e
          · rename_i h1 h2; exact absurd e h2
      · intro e; rw [if_pos e]
    rw [Bool.eq_iff_iff]
    simp only [List.all_eq_true, List.any_eq_true, beq_iff_eq]
    constructor
    · intro hh z hz
      obtain ⟨k, hk⟩ := List.getElem?_of_mem hz
      obtain ⟨x, hx, e3⟩ := hh _ (h.row.2 ⟨k, (List.getElem?_eq_some_iff.1 hk).1, rfl⟩)
      obtain ⟨j, rfl, e2⟩ := colsI_mem.1 hx
      have hjn : j < n.length := by rw [← h.gl]; exact (List.getElem?_eq_some_iff.1 e2).1
      rw [ht, h.rel2 hk (List.getElem?_eq_getElem hjn) e2] at e3
      exact ⟨_, keepC_mem.2 ⟨j, List.getElem?_eq_getElem hjn, e2⟩, e3⟩
    · intro hh x hx
      obtain ⟨k, hk, rfl⟩ := h.row.1 hx
      obtain ⟨y, hy, e3⟩ := hh _ (List.getElem_mem hk)
      obtain ⟨j, e1, e2⟩ := keepC_mem.1 hy
      exact ⟨(j : Int), colsI_mem.2 ⟨j, rfl, e2⟩, by rw [ht, h.rel2 (List.getElem?_eq_getElem hk) e1 e2]; exact e3⟩
  unfold relG relM
  rw [hE, hA, hB]
end
theorem GInv.done {m n : List α} {R : List α} {rels rows : List Int} {gone : List Bool} (h : GInv rel m n m.length R rels rows gone) : relG rels rows (colsI gone) = mulR rel m n := by
  have h1 := h.lf
  rw [List.drop_length, leftM, List.append_nil] at h1
  unfold mulR
  rw [h1, h.tells]
end
end Go.Proofs.YthgglobfkkcdgaaGreat
namespace Go.Proofs.YthgglobfkkcdgaaGreat
open Go.RowKit Go.Shelf
set_option maxRecDepth 20000
section
variable {α : Type} {rel : α → α → Int} {r : Nat → Nat → Int} {f g : Nat → α}
theorem strike_idx {i : Nat} : ∀ {l : List Nat}, (∀ j ∈ l, rel (f i) (g j) = r i j) → strike rel (f i) (l.map g) = (strike r i l).map (List.map g)
  | [], _ => rfl
  | j :: l, h => by
    have h0 := h j (by simp)
    have ih := strike_idx (i := i) (l := l) fun k hk => h k (by simp [hk])
    rw [List.map_cons, strike, strike, h0, ih]
    by_cases e : r i j = 2
    · rw [if_pos e, if_pos e]; rfl
    · rw [if_neg e, if_neg e]
      cases strike r i l <;> simp
theorem strike_subl {i : Nat} : ∀ {l l' : List Nat}, strike r i l = some l' → ∀ j ∈ l', j ∈ l
  | [], _, h => by simp [strike] at h
  | k :: l, l', h => by
    rw [strike] at h
    split at h
    · injection h with h; subst h; intro j hj; simp [hj]
    · rw [Option.map_eq_some_iff] at h
      obtain ⟨l2, h2, rfl⟩ := h
      intro j hj
      rcases List.mem_cons.1 hj with rfl | hj
      · simp
      · simp [strike_subl h2 j hj]
theorem left_idx : ∀ {m n : List Nat}, (∀ i ∈ m, ∀ j ∈ n, rel (f i) (g j) = r i j) → leftM rel (m.map f) (n.map g) = ((leftM r m n).1.map f, (leftM r m n).2.map g)
  | [], n, _ => rfl
  | i :: m, n, h => by
    have hs := strike_idx (i := i) (l := n) fun j hj => h i (by simp) j hj
    rw [List.map_cons, leftM, leftM, hs]
    cases e : strike r i n with
    | none =>
      have ih := left_idx (m := m) (n := n) fun k hk j hj => h k (by simp [hk]) j hj
      simp only [Option.map_none]
      rw [ih]; rfl
    | some n' =>
      have ih := left_idx (m := m) (n := n') fun k hk j hj => h k (by simp [hk]) j (strike_subl e j hj)
      simp only [Option.map_some]
      exact ih
theorem left_subl {r : Nat → Nat → Int} : ∀ (m n : List Nat), (∀ i ∈ (leftM r m n).1, i ∈ m) ∧ (∀ j ∈ (leftM r m n).2, j ∈ n)
  | [], n => ⟨fun i h => by simp [leftM] at h, fun j h => h⟩
  | i :: m, n => by
    rw [leftM]
    split
    · rename_i n' e
      obtain ⟨h1, h2⟩ := left_subl (r := r) m n'
      exact ⟨fun k hk => by simp [h1 k hk], fun j hj => strike_subl e j (h2 j hj)⟩
    · obtain ⟨h1, h2⟩ := left_subl (r := r) m n
      refine ⟨fun k hk => ?_, h2⟩
      rcases List.mem_cons.1 hk with rfl | hk
      · simp
      · simp [h1 k hk]
theorem mul_idx {m n : List Nat} (h : ∀ i ∈ m, ∀ j ∈ n, rel (f i) (g j) = r i j) : mulR rel (m.map f) (n.map g) = mulR r m n := by
  unfold mulR
  rw [left_idx h]
  obtain ⟨hm, hn⟩ := left_subl (r := r) m n
  revert hm hn
  generalize (leftM r m n).1 = p
  generalize (leftM r m n).2 = q
  intro hm hn
  have hr : ∀ i ∈ p, ∀ j ∈ q, rel (f i) (g j) = r i j := fun i hi j hj => h i (hm i hi) j (hn j hj)
  unfold relM
  have e1 : ((p.map f).isEmpty && (q.map g).isEmpty) = (p.isEmpty && q.isEmpty) := by cases p <;> cases q <;> rfl
  have e2 : ((q.map g).all fun y => (p.map f).any fun x => rel x y == 3) = (q.all fun y => p.any fun x => r x y == 3) := by
    rw [List.all_map, Bool.eq_iff_iff, List.all_eq_true, List.all_eq_true]
    refine ⟨fun hh j hj => ?_, fun hh j hj => ?_⟩
    · have := hh j hj
      simp only [Function.comp, List.any_map, List.any_eq_true] at this
      obtain ⟨i, hi, e⟩ := this
      rw [hr i hi j hj] at e
      exact List.any_eq_true.2 ⟨i, hi, e⟩
    · obtain ⟨i, hi, e⟩ := List.any_eq_true.1 (hh j hj)
      simp only [Function.comp, List.any_map, List.any_eq_true]
      exact ⟨i, hi, by rw [hr i hi j hj]; exact e⟩
  have e3 : ((p.map f).all fun x => (q.map g).any fun y => rel x y == 1) = (p.all fun x => q.any fun y => r x y == 1) := by
    rw [List.all_map, Bool.eq_iff_iff, List.all_eq_true, List.all_eq_true]
    refine ⟨fun hh i hi => ?_, fun hh i hi => ?_⟩
    · have := hh i hi
      simp only [Function.comp, List.any_map, List.any_eq_true] at this
      obtain ⟨j, hj, e⟩ := this
      rw [hr i hi j hj] at e
      exact List.any_eq_true.2 ⟨j, hj, e⟩
    · obtain ⟨j, hj, e⟩ := List.any_eq_true.1 (hh i hi)
      simp only [Function.comp, List.any_map, List.any_eq_true]
      exact ⟨j, hj, by rw [hr i hi j hj]; exact e⟩
  rw [e1, e2, e3]
end
theorem map_range {α : Type} (l : List α) (d : α) : (List.range l.length).map (fun i => l.getD i d) = l := by
  refine List.ext_getElem? fun i => ?_
  rw [List.getElem?_map]
  by_cases hi : i < l.length
  · rw [List.getElem?_range hi, List.getElem?_eq_getElem hi]
    simp [List.getD_eq_getElem?_getD, hi]
  · rw [List.getElem?_eq_none (by simpa using hi), List.getElem?_eq_none (by simpa using hi)]; rfl
theorem mul_rows {α : Type} {rel : α → α → Int} {r : Nat → Nat → Int} (a b : List α) (h : ∀ (i j : Nat) (x y : α), a[i]? = some x → b[j]? = some y → rel x y = r i j) : mulR r (List.range a.length) (List.range b.length) = mulR rel a b := by
  cases a with
  | nil =>
    cases b with
    | nil => rfl
    | cons y b =>
      rw [← mul_idx (rel := rel) (f := fun i => ([] : List α).getD i y) (g := fun j => (y :: b).getD j y) (m := List.range ([] : List α).length) (n := List.range (y :: b).length) fun i hi => by simp at hi, map_range, map_range]
  | cons x a =>
    rw [← mul_idx (rel := rel) (f := fun i => (x :: a).getD i x) (g := fun j => b.getD j x) (m := List.range (x :: a).length) (n := List.range b.length) fun i hi j hj => ?_, map_range, map_range]
    rw [List.mem_range] at hi hj
    exact h i j _ _ (by rw [List.getD_eq_getElem?_getD, List.getElem?_eq_getElem hi]; rfl) (by rw [List.getD_eq_getElem?_getD, List.getElem?_eq_getElem hj]; rfl)
def outR (i : Nat) (out : List Bool) : List Nat := (List.range i).filter fun k => !out.getD k true
theorem outR_succ (i : Nat) (out : List Bool) : outR (i + 1) out = outR i out ++ if out.getD i true = true then [] else [i] := by
  unfold outR
  rw [List.range_succ, List.filter_append, List.filter_cons, List.filter_nil]
  cases out.getD i true <;> rfl
theorem outR_set {i : Nat} {out : List Bool} : outR i (out.set i true) = outR i out := by
  unfold outR
  refine List.filter_congr fun k hk => ?_
  rw [List.mem_range] at hk
  rw [List.getD_eq_getElem?_getD, List.getD_eq_getElem?_getD, List.getElem?_set_ne (by omega)]
structure TInv (r : Nat → Nat → Int) (n m i : Nat) (out inn : List Bool) : Prop where
  ol : out.length = n
  il : inn.length = m
  off : ∀ k, i ≤ k → k < n → out[k]? = some false
  lf : leftM r (List.range n) (List.range m) = (outR i out ++ (leftM r ((List.range n).drop i) (keepC (List.range m) inn)).1, (leftM r ((List.range n).drop i) (keepC (List.range m) inn)).2)
theorem TInv.start (r : Nat → Nat → Int) (n m : Nat) : TInv r n m 0 (List.replicate n false) (List.replicate m false) :=
  ⟨by simp, by simp, fun k _ hk => by simp [hk], by
    have := keepC_all (List.range m)
    rw [List.length_range] at this
    rw [this]; simp [outR]⟩
structure RowI (r : Nat → Nat → Int) (n m i j : Nat) (out0 inn0 out inn : List Bool) : Prop where
  ol : out.length = n
  il : inn.length = m
  st : (out = out0 ∧ inn = inn0 ∧ ∀ k, k < j → inn0[k]? = some false → r i k ≠ 2) ∨ (∃ k0, k0 < j ∧ inn0[k0]? = some false ∧ r i k0 = 2 ∧ (∀ k, k < k0 → inn0[k]? = some false → r i k ≠ 2) ∧ out = out0.set i true ∧ inn = inn0.set k0 true)
theorem TInv.row {r : Nat → Nat → Int} {n m i : Nat} {out inn : List Bool} (h : TInv r n m i out inn) : RowI r n m i 0 out inn out inn := ⟨h.ol, h.il, .inl ⟨rfl, rfl, fun k hk => by omega⟩⟩
theorem RowI.no {r : Nat → Nat → Int} {n m i j : Nat} {out0 inn0 out inn : List Bool} (h : RowI r n m i j out0 inn0 out inn) (h0 : out0[i]? = some false) (hn : r i j ≠ 2 ∨ out[i]? = some true ∨ inn[j]? = some true) : RowI r n m i (j + 1) out0 inn0 out inn := by
  refine ⟨h.ol, h.il, ?_⟩
  rcases h.st with ⟨e1, e2, h1⟩ | ⟨k0, hk, h1⟩
  · refine .inl ⟨e1, e2, fun k hk hf => ?_⟩
    rcases Nat.lt_or_ge k j with hkj | hkj
    · exact h1 k hkj hf
    · obtain rfl : k = j := by omega
      rcases hn with hn | hn | hn
      · exact hn
      · rw [e1, h0] at hn; cases hn
      · rw [e2, hf] at hn; cases hn
  · exact .inr ⟨k0, by omega, h1⟩
theorem RowI.yes {r : Nat → Nat → Int} {n m i j : Nat} {out0 inn0 out inn : List Bool} (h : RowI r n m i j out0 inn0 out inn) (hi : i < n) (hr : r i j = 2) (ho : out[i]? = some false) (hj : inn[j]? = some false) : RowI r n m i (j + 1) out0 inn0 (out.set i true) (inn.set j true) := by
  refine ⟨by rw [List.length_set]; exact h.ol, by rw [List.length_set]; exact h.il, ?_⟩
  rcases h.st with ⟨e1, e2, h1⟩ | ⟨k0, hk, h1, h2, h3, e1, e2⟩
  · subst e1; subst e2
    exact .inr ⟨j, Nat.lt_succ_self j, hj, hr, h1, rfl, rfl⟩
  · exfalso
    rw [e1, List.getElem?_set_self (by have := h.ol; rw [e1, List.length_set] at this; omega)] at ho
    cases ho
theorem RowI.done {r : Nat → Nat → Int} {n m i : Nat} {out0 inn0 out inn : List Bool} (h : RowI r n m i m out0 inn0 out inn) (ht : TInv r n m i out0 inn0) (hi : i < n) : TInv r n m (i + 1) out inn := by
  have hd : (List.range n).drop i = i :: (List.range n).drop (i + 1) := by
    rw [List.drop_eq_getElem_cons (by simpa using hi)]; simp
  have hrange : ∀ j, j < m → (List.range m)[j]? = some j := fun j hj => List.getElem?_range hj
  rcases h.st with ⟨rfl, rfl, h1⟩ | ⟨k0, hk, h1, h2, h3, e1, e2⟩
  · have hs : strike r i (keepC (List.range m) inn) = none := strike_miss fun x hx => by
      obtain ⟨j, e1, e2⟩ := keepC_mem.1 hx
      have hjm : j < m := by have := (List.getElem?_eq_some_iff.1 e1).1; simpa using this
      rw [hrange j hjm] at e1
      injection e1 with e1; subst e1
      exact h1 j hjm e2
    have h0 := ht.off i (Nat.le_refl _) hi
    refine ⟨h.ol, h.il, fun k hk hkn => ht.off k (by omega) hkn, ?_⟩
    have hg : out.getD i true = false := by rw [List.getD_eq_getElem?_getD, h0]; rfl
    rw [ht.lf, hd, leftM, hs, outR_succ, hg]
    simp
  · subst e1; subst e2
    have hs : strike r i (keepC (List.range m) inn0) = some (keepC (List.range m) (inn0.set k0 true)) := strike_hit (rel := r) (a := i) (y := k0) (hrange k0 hk) h1 h2 fun k x hkk e3 e4 => by
      rw [hrange k (by omega)] at e3
      injection e3 with e3; subst e3
      exact h3 k hkk e4
    refine ⟨h.ol, h.il, fun k hk hkn => by rw [List.getElem?_set_ne (by omega)]; exact ht.off k (by omega) hkn, ?_⟩
    have hg : (out0.set i true).getD i true = true := by
      rw [List.getD_eq_getElem?_getD, List.getElem?_set_self (by rw [ht.ol]; exact hi)]; rfl
    rw [ht.lf, hd, leftM, hs, outR_succ, hg, outR_set]
    simp
def colB (r : Nat → Nat → Int) (out inn : List Bool) (n j : Nat) : Bool := inn.getD j false || (List.range n).any fun i => !out.getD i true && (r i j == 3)
def rowB (r : Nat → Nat → Int) (out inn : List Bool) (m i : Nat) : Bool := out.getD i false || (List.range m).any fun j => !inn.getD j true && (r i j == 1)
def relB (r : Nat → Nat → Int) (out inn : List Bool) (n m : Nat) : Int :=
  if out.count false = 0 ∧ inn.count false = 0 then 2 else if (List.range m).all (colB r out inn n) = true then 3 else if (List.range n).all (rowB r out inn m) = true then 1 else 0
theorem cnt_zero {l : List Bool} : l.count false = 0 ↔ ∀ j : Nat, l[j]? ≠ some false := by
  rw [List.count_eq_zero]
  exact ⟨fun h j e => h (List.mem_of_getElem? e), fun h hm => by obtain ⟨j, e⟩ := List.mem_iff_getElem?.1 hm; exact h j e⟩
theorem TInv.tells {r : Nat → Nat → Int} {n m : Nat} {out inn : List Bool} (h : TInv r n m n out inn) : relB r out inn n m = mulR r (List.range n) (List.range m) := by
  have h1 := h.lf
  have hdr : (List.range n).drop n = [] := List.drop_eq_nil_of_le (by simp)
  rw [hdr, leftM, List.append_nil] at h1
  have hk : ∀ y, y ∈ keepC (List.range m) inn ↔ inn[y]? = some false := fun y => by
    rw [keepC_mem]
    constructor
    · rintro ⟨j, e1, e2⟩
      have hjm : j < m := by have := (List.getElem?_eq_some_iff.1 e1).1; simpa using this
      rw [List.getElem?_range hjm] at e1
      injection e1 with e1; subst e1
      exact e2
    · intro e
      have : y < m := by rw [← h.il]; exact (List.getElem?_eq_some_iff.1 e).1
      exact ⟨y, List.getElem?_range this, e⟩
  have ho : ∀ x, x ∈ outR n out ↔ out[x]? = some false := fun x => by
    unfold outR
    rw [List.mem_filter, List.mem_range]
    constructor
    · rintro ⟨hx, e⟩
      rw [List.getD_eq_getElem?_getD] at e
      cases hq : out[x]? with
      | none => rw [hq] at e; simp at e
      | some b => rw [hq] at e; simp at e; rw [e]
    · intro e
      have : x < n := by rw [← h.ol]; exact (List.getElem?_eq_some_iff.1 e).1
      exact ⟨this, by rw [List.getD_eq_getElem?_getD, e]; rfl⟩
  unfold mulR relB relM
  rw [h1]
  have eE : (out.count false = 0 ∧ inn.count false = 0) ↔ ((outR n out).isEmpty && (keepC (List.range m) inn).isEmpty) = true := by
    rw [Bool.and_eq_true, List.isEmpty_iff, List.isEmpty_iff, List.eq_nil_iff_forall_not_mem, List.eq_nil_iff_forall_not_mem, cnt_zero, cnt_zero]
    exact ⟨fun ⟨a, b⟩ => ⟨fun x hx => a x ((ho x).1 hx), fun y hy => b y ((hk y).1 hy)⟩, fun ⟨a, b⟩ => ⟨fun x hx => a x ((ho x).2 hx), fun y hy => b y ((hk y).2 hy)⟩⟩
  have eA : (List.range m).all (colB r out inn n) = (keepC (List.range m) inn).all fun y => (outR n out).any fun x => r x y == 3 := by
    rw [Bool.eq_iff_iff, List.all_eq_true, List.all_eq_true]
    constructor
    · intro hh y hy
      have e := (hk y).1 hy
      have hym : y < m := by rw [← h.il]; exact (List.getElem?_eq_some_iff.1 e).1
      have h2 := hh y (List.mem_range.2 hym)
      unfold colB at h2
      rw [List.getD_eq_getElem?_getD, e] at h2
      simp only [Option.getD_some, Bool.false_or, List.any_eq_true, Bool.and_eq_true] at h2
      obtain ⟨x, hx, h3, h4⟩ := h2
      refine List.any_eq_true.2 ⟨x, ?_, h4⟩
      unfold outR
      rw [List.mem_filter]; exact ⟨hx, h3⟩
    · intro hh y hy
      rw [List.mem_range] at hy
      unfold colB
      cases hq : inn[y]? with
      | none => rw [List.getElem?_eq_none_iff, h.il] at hq; omega
      | some b =>
        cases b with
        | true => rw [List.getD_eq_getElem?_getD, hq]; rfl
        | false =>
          obtain ⟨x, hx, h4⟩ := List.any_eq_true.1 (hh y ((hk y).2 hq))
          unfold outR at hx
          rw [List.mem_filter] at hx
          rw [Bool.or_eq_true]
          exact .inr (List.any_eq_true.2 ⟨x, hx.1, by rw [Bool.and_eq_true]; exact ⟨hx.2, h4⟩⟩)
  have eB : (List.range n).all (rowB r out inn m) = (outR n out).all fun x => (keepC (List.range m) inn).any fun y => r x y == 1 := by
    rw [Bool.eq_iff_iff, List.all_eq_true, List.all_eq_true]
    constructor
    · intro hh x hx
      have e := (ho x).1 hx
      have hxn : x < n := by rw [← h.ol]; exact (List.getElem?_eq_some_iff.1 e).1
      have h2 := hh x (List.mem_range.2 hxn)
      unfold rowB at h2
      rw [List.getD_eq_getElem?_getD, e] at h2
      simp only [Option.getD_some, Bool.false_or, List.any_eq_true, Bool.and_eq_true] at h2
      obtain ⟨y, hy, h3, h4⟩ := h2
      refine List.any_eq_true.2 ⟨y, (hk y).2 ?_, h4⟩
      rw [List.mem_range] at hy
      rw [List.getD_eq_getElem?_getD] at h3
      cases hq : inn[y]? with
      | none => rw [hq] at h3; simp at h3
      | some b => rw [hq] at h3; simp at h3; rw [h3]
    · intro hh x hx
      rw [List.mem_range] at hx
      unfold rowB
      cases hq : out[x]? with
      | none => rw [List.getElem?_eq_none_iff, h.ol] at hq; omega
      | some b =>
        cases b with
        | true => rw [List.getD_eq_getElem?_getD, hq]; rfl
        | false =>
          obtain ⟨y, hy, h4⟩ := List.any_eq_true.1 (hh x ((ho x).2 hq))
          have e := (hk y).1 hy
          have hym : y < m := by rw [← h.il]; exact (List.getElem?_eq_some_iff.1 e).1
          rw [Bool.or_eq_true]
          exact .inr (List.any_eq_true.2 ⟨y, List.mem_range.2 hym, by rw [Bool.and_eq_true]; exact ⟨by rw [List.getD_eq_getElem?_getD, e]; rfl, h4⟩⟩)
  rw [eA, eB]
  by_cases hE : out.count false = 0 ∧ inn.count false = 0
  · rw [if_pos hE, if_pos (eE.1 hE)]
  · rw [if_neg hE, if_neg (fun e => hE (eE.2 e))]
end Go.Proofs.YthgglobfkkcdgaaGreat
namespace Go.Proofs.YthgglobfkkcdgaaGreat
open Go Go.RowKit Go.Shelf
set_option maxRecDepth 100000
def bC (bs : List Bool) : Array Value := (bs.map Value.bool).toArray
theorem bC_cell {w : World} {g : Nat} {bs : List Bool} (h : w.heap[g]? = some (.cells (bC bs) 4)) {j : Nat} {x : Bool} (hx : bs[j]? = some x) : w.cell? ⟨g, j, none⟩ = some (.bool x) ∧ w.frozen? ⟨g, j, none⟩ = false := by
  refine ⟨?_, by simp [World.frozen?, h]⟩
  simp [World.cell?, h, bC, hx]
theorem bC_set {w : World} {g : Nat} {bs : List Bool} (h : w.heap[g]? = some (.cells (bC bs) 4)) (j : Nat) (x : Bool) : (w.setCell ⟨g, j, none⟩ (.bool x)).heap[g]? = some (.cells (bC (bs.set j x)) 4) := by
  simp only [World.setCell, Array.getElem?_modify, if_pos, h, Option.map_some]
  unfold bC
  congr 2
  simp [List.map_set]
theorem info_boolT : (Tryz.prog.info? 4).map (fun i => (i.zero, i.size, i.bytes)) = some (some (.bool false), 1, 1) := by kernel_rfl
theorem made_bC (m : Nat) : madeCells #[.bool false] m = bC (List.replicate m false) := by
  unfold bC
  rw [← Array.toList_inj]
  apply List.ext_getElem
  · simp [size_madeCells]
  · intro j h1 h2
    simp [madeCells, Nat.mod_one]
theorem make_bools (n : Nat) (hn : n ≤ 1000000) (w : World) : (Instr.makeSlice 52 (.int .i64 (n : Int)) (.int .i64 (n : Int))).run Tryz.prog w = .ok (.slice (some ⟨w.heap.size, 0, none⟩) n n) (w.alloc (.cells (bC (List.replicate n false)) 4)) := by
  obtain ⟨i0, hi1, hz0, hz1, hz2⟩ := info_parts info_boolT
  rw [← made_bC]
  exact run_make_row _ _ i0 _ Tryz.underlying52 hi1 hz0 hz1 rfl _ _ n (by rw [hz2]; omega) (by omega) w
structure TRows (w : World) (g3 g4 : Nat) (out inn : List Bool) : Prop where
  o : w.heap[g3]? = some (.cells (bC out) 4)
  i : w.heap[g4]? = some (.cells (bC inn) 4)
theorem TRows.set {w : World} {g3 g4 : Nat} {out inn : List Bool} (h : TRows w g3 g4 out inn) (hne : g3 ≠ g4) (k l : Nat) : TRows ((w.setCell ⟨g3, k, none⟩ (.bool true)).setCell ⟨g4, l, none⟩ (.bool true)) g3 g4 (out.set k true) (inn.set l true) :=
  ⟨(heap_setCell_other _ ⟨g4, l, none⟩ g3 _ hne).trans (bC_set h.o k true), bC_set ((heap_setCell_other w ⟨g3, k, none⟩ g4 _ (Ne.symm hne)).trans h.i) l true⟩
theorem cnt_take {l : List Bool} {k : Nat} {b : Bool} (h : l[k]? = some b) : (l.take (k + 1)).count false = (l.take k).count false + if b = false then 1 else 0 := by
  rw [List.take_add_one, h, List.count_append]
  cases b <;> rfl
def colP (r : Nat → Nat → Int) (out inn : List Bool) (j k : Nat) : Bool := inn.getD j false || (List.range k).any fun i => !out.getD i true && (r i j == 3)
def rowP (r : Nat → Nat → Int) (out inn : List Bool) (i k : Nat) : Bool := out.getD i false || (List.range k).any fun j => !inn.getD j true && (r i j == 1)
theorem colP_succ (r : Nat → Nat → Int) (out inn : List Bool) (j k : Nat) : colP r out inn j (k + 1) = (colP r out inn j k || (!out.getD k true && (r k j == 3))) := by
  unfold colP; rw [List.range_succ, List.any_append, Bool.or_assoc]; simp
theorem rowP_succ (r : Nat → Nat → Int) (out inn : List Bool) (i k : Nat) : rowP r out inn i (k + 1) = (rowP r out inn i k || (!inn.getD k true && (r i k == 1))) := by
  unfold rowP; rw [List.range_succ, List.any_append, Bool.or_assoc]; simp
theorem all_succ (p : Nat → Bool) (k : Nat) : (List.range (k + 1)).all p = ((List.range k).all p && p k) := by
  rw [List.range_succ, List.all_append]; simp
theorem plc_lt {n m i j : Nat} (hi : i < n) (hj : j < m) : i * m + j < n * m := by
  have := Nat.mul_le_mul_right m (show i + 1 ≤ n from hi)
  rw [Nat.add_mul, Nat.one_mul] at this
  omega
set_option maxHeartbeats 8000000 in
theorem tabRel_any (r : Nat → Nat → Int) (n m N : Nat) (gS gA gB cS cA cB : Nat) (bs ba bb : List Bool) (w : World) (hn : n ≤ 1000) (hm : m ≤ 1000) (hN : N = n * m) (hS : w.heap[gS]? = some (.cells (bC bs) 4)) (hA : w.heap[gA]? = some (.cells (bC ba) 4)) (hB' : w.heap[gB]? = some (.cells (bC bb) 4))
    (eS : ∀ i j, i < n → j < m → bs[i * m + j]? = some (r i j == 2)) (eA : ∀ i j, i < n → j < m → ba[i * m + j]? = some (r i j == 3)) (eB : ∀ i j, i < n → j < m → bb[i * m + j]? = some (r i j == 1)) :
    Calls Tryz.prog 25 #[.agg #[.int .i64 (n : Int), .int .i64 (m : Int), .slice (some ⟨gS, 0, none⟩) N cS, .slice (some ⟨gA, 0, none⟩) N cA, .slice (some ⟨gB, 0, none⟩) N cB]] w fun e w' => e = .returned (.int .i64 (mulR r (List.range n) (List.range m))) ∧ Below w.heap.size w w' := by
  have hN6 : N ≤ 1000000 := by rw [hN]; exact Nat.mul_le_mul hn hm
  have q0 := heap_alloc_new w (.cells #[.int .i64 (n : Int), .int .i64 (m : Int), .slice (some ⟨gS, 0, none⟩) N cS, .slice (some ⟨gA, 0, none⟩) N cA, .slice (some ⟨gB, 0, none⟩) N cB] 54)
  obtain ⟨W, hW⟩ : ∃ W, w.alloc (.cells #[.int .i64 (n : Int), .int .i64 (m : Int), .slice (some ⟨gS, 0, none⟩) N cS, .slice (some ⟨gA, 0, none⟩) N cA, .slice (some ⟨gB, 0, none⟩) N cB] 54) = W := ⟨_, rfl⟩
  have hB : Below w.heap.size w W := by rw [← hW]; exact (Below.refl _ _).alloc (Nat.le_refl _) _
  rw [hW] at q0
  have hbx := (Array.getElem?_eq_some_iff.1 q0).1
  have hgS := (Array.getElem?_eq_some_iff.1 hS).1
  have hgA := (Array.getElem?_eq_some_iff.1 hA).1
  have hgB := (Array.getElem?_eq_some_iff.1 hB').1
  have HX : Hid (∀ w', Below W.heap.size W w' → w'.cell? ⟨w.heap.size, 0, none⟩ = some (.int .i64 (n : Int)) ∧ w'.cell? ⟨w.heap.size, 1, none⟩ = some (.int .i64 (m : Int)) ∧ w'.cell? ⟨w.heap.size, 2, none⟩ = some (.slice (some ⟨gS, 0, none⟩) N cS) ∧ w'.cell? ⟨w.heap.size, 3, none⟩ = some (.slice (some ⟨gA, 0, none⟩) N cA) ∧ w'.cell? ⟨w.heap.size, 4, none⟩ = some (.slice (some ⟨gB, 0, none⟩) N cB)) := Lib.hid fun w' h => by
    have q := (h.block _ hbx).trans q0
    refine ⟨?_, ?_, ?_, ?_, ?_⟩ <;> simp [World.cell?, q]
  have HT : Hid (∀ w', Below W.heap.size W w' → ∀ i j, i < n → j < m → w'.cell? ⟨gS, i * m + j, none⟩ = some (.bool (r i j == 2)) ∧ w'.cell? ⟨gA, i * m + j, none⟩ = some (.bool (r i j == 3)) ∧ w'.cell? ⟨gB, i * m + j, none⟩ = some (.bool (r i j == 1))) := Lib.hid fun w' h i j hi hj => by
    have k := fun g (hg : g < w.heap.size) => (h.block g (Nat.lt_of_lt_of_le hg hB.size)).trans (hB.block g hg)
    exact ⟨(bC_cell ((k gS hgS).trans hS) (eS i j hi hj)).1, (bC_cell ((k gA hgA).trans hA) (eA i j hi hj)).1, (bC_cell ((k gB hgB).trans hB') (eB i j hi hj)).1⟩
  have HW := Lib.hid hW
  have HB := Lib.hid hB
  have HN := Lib.hid hN
  have hmk1 := make_bools n (by omega)
  have hmk2 := make_bools m (by omega)
  obtain ⟨x0, x1, _, _, _⟩ := HX.out W (Below.refl _ _)
  have hb1 : Below W.heap.size W (W.alloc (.cells (bC (List.replicate n false)) 4)) := (Below.refl _ _).alloc (Nat.le_refl _) _
  obtain ⟨_, x1', _, _, _⟩ := HX.out _ hb1
  clear hW hB hN hS hA hB' eS eA eB q0 hbx hgS hgA hgB hb1
  go_enter Tryz.func25, Tryz.ntmps25
  go_upto_region 1 with fail
  rw [HW.out]
  go_upto_region 3 with fail
  obtain ⟨V, hV⟩ : ∃ V, (W.alloc (.cells (bC (List.replicate n false)) 4)).alloc (.cells (bC (List.replicate m false)) 4) = V := ⟨_, rfl⟩
  obtain ⟨v0, v1⟩ := heap2 W (.cells (bC (List.replicate n false)) 4) (.cells (bC (List.replicate m false)) 4)
  have hbV : Below W.heap.size W V := by rw [← hV]; exact ((Below.refl _ _).alloc (Nat.le_refl _) _).alloc (by simp) _
  rw [hV] at v0 v1
  have HR0 := Lib.hid (TRows.mk v0 v1)
  have HT0 := Lib.hid (TInv.start r n m)
  have HV := Lib.hid hV
  clear hV v0 v1 x0 x1 x1' hmk1 hmk2
  rw [HV.out]
  go_wp2
  go_loopw [5] (fun i wr => ∃ (k : Nat) (out inn : List Bool), k ≤ n ∧ i = .int .i64 (k : Int) ∧ Hid (TInv r n m k out inn) ∧ Hid (TRows wr W.heap.size (W.heap.size + 1) out inn) ∧ Below W.heap.size W wr) (fun i _ => n - (intOf i).toNat)
  case atStart => exact ⟨0, _, _, Nat.zero_le _, rfl, HT0, HR0, hbV⟩
  case round =>
    obtain ⟨k, out, inn, hk, rfl, Ht, Hr, hBr⟩ := hrel
    obtain ⟨y0, y1, y2, y3, y4⟩ := HX.out wr hBr
    by_cases hkn : k < n
    case pos =>
      have h0 := Ht.out.off k (Nat.le_refl _) hkn
      have H0 := Lib.hid h0
      have HRI := Lib.hid (Ht.out.row)
      clear h0
      go_wp2
      clear y0 y1 y2 y3 y4
      obtain ⟨wo, hwo⟩ : ∃ wo : World, wo = wr := ⟨_, rfl⟩
      rw [← hwo] at Hr hBr ⊢
      clear hwo
      go_loopw [6] (fun j wi => ∃ (l : Nat) (out' inn' : List Bool), l ≤ m ∧ j = .int .i64 (l : Int) ∧ Hid (RowI r n m k l out inn out' inn') ∧ Hid (TRows wi W.heap.size (W.heap.size + 1) out' inn') ∧ Below W.heap.size W wi) (fun j _ => m - (intOf j).toNat)
      case atStart => exact ⟨0, _, _, Nat.zero_le _, rfl, HRI, Hr, hBr⟩
      case round =>
        obtain ⟨l, out', inn', hl, rfl, HI, HR, hBi⟩ := hrel
        obtain ⟨y0, y1, y2, y3, y4⟩ := HX.out wr hBi
        by_cases hlm : l < m
        case pos =>
          obtain ⟨b1, hb1⟩ : ∃ b, out'[k]? = some b := ⟨_, List.getElem?_eq_getElem (by rw [HI.out.ol]; exact hkn)⟩
          obtain ⟨b2, hb2⟩ : ∃ b, inn'[l]? = some b := ⟨_, List.getElem?_eq_getElem (by rw [HI.out.il]; exact hlm)⟩
          obtain ⟨c1, f1⟩ := bC_cell HR.out.o hb1
          obtain ⟨c2, f2⟩ := bC_cell HR.out.i hb2
          obtain ⟨s0, _, _⟩ := HT.out wr hBi k l hkn hlm
          have hpl := plc_lt hkn hlm
          rw [← HN.out] at hpl
          obtain ⟨q, hq⟩ : ∃ q, k * m = q := ⟨_, rfl⟩
          rw [hq] at s0 hpl
          have hw1 : IntKind.i64.wrap ((k : Int) * (m : Int)) = (q : Int) := by
            have : (k : Int) * (m : Int) = (q : Int) := by rw [← hq]; simp
            rw [this, IntKind.wrap_i64]; omega
          obtain ⟨pp, hpp⟩ : ∃ pp, q + l = pp := ⟨_, rfl⟩
          rw [hpp] at s0 hpl
          have hw2 : IntKind.i64.wrap ((q : Int) + (l : Int)) = (pp : Int) := by rw [IntKind.wrap_i64]; omega
          have Hb1 := Lib.hid hb1
          have Hb2 := Lib.hid hb2
          have hpl2 : (pp : Int) < (N : Int) := by omega
          have hkn2 : (k : Int) < (n : Int) := by omega
          have hlm2 : (l : Int) < (m : Int) := by omega
          obtain ⟨s, hs⟩ : ∃ s, (r k l == 2) = s := ⟨_, rfl⟩
          rw [hs] at s0
          have Hs := Lib.hid hs
          clear hb1 hb2 hq hpp hpl hs
          cases s with
          | false =>
            have HN1 := Lib.hid (HI.out.no H0.out (.inl (by have := Hs.out; simpa using this)))
            go_wp2
            go_roundw
            case rel => exact ⟨l + 1, out', inn', by omega, by go_num, HN1, HR, hBi⟩
            case measure => simp [intOf]; omega
          | true =>
            cases b1 with
            | true =>
              have HN1 := Lib.hid (HI.out.no H0.out (.inr (.inl Hb1.out)))
              go_wp2
              go_roundw
              case rel => exact ⟨l + 1, out', inn', by omega, by go_num, HN1, HR, hBi⟩
              case measure => simp [intOf]; omega
            | false =>
              cases b2 with
              | true =>
                have HN1 := Lib.hid (HI.out.no H0.out (.inr (.inr Hb2.out)))
                go_wp2
                go_roundw
                case rel => exact ⟨l + 1, out', inn', by omega, by go_num, HN1, HR, hBi⟩
                case measure => simp [intOf]; omega
              | false =>
                have HN1 := Lib.hid (HI.out.yes hkn (by have := Hs.out; simpa using this) Hb1.out Hb2.out)
                have HR1 := Lib.hid (HR.out.set (by omega) k l)
                have hBx : Below W.heap.size W ((wr.setCell ⟨W.heap.size, k, none⟩ (.bool true)).setCell ⟨W.heap.size + 1, l, none⟩ (.bool true)) := (hBi.setCell (Nat.le_refl _) _).setCell (by simp) _
                go_wp2
                go_roundw
                case rel => exact ⟨l + 1, _, _, by omega, by go_num, HN1, HR1, hBx⟩
                case measure => simp [intOf]; omega
        case neg =>
          obtain rfl : l = m := by omega
          have HD := Lib.hid (HI.out.done Ht.out hkn)
          go_wp2
          go_roundw
          case rel => exact ⟨k + 1, _, _, by omega, by go_num, HD, HR, hBi⟩
          case measure => simp [intOf]; omega
    case neg =>
      obtain rfl : k = n := by omega
      have Htl := Lib.hid Ht.out.tells
      have hol := Ht.out.ol
      have hil := Ht.out.il
      have HOL := Lib.hid hol
      have HIL := Lib.hid hil
      clear hol hil
      go_wp2
      obtain ⟨wo, hwo⟩ : ∃ wo : World, wo = wr := ⟨_, rfl⟩
      rw [← hwo] at Hr hBr y0 y1 y2 y3 y4 ⊢
      clear hwo
      go_loopw [7, 9] (fun a i wx => ∃ t z : Nat, t ≤ k ∧ i = .int .i64 (t : Int) ∧ a = .int .i64 (z : Int) ∧ Hid (z = (out.take t).count false) ∧ wx = wo) (fun _ i _ => k - (intOf i).toNat)
      case atStart => exact ⟨0, 0, Nat.zero_le _, rfl, rfl, Lib.hid (by simp), rfl⟩
      case round =>
        obtain ⟨t, z, ht, rfl, rfl, Hz, hwx⟩ := hrel
        subst hwx
        by_cases htn : t < k
        case pos =>
          obtain ⟨b1, hb1⟩ : ∃ b, out[t]? = some b := ⟨_, List.getElem?_eq_getElem (by rw [HOL.out]; exact htn)⟩
          obtain ⟨c1, _⟩ := bC_cell Hr.out.o hb1
          have hz1 : z ≤ t := by rw [Hz.out]; exact Nat.le_trans List.count_le_length (by simp; omega)
          have Hst := Lib.hid (cnt_take hb1)
          have htn2 : (t : Int) < (k : Int) := by omega
          clear hb1
          cases b1 with
          | true =>
            go_wp2
            go_roundw
            case rel => exact ⟨t + 1, z, by omega, by go_num, rfl, Lib.hid (by rw [Hz.out, Hst.out]; rfl), (by first | trivial | exact HWZ.out | exact HWP.out | rfl)⟩
            case measure => simp [intOf]; omega
          | false =>
            go_wp2
            go_roundw
            case rel => exact ⟨t + 1, z + 1, by omega, by go_num, by go_num, Lib.hid (by rw [Hz.out, Hst.out]; rfl), (by first | trivial | exact HWZ.out | exact HWP.out | rfl)⟩
            case measure => simp [intOf]; omega
        case neg =>
          obtain rfl : t = k := by omega
          have HZ := Lib.hid (show z = out.count false by rw [Hz.out, List.take_of_length_le (by rw [HOL.out]; exact Nat.le_refl _)])
          clear Hz
          go_wp2
          obtain ⟨wq, hwq⟩ : ∃ wq : World, wq = wr := ⟨_, rfl⟩
          rw [← hwq] at Hr hBr y0 y1 y2 y3 y4 ⊢
          clear hwq
          go_loopw [8, 10] (fun a i wx => ∃ u v : Nat, u ≤ m ∧ i = .int .i64 (u : Int) ∧ a = .int .i64 (v : Int) ∧ Hid (v = (inn.take u).count false) ∧ wx = wq) (fun _ i _ => m - (intOf i).toNat)
          case atStart => exact ⟨0, 0, Nat.zero_le _, rfl, rfl, Lib.hid (by simp), rfl⟩
          case round =>
            obtain ⟨u, v, hu, rfl, rfl, Hv, hwx⟩ := hrel
            subst hwx
            by_cases hum : u < m
            case pos =>
              obtain ⟨b1, hb1⟩ : ∃ b, inn[u]? = some b := ⟨_, List.getElem?_eq_getElem (by rw [HIL.out]; exact hum)⟩
              obtain ⟨c1, _⟩ := bC_cell Hr.out.i hb1
              have hz1 : v ≤ u := by rw [Hv.out]; exact Nat.le_trans List.count_le_length (by simp; omega)
              have Hst := Lib.hid (cnt_take hb1)
              have hum2 : (u : Int) < (m : Int) := by omega
              clear hb1
              cases b1 with
              | true =>
                go_wp2
                go_roundw
                case rel => exact ⟨u + 1, v, by omega, by go_num, rfl, Lib.hid (by rw [Hv.out, Hst.out]; rfl), (by first | trivial | exact HWZ.out | exact HWP.out | rfl)⟩
                case measure => simp [intOf]; omega
              | false =>
                go_wp2
                go_roundw
                case rel => exact ⟨u + 1, v + 1, by omega, by go_num, by go_num, Lib.hid (by rw [Hv.out, Hst.out]; rfl), (by first | trivial | exact HWZ.out | exact HWP.out | rfl)⟩
                case measure => simp [intOf]; omega
            case neg =>
              obtain rfl : u = m := by omega
              have HV2 := Lib.hid (show v = inn.count false by rw [Hv.out, List.take_of_length_le (by rw [HIL.out]; exact Nat.le_refl _)])
              clear Hv
              have Hfin := Lib.hid (fun (c : Int) (h : relB r out inn t u = c) => (show mulR r (List.range t) (List.range u) = c by rw [← Htl.out, h]))
              by_cases hE : z = 0 ∧ v = 0
              case pos =>
                obtain ⟨hz0, hv0⟩ := hE
                have HF := Lib.hid (Hfin.out 2 (by unfold relB; rw [if_pos ⟨HZ.out.symm.trans hz0, HV2.out.symm.trans hv0⟩]))
                have g1 : ((z : Int) == 0) = true := by simp [hz0]
                have g2 : ((v : Int) == 0) = true := by simp [hv0]
                clear hz0 hv0
                go_wp2
                go_ret
                exact ⟨ret_int HF.out.symm, HB.out.trans (hBr.mono HB.out.size)⟩
              case neg =>
                have HE : Hid (¬ (out.count false = 0 ∧ inn.count false = 0)) := Lib.hid fun e => hE ⟨HZ.out.trans e.1, HV2.out.trans e.2⟩
                go_upto_region 23 with fail
                go_cut [98] (fun s98 wx => s98 = .bool false ∧ Below W.heap.size W wx ∧ Hid (TRows wx W.heap.size (W.heap.size + 1) out inn))
                case first =>
                  by_cases hz0 : z = 0
                  case pos =>
                    have g1 : ((z : Int) == 0) = true := by simp [hz0]
                    have g2 : ((v : Int) == 0) = false := by have : ¬ v = 0 := fun e => hE ⟨hz0, e⟩; simpa using this
                    clear hz0 hE
                    go_wp2
                    go_meet
                    exact ⟨rfl, hBr, Hr⟩
                  case neg =>
                    have g1 : ((z : Int) == 0) = false := by simpa using hz0
                    clear hz0 hE
                    go_wp2
                    go_meet
                    exact ⟨rfl, hBr, Hr⟩
                case rest =>
                  obtain ⟨rfl, hBc, Hrc⟩ := hcut
                  clear hE Hr hBr y0 y1 y2 y3 y4
                  go_wp2
                  go_loopw [11, 13] (fun a i wx => ∃ (u' : Nat) (b : Bool), u' ≤ u ∧ i = .int .i64 (u' : Int) ∧ a = .bool b ∧ Hid (b = (List.range u').all (colB r out inn t)) ∧ wx = wc) (fun _ i _ => u - (intOf i).toNat)
                  case atStart => exact ⟨0, true, Nat.zero_le _, rfl, rfl, Lib.hid rfl, rfl⟩
                  case round =>
                    obtain ⟨u', b, hu', rfl, rfl, Hbb, hwx⟩ := hrel
                    subst hwx
                    obtain ⟨y0, y1, y2, y3, y4⟩ := HX.out wr hBc
                    by_cases hum : u' < u
                    case pos =>
                      obtain ⟨b1, hb1⟩ : ∃ b, inn[u']? = some b := ⟨_, List.getElem?_eq_getElem (by rw [HIL.out]; exact hum)⟩
                      obtain ⟨c1, _⟩ := bC_cell Hrc.out.i hb1
                      have Hp0 := Lib.hid (show b1 = colP r out inn u' 0 by unfold colP; rw [List.getD_eq_getElem?_getD, hb1]; simp)
                      have hum2 : (u' : Int) < (u : Int) := by omega
                      clear hb1
                      go_wp2
                      obtain ⟨wp, hwp⟩ : ∃ wp : World, wp = wr := ⟨_, rfl⟩
                      rw [← hwp] at Hrc hBc y0 y1 y2 y3 y4 ⊢
                      have HWP := Lib.hid hwp
                      clear hwp c1
                      go_loopw [14, 15] (fun a i wx => ∃ (l : Nat) (d : Bool), l ≤ t ∧ i = .int .i64 (l : Int) ∧ a = .bool d ∧ Hid (d = colP r out inn u' l) ∧ wx = wp) (fun _ i _ => t - (intOf i).toNat)
                      case atStart => exact ⟨0, b1, Nat.zero_le _, rfl, rfl, Hp0, rfl⟩
                      case round =>
                        obtain ⟨l, d, hl, rfl, rfl, Hd, hwx⟩ := hrel
                        subst hwx
                        by_cases hlt : l < t
                        case pos =>
                          obtain ⟨b2, hb2⟩ : ∃ b, out[l]? = some b := ⟨_, List.getElem?_eq_getElem (by rw [HOL.out]; exact hlt)⟩
                          obtain ⟨c2, _⟩ := bC_cell Hrc.out.o hb2
                          obtain ⟨_, s3, _⟩ := HT.out wr hBc l u' hlt hum
                          have hpl := plc_lt hlt hum
                          rw [← HN.out] at hpl
                          obtain ⟨q, hq⟩ : ∃ q, l * u = q := ⟨_, rfl⟩
                          rw [hq] at s3 hpl
                          have hw1 : IntKind.i64.wrap ((l : Int) * (u : Int)) = (q : Int) := by
                            have : (l : Int) * (u : Int) = (q : Int) := by rw [← hq]; simp
                            rw [this, IntKind.wrap_i64]; omega
                          obtain ⟨pp, hpp⟩ : ∃ pp, q + u' = pp := ⟨_, rfl⟩
                          rw [hpp] at s3 hpl
                          have hw2 : IntKind.i64.wrap ((q : Int) + (u' : Int)) = (pp : Int) := by rw [IntKind.wrap_i64]; omega
                          have hpl2 : (pp : Int) < (N : Int) := by omega
                          have hlt2 : (l : Int) < (t : Int) := by omega
                          obtain ⟨s, hs⟩ : ∃ s, (r l u' == 3) = s := ⟨_, rfl⟩
                          rw [hs] at s3
                          have Hsc := Lib.hid (show colP r out inn u' (l + 1) = (d || (!b2 && s)) by rw [colP_succ, ← Hd.out, hs, List.getD_eq_getElem?_getD, hb2]; rfl)
                          clear hb2 hq hpp hpl hs
                          cases d with
                          | true =>
                            go_wp2
                            go_roundw
                            case rel => exact ⟨l + 1, true, by omega, by go_num, rfl, Lib.hid (by rw [Hsc.out]; rfl), (by first | trivial | exact HWZ.out | exact HWP.out | rfl)⟩
                            case measure => simp [intOf]; omega
                          | false =>
                            cases b2 with
                            | true =>
                              go_wp2
                              go_roundw
                              case rel => exact ⟨l + 1, false, by omega, by go_num, rfl, Lib.hid (by rw [Hsc.out]; rfl), (by first | trivial | exact HWZ.out | exact HWP.out | rfl)⟩
                              case measure => simp [intOf]; omega
                            | false =>
                              go_wp2
                              go_roundw
                              case rel => exact ⟨l + 1, s, by omega, by go_num, rfl, Lib.hid (by rw [Hsc.out]; rfl), (by first | trivial | exact HWZ.out | exact HWP.out | rfl)⟩
                              case measure => simp [intOf]; omega
                        case neg =>
                          obtain rfl : l = t := by omega
                          have Hal := Lib.hid (show (List.range (u' + 1)).all (colB r out inn l) = (b && d) by rw [all_succ, ← Hbb.out, Hd.out]; rfl)
                          cases b with
                          | true =>
                            go_wp2
                            go_roundw
                            case rel => exact ⟨u' + 1, d, by omega, by go_num, rfl, Lib.hid (by rw [Hal.out]; rfl), (by first | trivial | exact HWZ.out | exact HWP.out | rfl)⟩
                            case measure => simp [intOf]; omega
                          | false =>
                            go_wp2
                            go_roundw
                            case rel => exact ⟨u' + 1, false, by omega, by go_num, rfl, Lib.hid (by rw [Hal.out]; rfl), (by first | trivial | exact HWZ.out | exact HWP.out | rfl)⟩
                            case measure => simp [intOf]; omega
                    case neg =>
                      obtain rfl : u' = u := by omega
                      go_wp2
                      obtain ⟨wp, hwp⟩ : ∃ wp : World, wp = wr := ⟨_, rfl⟩
                      rw [← hwp] at Hrc hBc y0 y1 y2 y3 y4 ⊢
                      clear hwp
                      go_loopw [12, 16] (fun a i wx => ∃ (t' : Nat) (b' : Bool), t' ≤ t ∧ i = .int .i64 (t' : Int) ∧ a = .bool b' ∧ Hid (b' = (List.range t').all (rowB r out inn u')) ∧ wx = wp) (fun _ i _ => t - (intOf i).toNat)
                      case atStart => exact ⟨0, true, Nat.zero_le _, rfl, rfl, Lib.hid rfl, rfl⟩
                      case round =>
                        obtain ⟨t', b', ht', rfl, rfl, Hbb', hwx⟩ := hrel
                        subst hwx
                        by_cases htm : t' < t
                        case pos =>
                          obtain ⟨b1, hb1⟩ : ∃ b, out[t']? = some b := ⟨_, List.getElem?_eq_getElem (by rw [HOL.out]; exact htm)⟩
                          obtain ⟨c1, _⟩ := bC_cell Hrc.out.o hb1
                          have Hp0 := Lib.hid (show b1 = rowP r out inn t' 0 by unfold rowP; rw [List.getD_eq_getElem?_getD, hb1]; simp)
                          have htm2 : (t' : Int) < (t : Int) := by omega
                          clear hb1
                          go_wp2
                          obtain ⟨wz, hwz⟩ : ∃ wz : World, wz = wr := ⟨_, rfl⟩
                          rw [← hwz] at Hrc hBc y0 y1 y2 y3 y4 ⊢
                          have HWZ := Lib.hid hwz
                          clear hwz c1
                          go_loopw [17, 18] (fun a i wx => ∃ (l : Nat) (d : Bool), l ≤ u' ∧ i = .int .i64 (l : Int) ∧ a = .bool d ∧ Hid (d = rowP r out inn t' l) ∧ wx = wz) (fun _ i _ => u' - (intOf i).toNat)
                          case atStart => exact ⟨0, b1, Nat.zero_le _, rfl, rfl, Hp0, rfl⟩
                          case round =>
                            obtain ⟨l, d, hl, rfl, rfl, Hd, hwx⟩ := hrel
                            subst hwx
                            by_cases hlt : l < u'
                            case pos =>
                              obtain ⟨b2, hb2⟩ : ∃ b, inn[l]? = some b := ⟨_, List.getElem?_eq_getElem (by rw [HIL.out]; exact hlt)⟩
                              obtain ⟨c2, _⟩ := bC_cell Hrc.out.i hb2
                              obtain ⟨_, _, s3⟩ := HT.out wr hBc t' l htm hlt
                              have hpl := plc_lt htm hlt
                              rw [← HN.out] at hpl
                              obtain ⟨q, hq⟩ : ∃ q, t' * u' = q := ⟨_, rfl⟩
                              rw [hq] at s3 hpl
                              have hw1 : IntKind.i64.wrap ((t' : Int) * (u' : Int)) = (q : Int) := by
                                have : (t' : Int) * (u' : Int) = (q : Int) := by rw [← hq]; simp
                                rw [this, IntKind.wrap_i64]; omega
                              obtain ⟨pp, hpp⟩ : ∃ pp, q + l = pp := ⟨_, rfl⟩
                              rw [hpp] at s3 hpl
                              have hw2 : IntKind.i64.wrap ((q : Int) + (l : Int)) = (pp : Int) := by rw [IntKind.wrap_i64]; omega
                              have hpl2 : (pp : Int) < (N : Int) := by omega
                              have hlt2 : (l : Int) < (u' : Int) := by omega
                              obtain ⟨s, hs⟩ : ∃ s, (r t' l == 1) = s := ⟨_, rfl⟩
                              rw [hs] at s3
                              have Hsc := Lib.hid (show rowP r out inn t' (l + 1) = (d || (!b2 && s)) by rw [rowP_succ, ← Hd.out, hs, List.getD_eq_getElem?_getD, hb2]; rfl)
                              clear hb2 hq hpp hpl hs
                              cases d with
                              | true =>
                                go_wp2
                                go_roundw
                                case rel => exact ⟨l + 1, true, by omega, by go_num, rfl, Lib.hid (by rw [Hsc.out]; rfl), (by first | trivial | exact HWZ.out | exact HWP.out | rfl)⟩
                                case measure => simp [intOf]; omega
                              | false =>
                                cases b2 with
                                | true =>
                                  go_wp2
                                  go_roundw
                                  case rel => exact ⟨l + 1, false, by omega, by go_num, rfl, Lib.hid (by rw [Hsc.out]; rfl), (by first | trivial | exact HWZ.out | exact HWP.out | rfl)⟩
                                  case measure => simp [intOf]; omega
                                | false =>
                                  go_wp2
                                  go_roundw
                                  case rel => exact ⟨l + 1, s, by omega, by go_num, rfl, Lib.hid (by rw [Hsc.out]; rfl), (by first | trivial | exact HWZ.out | exact HWP.out | rfl)⟩
                                  case measure => simp [intOf]; omega
                            case neg =>
                              obtain rfl : l = u' := by omega
                              have Hal := Lib.hid (show (List.range (t' + 1)).all (rowB r out inn l) = (b' && d) by rw [all_succ, ← Hbb'.out, Hd.out]; rfl)
                              cases b' with
                              | true =>
                                go_wp2
                                go_roundw
                                case rel => exact ⟨t' + 1, d, by omega, by go_num, rfl, Lib.hid (by rw [Hal.out]; rfl), (by first | trivial | exact HWZ.out | exact HWP.out | rfl)⟩
                                case measure => simp [intOf]; omega
                              | false =>
                                go_wp2
                                go_roundw
                                case rel => exact ⟨t' + 1, false, by omega, by go_num, rfl, Lib.hid (by rw [Hal.out]; rfl), (by first | trivial | exact HWZ.out | exact HWP.out | rfl)⟩
                                case measure => simp [intOf]; omega
                        case neg =>
                          obtain rfl : t' = t := by omega
                          cases b with
                          | true =>
                            have HF := Lib.hid (Hfin.out 3 (by unfold relB; rw [if_neg HE.out, if_pos Hbb.out.symm]))
                            go_wp2
                            go_ret
                            exact ⟨ret_int HF.out.symm, HB.out.trans (hBc.mono HB.out.size)⟩
                          | false =>
                            have hnb : ¬ (List.range u').all (colB r out inn t') = true := by rw [← Hbb.out]; decide
                            cases b' with
                            | true =>
                              have HF := Lib.hid (Hfin.out 1 (by unfold relB; rw [if_neg HE.out, if_neg hnb, if_pos Hbb'.out.symm]))
                              clear hnb
                              go_wp2
                              go_ret
                              exact ⟨ret_int HF.out.symm, HB.out.trans (hBc.mono HB.out.size)⟩
                            | false =>
                              have HF := Lib.hid (Hfin.out 0 (by unfold relB; rw [if_neg HE.out, if_neg hnb, if_neg (by rw [← Hbb'.out]; decide)]))
                              clear hnb
                              go_wp2
                              go_ret
                              exact ⟨ret_int HF.out.symm, HB.out.trans (hBc.mono HB.out.size)⟩
end Go.Proofs.YthgglobfkkcdgaaGreat
namespace Go.Proofs.YthgglobfkkcdgaaGreat
open Go.RowKit
set_option maxRecDepth 100000
theorem sizes_snoc : ∀ (xs : List Tm) (u : Tm), sizes (xs ++ [u]) = sizes xs + u.size
  | [], u => by simp [sizes]
  | x :: xs, u => by simp only [List.cons_append, sizes, sizes_snoc xs u]; omega
theorem depths_snoc : ∀ (xs : List Tm) (u : Tm), depths (xs ++ [u]) = max (depths xs) u.depth
  | [], u => by simp [depths]
  | x :: xs, u => by simp only [List.cons_append, depths, depths_snoc xs u]; omega
theorem sizes_take {xs : List Tm} {k : Nat} {u : Tm} (h : xs[k]? = some u) : sizes (xs.take (k + 1)) = sizes (xs.take k) + u.size := by
  rw [List.take_add_one, h]; exact sizes_snoc _ _
theorem depths_take {xs : List Tm} {k : Nat} {u : Tm} (h : xs[k]? = some u) : depths (xs.take (k + 1)) = max (depths (xs.take k)) u.depth := by
  rw [List.take_add_one, h]; exact depths_snoc _ _
theorem sizes_le (xs : List Tm) (k : Nat) : sizes (xs.take k) ≤ sizes xs := by
  have key : ∀ (ys zs : List Tm), sizes zs ≤ sizes (zs ++ ys) := by
    intro ys zs
    induction zs with
    | nil => simp [sizes]
    | cons z zs ih => simp only [List.cons_append, sizes]; omega
  have := key (xs.drop k) (xs.take k)
  rwa [List.take_append_drop] at this
theorem depth_le_size (t : Tm) : t.depth ≤ t.size := by
  refine Tm.ind (P := fun t => t.depth ≤ t.size) (fun f xs ih => ?_) t
  simp only [Tm.depth, Tm.size]
  have key : ∀ ys : List Tm, (∀ t ∈ ys, t.depth ≤ t.size) → depths ys ≤ sizes ys := by
    intro ys
    induction ys with
    | nil => intro _; simp [depths]
    | cons y ys ihy =>
      intro h
      have h1 := h y (by simp)
      have h2 := ihy fun t ht => h t (by simp [ht])
      simp only [depths, sizes]
      omega
  have := key xs ih
  omega
theorem depths_le (xs : List Tm) (k : Nat) : depths (xs.take k) ≤ depths xs := by
  have key : ∀ (ys zs : List Tm), depths zs ≤ depths (zs ++ ys) := by
    intro ys zs
    induction zs with
    | nil => simp [depths]
    | cons z zs ih => simp only [List.cons_append, depths]; omega
  have := key (xs.drop k) (xs.take k)
  rwa [List.take_append_drop] at this
theorem box_term {w W : World} {f : Int} {A : Option Addr} {n c : Nat} (hW : w.alloc (.cells #[.int .i64 f, .slice A n c] 36) = W) : Below w.heap.size w W ∧ w.heap.size < W.heap.size ∧ ∀ w', Below W.heap.size W w' → w'.cell? ⟨w.heap.size, 0, none⟩ = some (.int .i64 f) ∧ w'.cell? ⟨w.heap.size, 1, none⟩ = some (.slice A n c) := by
  have hb : W.heap[w.heap.size]? = some (.cells #[.int .i64 f, .slice A n c] 36) := by rw [← hW]; exact heap_alloc_new w _
  have hlt := (Array.getElem?_eq_some_iff.1 hb).1
  refine ⟨by rw [← hW]; exact (Below.refl _ _).alloc (Nat.le_refl _) _, hlt, fun w' h => ?_⟩
  obtain ⟨h0, h1, _, _⟩ := cells_two ((h.block _ hlt).trans hb)
  exact ⟨h0, h1⟩
def RSize (t : Tm) : Prop := t.size ≤ 4611686018427387904 → ∀ (A : Option Addr) (c : Nat) (w : World), I64 t.fn → Args w w.heap.size A t.args →
  Calls Tryz.prog 18 #[.agg #[.int .i64 t.fn, .slice A t.args.length c]] w fun e w' => e = .returned (.int .i64 (t.size : Int)) ∧ Below w.heap.size w w'
set_option maxHeartbeats 1000000 in
theorem refSize_any (t : Tm) : RSize t := by
  refine Tm.ind (P := RSize) (fun f xs ih => ?_) t
  intro hsz A c w hf hA
  simp only [Tm.fn, Tm.args] at hf hA ⊢
  have hlen := hA.len
  obtain ⟨W, hW⟩ : ∃ W, w.alloc (.cells #[.int .i64 f, .slice A xs.length c] 36) = W := ⟨_, rfl⟩
  obtain ⟨hB, hlt, hS⟩ := box_term hW
  have HW := Lib.hid hW
  have hszs : sizes xs + 1 ≤ 4611686018427387904 := by simpa only [Tm.size] using hsz
  clear hW
  go_enter Tryz.func18, Tryz.ntmps18
  go_upto_region 1 with fail
  rw [HW.out]
  go_wp2
  go_loopw [3, 4] (fun n i wr => ∃ k : Nat, k ≤ xs.length ∧ i = .int .i64 (k : Int) ∧ n = .int .i64 ((sizes (xs.take k) + 1 : Nat) : Int) ∧ Below W.heap.size W wr) (fun _ i _ => xs.length - (intOf i).toNat)
  case atStart => exact ⟨0, Nat.zero_le _, rfl, by simp [sizes], Below.refl _ _⟩
  case round =>
    obtain ⟨k, hk, rfl, rfl, hBr⟩ := hrel
    obtain ⟨_, x1⟩ := hS _ hBr
    have hsk := sizes_le xs k
    by_cases hkl : k < xs.length
    · obtain ⟨u, hu⟩ : ∃ u, xs[k]? = some u := ⟨_, List.getElem?_eq_getElem hkl⟩
      obtain ⟨bb, off, A1, c1, rfl, ha⟩ := (hA.on (hB.trans (hBr.mono hB.size))).get hu
      have e0 := ha.c0
      have e1 := ha.c1
      have hmem := List.mem_of_getElem? hu
      have hsu := size_mem hmem
      have hst := Lib.hid (sizes_take hu)
      have hsk1 := sizes_le xs (k + 1)
      have hst' := sizes_take hu
      have hsub := Lib.hid ha.sub
      have hu64 := ha.hi
      clear hu ha
      go_wp2_with (first
        | (go_at_call 18
           go_must (
           refine (ih u hmem (by omega) A1 c1 wr hu64 hsub.out).mono ?_
           rintro e w2 ⟨rfl, hb2⟩))
        | fail)
      refine ⟨⟨k + 1, by omega, by go_num, ?_, hBr.trans (hb2.mono hBr.size)⟩, by simp [intOf]; omega⟩
      rw [hst']
      go_num
    · obtain rfl : k = xs.length := by omega
      go_wp2
      go_ret
      exact ⟨by rw [List.take_length]; rfl, hB.trans (hBr.mono hB.size)⟩
def RDepth (t : Tm) : Prop := t.depth ≤ 4611686018427387904 → ∀ (A : Option Addr) (c : Nat) (w : World), I64 t.fn → Args w w.heap.size A t.args →
  Calls Tryz.prog 34 #[.agg #[.int .i64 t.fn, .slice A t.args.length c]] w fun e w' => e = .returned (.int .i64 (t.depth : Int)) ∧ Below w.heap.size w w'
set_option maxHeartbeats 1000000 in
theorem refDepth_any (t : Tm) : RDepth t := by
  refine Tm.ind (P := RDepth) (fun f xs ih => ?_) t
  intro hsz A c w hf hA
  simp only [Tm.fn, Tm.args] at hf hA ⊢
  have hlen := hA.len
  obtain ⟨W, hW⟩ : ∃ W, w.alloc (.cells #[.int .i64 f, .slice A xs.length c] 36) = W := ⟨_, rfl⟩
  obtain ⟨hB, hlt, hS⟩ := box_term hW
  have HW := Lib.hid hW
  have hszs : depths xs + 1 ≤ 4611686018427387904 := by simpa only [Tm.depth] using hsz
  clear hW
  go_enter Tryz.func34, Tryz.ntmps34
  go_upto_region 1 with fail
  rw [HW.out]
  go_wp2
  go_loopw [3, 4] (fun n i wr => ∃ k : Nat, k ≤ xs.length ∧ i = .int .i64 (k : Int) ∧ n = .int .i64 ((depths (xs.take k) : Nat) : Int) ∧ Below W.heap.size W wr) (fun _ i _ => xs.length - (intOf i).toNat)
  case atStart => exact ⟨0, Nat.zero_le _, rfl, by simp [depths], Below.refl _ _⟩
  case round =>
    obtain ⟨k, hk, rfl, rfl, hBr⟩ := hrel
    obtain ⟨_, x1⟩ := hS _ hBr
    have hsk := depths_le xs k
    by_cases hkl : k < xs.length
    · obtain ⟨u, hu⟩ : ∃ u, xs[k]? = some u := ⟨_, List.getElem?_eq_getElem hkl⟩
      obtain ⟨bb, off, A1, c1, rfl, ha⟩ := (hA.on (hB.trans (hBr.mono hB.size))).get hu
      have e0 := ha.c0
      have e1 := ha.c1
      have hmem := List.mem_of_getElem? hu
      have hsu := depth_mem hmem
      have hst' := depths_take hu
      have hsub := Lib.hid ha.sub
      have hu64 := ha.hi
      clear hu ha
      go_wp2_with (first
        | (go_at_call 34
           go_must (
           refine (ih u hmem (by omega) A1 c1 wr hu64 hsub.out).mono ?_
           rintro e w2 ⟨rfl, hb2⟩))
        | fail)
      all_goals
        refine ⟨⟨k + 1, by omega, by go_num, ?_, hBr.trans (hb2.mono hBr.size)⟩, by simp [intOf]; omega⟩
        rw [hst']
        congr 1
        omega
    · obtain rfl : k = xs.length := by omega
      go_wp2
      go_ret
      exact ⟨by rw [List.take_length]; rfl, hB.trans (hBr.mono hB.size)⟩
end Go.Proofs.YthgglobfkkcdgaaGreat
namespace Go.Proofs.YthgglobfkkcdgaaGreat
open Go.RowKit
set_option maxRecDepth 100000
set_option maxRecDepth 100000
end Go.Proofs.YthgglobfkkcdgaaGreat
namespace Go.Proofs.YthgglobfkkcdgaaGreat
open Go.ChangeShapes Go.WideShapes Go.ChangeAt Go.RowKit
section
variable {H : Type} {enc : TypeId × Value → H} {W : World} {base : Nat} {sp : Nat → Bool} {held : Bool}
theorem cellsInt : Tryz.prog.cellsOf 3 = 1 := by kernel_rfl
theorem cell_spot {W : World} {a : Addr} {v : Value} (h : W.cell? a = some v) : a.spot = none := by
  unfold World.cell? at h
  split at h
  · split at h
    · cases h
    · rename_i hs; simpa using hs
  · cases h
end
end Go.Proofs.YthgglobfkkcdgaaGreat
namespace Go.Proofs.YthgglobfkkcdgaaGreat
open Go.ChangeShapes Go.WideShapes Go.ChangeAt Go.RowKit
set_option maxRecDepth 20000
section
variable {H : Type} {enc : TypeId × Value → H} {W : World} {base : Nat} {held : Bool}
theorem cellsTerm : Tryz.prog.cellsOf 36 = 2 := by kernel_rfl
theorem cellsTerms : Tryz.prog.cellsOf 34 = 1 := by kernel_rfl
theorem bulk_all : ∀ (ts : List Tm) (ds : List (DataW H)), ts.length = ds.length → (∀ (i : Nat) (t : Tm) (d : DataW H), ts[i]? = some t → ds[i]? = some d → t.size ≤ Rows.uptoBulk d) → sizes ts ≤ Rows.uptoBulkAll ds
  | [], [], _, _ => by simp [sizes]
  | [], _ :: _, h, _ => by simp at h
  | _ :: _, [], h, _ => by simp at h
  | t :: ts, d :: ds, h, hh => by
    have h1 := hh 0 t d rfl rfl
    have h2 := bulk_all ts ds (by simpa using h) fun i t' d' e1 e2 => hh (i + 1) t' d' (by simpa using e1) (by simpa using e2)
    simp only [sizes, Rows.uptoBulkAll]
    omega
end
end Go.Proofs.YthgglobfkkcdgaaGreat
namespace Go.Proofs.YthgglobfkkcdgaaGreat
open Go.ChangeShapes Go.WideShapes Go.ChangeAt Go.RowKit
set_option maxRecDepth 20000
inductive ArgsK (w : World) (N : Nat → Prop) : Option Addr → Nat → List Tm → Prop
  | nil (A : Option Addr) (c : Nat) : ArgsK w N A c []
  | row (b off c : Nat) (xs : List Tm) (A' : Nat → Option Addr) (c' : Nat → Nat) (hc : xs.length ≤ c) (hb : N b) (hlen : xs.length ≤ 9223372036854775807) (hi : ∀ (i : Nat) (t : Tm), xs[i]? = some t → I64 t.fn)
      (h0 : ∀ (i : Nat) (t : Tm), xs[i]? = some t → w.cell? ⟨b, off + i * 2, none⟩ = some (.int .i64 t.fn))
      (h1 : ∀ (i : Nat) (t : Tm), xs[i]? = some t → w.cell? ⟨b, off + i * 2 + 1, none⟩ = some (.slice (A' i) t.args.length (c' i)))
      (hs : ∀ (i : Nat) (t : Tm), xs[i]? = some t → ArgsK w N (A' i) (c' i) t.args) : ArgsK w N (some ⟨b, off, none⟩) c xs
section
variable {w w' : World} {N M : Nat → Prop} {A : Option Addr} {c : Nat} {xs : List Tm}
theorem ArgsK.toN (h : ArgsK w N A c xs) : ArgsN w N A xs := by
  induction h with
  | nil A c => exact .nil A
  | row b off c xs A' c' hc hb hlen hi h0 h1 _ ih => exact .row b off xs A' c' hb hlen hi h0 h1 ih
theorem ArgsK.keep (h : ArgsK w N A c xs) (hk : ∀ g, N g → w'.heap[g]? = w.heap[g]?) : ArgsK w' N A c xs := by
  induction h with
  | nil A c => exact .nil A c
  | row b off c xs A' c' hc hb hlen hi h0 h1 _ ih => exact .row b off c xs A' c' hc hb hlen hi (fun i t e => (cell_of_heap (hk b hb)).trans (h0 i t e)) (fun i t e => (cell_of_heap (hk b hb)).trans (h1 i t e)) ih
theorem ArgsK.wide (h : ArgsK w N A c xs) (hk : ∀ g, N g → M g) : ArgsK w M A c xs := by
  induction h with
  | nil A c => exact .nil A c
  | row b off c xs A' c' hc hb hlen hi h0 h1 _ ih => exact .row b off c xs A' c' hc (hk b hb) hlen hi h0 h1 ih
structure ConsK (w : World) (N : Nat → Prop) (A : Option Addr) (c : Nat) (x : Tm) (xs : List Tm) (b off : Nat) (A1 : Option Addr) (c1 : Nat) : Prop where
  ad : A = some ⟨b, off, none⟩
  hb : N b
  hc : xs.length + 1 ≤ c
  hi : I64 x.fn
  v0 : w.cell? ⟨b, off, none⟩ = some (.int .i64 x.fn)
  v1 : w.cell? ⟨b, off + 1, none⟩ = some (.slice A1 x.args.length c1)
  sub : ArgsK w N A1 c1 x.args
  rest : ArgsK w N (some (if c = 1 then ⟨b, off, none⟩ else ⟨b, off + 2, none⟩)) (c - 1) xs
theorem ArgsK.cons {x : Tm} (h : ArgsK w N A c (x :: xs)) : ∃ b off A1 c1, ConsK w N A c x xs b off A1 c1 := by
  obtain _ | ⟨b, off, _, _, A', c', hc, hb, hlen, hi, h0, h1, hs⟩ := h
  have e0 := h0 0 x rfl
  have e1 := h1 0 x rfl
  rw [Nat.zero_mul, Nat.add_zero] at e0 e1
  refine ⟨b, off, A' 0, c' 0, rfl, hb, hc, hi 0 x rfl, e0, e1, hs 0 x rfl, ?_⟩
  simp only [List.length_cons] at hc hlen
  by_cases hc1 : c = 1
  · obtain rfl : xs = [] := List.eq_nil_of_length_eq_zero (by omega)
    exact .nil _ _
  · rw [if_neg hc1]
    refine .row b (off + 2) (c - 1) xs (fun i => A' (i + 1)) (fun i => c' (i + 1)) (by omega) hb (by omega) (fun i t e => hi (i + 1) t e) (fun i t e => ?_) (fun i t e => ?_) (fun i t e => hs (i + 1) t e)
    · rw [show off + 2 + i * 2 = off + (i + 1) * 2 by omega]; exact h0 (i + 1) t e
    · rw [show off + 2 + i * 2 + 1 = off + (i + 1) * 2 + 1 by omega]; exact h1 (i + 1) t e
theorem ArgsK.len (h : ArgsK w N A c xs) : xs.length ≤ 9223372036854775807 := h.toN.len
theorem ArgsK.get (h : ArgsK w N A c xs) {i : Nat} {t : Tm} (ht : xs[i]? = some t) : ∃ b off A1 c1, A = some ⟨b, off, none⟩ ∧ N b ∧ I64 t.fn ∧ w.cell? ⟨b, off + i * 2, none⟩ = some (.int .i64 t.fn) ∧ w.cell? ⟨b, off + i * 2 + 1, none⟩ = some (.slice A1 t.args.length c1) ∧ ArgsK w N A1 c1 t.args := by
  obtain _ | ⟨b, off, _, _, A', c', hc, hb, hlen, hi, h0, h1, hs⟩ := h
  · simp at ht
  · exact ⟨b, off, A' i, c' i, rfl, hb, hi i t ht, h0 i t ht, h1 i t ht, hs i t ht⟩
end
end Go.Proofs.YthgglobfkkcdgaaGreat
namespace Go.Proofs.YthgglobfkkcdgaaGreat
open Go.RowKit Go.Shelf Go.Maps
set_option maxRecDepth 100000
set_option maxRecDepth 100000
theorem ArgsK.on {w w' : World} {A : Option Addr} {c : Nat} {xs : List Tm} (h : ArgsK w (· < w.heap.size) A c xs) (hb : Below w.heap.size w w') : ArgsK w' (· < w'.heap.size) A c xs :=
  (h.keep fun g e => hb.block g e).wide fun _ e => Nat.lt_of_lt_of_le e hb.size
theorem ArgsK.toA {w : World} {B : Nat} {A : Option Addr} {c : Nat} {xs : List Tm} (h : ArgsK w (· < B) A c xs) : Args w B A xs := by
  induction h with
  | nil A c => exact .nil A
  | row b off c xs A' c' hc hb hlen hi h0 h1 _ ih => exact .row b off xs A' c' hb hlen hi h0 h1 ih
theorem keepsC_set1 {b : Nat} {w w1 : World} (h : KeepsC (· = b) w w1) (i : Nat) (v : Value) : KeepsC (· = b) w (w1.setCell ⟨b, i, none⟩ v) :=
  ⟨h.os, h.tape, h.output, by simpa using h.size, fun g hg => (heap_setCell_other _ _ _ _ hg.2).trans (h.k.block g hg)⟩
theorem argsK_one {w : World} {N : Nat → Prop} {b : Nat} {t : Tm} {A : Option Addr} {c : Nat} {e : TypeId} (h : w.heap[b]? = some (.cells #[.int .i64 t.fn, .slice A t.args.length c] e)) (hN : N b) (h64 : I64 t.fn) (hA : ArgsK w N A c t.args) : ArgsK w N (some ⟨b, 0, none⟩) 1 [t] := by
  obtain ⟨z0, z1, _, _⟩ := cells_two h
  refine .row b 0 1 [t] (fun _ => A) (fun _ => c) (by simp) hN (by simp) (fun i u e => ?_) (fun i u e => ?_) (fun i u e => ?_) (fun i u e => ?_)
  all_goals
    match i, e with
    | 0, e =>
      simp only [List.getElem?_cons_zero, Option.some.injEq] at e
      subst e
      first
        | exact h64
        | exact z0
        | exact z1
        | exact hA
    | i + 1, e => simp at e
end Go.Proofs.YthgglobfkkcdgaaGreat
namespace Go.Proofs.YthgglobfkkcdgaaGreat
open Go.RowKit Go.Shelf Go.Maps
set_option maxRecDepth 100000
set_option maxRecDepth 100000
theorem set_four {W : World} {b : Nat} {x y z u x' y' z' u' : Value} {t : TypeId} (h : W.heap[b]? = some (.cells #[x, y, z, u] t)) :
    ((((W.setCell ⟨b, 0, none⟩ x').setCell ⟨b, 1, none⟩ y').setCell ⟨b, 2, none⟩ z').setCell ⟨b, 3, none⟩ u').heap[b]? = some (.cells #[x', y', z', u'] t) := by
  have h1 : (W.setCell ⟨b, 0, none⟩ x').heap[b]? = some (.cells #[x', y, z, u] t) := heap_setCell_same W _ 0 _ _ _ h
  have h2 : ((W.setCell ⟨b, 0, none⟩ x').setCell ⟨b, 1, none⟩ y').heap[b]? = some (.cells #[x', y', z, u] t) := heap_setCell_same _ _ 1 _ _ _ h1
  have h3 : (((W.setCell ⟨b, 0, none⟩ x').setCell ⟨b, 1, none⟩ y').setCell ⟨b, 2, none⟩ z').heap[b]? = some (.cells #[x', y', z', u] t) := heap_setCell_same _ _ 2 _ _ _ h2
  exact heap_setCell_same _ _ 3 _ _ _ h3
theorem row_low {W : World} {base base' n : Nat} {e : TypeId} {size : Nat} {v : Value} {vs : List Value} (h : W.ownsRow base e size v n vs) (hb : base' ≤ base) : W.ownsRow base' e size v n vs := by
  refine ⟨h.1, ?_⟩
  rcases h.2 with h0 | ⟨g', cap, cur, rfl, hbg, hrest⟩
  · exact .inl h0
  · exact .inr ⟨g', cap, cur, rfl, Nat.le_trans hb hbg, hrest⟩
def numsI (k : Nat) : List Int := (List.range k).map fun i : Nat => (i : Int)
theorem numsI_succ (k : Nat) : numsI (k + 1) = numsI k ++ [(k : Int)] := by unfold numsI; rw [List.range_succ, List.map_append]; rfl
theorem numsI_len (k : Nat) : (numsI k).length = k := by unfold numsI; simp
theorem ones_succ (k : Nat) : List.replicate (k + 1) (1 : Int) = List.replicate k 1 ++ [1] := by rw [List.replicate_succ']
end Go.Proofs.YthgglobfkkcdgaaGreat
namespace Go.Proofs.YthgglobfkkcdgaaGreat
open Go.RowKit Go.Shelf Go.Maps
set_option maxRecDepth 100000
structure LstW (W : World) (bx : Nat) (vP vQ : Value) (lP lQ : List Int) (w : World) : Prop where
  box : w.heap[bx]? = some (.cells #[.bool false, vP, vQ, .int .i64 1] 24)
  P : IntsR w W.heap.size vP lP
  Q : IntsR w W.heap.size vQ lQ
  ne : ∀ g, vP.ownBlock = some g → vQ.ownBlock ≠ some g
  kp : KeepsC (· = bx) W w
  lt : bx < W.heap.size
theorem LstW.p {W w w5 : World} {bx : Nat} {vP vQ v5 : Value} {lP lQ : List Int} {x : Int} {o : Obj} (h : LstW W bx vP vQ lP lQ w) (hx : I64 x) (hown : w5.ownsRow W.heap.size 3 1 v5 (lP.length + 1) (lP.map (Value.int .i64) ++ [.int .i64 x])) (hgr : (w.alloc o).grownBy w5 vP.ownBlock) (hat : v5.ownBlock = vP.ownBlock ∨ v5.ownBlock = some (w.alloc o).heap.size) :
    LstW W bx v5 vQ (lP ++ [x]) lQ (w5.setCell ⟨bx, 1, none⟩ v5) ∧ w5.heap[bx]? = some (.cells #[.bool false, vP, vQ, .int .i64 1] 24) := by
  have hb : w5.heap[bx]? = some (.cells #[.bool false, vP, vQ, .int .i64 1] 24) := by
    have hlt : bx < w.heap.size := (Array.getElem?_eq_some_iff.1 h.box).1
    rw [hgr.block bx (by simp; omega) (fun e => by have := (row_lt h.P.row bx e.symm).1; have := h.lt; omega)]
    exact (Below.heap_alloc w o bx hlt).trans h.box
  have ho := ord_app (o := o) h.P (Below.refl _ _) hx hown hgr hat
  have hQ5 : ∀ g, vQ.ownBlock = some g → w5.heap[g]? = w.heap[g]? := fun g e => ho.gr.block g (row_lt h.Q.row g e).2 (fun e' => h.ne g e'.symm e)
  have hset : ∀ g, g ≠ bx → (w5.setCell ⟨bx, 1, none⟩ v5).heap[g]? = w5.heap[g]? := fun g hg => heap_setCell_other _ _ _ _ hg
  refine ⟨⟨?_, ⟨row_keep ho.row.row fun g e => hset g (by have := (row_lt ho.row.row g e).1; have := h.lt; omega), ho.row.i64⟩, ⟨row_keep h.Q.row fun g e => (hset g (by have := (row_lt h.Q.row g e).1; have := h.lt; omega)).trans (hQ5 g e), h.Q.i64⟩, fun g e e' => ?_, ?_, h.lt⟩, hb⟩
  · exact heap_setCell_same w5 _ 1 _ _ _ hb
  · rcases hat with h' | h'
    · rw [h'] at e; exact h.ne g e e'
    · rw [h'] at e; injection e with e; have := (row_lt h.Q.row g e').2; simp at e; omega
  · have hk5 : KeepsC (· = bx) W w5 := ⟨ho.gr.os.trans h.kp.os, ho.gr.tape.trans h.kp.tape, ho.gr.output.trans h.kp.output, Nat.le_trans h.kp.size ho.gr.size, fun g hg => (ho.gr.block g (Nat.lt_of_lt_of_le hg.1 h.kp.size) (fun e => by have := (row_lt h.P.row g e.symm).1; omega)).trans (h.kp.block hg.1 hg.2)⟩
    exact keepsC_set1 hk5 _ _
theorem LstW.q {W w w5 : World} {bx : Nat} {vP vQ v5 : Value} {lP lQ : List Int} {x : Int} {o : Obj} (h : LstW W bx vP vQ lP lQ w) (hx : I64 x) (hown : w5.ownsRow W.heap.size 3 1 v5 (lQ.length + 1) (lQ.map (Value.int .i64) ++ [.int .i64 x])) (hgr : (w.alloc o).grownBy w5 vQ.ownBlock) (hat : v5.ownBlock = vQ.ownBlock ∨ v5.ownBlock = some (w.alloc o).heap.size) :
    LstW W bx vP v5 lP (lQ ++ [x]) (w5.setCell ⟨bx, 2, none⟩ v5) ∧ w5.heap[bx]? = some (.cells #[.bool false, vP, vQ, .int .i64 1] 24) := by
  have hb : w5.heap[bx]? = some (.cells #[.bool false, vP, vQ, .int .i64 1] 24) := by
    have hlt : bx < w.heap.size := (Array.getElem?_eq_some_iff.1 h.box).1
    rw [hgr.block bx (by simp; omega) (fun e => by have := (row_lt h.Q.row bx e.symm).1; have := h.lt; omega)]
    exact (Below.heap_alloc w o bx hlt).trans h.box
  have ho := ord_app (o := o) h.Q (Below.refl _ _) hx hown hgr hat
  have hQ5 : ∀ g, vP.ownBlock = some g → w5.heap[g]? = w.heap[g]? := fun g e => ho.gr.block g (row_lt h.P.row g e).2 (fun e' => h.ne g e e'.symm)
  have hset : ∀ g, g ≠ bx → (w5.setCell ⟨bx, 2, none⟩ v5).heap[g]? = w5.heap[g]? := fun g hg => heap_setCell_other _ _ _ _ hg
  refine ⟨⟨?_, ⟨row_keep h.P.row fun g e => (hset g (by have := (row_lt h.P.row g e).1; have := h.lt; omega)).trans (hQ5 g e), h.P.i64⟩, ⟨row_keep ho.row.row fun g e => hset g (by have := (row_lt ho.row.row g e).1; have := h.lt; omega), ho.row.i64⟩, fun g e e' => ?_, ?_, h.lt⟩, hb⟩
  · exact heap_setCell_same w5 _ 2 _ _ _ hb
  · rcases hat with h' | h'
    · rw [h'] at e'; exact h.ne g e e'
    · rw [h'] at e'; injection e' with e'; have := (row_lt h.P.row g e).2; simp at e'; omega
  · have hk5 : KeepsC (· = bx) W w5 := ⟨ho.gr.os.trans h.kp.os, ho.gr.tape.trans h.kp.tape, ho.gr.output.trans h.kp.output, Nat.le_trans h.kp.size ho.gr.size, fun g hg => (ho.gr.block g (Nat.lt_of_lt_of_le hg.1 h.kp.size) (fun e => by have := (row_lt h.Q.row g e.symm).1; omega)).trans (h.kp.block hg.1 hg.2)⟩
    exact keepsC_set1 hk5 _ _
end Go.Proofs.YthgglobfkkcdgaaGreat
namespace Go.Proofs.YthgglobfkkcdgaaGreat
open Go.RowKit
set_option maxRecDepth 100000
def overI (p : List Int) (i k : Nat) : Bool := decide (k ≠ i) && decide (p.getD i 0 < p.getD k 0)
def highB (p : List Int) (i : Nat) : Bool := (List.range p.length).all fun k => !overI p i k
theorem getD_of {p : List Int} {i : Nat} {x : Int} (h : p[i]? = some x) : p.getD i 0 = x := by rw [List.getD_eq_getElem?_getD, h]; rfl
def badR (p : List Int) (i : Nat) : Bool := (decide (0 < i) && decide (p.getD i 0 ≤ p.getD 0 0)) || (List.range i).any fun k => decide (p.getD i 0 = p.getD k 0)
def rankB (p : List Int) (n : Nat) : Bool := decide (p.length = n) && (List.range n).all fun i => !badR p i
end Go.Proofs.YthgglobfkkcdgaaGreat
namespace Go.Proofs.YthgglobfkkcdgaaGreat
open Go.RowKit
def errAt (l : List Sm) (i : Nat) : Int :=
  match l[i]? with
  | none => 0
  | some x => if oneI x.name x.arity ≠ 0 then oneI x.name x.arity else if atI l x < i then 113 else 0
def scanI (l : List Sm) : Int := match (List.range l.length).find? (fun j => decide (1 ≤ j) && !decide (errAt l j = 0)) with
  | some j => errAt l j
  | none => 0
def checkI (l : List Sm) : Int := if 96 < l.length then 3 else if l[0]? ≠ some truthSm then 110 else scanI l
end Go.Proofs.YthgglobfkkcdgaaGreat
