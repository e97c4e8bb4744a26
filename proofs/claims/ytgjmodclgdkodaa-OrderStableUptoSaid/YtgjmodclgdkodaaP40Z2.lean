import Derived.Test.YtgjmodclgdkodaaP40Z1
import Derived.ProofKit
import Derived.SizedLaws
import Derived.Deep.Slices
import Derived.Carry
import Derived.Test.YtgjmodclgdkodaaRows
import Derived.Deep.RegionHeld3
/- kbo: weights of tops, what an order knows, relations. -/

namespace Go.Proofs.Ytgjmodclgdkodaa

open Go.RowKit Go.Shelf
set_option maxRecDepth 100000

/-- An order, in plain words. -/
structure Odr where
  lpo : Bool
  prec : List Int
  wts : List Int
  var : Int

structure OdrM (w : World) (B : Nat) (o : Odr) (P Q : Option Addr) : Prop where
  p : Ints w B P o.prec
  q : Ints w B Q o.wts
  v : I64 o.var

theorem OdrM.on {w w' : World} {o : Odr} {P Q : Option Addr} (h : OdrM w w.heap.size o P Q) (hb : Below w.heap.size w w') : OdrM w' w'.heap.size o P Q := ⟨h.p.on hb, h.q.on hb, h.v⟩

theorem Ints.get {w : World} {B : Nat} {A : Option Addr} {l : List Int} (h : Ints w B A l) {i : Nat} {x : Int} (hx : l[i]? = some x) : ∃ b off, A = some ⟨b, off, none⟩ ∧ b < B ∧ w.cell? ⟨b, off + i, none⟩ = some (.int .i64 x) := by
  have hlt := (List.getElem?_eq_some_iff.1 hx).1
  obtain ⟨b, off, hA, hb, hc⟩ := h.ad (by omega)
  exact ⟨b, off, hA, hb, hc i x hx⟩

/-- A weight as it counts. -/
def capI (n : Int) : Int := max 0 (min n 2147483647)

theorem capI_bd (n : Int) : 0 ≤ capI n ∧ capI n ≤ 2147483647 := by unfold capI; omega

theorem capI_64 (n : Int) : I64 (capI n) := ⟨by have := (capI_bd n).1; omega, by have := (capI_bd n).2; omega⟩

def wtI (o : Odr) (f : Int) : Int := capI (if f < 0 then o.var else o.wts.getD f.toNat 0)

theorem wtI_bd (o : Odr) (f : Int) : 0 ≤ wtI o f ∧ wtI o f ≤ 2147483647 := capI_bd _

theorem capped_any (n : Int) (w : World) : Calls Try.prog 71 #[.int .i64 n] w fun e w' => e = .returned (.int .i64 (capI n)) ∧ w' = w := by
  by_cases h1 : 2147483647 < n
  · go_enter Try.func71, Try.ntmps71
    go_wp2
    go_ret
    exact ⟨ret_int (by unfold capI; omega), rfl⟩
  · by_cases h2 : 0 < n
    · go_enter Try.func71, Try.ntmps71
      go_wp2
      go_ret
      exact ⟨ret_int (by unfold capI; omega), rfl⟩
    · go_enter Try.func71, Try.ntmps71
      go_wp2
      go_ret
      exact ⟨ret_int (by unfold capI; omega), rfl⟩

set_option maxHeartbeats 1000000 in
theorem kboWeight1_any (o : Odr) (t : Tm) (P Q A : Option Addr) (pc qc c : Nat) (w : World) (hM : OdrM w w.heap.size o P Q) (hk : t.fn < 0 ∨ t.fn < (o.wts.length : Int)) :
    Calls Try.prog 103 #[.agg #[.bool o.lpo, .slice P o.prec.length pc, .slice Q o.wts.length qc, .int .i64 o.var], .agg #[.int .i64 t.fn, .slice A t.args.length c]] w fun e w' => e = .returned (.int .i64 (wtI o t.fn)) ∧ Below w.heap.size w w' := by
  have hB : Below w.heap.size w ((w.alloc (.cells #[.bool o.lpo, .slice P o.prec.length pc, .slice Q o.wts.length qc, .int .i64 o.var] 27)).alloc (.cells #[.int .i64 t.fn, .slice A t.args.length c] 39)) := ((Below.refl _ _).alloc (Nat.le_refl _) _).alloc (by simp) _
  by_cases hneg : t.fn < 0
  · have hw := Lib.hid (show wtI o t.fn = capI o.var by unfold wtI; rw [if_pos hneg])
    go_enter Try.func103, Try.ntmps103
    go_wp2_with (first
      | (go_at_call 71; refine (capped_any _ _).mono ?_; go_must (rintro e w1 ⟨rfl, rfl⟩))
      | fail)
    go_ret
    exact ⟨by rw [hw.out]; rfl, hB⟩
  · obtain ⟨k, hk0⟩ : ∃ k : Nat, t.fn = (k : Int) := ⟨t.fn.toNat, by omega⟩
    rw [hk0] at hneg hk ⊢
    have hkl : k < o.wts.length := by omega
    obtain ⟨x, hx⟩ : ∃ x, o.wts[k]? = some x := ⟨_, List.getElem?_eq_getElem hkl⟩
    have hw := Lib.hid (show wtI o (k : Int) = capI x by unfold wtI; rw [if_neg hneg, List.getD_eq_getElem?_getD, show ((k : Int).toNat) = k from rfl, hx]; rfl)
    obtain ⟨b, off, rfl, hb, hc⟩ := hM.q.get hx
    rw [hk0] at hB
    have hkl' : (k : Int) < (o.wts.length : Int) := by omega
    have hc2 := cell_on hB hb hc
    go_enter Try.func103, Try.ntmps103
    go_wp2_with (first
      | (go_at_call 71; refine (capped_any _ _).mono ?_; go_must (rintro e w1 ⟨rfl, rfl⟩))
      | fail)
    go_ret
    exact ⟨by rw [hw.out]; rfl, hB⟩

/-- A relation the other way round. -/
def relT (r : Int) : Int := if r = 1 then 3 else if r = 3 then 1 else r

theorem turned_any (r : Int) (h0 : 0 ≤ r) (h3 : r ≤ 3) (w : World) : Calls Try.prog 87 #[.int .i64 r] w fun e w' => e = .returned (.int .i64 (relT r)) ∧ w' = w := by
  have hc : r = 0 ∨ r = 1 ∨ r = 2 ∨ r = 3 := by omega
  rcases hc with rfl | rfl | rfl | rfl
  · have hix : (Instr.index 131 (.agg #[.int .i64 0, .int .i64 3, .int .i64 2, .int .i64 1]) (.int .i64 0)).run Try.prog w = .ok (.int .i64 0) w := by kernel_rfl
    go_enter Try.func87, Try.ntmps87
    go_wp2
    go_ret
    exact ⟨rfl, rfl⟩
  · have hix : (Instr.index 131 (.agg #[.int .i64 0, .int .i64 3, .int .i64 2, .int .i64 1]) (.int .i64 1)).run Try.prog w = .ok (.int .i64 3) w := by kernel_rfl
    go_enter Try.func87, Try.ntmps87
    go_wp2
    go_ret
    exact ⟨rfl, rfl⟩
  · have hix : (Instr.index 131 (.agg #[.int .i64 0, .int .i64 3, .int .i64 2, .int .i64 1]) (.int .i64 2)).run Try.prog w = .ok (.int .i64 2) w := by kernel_rfl
    go_enter Try.func87, Try.ntmps87
    go_wp2
    go_ret
    exact ⟨rfl, rfl⟩
  · have hix : (Instr.index 131 (.agg #[.int .i64 0, .int .i64 3, .int .i64 2, .int .i64 1]) (.int .i64 3)).run Try.prog w = .ok (.int .i64 1) w := by kernel_rfl
    go_enter Try.func87, Try.ntmps87
    go_wp2
    go_ret
    exact ⟨rfl, rfl⟩

/-- What a comparison of numbers says. -/
def relC (c : Int) : Int := if c > 0 then 3 else if c < 0 then 1 else 2

theorem relation_pos (c : Int) (h : c ≥ 0) (w : World) : Calls Try.prog 72 #[.int .i64 c] w fun e w' => e = .returned (.int .i64 (relC c)) ∧ w' = w := by
  by_cases hp : c > 0
  · have hr := Lib.hid (show relC c = 3 by unfold relC; rw [if_pos hp])
    go_enter Try.func72, Try.ntmps72
    go_wp2
    go_ret
    exact ⟨by rw [hr.out]; rfl, rfl⟩
  · obtain rfl : c = 0 := by omega
    go_enter Try.func72, Try.ntmps72
    go_wp2
    go_ret
    exact ⟨rfl, rfl⟩

theorem relation_any (c : Int) (hlo : -9223372036854775807 ≤ c) (hhi : c ≤ 9223372036854775807) (w : World) : Calls Try.prog 72 #[.int .i64 c] w fun e w' => e = .returned (.int .i64 (relC c)) ∧ w' = w := by
  by_cases h : c ≥ 0
  · exact relation_pos c h w
  · have hr := Lib.hid (show relC c = 1 by unfold relC; rw [if_neg (by omega), if_pos (by omega)])
    have hr2 : relC (-c) = 3 := by unfold relC; rw [if_pos (by omega)]
    have h1 := Lib.hid (relation_pos (-c) (by omega) w)
    have h2 := Lib.hid (turned_any 3 (by omega) (by omega) w)
    rw [hr2] at h1
    have hn1 : ¬ c > 0 := by omega
    have hn2 : c < 0 := by omega
    clear hr2 h
    go_enter Try.func72, Try.ntmps72
    go_wp2_with (first
      | (go_at_call 72; (with_reducible refine h1.out.mono ?_); go_must (rintro e w1 ⟨rfl, rfl⟩))
      | (go_at_call 87; (with_reducible refine h2.out.mono ?_); go_must (rintro e w1 ⟨rfl, rfl⟩))
      | fail)
    go_ret
    exact ⟨by rw [hr.out]; rfl, rfl⟩

/-- Does an order know a term's top? -/
def knowTop (o : Odr) (f : Int) (n : Nat) : Bool := if f < 0 then decide (n = 0) else decide (f < (o.prec.length : Int)) && decide (f < (o.wts.length : Int))

mutual
def knowT (o : Odr) : Tm → Bool
  | .node f xs => knowTop o f xs.length && knowL o xs
def knowL (o : Odr) : List Tm → Bool
  | [] => true
  | t :: ts => knowT o t && knowL o ts
end

set_option maxHeartbeats 1000000 in
theorem knows1_any (o : Odr) (t : Tm) (P Q A : Option Addr) (pc qc c bo : Nat) (w : World) (hbo : w.heap[bo]? = some (.cells #[.bool o.lpo, .slice P o.prec.length pc, .slice Q o.wts.length qc, .int .i64 o.var] 27)) :
    Calls Try.prog 68 #[.agg #[.int .i64 t.fn, .slice A t.args.length c], .pointer (some ⟨bo, 0, none⟩)] w fun e w' => e = .returned (.bool (knowTop o t.fn t.args.length)) ∧ Below w.heap.size w w' := by
  have hlt := (Array.getElem?_eq_some_iff.1 hbo).1
  have hB : Below w.heap.size w (w.alloc (.cells #[.int .i64 t.fn, .slice A t.args.length c] 39)) := (Below.refl _ _).alloc (Nat.le_refl _) _
  have q0 := (hB.block bo hlt).trans hbo
  have c1 : (w.alloc (.cells #[.int .i64 t.fn, .slice A t.args.length c] 39)).cell? ⟨bo, 1, none⟩ = some (.slice P o.prec.length pc) := by simp only [World.cell?, q0]; rfl
  have c2 : (w.alloc (.cells #[.int .i64 t.fn, .slice A t.args.length c] 39)).cell? ⟨bo, 2, none⟩ = some (.slice Q o.wts.length qc) := by simp only [World.cell?, q0]; rfl
  clear q0 hbo
  by_cases hneg : t.fn < 0
  · have hk := Lib.hid (show knowTop o t.fn t.args.length = decide (t.args.length = 0) by unfold knowTop; rw [if_pos hneg])
    go_enter Try.func68, Try.ntmps68
    go_wp2
    go_ret
    exact ⟨ret_bool (by rw [hk.out, Bool.eq_iff_iff, beq_iff_eq, decide_eq_true_eq]; omega), hB⟩
  · by_cases h1 : t.fn < (o.prec.length : Int)
    · have hk := Lib.hid (show knowTop o t.fn t.args.length = decide (t.fn < (o.wts.length : Int)) by unfold knowTop; rw [if_neg hneg, decide_eq_true h1, Bool.true_and])
      go_enter Try.func68, Try.ntmps68
      go_wp2
      go_ret
      exact ⟨ret_bool (by rw [hk.out]), hB⟩
    · have hk := Lib.hid (show knowTop o t.fn t.args.length = false by unfold knowTop; rw [if_neg hneg, decide_eq_false h1, Bool.false_and])
      go_enter Try.func68, Try.ntmps68
      go_wp2
      go_ret
      exact ⟨ret_bool (by rw [hk.out]), hB⟩

theorem cells_four {W : World} {b : Nat} {x y z u : Value} {t : TypeId} (h : W.heap[b]? = some (.cells #[x, y, z, u] t)) : W.cell? ⟨b, 0, none⟩ = some x ∧ W.cell? ⟨b, 1, none⟩ = some y ∧ W.cell? ⟨b, 2, none⟩ = some z ∧ W.cell? ⟨b, 3, none⟩ = some u := by
  refine ⟨?_, ?_, ?_, ?_⟩ <;> simp [World.cell?, h]

def kvis (o : Odr) (s : Unit) (t : Tm) : Unit × Bool := (s, knowTop o t.fn t.args.length)

theorem knows1_vis (o : Odr) (P Q : Option Addr) (pc qc bo B0 : Nat) (hbo : bo < B0) :
    VisC (fun _ _ => True) (kvis o) 68 #[.pointer (some ⟨bo, 0, none⟩)] (fun _ => False) (· < B0) (· < B0)
      (fun _ W => W.heap[bo]? = some (.cells #[.bool o.lpo, .slice P o.prec.length pc, .slice Q o.wts.length qc, .int .i64 o.var] 27)) B0 where
  ent := enters_of Try.func68 (by kernel_rfl) rfl
  call := fun s t A c W hB0 hI hf _ hA => (knows1_any o t P Q A pc qc c bo W hI).mono fun e w' ⟨he, hb⟩ => ⟨he, (hb.block bo (Nat.lt_of_lt_of_le hbo hB0)).trans hI, KeepsC.of_below hb⟩
  stay := fun s W W' h hk => (hk.block bo hbo).trans h
  cb := fun g e => e.elim
  db := fun g e => e
  nb := fun g e => e
  nc := fun g _ e => e

theorem ev_know (o : Odr) (t : Tm) : (evT (kvis o) () t).2 = knowT o t := by
  have key : ∀ xs : List Tm, (∀ t ∈ xs, (evT (kvis o) () t).2 = knowT o t) → (evL (kvis o) () xs).2 = knowL o xs := by
    intro xs
    induction xs with
    | nil => intro _; simp only [evL, knowL]
    | cons x xs ih =>
      intro h
      simp only [evL, knowL, ← h x (by simp)]
      split
      · rename_i hh
        rw [ih fun t ht => h t (by simp [ht]), hh, Bool.true_and]
      · rename_i hh
        rw [Bool.not_eq_true] at hh
        rw [hh, Bool.false_and]
  refine Tm.ind (P := fun t => (evT (kvis o) () t).2 = knowT o t) (fun f xs ih => ?_) t
  have e : (kvis o () (.node f xs)).2 = knowTop o f xs.length := rfl
  rw [evT, knowT, ← e]
  split
  · rename_i hh
    rw [hh, Bool.true_and]
    exact key xs ih
  · rename_i hh
    rw [Bool.not_eq_true] at hh
    rw [hh, Bool.false_and]

theorem ok_true {σ : Type} (vs : σ → Tm → σ × Bool) (t : Tm) : ∀ s, okT (fun _ _ => True) vs s t := by
  have key : ∀ xs : List Tm, (∀ t ∈ xs, ∀ s, okT (fun _ _ => True) vs s t) → ∀ s, okL (fun _ _ => True) vs s xs := by
    intro xs
    induction xs with
    | nil => intro _ s; simp only [okL]
    | cons x xs ih => intro h s; rw [okL]; exact ⟨h x (by simp) s, fun _ => ih (fun t ht => h t (by simp [ht])) _⟩
  refine Tm.ind (P := fun t => ∀ s, okT (fun _ _ => True) vs s t) (fun f xs ih s => ?_) t
  rw [okT]
  exact ⟨trivial, fun _ => key xs ih _⟩

set_option maxHeartbeats 1000000 in
theorem kboKnows_any (o : Odr) (t : Tm) (P Q A : Option Addr) (pc qc c : Nat) (w : World) (hf : I64 t.fn) (hA : Args w w.heap.size A t.args) :
    Calls Try.prog 50 #[.agg #[.bool o.lpo, .slice P o.prec.length pc, .slice Q o.wts.length qc, .int .i64 o.var], .agg #[.int .i64 t.fn, .slice A t.args.length c]] w fun e w' => e = .returned (.bool (knowT o t)) ∧ Below w.heap.size w w' := by
  obtain ⟨q0, q1⟩ := heap2 w (.cells #[.bool o.lpo, .slice P o.prec.length pc, .slice Q o.wts.length qc, .int .i64 o.var] 27) (.cells #[.int .i64 t.fn, .slice A t.args.length c] 39)
  obtain ⟨W, hW⟩ : ∃ W, ((w.alloc (.cells #[.bool o.lpo, .slice P o.prec.length pc, .slice Q o.wts.length qc, .int .i64 o.var] 27)).alloc (.cells #[.int .i64 t.fn, .slice A t.args.length c] 39)) = W := ⟨_, rfl⟩
  have hB : Below w.heap.size w W := by rw [← hW]; exact ((Below.refl _ _).alloc (Nat.le_refl _) _).alloc (by simp) _
  rw [hW] at q0 q1
  have hWs : w.heap.size + 1 < W.heap.size := (Array.getElem?_eq_some_iff.1 q1).1
  obtain ⟨x0, x1, _, _⟩ := cells_two q1
  have H1 := Lib.hid (each_any (knows1_vis o P Q pc qc w.heap.size W.heap.size (by omega)) t () A c W (Nat.le_refl _) q0 hf (ok_true _ t ()) (hA.on hB).toN)
  have hev := Lib.hid (ev_know o t)
  have HW := Lib.hid hW
  clear hW hA q0 q1
  go_enter Try.func50, Try.ntmps50
  go_upto_region 1 with fail
  rw [HW.out]
  go_wp2_with (first
    | (go_at_call 67; (with_reducible refine H1.out.mono ?_); go_must (rintro e w1 ⟨rfl, _, hk1⟩))
    | fail)
  go_ret
  exact ⟨by rw [hev.out]; rfl, hB.trans (Keeps.below hk1 fun g hg => ⟨by omega, fun e => e⟩)⟩

end Go.Proofs.Ytgjmodclgdkodaa

/- The document's own answers: Size, Depth, low, over, Small. -/

namespace Go.Proofs.Ytgjmodclgdkodaa

open Go.RowKit
set_option maxRecDepth 100000

theorem sizes_snoc : ∀ (xs : List Tm) (u : Tm), sizes (xs ++ [u]) = sizes xs + u.size
  | [], u => by simp [sizes]
  | x :: xs, u => by simp only [List.cons_append, sizes, sizes_snoc xs u]; omega

theorem depths_snoc : ∀ (xs : List Tm) (u : Tm), depths (xs ++ [u]) = max (depths xs) u.depth
  | [], u => by simp [depths]
  | x :: xs, u => by simp only [List.cons_append, depths, depths_snoc xs u]; omega

theorem sizes_take {xs : List Tm} {k : Nat} {u : Tm} (h : xs[k]? = some u) : sizes (xs.take (k + 1)) = sizes (xs.take k) + u.size := by
  rw [List.take_add_one, h]; exact sizes_snoc _ _

theorem depths_take {xs : List Tm} {k : Nat} {u : Tm} (h : xs[k]? = some u) : depths (xs.take (k + 1)) = max (depths (xs.take k)) u.depth := by
  rw [List.take_add_one, h]; exact depths_snoc _ _

theorem sizes_le (xs : List Tm) (k : Nat) : sizes (xs.take k) ≤ sizes xs := by
  have key : ∀ (ys zs : List Tm), sizes zs ≤ sizes (zs ++ ys) := by
    intro ys zs
    induction zs with
    | nil => simp [sizes]
    | cons z zs ih => simp only [List.cons_append, sizes]; omega
  have := key (xs.drop k) (xs.take k)
  rwa [List.take_append_drop] at this

theorem depth_le_size (t : Tm) : t.depth ≤ t.size := by
  refine Tm.ind (P := fun t => t.depth ≤ t.size) (fun f xs ih => ?_) t
  simp only [Tm.depth, Tm.size]
  have key : ∀ ys : List Tm, (∀ t ∈ ys, t.depth ≤ t.size) → depths ys ≤ sizes ys := by
    intro ys
    induction ys with
    | nil => intro _; simp [depths]
    | cons y ys ihy =>
      intro h
      have h1 := h y (by simp)
      have h2 := ihy fun t ht => h t (by simp [ht])
      simp only [depths, sizes]
      omega
  have := key xs ih
  omega

theorem depths_le (xs : List Tm) (k : Nat) : depths (xs.take k) ≤ depths xs := by
  have key : ∀ (ys zs : List Tm), depths zs ≤ depths (zs ++ ys) := by
    intro ys zs
    induction zs with
    | nil => simp [depths]
    | cons z zs ih => simp only [List.cons_append, depths]; omega
  have := key (xs.drop k) (xs.take k)
  rwa [List.take_append_drop] at this

/-- The box of a term that is a parameter, and what stays of it. -/
theorem box_term {w W : World} {f : Int} {A : Option Addr} {n c : Nat} (hW : w.alloc (.cells #[.int .i64 f, .slice A n c] 39) = W) : Below w.heap.size w W ∧ w.heap.size < W.heap.size ∧ ∀ w', Below W.heap.size W w' → w'.cell? ⟨w.heap.size, 0, none⟩ = some (.int .i64 f) ∧ w'.cell? ⟨w.heap.size, 1, none⟩ = some (.slice A n c) := by
  have hb : W.heap[w.heap.size]? = some (.cells #[.int .i64 f, .slice A n c] 39) := by rw [← hW]; exact heap_alloc_new w _
  have hlt := (Array.getElem?_eq_some_iff.1 hb).1
  refine ⟨by rw [← hW]; exact (Below.refl _ _).alloc (Nat.le_refl _) _, hlt, fun w' h => ?_⟩
  obtain ⟨h0, h1, _, _⟩ := cells_two ((h.block _ hlt).trans hb)
  exact ⟨h0, h1⟩

def RSize (t : Tm) : Prop := t.size ≤ 4611686018427387904 → ∀ (A : Option Addr) (c : Nat) (w : World), I64 t.fn → Args w w.heap.size A t.args →
  Calls Try.prog 12 #[.agg #[.int .i64 t.fn, .slice A t.args.length c]] w fun e w' => e = .returned (.int .i64 (t.size : Int)) ∧ Below w.heap.size w w'

set_option maxHeartbeats 1000000 in
theorem refSize_any (t : Tm) : RSize t := by
  refine Tm.ind (P := RSize) (fun f xs ih => ?_) t
  intro hsz A c w hf hA
  simp only [Tm.fn, Tm.args] at hf hA ⊢
  have hlen := hA.len
  obtain ⟨W, hW⟩ : ∃ W, w.alloc (.cells #[.int .i64 f, .slice A xs.length c] 39) = W := ⟨_, rfl⟩
  obtain ⟨hB, hlt, hS⟩ := box_term hW
  have HW := Lib.hid hW
  have hszs : sizes xs + 1 ≤ 4611686018427387904 := by simpa only [Tm.size] using hsz
  clear hW
  go_enter Try.func12, Try.ntmps12
  go_upto_region 1 with fail
  rw [HW.out]
  go_wp2
  go_loopw [3, 4] (fun n i wr => ∃ k : Nat, k ≤ xs.length ∧ i = .int .i64 (k : Int) ∧ n = .int .i64 ((sizes (xs.take k) + 1 : Nat) : Int) ∧ Below W.heap.size W wr) (fun _ i _ => xs.length - (intOf i).toNat)
  case atStart => exact ⟨0, Nat.zero_le _, rfl, by simp [sizes], Below.refl _ _⟩
  case round =>
    obtain ⟨k, hk, rfl, rfl, hBr⟩ := hrel
    obtain ⟨_, x1⟩ := hS _ hBr
    have hsk := sizes_le xs k
    by_cases hkl : k < xs.length
    · obtain ⟨u, hu⟩ : ∃ u, xs[k]? = some u := ⟨_, List.getElem?_eq_getElem hkl⟩
      obtain ⟨bb, off, A1, c1, rfl, ha⟩ := (hA.on (hB.trans (hBr.mono hB.size))).get hu
      have e0 := ha.c0
      have e1 := ha.c1
      have hmem := List.mem_of_getElem? hu
      have hsu := size_mem hmem
      have hst := Lib.hid (sizes_take hu)
      have hsk1 := sizes_le xs (k + 1)
      have hst' := sizes_take hu
      have hsub := Lib.hid ha.sub
      have hu64 := ha.hi
      clear hu ha
      go_wp2_with (first
        | (go_at_call 12
           go_must (
           refine (ih u hmem (by omega) A1 c1 wr hu64 hsub.out).mono ?_
           rintro e w2 ⟨rfl, hb2⟩))
        | fail)
      refine ⟨⟨k + 1, by omega, by go_num, ?_, hBr.trans (hb2.mono hBr.size)⟩, by simp [intOf]; omega⟩
      rw [hst']
      go_num
    · obtain rfl : k = xs.length := by omega
      go_wp2
      go_ret
      exact ⟨by rw [List.take_length]; rfl, hB.trans (hBr.mono hB.size)⟩

def RDepth (t : Tm) : Prop := t.depth ≤ 4611686018427387904 → ∀ (A : Option Addr) (c : Nat) (w : World), I64 t.fn → Args w w.heap.size A t.args →
  Calls Try.prog 44 #[.agg #[.int .i64 t.fn, .slice A t.args.length c]] w fun e w' => e = .returned (.int .i64 (t.depth : Int)) ∧ Below w.heap.size w w'

set_option maxHeartbeats 1000000 in
theorem refDepth_any (t : Tm) : RDepth t := by
  refine Tm.ind (P := RDepth) (fun f xs ih => ?_) t
  intro hsz A c w hf hA
  simp only [Tm.fn, Tm.args] at hf hA ⊢
  have hlen := hA.len
  obtain ⟨W, hW⟩ : ∃ W, w.alloc (.cells #[.int .i64 f, .slice A xs.length c] 39) = W := ⟨_, rfl⟩
  obtain ⟨hB, hlt, hS⟩ := box_term hW
  have HW := Lib.hid hW
  have hszs : depths xs + 1 ≤ 4611686018427387904 := by simpa only [Tm.depth] using hsz
  clear hW
  go_enter Try.func44, Try.ntmps44
  go_upto_region 1 with fail
  rw [HW.out]
  go_wp2
  go_loopw [3, 4] (fun n i wr => ∃ k : Nat, k ≤ xs.length ∧ i = .int .i64 (k : Int) ∧ n = .int .i64 ((depths (xs.take k) : Nat) : Int) ∧ Below W.heap.size W wr) (fun _ i _ => xs.length - (intOf i).toNat)
  case atStart => exact ⟨0, Nat.zero_le _, rfl, by simp [depths], Below.refl _ _⟩
  case round =>
    obtain ⟨k, hk, rfl, rfl, hBr⟩ := hrel
    obtain ⟨_, x1⟩ := hS _ hBr
    have hsk := depths_le xs k
    by_cases hkl : k < xs.length
    · obtain ⟨u, hu⟩ : ∃ u, xs[k]? = some u := ⟨_, List.getElem?_eq_getElem hkl⟩
      obtain ⟨bb, off, A1, c1, rfl, ha⟩ := (hA.on (hB.trans (hBr.mono hB.size))).get hu
      have e0 := ha.c0
      have e1 := ha.c1
      have hmem := List.mem_of_getElem? hu
      have hsu := depth_mem hmem
      have hst' := depths_take hu
      have hsub := Lib.hid ha.sub
      have hu64 := ha.hi
      clear hu ha
      go_wp2_with (first
        | (go_at_call 44
           go_must (
           refine (ih u hmem (by omega) A1 c1 wr hu64 hsub.out).mono ?_
           rintro e w2 ⟨rfl, hb2⟩))
        | fail)
      all_goals
        refine ⟨⟨k + 1, by omega, by go_num, ?_, hBr.trans (hb2.mono hBr.size)⟩, by simp [intOf]; omega⟩
        rw [hst']
        congr 1
        omega
    · obtain rfl : k = xs.length := by omega
      go_wp2
      go_ret
      exact ⟨by rw [List.take_length]; rfl, hB.trans (hBr.mono hB.size)⟩

end Go.Proofs.Ytgjmodclgdkodaa

/- sizes of the first of a row -/

namespace Go.Proofs.Ytgjmodclgdkodaa

open Go.RowKit
set_option maxRecDepth 100000
set_option maxRecDepth 100000

theorem sizes_bd {xs : List Tm} {k : Nat} : sizes (xs.take k) ≤ sizes xs := sizes_le xs k

end Go.Proofs.Ytgjmodclgdkodaa

/- What an argument reads as: signatures and lists of symbols, opened. -/

namespace Go.Proofs.Ytgjmodclgdkodaa

open Go.ChangeShapes Go.WideShapes Go.ChangeAt Go.RowKit

section

variable {H : Type} {enc : TypeId × Value → H} {W : World} {base : Nat} {sp : Nat → Bool} {held : Bool}

theorem cellsSym : Try.prog.cellsOf 51 = 3 := by kernel_rfl

theorem cellsStr : Try.prog.cellsOf 9 = 1 := by kernel_rfl

theorem cellsInt : Try.prog.cellsOf 3 = 1 := by kernel_rfl

theorem cellsBool : Try.prog.cellsOf 4 = 1 := by kernel_rfl

theorem cellsSlice : Try.prog.cellsOf 22 = 1 := by kernel_rfl

theorem cellsSig : Try.prog.cellsOf 24 = 1 := by kernel_rfl

theorem bytesSym : Try.prog.bytesOf 51 = 32 := by kernel_rfl

set_option maxRecDepth 20000 in
theorem trod_sym {n : Nat} {cs : List Value} {x : DataW H × List MemPlace} (h : DataW.trod enc Try.prog W base sp held n 51 cs = some x) :
    ∃ s : Sm, cs = [.string s.name, .int .i64 s.arity, .bool s.pred] ∧ s.Ok ∧ x.1 = .agg [.lit (.string s.name.data.toList), .lit (.int .i64 s.arity), .lit (.bool s.pred)] := by
  obtain ⟨xs, n', _, hx, hlen, hxs, hf⟩ := DataW.trod_struct Try.underlying51 h
  rw [cellsSym] at hlen
  match cs, hlen with
  | [c0, c1, c2], _ =>
    have hx3 : xs.length = 3 := by rw [hxs]; rfl
    match xs, hx3 with
    | [x0, x1, x2], _ =>
      have g0 := hf 0 _ rfl
      have g1 := hf 1 _ rfl
      have g2 := hf 2 _ rfl
      simp [cellsStr] at g0
      simp [cellsInt] at g1
      simp [cellsBool] at g2
      obtain ⟨a, ha, ea, hs⟩ := DataW.trod_string Try.underlying9 g0
      obtain ⟨b, hb, eb, hw⟩ := DataW.trod_int Try.underlying3 g1
      obtain ⟨c, hc, ec⟩ := DataW.trod_bool Try.underlying4 g2
      injection ha with ha; injection hb with hb; injection hc with hc
      subst ha; subst hb; subst hc
      have hw' : -9223372036854775808 ≤ b ∧ b ≤ 9223372036854775807 := by
        have := hw
        simp [Lit.wf, IntKind.min, IntKind.max, IntKind.signed, IntKind.bits] at this
        exact this
      exact ⟨⟨a, b, c⟩, rfl, ⟨hs, hw'.1, hw'.2⟩, by rw [hx]; simp [ea, eb, ec]⟩

theorem cell_spot {W : World} {a : Addr} {v : Value} (h : W.cell? a = some v) : a.spot = none := by
  unfold World.cell? at h
  split at h
  · split at h
    · cases h
    · rename_i hs; simpa using hs
  · cases h

theorem trod_syms {n : Nat} {v : Value} {x : DataW H × List MemPlace} (h : DataW.trod enc Try.prog W base (fun _ => true) held n 22 [v] = some x) :
    ∃ (A : Option Addr) (len c : Nat) (l : List Sm), v = .slice A len c ∧ Syms W W.heap.size A len l ∧ (len = 0 ∨ ∃ elems spare, x.1 = .slice elems spare ∧ elems.length = len) := by
  rcases Go.Deep.open_slice Try.underlying22 h with ⟨hv, _⟩ | ⟨a, len, cap, m, n', D, Pl, hv, hb, hl, hm, hmm, hx, hi⟩
  · injection hv with hv
    subst hv
    exact ⟨none, 0, 0, [], rfl, Syms.nil_ _ _ _, .inl rfl⟩
  · injection hv with hv
    subst hv
    have hcap : m = cap := by simpa using hmm
    subst hcap
    have each : ∀ i, i < len → ∃ s : Sm, s.Ok ∧ W.cell? (a.add (i * 3)) = some (.string s.name) ∧ W.cell? ((a.add (i * 3)).add 1) = some (.int .i64 s.arity) ∧ W.cell? ((a.add (i * 3)).add 2) = some (.bool s.pred) := by
      intro i hlt
      obtain ⟨cs', hc, ht⟩ := hi i (by omega)
      rw [cellsSym] at hc
      obtain ⟨_, _, hat⟩ := World.cells?_some hc
      obtain ⟨s, rfl, hok, _⟩ := trod_sym ht
      refine ⟨s, hok, ?_, hat 1 (by omega), hat 2 (by omega)⟩
      have := hat 0 (by omega)
      simpa [Addr.add] using this
    obtain ⟨q, hq⟩ := Go.Deep.choose_lt each
    refine ⟨some a, len, m, (List.range len).map q, rfl, ⟨by simp, fun s hs => ?_, fun hpos => ?_⟩, .inr ⟨(List.range len).map D, _, by rw [hx], by simp⟩⟩
    · obtain ⟨i, hir, rfl⟩ := List.mem_map.1 hs
      exact (hq i (List.mem_range.1 hir)).1
    · have c0 := (hq 0 hpos).2.1
      simp only [Nat.zero_mul, Addr.add, if_true] at c0
      obtain ⟨blk, off, spot⟩ := a
      obtain rfl : spot = none := cell_spot c0
      refine ⟨blk, off, rfl, ?_, fun i s hs => ?_⟩
      · unfold World.cell? at c0
        rcases Nat.lt_or_ge blk W.heap.size with h1 | h1
        · exact h1
        · simp [Array.getElem?_eq_none h1] at c0
      · have hilt : i < len := by
          have := (List.getElem?_eq_some_iff.1 hs).1
          simpa using this
        have he : q i = s := by
          rw [List.getElem?_map, List.getElem?_range hilt] at hs
          simpa using hs
        obtain ⟨_, h1, h2, h3⟩ := hq i hilt
        rw [he] at h1 h2 h3
        rw [Addr.add_lit] at h1 h2 h3
        rw [Addr.add_lit] at h2 h3
        exact ⟨h1, h2, h3⟩

set_option maxRecDepth 20000 in
/-- A signature that is an argument. -/
theorem open_sig {r : Reach} {b0 : Nat} {v : Value} {d : DataW H} {ps : List MemPlace} (hv : Value.okWide Try.prog W r b0 24 v) (h : DataW.Trod enc Try.prog W base (fun _ => true) held 24 v d ps) :
    ∃ (A : Option Addr) (len c : Nat) (l : List Sm), v = .agg #[.slice A len c] ∧ Syms W W.heap.size A len l ∧ (len = 0 ∨ ∃ elems spare, d = .agg [.slice elems spare] ∧ elems.length = len) := by
  obtain ⟨cs, rfl, hsz⟩ := okWide_struct Try.underlying24 hv
  rw [cellsSig] at hsz
  obtain ⟨fuel, hf⟩ := h
  obtain ⟨xs, n, _, hx, _, hxs, hg⟩ := DataW.trod_struct Try.underlying24 hf
  obtain ⟨cl⟩ := cs
  match cl, hsz with
  | [c0], _ =>
    have hx1 : xs.length = 1 := by rw [hxs]; rfl
    match xs, hx1 with
    | [x0], _ =>
      have g0 := hg 0 _ rfl
      simp [Value.cells, cellsSlice] at g0
      obtain ⟨A, len, c, l, rfl, hS, hd⟩ := trod_syms g0
      refine ⟨A, len, c, l, rfl, hS, ?_⟩
      rcases hd with h0 | ⟨elems, spare, he, hl⟩
      · exact .inl h0
      · right
        simp only [Prod.mk.injEq] at hx
        exact ⟨elems, spare, by rw [hx.1]; simp [he], hl⟩

/-- Symbols that are an argument. -/
theorem open_list {v : Value} {d : DataW H} {ps : List MemPlace} (hc : v.cells.toList = [v]) (h : DataW.Trod enc Try.prog W base (fun _ => true) held 22 v d ps) :
    ∃ (A : Option Addr) (len c : Nat) (l : List Sm), v = .slice A len c ∧ Syms W W.heap.size A len l ∧ (len = 0 ∨ ∃ elems spare, d = .slice elems spare ∧ elems.length = len) := by
  obtain ⟨fuel, hf⟩ := h
  rw [hc] at hf
  exact trod_syms hf

/-- How long such an argument may be. -/
theorem sig_size {ts : List TypeId} {ds : List (DataW H)} (h : (DataW.weightsEach Try.prog ts ds).all (· ≤ reachBytes) = true) {j : Nat} {d : DataW H} {len : Nat} (ht : ts[j]? = some 24) (hd : ds[j]? = some d)
    (hl : len = 0 ∨ ∃ elems spare, d = .agg [.slice elems spare] ∧ elems.length = len) : len * 32 ≤ 140737488351232 := by
  rcases hl with rfl | ⟨elems, spare, rfl, rfl⟩
  · omega
  · have hm := DataW.weights_mem_each (P := Try.prog) ht hd ((elems.length + spare.length) * Try.prog.bytesOf 51) (by
      simp [DataW.weights, Try.underlying24, DataW.weightsEach, Try.underlying22])
    have := List.all_eq_true.1 h _ hm
    rw [bytesSym] at this
    have h2 : (elems.length + spare.length) * 32 ≤ reachBytes := of_decide_eq_true this
    have h3 : reachBytes = 140737488351232 := by decide +kernel
    omega

theorem list_size {ts : List TypeId} {ds : List (DataW H)} (h : (DataW.weightsEach Try.prog ts ds).all (· ≤ reachBytes) = true) {j : Nat} {d : DataW H} {len : Nat} (ht : ts[j]? = some 22) (hd : ds[j]? = some d)
    (hl : len = 0 ∨ ∃ elems spare, d = .slice elems spare ∧ elems.length = len) : len * 32 ≤ 140737488351232 := by
  rcases hl with rfl | ⟨elems, spare, rfl, rfl⟩
  · omega
  · have hm := DataW.weights_mem_each (P := Try.prog) ht hd ((elems.length + spare.length) * Try.prog.bytesOf 51) (by
      simp [DataW.weights, Try.underlying22])
    have := List.all_eq_true.1 h _ hm
    rw [bytesSym] at this
    have h2 : (elems.length + spare.length) * 32 ≤ reachBytes := of_decide_eq_true this
    have h3 : reachBytes = 140737488351232 := by decide +kernel
    omega

end

end Go.Proofs.Ytgjmodclgdkodaa

/- Terms and numbers that are arguments, opened. -/

namespace Go.Proofs.Ytgjmodclgdkodaa

open Go.ChangeShapes Go.WideShapes Go.ChangeAt Go.RowKit
set_option maxRecDepth 20000

section

variable {H : Type} {enc : TypeId × Value → H} {W : World} {base : Nat} {held : Bool}

theorem cellsTerm : Try.prog.cellsOf 39 = 2 := by kernel_rfl

theorem cellsTerms : Try.prog.cellsOf 37 = 1 := by kernel_rfl

theorem bulk_all : ∀ (ts : List Tm) (ds : List (DataW H)), ts.length = ds.length → (∀ (i : Nat) (t : Tm) (d : DataW H), ts[i]? = some t → ds[i]? = some d → t.size ≤ Rows.uptoBulk d) → sizes ts ≤ Rows.uptoBulkAll ds
  | [], [], _, _ => by simp [sizes]
  | [], _ :: _, h, _ => by simp at h
  | _ :: _, [], h, _ => by simp at h
  | t :: ts, d :: ds, h, hh => by
    have h1 := hh 0 t d rfl rfl
    have h2 := bulk_all ts ds (by simpa using h) fun i t' d' e1 e2 => hh (i + 1) t' d' (by simpa using e1) (by simpa using e2)
    simp only [sizes, Rows.uptoBulkAll]
    omega

theorem trod_term : ∀ (n : Nat) (cs : List Value) (x : DataW H × List MemPlace), DataW.trod enc Try.prog W base (fun _ => true) held n 39 cs = some x →
    ∃ (t : Tm) (A : Option Addr) (c : Nat), cs = [.int .i64 t.fn, .slice A t.args.length c] ∧ I64 t.fn ∧ Args W W.heap.size A t.args ∧ t.size ≤ Rows.uptoBulk x.1 := by
  intro n
  induction n using Nat.strongRecOn with
  | ind n ih =>
    intro cs x h
    obtain ⟨xs, n', rfl, hx, hlen, hxs, hf⟩ := DataW.trod_struct Try.underlying39 h
    rw [cellsTerm] at hlen
    match cs, hlen with
    | [c0, c1], _ =>
      have hx2 : xs.length = 2 := by rw [hxs]; rfl
      match xs, hx2 with
      | [x0, x1], _ =>
        have g0 := hf 0 _ rfl
        have g1 := hf 1 _ rfl
        simp [cellsInt] at g0
        simp [cellsTerms] at g1
        obtain ⟨f, hfv, ef, hw⟩ := DataW.trod_int Try.underlying3 g0
        injection hfv with hfv
        subst hfv
        have hf64 : I64 f := by
          have := hw
          simp [Lit.wf, IntKind.min, IntKind.max, IntKind.signed, IntKind.bits] at this
          exact this
        rcases DataW.trod_slice Try.underlying37 g1 with ⟨hv, e1⟩ | ⟨a, len, cap, elems, rest, m, hm, hv, e1, _, hl, hmax, hlenE, hel, _, _⟩
        · injection hv with hv
          subst hv
          refine ⟨.node f [], none, 0, rfl, hf64, .nil none, ?_⟩
          subst hx
          simp [ef, e1, Tm.size, sizes, Rows.uptoBulk, Rows.uptoBulkAll]
        · injection hv with hv
          subst hv
          have each : ∀ i, i < len → ∃ q : Tm × Option Addr × Nat × DataW H, I64 q.1.fn ∧ W.cell? (a.add (i * 2)) = some (.int .i64 q.1.fn) ∧ W.cell? ((a.add (i * 2)).add 1) = some (.slice q.2.1 q.1.args.length q.2.2.1) ∧ Args W W.heap.size q.2.1 q.1.args ∧ q.1.size ≤ Rows.uptoBulk q.2.2.2 ∧ (elems.map (·.1))[i]? = some q.2.2.2 := by
            intro i hi
            have h1 := hel i hi
            rw [cellsTerm] at h1
            rw [List.getElem?_eq_getElem (by omega)] at h1
            cases hc : W.cells? base (a.add (i * 2)) 2 with
            | none => rw [hc] at h1; cases h1
            | some cs' =>
              rw [hc] at h1
              simp only [Option.bind_some] at h1
              obtain ⟨t, A, c, rfl, ht64, hA, hb⟩ := ih m (by omega) cs' _ h1
              obtain ⟨_, _, hat⟩ := World.cells?_some hc
              refine ⟨(t, A, c, (elems[i]'(by omega)).1), ht64, ?_, hat 1 (by omega), hA, hb, by rw [List.getElem?_map, List.getElem?_eq_getElem (show i < elems.length by omega)]; rfl⟩
              have := hat 0 (by omega)
              simpa [Addr.add] using this
          haveI : Inhabited (Tm × Option Addr × Nat × DataW H) := ⟨(.node 0 [], none, 0, .nil)⟩
          obtain ⟨q, hq⟩ := Go.Deep.choose_lt each
          have hget : ∀ (i : Nat) (t : Tm), ((List.range len).map fun i => (q i).1)[i]? = some t → i < len ∧ t = (q i).1 := by
            intro i t e
            have hi : i < len := by have := (List.getElem?_eq_some_iff.1 e).1; simpa using this
            rw [List.getElem?_map, List.getElem?_range hi] at e
            simp at e
            exact ⟨hi, e.symm⟩
          refine ⟨.node f ((List.range len).map fun i => (q i).1), some a, cap, by simp [Tm.fn, Tm.args], hf64, ?_, ?_⟩
          · rcases Nat.eq_zero_or_pos len with h0 | h0
            · subst h0; exact .nil _
            · have c00 := (hq 0 h0).2.1
              simp only [Nat.zero_mul, Addr.add, if_true] at c00
              obtain ⟨blk, off, spot⟩ := a
              obtain rfl : spot = none := cell_spot c00
              have hblk : blk < W.heap.size := by
                unfold World.cell? at c00
                rcases Nat.lt_or_ge blk W.heap.size with h1 | h1
                · exact h1
                · simp [Array.getElem?_eq_none h1] at c00
              simp only [Tm.args]
              refine .row blk off _ (fun i => (q i).2.1) (fun i => (q i).2.2.1) hblk (by unfold maxLen at hmax; simp; omega) (fun i t e => ?_) (fun i t e => ?_) (fun i t e => ?_) (fun i t e => ?_)
              · obtain ⟨hi, rfl⟩ := hget i t e
                exact (hq i hi).1
              · obtain ⟨hi, rfl⟩ := hget i t e
                have := (hq i hi).2.1
                rwa [Addr.add_lit] at this
              · obtain ⟨hi, rfl⟩ := hget i t e
                have := (hq i hi).2.2.1
                rwa [Addr.add_lit, Addr.add_lit] at this
              · obtain ⟨hi, rfl⟩ := hget i t e
                exact (hq i hi).2.2.2.1
          · subst hx
            have hb : sizes ((List.range len).map fun i => (q i).1) ≤ Rows.uptoBulkAll (elems.map (·.1)) := by
              refine bulk_all _ _ (by simp [hlenE]) fun i t d e1 e2 => ?_
              obtain ⟨hi, rfl⟩ := hget i t e1
              have h5 := (hq i hi).2.2.2.2
              rw [h5.2] at e2
              cases e2
              exact h5.1
            simp only [ef, e1, Tm.size, List.map_cons, List.map_nil, Rows.uptoBulk, Rows.uptoBulkAll]
            omega

/-- A term that is an argument. -/
theorem open_term {r : Reach} {b0 : Nat} {v : Value} {d : DataW H} {ps : List MemPlace} (hv : Value.okWide Try.prog W r b0 39 v) (h : DataW.Trod enc Try.prog W base (fun _ => true) held 39 v d ps) :
    ∃ (t : Tm) (A : Option Addr) (c : Nat), v = .agg #[.int .i64 t.fn, .slice A t.args.length c] ∧ I64 t.fn ∧ Args W W.heap.size A t.args ∧ t.size ≤ Rows.uptoBulk d := by
  obtain ⟨cs, rfl, _⟩ := okWide_struct Try.underlying39 hv
  obtain ⟨fuel, hf⟩ := h
  obtain ⟨t, A, c, hcs, h1, h2, h3⟩ := trod_term _ _ _ hf
  refine ⟨t, A, c, ?_, h1, h2, h3⟩
  have hcs' : cs.toList = [.int .i64 t.fn, .slice A t.args.length c] := hcs
  rw [show cs = #[.int .i64 t.fn, .slice A t.args.length c] from Array.toList_inj.1 (by rw [hcs'])]

end

end Go.Proofs.Ytgjmodclgdkodaa

/- Rows of terms in memory whose slices have room for what they hold; such a term that is an argument, opened. -/

namespace Go.Proofs.Ytgjmodclgdkodaa

open Go.ChangeShapes Go.WideShapes Go.ChangeAt Go.RowKit
set_option maxRecDepth 20000

/-- The slice at A, of capacity c, holds the terms; their cells lie in N's blocks; no slice is longer than its capacity. -/
inductive ArgsK (w : World) (N : Nat → Prop) : Option Addr → Nat → List Tm → Prop
  | nil (A : Option Addr) (c : Nat) : ArgsK w N A c []
  | row (b off c : Nat) (xs : List Tm) (A' : Nat → Option Addr) (c' : Nat → Nat) (hc : xs.length ≤ c) (hb : N b) (hlen : xs.length ≤ 9223372036854775807) (hi : ∀ (i : Nat) (t : Tm), xs[i]? = some t → I64 t.fn)
      (h0 : ∀ (i : Nat) (t : Tm), xs[i]? = some t → w.cell? ⟨b, off + i * 2, none⟩ = some (.int .i64 t.fn))
      (h1 : ∀ (i : Nat) (t : Tm), xs[i]? = some t → w.cell? ⟨b, off + i * 2 + 1, none⟩ = some (.slice (A' i) t.args.length (c' i)))
      (hs : ∀ (i : Nat) (t : Tm), xs[i]? = some t → ArgsK w N (A' i) (c' i) t.args) : ArgsK w N (some ⟨b, off, none⟩) c xs

section

variable {w w' : World} {N M : Nat → Prop} {A : Option Addr} {c : Nat} {xs : List Tm}

theorem ArgsK.toN (h : ArgsK w N A c xs) : ArgsN w N A xs := by
  induction h with
  | nil A c => exact .nil A
  | row b off c xs A' c' hc hb hlen hi h0 h1 _ ih => exact .row b off xs A' c' hb hlen hi h0 h1 ih

theorem ArgsK.keep (h : ArgsK w N A c xs) (hk : ∀ g, N g → w'.heap[g]? = w.heap[g]?) : ArgsK w' N A c xs := by
  induction h with
  | nil A c => exact .nil A c
  | row b off c xs A' c' hc hb hlen hi h0 h1 _ ih => exact .row b off c xs A' c' hc hb hlen hi (fun i t e => (cell_of_heap (hk b hb)).trans (h0 i t e)) (fun i t e => (cell_of_heap (hk b hb)).trans (h1 i t e)) ih

theorem ArgsK.wide (h : ArgsK w N A c xs) (hk : ∀ g, N g → M g) : ArgsK w M A c xs := by
  induction h with
  | nil A c => exact .nil A c
  | row b off c xs A' c' hc hb hlen hi h0 h1 _ ih => exact .row b off c xs A' c' hc (hk b hb) hlen hi h0 h1 ih

/-- The first one, and the rest. -/
structure ConsK (w : World) (N : Nat → Prop) (A : Option Addr) (c : Nat) (x : Tm) (xs : List Tm) (b off : Nat) (A1 : Option Addr) (c1 : Nat) : Prop where
  ad : A = some ⟨b, off, none⟩
  hb : N b
  hc : xs.length + 1 ≤ c
  hi : I64 x.fn
  v0 : w.cell? ⟨b, off, none⟩ = some (.int .i64 x.fn)
  v1 : w.cell? ⟨b, off + 1, none⟩ = some (.slice A1 x.args.length c1)
  sub : ArgsK w N A1 c1 x.args
  rest : ArgsK w N (some (if c = 1 then ⟨b, off, none⟩ else ⟨b, off + 2, none⟩)) (c - 1) xs

theorem ArgsK.cons {x : Tm} (h : ArgsK w N A c (x :: xs)) : ∃ b off A1 c1, ConsK w N A c x xs b off A1 c1 := by
  obtain _ | ⟨b, off, _, _, A', c', hc, hb, hlen, hi, h0, h1, hs⟩ := h
  have e0 := h0 0 x rfl
  have e1 := h1 0 x rfl
  rw [Nat.zero_mul, Nat.add_zero] at e0 e1
  refine ⟨b, off, A' 0, c' 0, rfl, hb, hc, hi 0 x rfl, e0, e1, hs 0 x rfl, ?_⟩
  simp only [List.length_cons] at hc hlen
  by_cases hc1 : c = 1
  · obtain rfl : xs = [] := List.eq_nil_of_length_eq_zero (by omega)
    exact .nil _ _
  · rw [if_neg hc1]
    refine .row b (off + 2) (c - 1) xs (fun i => A' (i + 1)) (fun i => c' (i + 1)) (by omega) hb (by omega) (fun i t e => hi (i + 1) t e) (fun i t e => ?_) (fun i t e => ?_) (fun i t e => hs (i + 1) t e)
    · rw [show off + 2 + i * 2 = off + (i + 1) * 2 by omega]; exact h0 (i + 1) t e
    · rw [show off + 2 + i * 2 + 1 = off + (i + 1) * 2 + 1 by omega]; exact h1 (i + 1) t e

theorem ArgsK.len (h : ArgsK w N A c xs) : xs.length ≤ 9223372036854775807 := h.toN.len

theorem ArgsK.get (h : ArgsK w N A c xs) {i : Nat} {t : Tm} (ht : xs[i]? = some t) : ∃ b off A1 c1, A = some ⟨b, off, none⟩ ∧ N b ∧ I64 t.fn ∧ w.cell? ⟨b, off + i * 2, none⟩ = some (.int .i64 t.fn) ∧ w.cell? ⟨b, off + i * 2 + 1, none⟩ = some (.slice A1 t.args.length c1) ∧ ArgsK w N A1 c1 t.args := by
  obtain _ | ⟨b, off, _, _, A', c', hc, hb, hlen, hi, h0, h1, hs⟩ := h
  · simp at ht
  · exact ⟨b, off, A' i, c' i, rfl, hb, hi i t ht, h0 i t ht, h1 i t ht, hs i t ht⟩

end

end Go.Proofs.Ytgjmodclgdkodaa

/- rows of one and of two terms; small terms -/

namespace Go.Proofs.Ytgjmodclgdkodaa

open Go.RowKit Go.Shelf Go.Maps
set_option maxRecDepth 100000
set_option maxRecDepth 100000

theorem ArgsK.on {w w' : World} {A : Option Addr} {c : Nat} {xs : List Tm} (h : ArgsK w (· < w.heap.size) A c xs) (hb : Below w.heap.size w w') : ArgsK w' (· < w'.heap.size) A c xs :=
  (h.keep fun g e => hb.block g e).wide fun _ e => Nat.lt_of_lt_of_le e hb.size

theorem ArgsK.toA {w : World} {B : Nat} {A : Option Addr} {c : Nat} {xs : List Tm} (h : ArgsK w (· < B) A c xs) : Args w B A xs := by
  induction h with
  | nil A c => exact .nil A
  | row b off c xs A' c' hc hb hlen hi h0 h1 _ ih => exact .row b off xs A' c' hb hlen hi h0 h1 ih

theorem keepsC_set1 {b : Nat} {w w1 : World} (h : KeepsC (· = b) w w1) (i : Nat) (v : Value) : KeepsC (· = b) w (w1.setCell ⟨b, i, none⟩ v) :=
  ⟨h.os, h.tape, h.output, by simpa using h.size, fun g hg => (heap_setCell_other _ _ _ _ hg.2).trans (h.k.block g hg)⟩

theorem argsK_one {w : World} {N : Nat → Prop} {b : Nat} {t : Tm} {A : Option Addr} {c : Nat} {e : TypeId} (h : w.heap[b]? = some (.cells #[.int .i64 t.fn, .slice A t.args.length c] e)) (hN : N b) (h64 : I64 t.fn) (hA : ArgsK w N A c t.args) : ArgsK w N (some ⟨b, 0, none⟩) 1 [t] := by
  obtain ⟨z0, z1, _, _⟩ := cells_two h
  refine .row b 0 1 [t] (fun _ => A) (fun _ => c) (by simp) hN (by simp) (fun i u e => ?_) (fun i u e => ?_) (fun i u e => ?_) (fun i u e => ?_)
  all_goals
    match i, e with
    | 0, e =>
      simp only [List.getElem?_cons_zero, Option.some.injEq] at e
      subst e
      first
        | exact h64
        | exact z0
        | exact z1
        | exact hA
    | i + 1, e => simp at e

theorem argsK_two {w : World} {N : Nat → Prop} {b : Nat} {t u : Tm} {A A2 : Option Addr} {c c2 : Nat} {e : TypeId} (h : w.heap[b]? = some (.cells #[.int .i64 t.fn, .slice A t.args.length c, .int .i64 u.fn, .slice A2 u.args.length c2] e)) (hN : N b) (h64 : I64 t.fn) (g64 : I64 u.fn) (hA : ArgsK w N A c t.args) (hA2 : ArgsK w N A2 c2 u.args) : ArgsK w N (some ⟨b, 0, none⟩) 2 [t, u] := by
  obtain ⟨z0, z1, z2, z3⟩ := cells_four h
  refine .row b 0 2 [t, u] (fun i => if i = 0 then A else A2) (fun i => if i = 0 then c else c2) (by simp) hN (by simp) (fun i x e => ?_) (fun i x e => ?_) (fun i x e => ?_) (fun i x e => ?_)
  all_goals
    match i, e with
    | 0, e =>
      simp only [List.getElem?_cons_zero, Option.some.injEq] at e
      subst e
      first
        | exact h64
        | exact z0
        | exact z1
        | exact hA
    | 1, e =>
      simp only [List.getElem?_cons_succ, List.getElem?_cons_zero, Option.some.injEq] at e
      subst e
      first
        | exact g64
        | exact z2
        | exact z3
        | exact hA2
    | i + 2, e => simp at e

def tX : Tm := .node (-1) []

def tA : Tm := .node 1 []

def tB : Tm := .node 2 []

end Go.Proofs.Ytgjmodclgdkodaa

/- rows of numbers in memory -/

namespace Go.Proofs.Ytgjmodclgdkodaa

open Go.RowKit Go.Shelf
set_option maxRecDepth 100000
set_option maxRecDepth 100000

/-- The slice v is the call's own; it holds the numbers. -/
structure IntsR (w : World) (base : Nat) (v : Value) (l : List Int) : Prop where
  row : w.ownsRow base 3 1 v l.length (l.map (Value.int .i64))
  i64 : ∀ x ∈ l, I64 x

theorem IntsR.get {w : World} {base : Nat} {v : Value} {l : List Int} (h : IntsR w base v l) {i : Nat} {x : Int} (hx : l[i]? = some x) : ∃ g c, v = .slice (some ⟨g, 0, none⟩) l.length c ∧ g < w.heap.size ∧ w.cell? ⟨g, i, none⟩ = some (.int .i64 x) := by
  have hlt := (List.getElem?_eq_some_iff.1 hx).1
  rcases h.row.2 with ⟨_, h0⟩ | ⟨g, cap, cur, rfl, hb, hg, _⟩
  · omega
  · refine ⟨g, cap, rfl, (Array.getElem?_eq_some_iff.1 hg).1, ?_⟩
    rw [h.row.cellAt i (by simpa using hlt)]
    simp [hx]

theorem IntsR.on {w w' : World} {base : Nat} {v : Value} {l : List Int} (h : IntsR w base v l) (hb : Below w.heap.size w w') : IntsR w' base v l := ⟨row_keep h.row fun g e => hb.block g (row_lt h.row g e).2, h.i64⟩

theorem row_slice {W : World} {base n : Nat} {e : TypeId} {size : Nat} {v : Value} {vs : List Value} (h : W.ownsRow base e size v n vs) : ∃ A c, v = .slice A n c := by
  rcases h.2 with ⟨hv, h0⟩ | ⟨g, cap, cur, hv, _⟩
  · exact ⟨none, 0, by rw [hv, h0]⟩
  · exact ⟨_, cap, hv⟩

theorem frozen_9 {W : World} {b : Nat} {cs : Array Value} {t : TypeId} (h : W.heap[b]? = some (.cells cs t)) (o : Nat) : W.frozen? ⟨b, o, none⟩ = false := by simp [World.frozen?, h]

theorem info_int : (Try.prog.info? 3).map (fun i => (i.zero, i.size, i.bytes)) = some (some (.int .i64 0), 1, 8) := by kernel_rfl

end Go.Proofs.Ytgjmodclgdkodaa

/- rows of numbers that grow by a term -/

namespace Go.Proofs.Ytgjmodclgdkodaa

open Go.RowKit Go.Shelf
set_option maxRecDepth 100000
set_option maxRecDepth 100000

/-- The row that has grown: nothing else has turned. -/
structure OrdW (base : Nat) (v : Value) (w : World) (v' : Value) (l : List Int) (w' : World) : Prop where
  row : IntsR w' base v' l
  gr : w.grownBy w' v.ownBlock
  own : ∀ g, v'.ownBlock = some g → v.ownBlock = some g ∨ w.heap.size ≤ g

theorem ord_app {base : Nat} {v v5 : Value} {w wr w5 : World} {l : List Int} {x : Int} {o : Obj} (h : IntsR w base v l) (hb : Below w.heap.size w wr) (hx : I64 x) (hown : w5.ownsRow base 3 1 v5 (l.length + 1) (l.map (Value.int .i64) ++ [.int .i64 x])) (hgr : (wr.alloc o).grownBy w5 v.ownBlock) (hat : v5.ownBlock = v.ownBlock ∨ v5.ownBlock = some (wr.alloc o).heap.size) : OrdW base v w v5 (l ++ [x]) w5 := by
  have hs := hb.size
  have hs5 := hgr.size
  have hsz : wr.heap.size + 1 ≤ w5.heap.size := by simpa using hs5
  refine ⟨⟨by simpa using hown, fun y hy => ?_⟩, ⟨hgr.os.trans hb.os, hgr.tape.trans hb.tape, hgr.output.trans hb.output, by omega, fun g hg hn => ?_⟩, fun g e => ?_⟩
  · rcases List.mem_append.1 hy with hy | hy
    · exact h.i64 y hy
    · simp at hy; subst hy; exact hx
  · exact (hgr.block g (by simp; omega) hn).trans ((Below.heap_alloc wr o g (by omega)).trans (hb.block g hg))
  · rcases hat with h' | h'
    · rw [h'] at e; exact .inl e
    · rw [h'] at e; injection e with e; simp at e; exact .inr (by omega)

end Go.Proofs.Ytgjmodclgdkodaa

/- rows of numbers that grow -/

namespace Go.Proofs.Ytgjmodclgdkodaa

open Go.RowKit Go.Shelf Go.Maps
set_option maxRecDepth 100000
set_option maxRecDepth 100000

theorem set_four {W : World} {b : Nat} {x y z u x' y' z' u' : Value} {t : TypeId} (h : W.heap[b]? = some (.cells #[x, y, z, u] t)) :
    ((((W.setCell ⟨b, 0, none⟩ x').setCell ⟨b, 1, none⟩ y').setCell ⟨b, 2, none⟩ z').setCell ⟨b, 3, none⟩ u').heap[b]? = some (.cells #[x', y', z', u'] t) := by
  have h1 : (W.setCell ⟨b, 0, none⟩ x').heap[b]? = some (.cells #[x', y, z, u] t) := heap_setCell_same W _ 0 _ _ _ h
  have h2 : ((W.setCell ⟨b, 0, none⟩ x').setCell ⟨b, 1, none⟩ y').heap[b]? = some (.cells #[x', y', z, u] t) := heap_setCell_same _ _ 1 _ _ _ h1
  have h3 : (((W.setCell ⟨b, 0, none⟩ x').setCell ⟨b, 1, none⟩ y').setCell ⟨b, 2, none⟩ z').heap[b]? = some (.cells #[x', y', z', u] t) := heap_setCell_same _ _ 2 _ _ _ h2
  exact heap_setCell_same _ _ 3 _ _ _ h3

theorem row_low {W : World} {base base' n : Nat} {e : TypeId} {size : Nat} {v : Value} {vs : List Value} (h : W.ownsRow base e size v n vs) (hb : base' ≤ base) : W.ownsRow base' e size v n vs := by
  refine ⟨h.1, ?_⟩
  rcases h.2 with h0 | ⟨g', cap, cur, rfl, hbg, hrest⟩
  · exact .inl h0
  · exact .inr ⟨g', cap, cur, rfl, Nat.le_trans hb hbg, hrest⟩

/-- The numbers 0 .. k - 1. -/
def numsI (k : Nat) : List Int := (List.range k).map fun i : Nat => (i : Int)

theorem numsI_succ (k : Nat) : numsI (k + 1) = numsI k ++ [(k : Int)] := by unfold numsI; rw [List.range_succ, List.map_append]; rfl

theorem numsI_len (k : Nat) : (numsI k).length = k := by unfold numsI; simp

theorem ones_succ (k : Nat) : List.replicate (k + 1) (1 : Int) = List.replicate k 1 ++ [1] := by rw [List.replicate_succ']

end Go.Proofs.Ytgjmodclgdkodaa

/- an order that is filled, number by number -/

namespace Go.Proofs.Ytgjmodclgdkodaa

open Go.RowKit Go.Shelf Go.Maps
set_option maxRecDepth 100000

/-- An order that is filled. -/
structure LstW (W : World) (bx : Nat) (vP vQ : Value) (lP lQ : List Int) (w : World) : Prop where
  box : w.heap[bx]? = some (.cells #[.bool false, vP, vQ, .int .i64 1] 27)
  P : IntsR w W.heap.size vP lP
  Q : IntsR w W.heap.size vQ lQ
  ne : ∀ g, vP.ownBlock = some g → vQ.ownBlock ≠ some g
  kp : KeepsC (· = bx) W w
  lt : bx < W.heap.size

theorem LstW.p {W w w5 : World} {bx : Nat} {vP vQ v5 : Value} {lP lQ : List Int} {x : Int} {o : Obj} (h : LstW W bx vP vQ lP lQ w) (hx : I64 x) (hown : w5.ownsRow W.heap.size 3 1 v5 (lP.length + 1) (lP.map (Value.int .i64) ++ [.int .i64 x])) (hgr : (w.alloc o).grownBy w5 vP.ownBlock) (hat : v5.ownBlock = vP.ownBlock ∨ v5.ownBlock = some (w.alloc o).heap.size) :
    LstW W bx v5 vQ (lP ++ [x]) lQ (w5.setCell ⟨bx, 1, none⟩ v5) ∧ w5.heap[bx]? = some (.cells #[.bool false, vP, vQ, .int .i64 1] 27) := by
  have hb : w5.heap[bx]? = some (.cells #[.bool false, vP, vQ, .int .i64 1] 27) := by
    have hlt : bx < w.heap.size := (Array.getElem?_eq_some_iff.1 h.box).1
    rw [hgr.block bx (by simp; omega) (fun e => by have := (row_lt h.P.row bx e.symm).1; have := h.lt; omega)]
    exact (Below.heap_alloc w o bx hlt).trans h.box
  have ho := ord_app (o := o) h.P (Below.refl _ _) hx hown hgr hat
  have hQ5 : ∀ g, vQ.ownBlock = some g → w5.heap[g]? = w.heap[g]? := fun g e => ho.gr.block g (row_lt h.Q.row g e).2 (fun e' => h.ne g e'.symm e)
  have hset : ∀ g, g ≠ bx → (w5.setCell ⟨bx, 1, none⟩ v5).heap[g]? = w5.heap[g]? := fun g hg => heap_setCell_other _ _ _ _ hg
  refine ⟨⟨?_, ⟨row_keep ho.row.row fun g e => hset g (by have := (row_lt ho.row.row g e).1; have := h.lt; omega), ho.row.i64⟩, ⟨row_keep h.Q.row fun g e => (hset g (by have := (row_lt h.Q.row g e).1; have := h.lt; omega)).trans (hQ5 g e), h.Q.i64⟩, fun g e e' => ?_, ?_, h.lt⟩, hb⟩
  · exact heap_setCell_same w5 _ 1 _ _ _ hb
  · rcases hat with h' | h'
    · rw [h'] at e; exact h.ne g e e'
    · rw [h'] at e; injection e with e; have := (row_lt h.Q.row g e').2; simp at e; omega
  · have hk5 : KeepsC (· = bx) W w5 := ⟨ho.gr.os.trans h.kp.os, ho.gr.tape.trans h.kp.tape, ho.gr.output.trans h.kp.output, Nat.le_trans h.kp.size ho.gr.size, fun g hg => (ho.gr.block g (Nat.lt_of_lt_of_le hg.1 h.kp.size) (fun e => by have := (row_lt h.P.row g e.symm).1; omega)).trans (h.kp.block hg.1 hg.2)⟩
    exact keepsC_set1 hk5 _ _

theorem LstW.q {W w w5 : World} {bx : Nat} {vP vQ v5 : Value} {lP lQ : List Int} {x : Int} {o : Obj} (h : LstW W bx vP vQ lP lQ w) (hx : I64 x) (hown : w5.ownsRow W.heap.size 3 1 v5 (lQ.length + 1) (lQ.map (Value.int .i64) ++ [.int .i64 x])) (hgr : (w.alloc o).grownBy w5 vQ.ownBlock) (hat : v5.ownBlock = vQ.ownBlock ∨ v5.ownBlock = some (w.alloc o).heap.size) :
    LstW W bx vP v5 lP (lQ ++ [x]) (w5.setCell ⟨bx, 2, none⟩ v5) ∧ w5.heap[bx]? = some (.cells #[.bool false, vP, vQ, .int .i64 1] 27) := by
  have hb : w5.heap[bx]? = some (.cells #[.bool false, vP, vQ, .int .i64 1] 27) := by
    have hlt : bx < w.heap.size := (Array.getElem?_eq_some_iff.1 h.box).1
    rw [hgr.block bx (by simp; omega) (fun e => by have := (row_lt h.Q.row bx e.symm).1; have := h.lt; omega)]
    exact (Below.heap_alloc w o bx hlt).trans h.box
  have ho := ord_app (o := o) h.Q (Below.refl _ _) hx hown hgr hat
  have hQ5 : ∀ g, vP.ownBlock = some g → w5.heap[g]? = w.heap[g]? := fun g e => ho.gr.block g (row_lt h.P.row g e).2 (fun e' => h.ne g e e'.symm)
  have hset : ∀ g, g ≠ bx → (w5.setCell ⟨bx, 2, none⟩ v5).heap[g]? = w5.heap[g]? := fun g hg => heap_setCell_other _ _ _ _ hg
  refine ⟨⟨?_, ⟨row_keep h.P.row fun g e => (hset g (by have := (row_lt h.P.row g e).1; have := h.lt; omega)).trans (hQ5 g e), h.P.i64⟩, ⟨row_keep ho.row.row fun g e => hset g (by have := (row_lt ho.row.row g e).1; have := h.lt; omega), ho.row.i64⟩, fun g e e' => ?_, ?_, h.lt⟩, hb⟩
  · exact heap_setCell_same w5 _ 2 _ _ _ hb
  · rcases hat with h' | h'
    · rw [h'] at e'; exact h.ne g e e'
    · rw [h'] at e'; injection e' with e'; have := (row_lt h.P.row g e).2; simp at e'; omega
  · have hk5 : KeepsC (· = bx) W w5 := ⟨ho.gr.os.trans h.kp.os, ho.gr.tape.trans h.kp.tape, ho.gr.output.trans h.kp.output, Nat.le_trans h.kp.size ho.gr.size, fun g hg => (ho.gr.block g (Nat.lt_of_lt_of_le hg.1 h.kp.size) (fun e => by have := (row_lt h.Q.row g e.symm).1; omega)).trans (h.kp.block hg.1 hg.2)⟩
    exact keepsC_set1 hk5 _ _

end Go.Proofs.Ytgjmodclgdkodaa

/- order: multisets over an order are ordered: plain. -/

namespace Go.Proofs.Ytgjmodclgdkodaa

open Go.RowKit
set_option maxRecDepth 20000

/-- A relation (0 none, 1 less, 2 the same, 3 above) turned round. -/
def trnI (r : Int) : Int := if r = 1 then 3 else if r = 3 then 1 else r

/-- What is left of a row when the first member that is the same is struck. -/
def strike {α : Type} (rel : α → α → Int) (a : α) : List α → Option (List α)
  | [] => none
  | x :: l => if rel a x = 2 then some l else (strike rel a l).map (x :: ·)

/-- What is left of two rows when what both have is struck. -/
def leftM {α : Type} (rel : α → α → Int) : List α → List α → List α × List α
  | [], n => ([], n)
  | a :: m, n =>
    match strike rel a n with
    | some n' => leftM rel m n'
    | none => (a :: (leftM rel m n).1, (leftM rel m n).2)

def relM {α : Type} (rel : α → α → Int) (r c : List α) : Int :=
  if r.isEmpty && c.isEmpty then 2
  else if c.all (fun y => r.any (fun x => rel x y == 3)) then 3
  else if r.all (fun x => c.any (fun y => rel x y == 1)) then 1 else 0

/-- How two multisets stand. -/
def mulR {α : Type} (rel : α → α → Int) (m n : List α) : Int := relM rel (leftM rel m n).1 (leftM rel m n).2

def In4 (r : Int) : Prop := r = 0 ∨ r = 1 ∨ r = 2 ∨ r = 3

theorem relM_in4 {α : Type} (rel : α → α → Int) (r c : List α) : In4 (relM rel r c) := by
  unfold relM In4; split
  · simp
  · split
    · simp
    · split <;> simp

theorem mulR_in4 {α : Type} (rel : α → α → Int) (m n : List α) : In4 (mulR rel m n) := relM_in4 _ _ _

/-- Two rows of one member each stand as these do. -/
theorem mulR_one {α : Type} {rel : α → α → Int} {a b : α} (h : In4 (rel a b)) : mulR rel [a] [b] = rel a b := by
  unfold mulR
  rcases h with h | h | h | h <;> simp [leftM, strike, relM, h]

structure OrdOn {α : Type} (rel : α → α → Int) (D : α → Prop) : Prop where
  self : ∀ {x}, D x → rel x x = 2
  turn : ∀ {x y}, D x → D y → rel y x = trnI (rel x y)
  trans : ∀ {x y z}, D x → D y → D z → rel x y = 3 → rel y z = 3 → rel x z = 3
  cong : ∀ {x y z}, D x → D y → D z → rel x y = 2 → rel x z = rel y z
  in4 : ∀ {x y}, D x → D y → In4 (rel x y)

section

variable {α : Type} {rel : α → α → Int} {D : α → Prop}

theorem OrdOn.sym (h : OrdOn rel D) {x y : α} (hx : D x) (hy : D y) (e : rel x y = 2) : rel y x = 2 := by
  rw [h.turn hx hy, e]; rfl

theorem OrdOn.congR (h : OrdOn rel D) {x y z : α} (hx : D x) (hy : D y) (hz : D z) (e : rel x y = 2) : rel z x = rel z y := by
  rw [h.turn hx hz, h.turn hy hz, h.cong hx hy hz e]

theorem OrdOn.one (h : OrdOn rel D) {x y : α} (hx : D x) (hy : D y) : rel x y = 1 ↔ rel y x = 3 := by
  rw [h.turn hx hy]
  rcases h.in4 hx hy with e | e | e | e <;> rw [e] <;> decide

theorem OrdOn.asym (h : OrdOn rel D) {x y : α} (hx : D x) (hy : D y) (e : rel x y = 3) : rel y x ≠ 3 := by
  rw [h.turn hx hy, e]; decide

/-- How often a member stands in a row. -/
def cntM (rel : α → α → Int) (z : α) (l : List α) : Nat := l.countP fun x => rel z x == 2

theorem cnt_nil (z : α) : cntM rel z [] = 0 := rfl

theorem cnt_cons (z x : α) (l : List α) : cntM rel z (x :: l) = cntM rel z l + if rel z x = 2 then 1 else 0 := by
  unfold cntM
  rw [List.countP_cons]
  by_cases h : rel z x = 2 <;> simp [h]

theorem cnt_pos {z : α} {l : List α} : 0 < cntM rel z l ↔ ∃ x ∈ l, rel z x = 2 := by
  unfold cntM
  rw [List.countP_pos_iff]
  simp

theorem cnt_cong (h : OrdOn rel D) {x y : α} {l : List α} (hx : D x) (hy : D y) (hl : ∀ z ∈ l, D z) (e : rel x y = 2) : cntM rel x l = cntM rel y l := by
  induction l with
  | nil => rfl
  | cons z l ih =>
    rw [cnt_cons, cnt_cons, ih (fun u hu => hl u (by simp [hu])), h.cong hx hy (hl z (by simp)) e]

/-- Of those of a row for which something holds there is one with none above it. -/
theorem maxM (h : OrdOn rel D) : ∀ (l : List α), (∀ x ∈ l, D x) → l ≠ [] → ∃ x ∈ l, ∀ y ∈ l, rel y x ≠ 3
  | [], _, hn => absurd rfl hn
  | [a], hl, _ => ⟨a, by simp, fun y hy => by
      rw [List.mem_singleton] at hy; subst hy
      rw [h.self (hl y (by simp))]; decide⟩
  | a :: b :: l, hl, _ => by
    obtain ⟨x, hx, hm⟩ := maxM h (b :: l) (fun y hy => hl y (List.mem_cons_of_mem _ hy)) (by simp)
    have hDx := hl x (List.mem_cons_of_mem _ hx)
    have hDa := hl a (by simp)
    by_cases e : rel a x = 3
    · refine ⟨a, by simp, fun y hy => ?_⟩
      rcases List.mem_cons.1 hy with rfl | hy
      · rw [h.self hDa]; decide
      · exact fun e2 => hm y hy (h.trans (hl y (List.mem_cons_of_mem _ hy)) hDa hDx e2 e)
    · refine ⟨x, List.mem_cons_of_mem _ hx, fun y hy => ?_⟩
      rcases List.mem_cons.1 hy with rfl | hy
      · exact e
      · exact hm y hy

theorem maxS (h : OrdOn rel D) {S : α → Prop} {l : List α} (hl : ∀ x ∈ l, D x) (hS : ∀ x, D x → S x → 0 < cntM rel x l) (hc : ∀ x y, D x → D y → rel x y = 2 → S x → S y) (hx : ∃ x, D x ∧ S x) :
    ∃ x, D x ∧ S x ∧ ∀ y, D y → S y → rel y x ≠ 3 := by
  classical
  obtain ⟨x, hDx, hSx⟩ := hx
  obtain ⟨x', hx', e⟩ := cnt_pos.1 (hS x hDx hSx)
  have hSx' := hc x x' hDx (hl x' hx') e hSx
  obtain ⟨u, hu, hm⟩ := maxM h (l.filter fun x => decide (S x)) (fun y hy => hl y (List.mem_filter.1 hy).1) (fun e => by
    have : x' ∈ l.filter fun x => decide (S x) := List.mem_filter.2 ⟨hx', by simpa using hSx'⟩
    rw [e] at this; simp at this)
  obtain ⟨hul, huS⟩ := List.mem_filter.1 hu
  refine ⟨u, hl u hul, by simpa using huS, fun y hDy hSy => ?_⟩
  obtain ⟨y', hy', e'⟩ := cnt_pos.1 (hS y hDy hSy)
  have hSy' := hc y y' hDy (hl y' hy') e' hSy
  have := hm y' (List.mem_filter.2 ⟨hy', by simpa using hSy'⟩)
  rwa [h.cong hDy (hl y' hy') (hl u hul) e']

theorem strike_none {a : α} : ∀ {l : List α}, strike rel a l = none → ∀ x ∈ l, rel a x ≠ 2
  | [], _, x, hx => by simp at hx
  | y :: l, e, x, hx => by
    unfold strike at e
    split at e
    · simp at e
    · rename_i hy
      rcases List.mem_cons.1 hx with rfl | hx
      · exact hy
      · exact strike_none (by simpa using e) x hx

theorem strike_sub {a : α} : ∀ {l l' : List α}, strike rel a l = some l' → ∀ x ∈ l', x ∈ l
  | [], l', e, x, hx => by simp [strike] at e
  | y :: l, l', e, x, hx => by
    unfold strike at e
    split at e
    · simp only [Option.some.injEq] at e; subst e; simp [hx]
    · simp only [Option.map_eq_some_iff] at e
      obtain ⟨l2, e2, rfl⟩ := e
      rcases List.mem_cons.1 hx with rfl | hx
      · simp
      · exact List.mem_cons_of_mem _ (strike_sub e2 x hx)

/-- f keeps what is the same. -/
theorem strike_cnt (h : OrdOn rel D) {f : α → α} (hfD : ∀ x, D x → D (f x)) (hf : ∀ x y, D x → D y → rel x y = 2 → rel (f x) (f y) = 2) {a z : α} (ha : D a) (hz : D z) :
    ∀ {l l' : List α}, (∀ x ∈ l, D x) → strike rel a l = some l' → cntM rel z (l.map f) = cntM rel z (l'.map f) + if rel z (f a) = 2 then 1 else 0
  | [], l', _, e => by simp [strike] at e
  | y :: l, l', hl, e => by
    have hy := hl y (by simp)
    unfold strike at e
    split at e
    · rename_i e2
      simp only [Option.some.injEq] at e; subst e
      rw [List.map_cons, cnt_cons, h.congR (hfD a ha) (hfD y hy) hz (hf a y ha hy e2)]
    · simp only [Option.map_eq_some_iff] at e
      obtain ⟨l2, e2, rfl⟩ := e
      rw [List.map_cons, List.map_cons, cnt_cons, cnt_cons, strike_cnt h hfD hf ha hz (fun x hx => hl x (by simp [hx])) e2]
      omega

theorem left_sub : ∀ (m n : List α), (∀ x ∈ (leftM rel m n).1, x ∈ m) ∧ (∀ x ∈ (leftM rel m n).2, x ∈ n)
  | [], n => ⟨fun x hx => by simp [leftM] at hx, fun x hx => by simpa [leftM] using hx⟩
  | a :: m, n => by
    unfold leftM
    split
    · rename_i n' e
      obtain ⟨h1, h2⟩ := left_sub m n'
      exact ⟨fun x hx => List.mem_cons_of_mem _ (h1 x hx), fun x hx => strike_sub e x (h2 x hx)⟩
    · obtain ⟨h1, h2⟩ := left_sub m n
      refine ⟨fun x hx => ?_, h2⟩
      rcases List.mem_cons.1 hx with rfl | hx
      · simp
      · exact List.mem_cons_of_mem _ (h1 x hx)

theorem left_apart : ∀ (m n : List α), ∀ x ∈ (leftM rel m n).1, ∀ y ∈ (leftM rel m n).2, rel x y ≠ 2
  | [], n, x, hx, _, _ => by simp [leftM] at hx
  | a :: m, n, x, hx, y, hy => by
    unfold leftM at hx hy
    split at hx
    · rename_i n' e
      rw [e] at hy
      exact left_apart m n' x hx y hy
    · rename_i e
      rw [e] at hy
      rcases List.mem_cons.1 hx with rfl | hx
      · exact strike_none e y ((left_sub m n).2 y hy)
      · exact left_apart m n x hx y hy

theorem left_cnt (h : OrdOn rel D) {f : α → α} (hfD : ∀ x, D x → D (f x)) (hf : ∀ x y, D x → D y → rel x y = 2 → rel (f x) (f y) = 2) {z : α} (hz : D z) :
    ∀ (m n : List α), (∀ x ∈ m, D x) → (∀ x ∈ n, D x) → cntM rel z (m.map f) + cntM rel z ((leftM rel m n).2.map f) = cntM rel z (n.map f) + cntM rel z ((leftM rel m n).1.map f)
  | [], n, _, _ => by simp [leftM, cnt_nil]
  | a :: m, n, hm, hn => by
    have ha := hm a (by simp)
    have hm' : ∀ x ∈ m, D x := fun x hx => hm x (by simp [hx])
    unfold leftM
    split
    · rename_i n' e
      have ih := left_cnt h hfD hf hz m n' hm' (fun x hx => hn x (strike_sub e x hx))
      have := strike_cnt h hfD hf ha hz hn e
      rw [List.map_cons, cnt_cons]
      omega
    · have ih := left_cnt h hfD hf hz m n hm' hn
      simp only [List.map_cons, cnt_cons]
      omega

theorem left_cnt1 (h : OrdOn rel D) {z : α} (hz : D z) (m n : List α) (hm : ∀ x ∈ m, D x) (hn : ∀ x ∈ n, D x) : cntM rel z m + cntM rel z (leftM rel m n).2 = cntM rel z n + cntM rel z (leftM rel m n).1 := by
  have := left_cnt h (f := id) (fun _ h => h) (fun _ _ _ _ e => e) hz m n hm hn
  simpa only [List.map_id] using this

theorem left_zero (h : OrdOn rel D) {z : α} (hz : D z) (m n : List α) (hm : ∀ x ∈ m, D x) (hn : ∀ x ∈ n, D x) : cntM rel z (leftM rel m n).1 = 0 ∨ cntM rel z (leftM rel m n).2 = 0 := by
  rcases Nat.eq_zero_or_pos (cntM rel z (leftM rel m n).1) with h1 | h1
  · exact .inl h1
  rcases Nat.eq_zero_or_pos (cntM rel z (leftM rel m n).2) with h2 | h2
  · exact .inr h2
  obtain ⟨x, hx, e1⟩ := cnt_pos.1 h1
  obtain ⟨y, hy, e2⟩ := cnt_pos.1 h2
  have hDx := hm x ((left_sub m n).1 x hx)
  have hDy := hn y ((left_sub m n).2 y hy)
  exact absurd (by rw [← h.cong hz hDx hDy e1]; exact e2) (left_apart m n x hx y hy)

/-- The one is above the other one. -/
def GtM (rel : α → α → Int) (D : α → Prop) (m n : List α) : Prop :=
  (∃ z, D z ∧ cntM rel z m ≠ cntM rel z n) ∧ ∀ y, D y → cntM rel y m < cntM rel y n → ∃ x, D x ∧ rel x y = 3 ∧ cntM rel x n < cntM rel x m

def EqM (rel : α → α → Int) (D : α → Prop) (m n : List α) : Prop := ∀ z, D z → cntM rel z m = cntM rel z n

theorem gt_asym (h : OrdOn rel D) {m n : List α} (hm : ∀ x ∈ m, D x) (hn : ∀ x ∈ n, D x) (h1 : GtM rel D m n) (h2 : GtM rel D n m) : False := by
  have hmn : ∀ x ∈ m ++ n, D x := fun x hx => (List.mem_append.1 hx).elim (hm x) (hn x)
  obtain ⟨u, hu, hS, hmx⟩ := maxS h (S := fun x => cntM rel x m ≠ cntM rel x n) hmn
    (fun x _ hx => by
      have : cntM rel x (m ++ n) = cntM rel x m + cntM rel x n := by unfold cntM; rw [List.countP_append]
      omega)
    (fun x y hx hy e hS => by rwa [← cnt_cong h hx hy hm e, ← cnt_cong h hx hy hn e]) h1.1
  rcases Nat.lt_or_gt_of_ne hS with hlt | hgt
  · obtain ⟨x, hx, e, hc⟩ := h1.2 u hu hlt
    exact hmx x hx (by omega) e
  · obtain ⟨x, hx, e, hc⟩ := h2.2 u hu hgt
    exact hmx x hx (by omega) e

theorem gt_congL {m n m' : List α} (e : EqM rel D m m') (h : GtM rel D m n) : GtM rel D m' n := by
  obtain ⟨⟨z, hz, hne⟩, h2⟩ := h
  refine ⟨⟨z, hz, by rw [← e z hz]; exact hne⟩, fun y hy hlt => ?_⟩
  rw [← e y hy] at hlt
  obtain ⟨x, hx, e1, hc⟩ := h2 y hy hlt
  exact ⟨x, hx, e1, by rw [← e x hx]; exact hc⟩

theorem gt_congR {m n n' : List α} (e : EqM rel D n n') (h : GtM rel D m n) : GtM rel D m n' := by
  obtain ⟨⟨z, hz, hne⟩, h2⟩ := h
  refine ⟨⟨z, hz, by rw [← e z hz]; exact hne⟩, fun y hy hlt => ?_⟩
  rw [← e y hy] at hlt
  obtain ⟨x, hx, e1, hc⟩ := h2 y hy hlt
  exact ⟨x, hx, e1, by rw [← e x hx]; exact hc⟩

theorem gt_trans (h : OrdOn rel D) {m n k : List α} (hm : ∀ x ∈ m, D x) (hn : ∀ x ∈ n, D x) (hk : ∀ x ∈ k, D x) (h1 : GtM rel D m n) (h2 : GtM rel D n k) : GtM rel D m k := by
  have hmn : ∀ x ∈ m ++ n, D x := fun x hx => (List.mem_append.1 hx).elim (hm x) (hn x)
  have happ : ∀ x, cntM rel x (m ++ n) = cntM rel x m + cntM rel x n := fun x => by unfold cntM; rw [List.countP_append]
  refine ⟨?_, fun y hy hlt => ?_⟩
  · refine Classical.byContradiction fun hne => ?_
    have e : EqM rel D k m := fun z hz => Classical.byContradiction fun hz2 => hne ⟨z, hz, fun e => hz2 e.symm⟩
    exact gt_asym h hm hn h1 (gt_congR e h2)
  · have hex : ∃ x, D x ∧ (rel x y = 3 ∧ (cntM rel x n < cntM rel x m ∨ cntM rel x k < cntM rel x n)) := by
      by_cases hc : cntM rel y n < cntM rel y k
      · obtain ⟨x, hx, e, hc⟩ := h2.2 y hy hc
        exact ⟨x, hx, e, .inr hc⟩
      · obtain ⟨x, hx, e, hc⟩ := h1.2 y hy (by omega)
        exact ⟨x, hx, e, .inl hc⟩
    obtain ⟨u, hu, ⟨e, hS⟩, hmx⟩ := maxS h hmn (fun x _ hx => by have := happ x; rcases hx.2 with h | h <;> omega)
      (fun x x' hx hx' e hS => by
        rw [← cnt_cong h hx hx' hm e, ← cnt_cong h hx hx' hn e, ← cnt_cong h hx hx' hk e, ← h.cong hx hx' hy e]; exact hS) hex
    refine ⟨u, hu, e, ?_⟩
    rcases hS with hS | hS
    · refine Classical.byContradiction fun hno => ?_
      obtain ⟨x, hx, e2, hc⟩ := h2.2 u hu (by omega)
      exact hmx x hx ⟨h.trans hx hu hy e2 e, .inr hc⟩ e2
    · refine Classical.byContradiction fun hno => ?_
      obtain ⟨x, hx, e2, hc⟩ := h1.2 u hu (by omega)
      exact hmx x hx ⟨h.trans hx hu hy e2 e, .inl hc⟩ e2

theorem isE_iff (m n : List α) : ((leftM rel m n).1.isEmpty && (leftM rel m n).2.isEmpty) = true ↔ ((leftM rel m n).1 = [] ∧ (leftM rel m n).2 = []) := by
  rw [Bool.and_eq_true, List.isEmpty_iff, List.isEmpty_iff]

section

variable (h : OrdOn rel D) {m n : List α} (hm : ∀ x ∈ m, D x) (hn : ∀ x ∈ n, D x)
include h hm hn

theorem left_empty : ((leftM rel m n).1 = [] ∧ (leftM rel m n).2 = []) ↔ EqM rel D m n := by
  constructor
  · intro ⟨h1, h2⟩ z hz
    have := left_cnt1 h hz m n hm hn
    rw [h1, h2, cnt_nil] at this
    omega
  · intro e
    constructor
    · cases hr : (leftM rel m n).1 with
      | nil => rfl
      | cons x r =>
        have hxm : x ∈ (leftM rel m n).1 := by rw [hr]; simp
        have hx := hm x ((left_sub m n).1 x hxm)
        have h1 : 0 < cntM rel x (leftM rel m n).1 := cnt_pos.2 ⟨x, hxm, h.self hx⟩
        have h2 := left_cnt1 h hx m n hm hn
        have h3 := left_zero h hx m n hm hn
        have := e x hx
        omega
    · cases hr : (leftM rel m n).2 with
      | nil => rfl
      | cons x r =>
        have hxm : x ∈ (leftM rel m n).2 := by rw [hr]; simp
        have hx := hn x ((left_sub m n).2 x hxm)
        have h1 : 0 < cntM rel x (leftM rel m n).2 := cnt_pos.2 ⟨x, hxm, h.self hx⟩
        have h2 := left_cnt1 h hx m n hm hn
        have h3 := left_zero h hx m n hm hn
        have := e x hx
        omega

theorem left_gt (hne : ¬ ((leftM rel m n).1 = [] ∧ (leftM rel m n).2 = [])) : (∀ y ∈ (leftM rel m n).2, ∃ x ∈ (leftM rel m n).1, rel x y = 3) ↔ GtM rel D m n := by
  have hcn := fun z hz => left_cnt1 h (z := z) hz m n hm hn
  have hcz := fun z hz => left_zero h (z := z) hz m n hm hn
  have hr := fun x hx => hm x ((left_sub (rel := rel) m n).1 x hx)
  have hc := fun x hx => hn x ((left_sub (rel := rel) m n).2 x hx)
  constructor
  · intro ha
    refine ⟨?_, fun y hy hlt => ?_⟩
    · refine Classical.byContradiction fun hno => hne ((left_empty h hm hn).2 fun z hz => Classical.byContradiction fun e => hno ⟨z, hz, e⟩)
    · have h1 := hcn y hy
      obtain ⟨y', hy', e⟩ := cnt_pos.1 (show 0 < cntM rel y (leftM rel m n).2 by omega)
      obtain ⟨x, hx, e3⟩ := ha y' hy'
      refine ⟨x, hr x hx, by rw [h.congR hy (hc y' hy') (hr x hx) e]; exact e3, ?_⟩
      have h2 := hcn x (hr x hx)
      have h3 := hcz x (hr x hx)
      have h4 : 0 < cntM rel x (leftM rel m n).1 := cnt_pos.2 ⟨x, hx, h.self (hr x hx)⟩
      omega
  · intro ⟨_, hg⟩ y hy
    have hDy := hc y hy
    have h1 := hcn y hDy
    have h2 := hcz y hDy
    have h3 : 0 < cntM rel y (leftM rel m n).2 := cnt_pos.2 ⟨y, hy, h.self hDy⟩
    obtain ⟨x, hx, e, hlt⟩ := hg y hDy (by omega)
    have h4 := hcn x hx
    have h5 := hcz x hx
    obtain ⟨x', hx', e'⟩ := cnt_pos.1 (show 0 < cntM rel x (leftM rel m n).1 by omega)
    exact ⟨x', hx', by rw [← h.cong hx (hr x' hx') hDy e']; exact e⟩

theorem left_lt (hne : ¬ ((leftM rel m n).1 = [] ∧ (leftM rel m n).2 = [])) : (∀ x ∈ (leftM rel m n).1, ∃ y ∈ (leftM rel m n).2, rel x y = 1) ↔ GtM rel D n m := by
  have hcn := fun z hz => left_cnt1 h (z := z) hz m n hm hn
  have hcz := fun z hz => left_zero h (z := z) hz m n hm hn
  have hr := fun x hx => hm x ((left_sub (rel := rel) m n).1 x hx)
  have hc := fun x hx => hn x ((left_sub (rel := rel) m n).2 x hx)
  constructor
  · intro ha
    refine ⟨?_, fun y hy hlt => ?_⟩
    · refine Classical.byContradiction fun hno => hne ((left_empty h hm hn).2 fun z hz => Classical.byContradiction fun e => hno ⟨z, hz, fun e2 => e e2.symm⟩)
    · have h1 := hcn y hy
      obtain ⟨y', hy', e⟩ := cnt_pos.1 (show 0 < cntM rel y (leftM rel m n).1 by omega)
      obtain ⟨x, hx, e3⟩ := ha y' hy'
      refine ⟨x, hc x hx, ?_, ?_⟩
      · rw [h.congR hy (hr y' hy') (hc x hx) e]
        exact (h.one (hr y' hy') (hc x hx)).1 e3
      · have h2 := hcn x (hc x hx)
        have h3 := hcz x (hc x hx)
        have h4 : 0 < cntM rel x (leftM rel m n).2 := cnt_pos.2 ⟨x, hx, h.self (hc x hx)⟩
        omega
  · intro ⟨_, hg⟩ y hy
    have hDy := hr y hy
    have h1 := hcn y hDy
    have h2 := hcz y hDy
    have h3 : 0 < cntM rel y (leftM rel m n).1 := cnt_pos.2 ⟨y, hy, h.self hDy⟩
    obtain ⟨x, hx, e, hlt⟩ := hg y hDy (by omega)
    have h4 := hcn x hx
    have h5 := hcz x hx
    obtain ⟨x', hx', e'⟩ := cnt_pos.1 (show 0 < cntM rel x (leftM rel m n).2 by omega)
    refine ⟨x', hx', (h.one hDy (hc x' hx')).2 ?_⟩
    rw [← h.cong hx (hc x' hx') hDy e']; exact e

theorem mul_two : mulR rel m n = 2 ↔ EqM rel D m n := by
  rw [← left_empty h hm hn, ← isE_iff m n]
  unfold mulR relM
  constructor
  · intro e
    split at e
    · assumption
    · split at e
      · cases e
      · split at e <;> cases e
  · intro e; rw [if_pos e]

theorem mul_three : mulR rel m n = 3 ↔ GtM rel D m n := by
  by_cases he : (leftM rel m n).1 = [] ∧ (leftM rel m n).2 = []
  · have e2 := (mul_two h hm hn).2 ((left_empty h hm hn).1 he)
    rw [e2]
    refine ⟨fun e => (by cases e), fun ⟨⟨z, hz, hne⟩, _⟩ => absurd ((left_empty h hm hn).1 he z hz) hne⟩
  · rw [← left_gt h hm hn he]
    unfold mulR relM
    rw [if_neg (fun e => he ((isE_iff m n).1 e))]
    constructor
    · intro e
      split at e
      · rename_i ha
        simpa [List.all_eq_true, List.any_eq_true] using ha
      · split at e <;> cases e
    · intro ha
      rw [if_pos (by simpa [List.all_eq_true, List.any_eq_true] using ha)]

theorem mul_one : mulR rel m n = 1 ↔ GtM rel D n m := by
  by_cases he : (leftM rel m n).1 = [] ∧ (leftM rel m n).2 = []
  · have e2 := (mul_two h hm hn).2 ((left_empty h hm hn).1 he)
    rw [e2]
    refine ⟨fun e => (by cases e), fun ⟨⟨z, hz, hne⟩, _⟩ => absurd ((left_empty h hm hn).1 he z hz).symm hne⟩
  · have h3 := mul_three h hm hn
    have has := fun a b => gt_asym h hm hn a b
    rw [← left_lt h hm hn he]
    constructor
    · intro e
      unfold mulR relM at e
      rw [if_neg (fun e => he ((isE_iff m n).1 e))] at e
      split at e
      · cases e
      · split at e
        · rename_i ha
          simpa [List.all_eq_true, List.any_eq_true] using ha
        · cases e
    · intro ha
      have hno : ¬ mulR rel m n = 3 := fun e => has (h3.1 e) ((left_lt h hm hn he).1 ha)
      unfold mulR relM at hno ⊢
      rw [if_neg (fun e => he ((isE_iff m n).1 e))] at hno ⊢
      split at hno
      · exact absurd rfl hno
      · rename_i h4
        rw [if_neg h4, if_pos (by simpa [List.all_eq_true, List.any_eq_true] using ha)]

end

/-- Multisets over an order are ordered. -/
theorem mul_ord (h : OrdOn rel D) : OrdOn (mulR rel) (fun m => ∀ x ∈ m, D x) where
  self := fun {m} hm => (mul_two h hm hm).2 fun _ _ => rfl
  turn := fun {m n} hm hn => by
    rcases mulR_in4 rel m n with e | e | e | e
    · rw [e]
      rcases mulR_in4 rel n m with e2 | e2 | e2 | e2
      · rw [e2]; rfl
      · rw [(mul_three h hm hn).2 ((mul_one h hn hm).1 e2)] at e; cases e
      · rw [(mul_two h hm hn).2 fun z hz => ((mul_two h hn hm).1 e2 z hz).symm] at e; cases e
      · rw [(mul_one h hm hn).2 ((mul_three h hn hm).1 e2)] at e; cases e
    · rw [e, (mul_three h hn hm).2 ((mul_one h hm hn).1 e)]; rfl
    · rw [e, (mul_two h hn hm).2 fun z hz => ((mul_two h hm hn).1 e z hz).symm]; rfl
    · rw [e, (mul_one h hn hm).2 ((mul_three h hm hn).1 e)]; rfl
  trans := fun hm hn hk e1 e2 => (mul_three h hm hk).2 (gt_trans h hm hn hk ((mul_three h hm hn).1 e1) ((mul_three h hn hk).1 e2))
  cong := fun {m n k} hm hn hk e => by
    have e := (mul_two h hm hn).1 e
    have e' : EqM rel D n m := fun z hz => (e z hz).symm
    rcases mulR_in4 rel m k with e1 | e1 | e1 | e1
    · rcases mulR_in4 rel n k with e2 | e2 | e2 | e2
      · rw [e1, e2]
      · rw [(mul_one h hm hk).2 (gt_congR e' ((mul_one h hn hk).1 e2))] at e1; cases e1
      · rw [(mul_two h hm hk).2 fun z hz => (e z hz).trans ((mul_two h hn hk).1 e2 z hz)] at e1; cases e1
      · rw [(mul_three h hm hk).2 (gt_congL e' ((mul_three h hn hk).1 e2))] at e1; cases e1
    · rw [e1, (mul_one h hn hk).2 (gt_congR e ((mul_one h hm hk).1 e1))]
    · rw [e1, (mul_two h hn hk).2 fun z hz => (e' z hz).trans ((mul_two h hm hk).1 e1 z hz)]
    · rw [e1, (mul_three h hn hk).2 (gt_congL e ((mul_three h hm hk).1 e1))]
  in4 := fun {m n} _ _ => mulR_in4 rel m n

/-- What keeps the members as they stand keeps multisets. -/
theorem mul_map (h : OrdOn rel D) {f : α → α} (hfD : ∀ x, D x → D (f x)) (hf : ∀ x y, D x → D y → rel x y = 2 → rel (f x) (f y) = 2) (hf3 : ∀ x y, D x → D y → rel x y = 3 → rel (f x) (f y) = 3) {m n : List α} (hm : ∀ x ∈ m, D x) (hn : ∀ x ∈ n, D x) :
    (mulR rel m n = 2 → mulR rel (m.map f) (n.map f) = 2) ∧ (mulR rel m n = 3 → mulR rel (m.map f) (n.map f) = 3) := by
  have hmf : ∀ x ∈ m.map f, D x := fun x hx => by obtain ⟨y, hy, rfl⟩ := List.mem_map.1 hx; exact hfD y (hm y hy)
  have hnf : ∀ x ∈ n.map f, D x := fun x hx => by obtain ⟨y, hy, rfl⟩ := List.mem_map.1 hx; exact hfD y (hn y hy)
  have hcn := fun z hz => left_cnt h hfD hf (z := z) hz m n hm hn
  have hr := fun x hx => hm x ((left_sub (rel := rel) m n).1 x hx)
  have hc := fun x hx => hn x ((left_sub (rel := rel) m n).2 x hx)
  constructor
  · intro e
    obtain ⟨h1, h2⟩ := (left_empty h hm hn).2 ((mul_two h hm hn).1 e)
    refine (mul_two h hmf hnf).2 fun z hz => ?_
    have := hcn z hz
    rw [h1, h2] at this
    simpa [cnt_nil] using this
  · intro e
    have hne : ¬ ((leftM rel m n).1 = [] ∧ (leftM rel m n).2 = []) := fun he => by
      rw [(mul_two h hm hn).2 ((left_empty h hm hn).1 he)] at e; cases e
    have hg := (left_gt h hm hn hne).2 ((mul_three h hm hn).1 e)
    have hrf : ∀ x ∈ (leftM rel m n).1.map f, D x := fun x hx => by obtain ⟨y, hy, rfl⟩ := List.mem_map.1 hx; exact hfD y (hr y hy)
    have hcf : ∀ x ∈ (leftM rel m n).2.map f, D x := fun x hx => by obtain ⟨y, hy, rfl⟩ := List.mem_map.1 hx; exact hfD y (hc y hy)
    have key : ∀ u, D u → 0 < cntM rel u ((leftM rel m n).1.map f) → (∀ y, D y → rel y u = 3 → ¬ 0 < cntM rel y ((leftM rel m n).1.map f)) → cntM rel u (n.map f) < cntM rel u (m.map f) := by
      intro u hu hpos hmx
      have hk := hcn u hu
      refine Classical.byContradiction fun hno => ?_
      obtain ⟨y', hy', e2⟩ := cnt_pos.1 (show 0 < cntM rel u ((leftM rel m n).2.map f) by omega)
      obtain ⟨y, hy, rfl⟩ := List.mem_map.1 hy'
      obtain ⟨x, hx, e3⟩ := hg y hy
      have e4 := hf3 x y (hr x hx) (hc y hy) e3
      have hDx := hfD x (hr x hx)
      refine hmx (f x) hDx (by rw [h.congR hu (hcf _ hy') hDx e2]; exact e4) (cnt_pos.2 ⟨f x, List.mem_map.2 ⟨x, hx, rfl⟩, h.self hDx⟩)
    have hrne : (leftM rel m n).1 ≠ [] := by
      intro he
      cases hcc : (leftM rel m n).2 with
      | nil => exact hne ⟨he, hcc⟩
      | cons y c =>
        obtain ⟨x, hx, _⟩ := hg y (by rw [hcc]; simp)
        rw [he] at hx; simp at hx
    refine (mul_three h hmf hnf).2 ⟨?_, fun y hy hlt => ?_⟩
    · obtain ⟨x, hx⟩ := List.exists_mem_of_ne_nil _ hrne
      have hDx := hfD x (hr x hx)
      obtain ⟨u, hu, hS, hmx⟩ := maxS h (S := fun u => 0 < cntM rel u ((leftM rel m n).1.map f)) hrf (fun _ _ h => h) (fun x y hx hy e hS => by rwa [← cnt_cong h hx hy hrf e])
        ⟨f x, hDx, cnt_pos.2 ⟨f x, List.mem_map.2 ⟨x, hx, rfl⟩, h.self hDx⟩⟩
      have := key u hu hS fun y hy e3 hp => hmx y hy hp e3
      exact ⟨u, hu, by omega⟩
    · have hk := hcn y hy
      obtain ⟨y', hy', e2⟩ := cnt_pos.1 (show 0 < cntM rel y ((leftM rel m n).2.map f) by omega)
      obtain ⟨y0, hy0, rfl⟩ := List.mem_map.1 hy'
      obtain ⟨x, hx, e3⟩ := hg y0 hy0
      have hDx := hfD x (hr x hx)
      have e4 := hf3 x y0 (hr x hx) (hc y0 hy0) e3
      have e5 : rel (f x) y = 3 := by rw [h.congR hy (hcf _ hy') hDx e2]; exact e4
      obtain ⟨u, hu, ⟨e6, hS⟩, hmx⟩ := maxS h (S := fun u => rel u y = 3 ∧ 0 < cntM rel u ((leftM rel m n).1.map f)) hrf (fun _ _ h => h.2)
        (fun x x' hx hx' e hS => by rw [← cnt_cong h hx hx' hrf e, ← h.cong hx hx' hy e]; exact hS)
        ⟨f x, hDx, e5, cnt_pos.2 ⟨f x, List.mem_map.2 ⟨x, hx, rfl⟩, h.self hDx⟩⟩
      exact ⟨u, hu, e6, key u hu hS fun z hz e7 hp => hmx z hz ⟨h.trans hz hu hy e7 e6, hp⟩ e7⟩

end

/-- A literal as a multiset of multisets of terms. -/
def membs {α : Type} (neg : Bool) (l r : α) : List (List α) := if neg then [[l, r]] else [[l], [r]]

/-- A negative literal is above the positive one with its sides. -/
theorem neg_above {α : Type} {rel : α → α → Int} {D : α → Prop} (h : OrdOn rel D) {l r : α} (hl : D l) (hr : D r) : mulR (mulR rel) (membs true l r) (membs false l r) = 3 := by
  have e1 := h.self hl
  have e2 := h.self hr
  have h1 : mulR rel [l, r] [l] = 3 := by
    simp [mulR, leftM, strike, relM, e1]
  have h2 : mulR rel [l, r] [r] = 3 := by
    by_cases e : rel l r = 2
    · simp [mulR, leftM, strike, relM, e]
    · simp [mulR, leftM, strike, relM, e, e2]
  have key : ∀ M : List α → List α → Int, M [l, r] [l] = 3 → M [l, r] [r] = 3 → mulR M [[l, r]] [[l], [r]] = 3 := fun M a b => by
    simp [mulR, leftM, strike, relM, a, b]
  exact key _ h1 h2

end Go.Proofs.Ytgjmodclgdkodaa

/- The document's own: ranks, highest (of a row of numbers). -/

namespace Go.Proofs.Ytgjmodclgdkodaa

open Go.RowKit
set_option maxRecDepth 100000

/-- Is another one higher? -/
def overI (p : List Int) (i k : Nat) : Bool := decide (k ≠ i) && decide (p.getD i 0 < p.getD k 0)

def highB (p : List Int) (i : Nat) : Bool := (List.range p.length).all fun k => !overI p i k

theorem highB_no {p : List Int} {i k : Nat} (hk : k < p.length) (h : overI p i k = true) : highB p i = false := by
  unfold highB
  rw [List.all_eq_false]
  exact ⟨k, List.mem_range.2 hk, by rw [h]; decide⟩

theorem highB_yes {p : List Int} {i : Nat} (h : ∀ j, j < p.length → overI p i j = false) : highB p i = true := by
  unfold highB
  rw [List.all_eq_true]
  intro j hj
  rw [h j (List.mem_range.1 hj)]; rfl

theorem all_next {f : Nat → Bool} {k : Nat} (h : ∀ j, j < k → f j = false) (hk : f k = false) : ∀ j, j < k + 1 → f j = false := by
  intro j hj
  by_cases e : j = k
  · subst e; exact hk
  · exact h j (by omega)

theorem getD_of {p : List Int} {i : Nat} {x : Int} (h : p[i]? = some x) : p.getD i 0 = x := by rw [List.getD_eq_getElem?_getD, h]; rfl

theorem drewN_two (w : World) (a b : Nat) : (w.drewN a).drewN b = w.drewN (a + b) := by simp

set_option maxHeartbeats 1000000 in
theorem refHighest_any (p : List Int) (i : Nat) (hi : i < p.length) (A : Option Addr) (c : Nat) (w : World) (hA : Ints w w.heap.size A p) :
    Calls Try.prog 31 #[.slice A p.length c, .int .i64 (i : Int)] w fun e w' => e = .returned (.bool (highB p i)) ∧ Below w.heap.size w w' := by
  obtain ⟨y, hy⟩ : ∃ y, p[i]? = some y := ⟨_, List.getElem?_eq_getElem hi⟩
  obtain ⟨b, off, rfl, hb, hci⟩ := hA.get hy
  have HA := Lib.hid hA
  have Hy := Lib.hid hy
  have hlen := hA.len
  clear hA hy
  go_enter Try.func31, Try.ntmps31
  go_wp2
  go_loopw [5] (fun i' wr => ∃ k q : Nat, k ≤ p.length ∧ i' = .int .i64 (k : Int) ∧ wr = w.drewN q ∧ Hid (∀ j, j < k → overI p i j = false)) (fun i' _ => p.length - (intOf i').toNat)
  case atStart => exact ⟨0, 0, Nat.zero_le _, rfl, rfl, fun j h0 => absurd h0 (Nat.not_lt_zero _)⟩
  case round =>
    obtain ⟨k, q, hk, rfl, rfl, HB⟩ := hrel
    by_cases hlt : k < p.length
    · obtain ⟨x, hx⟩ : ∃ x, p[k]? = some x := ⟨_, List.getElem?_eq_getElem hlt⟩
      obtain ⟨b', off', hAA, _, hck⟩ := HA.out.get hx
      simp only [Option.some.injEq, Addr.mk.injEq, and_true] at hAA
      obtain ⟨hA1, hA2⟩ := hAA
      rw [← hA1, ← hA2] at hck
      have Hx := Lib.hid hx
      clear hx hA1 hA2
      by_cases hki : k = i
      · have hov := Lib.hid (show overI p i k = false by unfold overI; rw [hki]; simp)
        have Hki := Lib.hid hki
        have g1 : ((k : Int) != (i : Int)) = false := by rw [hki]; simp
        have g2 : (k != i) = false := by rw [hki]; simp
        clear hki
        go_wp2
        go_quiet (fail)
        go_wp2
        go_roundw
        case rel => exact ⟨k + 1, q + nq, by omega, by go_num, rfl, all_next HB.out hov.out⟩
        case measure => simp [intOf]; omega
      · have g1 : ((k : Int) != (i : Int)) = true := by simp; omega
        have g2 : (k != i) = true := by simpa using hki
        by_cases hgt : y < x
        · have hfin := Lib.hid (highB_no hlt (show overI p i k = true by unfold overI; rw [getD_of Hx.out, getD_of Hy.out]; simp [hki, hgt]))
          go_wp2
          go_quiet (fail)
          go_wp2
          go_ret
          exact ⟨ret_bool hfin.out.symm, bl_drewN (bl_drewN (Below.refl _ _) _) _⟩
        · have hov := Lib.hid (show overI p i k = false by unfold overI; rw [getD_of Hx.out, getD_of Hy.out]; simp [hgt])
          go_wp2
          go_quiet (fail)
          go_wp2
          go_roundw
          case rel => exact ⟨k + 1, q + nq, by omega, by go_num, rfl, all_next HB.out hov.out⟩
          case measure => simp [intOf]; omega
    · obtain rfl : k = p.length := by omega
      have hfin := Lib.hid (highB_yes HB.out)
      go_wp2
      go_ret
      exact ⟨ret_bool hfin.out.symm, bl_drewN (Below.refl _ _) _⟩

/-- Is something wrong with number i? -/
def badR (p : List Int) (i : Nat) : Bool := (decide (0 < i) && decide (p.getD i 0 ≤ p.getD 0 0)) || (List.range i).any fun k => decide (p.getD i 0 = p.getD k 0)

def rankB (p : List Int) (n : Nat) : Bool := decide (p.length = n) && (List.range n).all fun i => !badR p i

theorem rankB_no {p : List Int} {n i : Nat} (hi : i < n) (h : badR p i = true) : rankB p n = false := by
  unfold rankB
  rw [Bool.and_eq_false_iff]; right
  rw [List.all_eq_false]
  exact ⟨i, List.mem_range.2 hi, by rw [h]; decide⟩

theorem rankB_yes {p : List Int} {n : Nat} (hl : p.length = n) (h : ∀ j, j < n → badR p j = false) : rankB p n = true := by
  unfold rankB
  rw [Bool.and_eq_true, List.all_eq_true]
  exact ⟨decide_eq_true hl, fun j hj => by rw [h j (List.mem_range.1 hj)]; rfl⟩

theorem badR_same {p : List Int} {i k : Nat} (hk : k < i) (h : p.getD i 0 = p.getD k 0) : badR p i = true := by
  unfold badR
  rw [Bool.or_eq_true]; right
  rw [List.any_eq_true]
  exact ⟨k, List.mem_range.2 hk, decide_eq_true h⟩

theorem badR_first {p : List Int} {i : Nat} (hk : 0 < i) (h : p.getD i 0 ≤ p.getD 0 0) : badR p i = true := by
  unfold badR
  rw [Bool.or_eq_true]; left
  simp [hk]; simpa using h

theorem badR_no {p : List Int} {i : Nat} (h0 : ¬ (0 < i ∧ p.getD i 0 ≤ p.getD 0 0)) (h : ∀ j, j < i → decide (p.getD i 0 = p.getD j 0) = false) : badR p i = false := by
  unfold badR
  rw [Bool.or_eq_false_iff, List.any_eq_false]
  refine ⟨?_, fun j hj => by rw [h j (List.mem_range.1 hj)]; decide⟩
  rw [← Bool.decide_and]
  exact decide_eq_false h0

set_option maxHeartbeats 1000000 in
theorem refRanks_any (p : List Int) (n : Nat) (A : Option Addr) (c : Nat) (w : World) (hA : Ints w w.heap.size A p) :
    Calls Try.prog 30 #[.slice A p.length c, .int .i64 (n : Int)] w fun e w' => e = .returned (.bool (rankB p n)) ∧ Below w.heap.size w w' := by
  have hlen := hA.len
  by_cases hn : ¬ p.length = n
  · have g1 : ((p.length : Int) != (n : Int)) = true := by simp; omega
    have g2 : (p.length != n) = true := by simpa using hn
    have hfin := Lib.hid (show rankB p n = false by unfold rankB; rw [decide_eq_false hn]; rfl)
    clear hA
    go_enter Try.func30, Try.ntmps30
    go_wp2
    go_ret
    exact ⟨ret_bool hfin.out.symm, Below.refl _ _⟩
  · have hn := Decidable.not_not.1 hn
    subst hn
    have HA := Lib.hid hA
    clear hA
    go_enter Try.func30, Try.ntmps30
    go_wp2
    go_loopw [5] (fun i' wr => ∃ k q : Nat, k ≤ p.length ∧ i' = .int .i64 (k : Int) ∧ wr = w.drewN q ∧ Hid (∀ j, j < k → badR p j = false)) (fun i' _ => p.length - (intOf i').toNat)
    case atStart => exact ⟨0, 0, Nat.zero_le _, rfl, rfl, fun j h0 => absurd h0 (Nat.not_lt_zero _)⟩
    case round =>
      obtain ⟨k, q, hk, rfl, rfl, HB⟩ := hrel
      by_cases hlt : k < p.length
      · obtain ⟨x, hx⟩ : ∃ x, p[k]? = some x := ⟨_, List.getElem?_eq_getElem hlt⟩
        obtain ⟨z, hz⟩ : ∃ z, p[0]? = some z := ⟨_, List.getElem?_eq_getElem (by omega)⟩
        obtain ⟨b, off, rfl, _, hc⟩ := HA.out.ad (by omega)
        have hck := hc k x hx
        have hc0 := hc 0 z hz
        rw [Nat.add_zero] at hc0
        have Hc := Lib.hid hc
        have Hx := Lib.hid hx
        have Hz := Lib.hid hz
        clear hx hz hc
        by_cases hbad : 0 < k ∧ x ≤ z
        · obtain ⟨g0, g1⟩ := hbad
          have hfin := Lib.hid (rankB_no hlt (badR_first g0 (by rw [getD_of Hx.out, getD_of Hz.out]; exact g1)))
          go_wp2
          go_quiet (fail)
          go_wp2
          go_ret
          exact ⟨ret_bool hfin.out.symm, bl_drewN (bl_drewN (Below.refl _ _) _) _⟩
        · have Hbad : Hid (¬ (0 < k ∧ p.getD k 0 ≤ p.getD 0 0)) := Lib.hid (by rw [getD_of Hx.out, getD_of Hz.out]; exact hbad)
          by_cases hk0 : 0 < k
          · have hxz : ¬ x ≤ z := fun h => hbad ⟨hk0, h⟩
            clear hbad
            go_wp2
            go_quiet (fail)
            go_wp2
            go_loopw [6] (fun k' wx => ∃ m q2 : Nat, m ≤ k ∧ k' = .int .i64 (m : Int) ∧ wx = w.drewN q2 ∧ Hid (∀ j, j < m → decide (p.getD k 0 = p.getD j 0) = false)) (fun k' _ => k - (intOf k').toNat)
            case atStart => exact ⟨0, q + nq, Nat.zero_le _, rfl, drewN_two _ _ _, Lib.hid fun j h0 => absurd h0 (Nat.not_lt_zero _)⟩
            case round =>
              obtain ⟨m, q2, hm, rfl, rfl, HD⟩ := hrel
              by_cases hmk : m < k
              · obtain ⟨y, hy⟩ : ∃ y, p[m]? = some y := ⟨_, List.getElem?_eq_getElem (by omega)⟩
                have hcm := Hc.out m y hy
                have Hy := Lib.hid hy
                clear hy
                by_cases hxy : x = y
                · have hfin := Lib.hid (rankB_no hlt (badR_same hmk (by rw [getD_of Hx.out, getD_of Hy.out]; exact hxy)))
                  have g5 : (x == y) = true := by simpa using hxy
                  clear hxy
                  go_wp2
                  go_quiet (fail)
                  go_wp2
                  go_ret
                  exact ⟨ret_bool hfin.out.symm, bl_drewN (bl_drewN (Below.refl _ _) _) _⟩
                · have g5 : (x == y) = false := by simpa using hxy
                  have hfin := Lib.hid (show decide (p.getD k 0 = p.getD m 0) = false by rw [getD_of Hx.out, getD_of Hy.out]; simpa using hxy)
                  go_wp2
                  go_quiet (fail)
                  go_wp2
                  go_roundw
                  case rel => exact ⟨m + 1, q2 + nq, by omega, by go_num, rfl, Lib.hid (all_next HD.out hfin.out)⟩
                  case measure => simp [intOf]; omega
              · obtain rfl : m = k := by omega
                have hfin := Lib.hid (badR_no Hbad.out HD.out)
                go_wp2
                go_roundw
                case rel => exact ⟨m + 1, q2, by omega, by go_num, rfl, Lib.hid (all_next HB.out hfin.out)⟩
                case measure => simp [intOf]; omega
          · clear hbad
            go_wp2
            go_quiet (fail)
            go_wp2
            go_loopw [6] (fun k' wx => ∃ m q2 : Nat, m ≤ k ∧ k' = .int .i64 (m : Int) ∧ wx = w.drewN q2 ∧ Hid (∀ j, j < m → decide (p.getD k 0 = p.getD j 0) = false)) (fun k' _ => k - (intOf k').toNat)
            case atStart => exact ⟨0, q + nq, Nat.zero_le _, rfl, drewN_two _ _ _, Lib.hid fun j h0 => absurd h0 (Nat.not_lt_zero _)⟩
            case round =>
              obtain ⟨m, q2, hm, rfl, rfl, HD⟩ := hrel
              by_cases hmk : m < k
              · obtain ⟨y, hy⟩ : ∃ y, p[m]? = some y := ⟨_, List.getElem?_eq_getElem (by omega)⟩
                have hcm := Hc.out m y hy
                have Hy := Lib.hid hy
                clear hy
                by_cases hxy : x = y
                · have hfin := Lib.hid (rankB_no hlt (badR_same hmk (by rw [getD_of Hx.out, getD_of Hy.out]; exact hxy)))
                  have g5 : (x == y) = true := by simpa using hxy
                  clear hxy
                  go_wp2
                  go_quiet (fail)
                  go_wp2
                  go_ret
                  exact ⟨ret_bool hfin.out.symm, bl_drewN (bl_drewN (Below.refl _ _) _) _⟩
                · have g5 : (x == y) = false := by simpa using hxy
                  have hfin := Lib.hid (show decide (p.getD k 0 = p.getD m 0) = false by rw [getD_of Hx.out, getD_of Hy.out]; simpa using hxy)
                  go_wp2
                  go_quiet (fail)
                  go_wp2
                  go_roundw
                  case rel => exact ⟨m + 1, q2 + nq, by omega, by go_num, rfl, Lib.hid (all_next HD.out hfin.out)⟩
                  case measure => simp [intOf]; omega
              · obtain rfl : m = k := by omega
                have hfin := Lib.hid (badR_no Hbad.out HD.out)
                go_wp2
                go_roundw
                case rel => exact ⟨m + 1, q2, by omega, by go_num, rfl, Lib.hid (all_next HB.out hfin.out)⟩
                case measure => simp [intOf]; omega
      · obtain rfl : k = p.length := by omega
        have hfin := Lib.hid (rankB_yes rfl HB.out)
        go_wp2
        go_ret
        exact ⟨ret_bool hfin.out.symm, bl_drewN (Below.refl _ _) _⟩

end Go.Proofs.Ytgjmodclgdkodaa

/- The plain check of a signature. -/

namespace Go.Proofs.Ytgjmodclgdkodaa

open Go.RowKit

/-- What is wrong at place i (from 1 on): 0 if nothing. -/
def errAt (l : List Sm) (i : Nat) : Int :=
  match l[i]? with
  | none => 0
  | some x => if oneI x.name x.arity ≠ 0 then oneI x.name x.arity else if atI l x < i then 113 else 0

def scanI (l : List Sm) : Int := match (List.range l.length).find? (fun j => decide (1 ≤ j) && !decide (errAt l j = 0)) with
  | some j => errAt l j
  | none => 0

def checkI (l : List Sm) : Int := if 96 < l.length then 3 else if l[0]? ≠ some truthSm then 110 else scanI l

theorem scan_hit {l : List Sm} {k : Nat} (hk : 1 ≤ k) (hl : k < l.length) (hv : errAt l k ≠ 0) (h : ∀ j, 1 ≤ j → j < k → errAt l j = 0) : scanI l = errAt l k := by
  have : (List.range l.length).find? (fun j => decide (1 ≤ j) && !decide (errAt l j = 0)) = some k := by
    rw [List.find?_range_eq_some]
    refine ⟨by simp [hk, hv], List.mem_range.2 hl, fun j hj => ?_⟩
    by_cases h1 : 1 ≤ j
    · simp [h j h1 hj]
    · simp [h1]
  simp [scanI, this]

theorem scan_miss {l : List Sm} (h : ∀ j, 1 ≤ j → j < l.length → errAt l j = 0) : scanI l = 0 := by
  have : (List.range l.length).find? (fun j => decide (1 ≤ j) && !decide (errAt l j = 0)) = none := by
    rw [List.find?_eq_none]
    intro j hj
    by_cases h1 : 1 ≤ j
    · simp [h j h1 (List.mem_range.1 hj)]
    · simp [h1]
  simp [scanI, this]

theorem err_one {l : List Sm} {k : Nat} {y : Sm} (hy : l[k]? = some y) (h : oneI y.name y.arity ≠ 0) : errAt l k = oneI y.name y.arity := by simp [errAt, hy, h]

theorem err_same {l : List Sm} {k : Nat} {y : Sm} (hy : l[k]? = some y) (h : oneI y.name y.arity = 0) (ha : atI l y < k) : errAt l k = 113 := by simp [errAt, hy, h, ha]

theorem err_ok {l : List Sm} {k : Nat} {y : Sm} (hy : l[k]? = some y) (h : oneI y.name y.arity = 0) (ha : ¬ atI l y < k) : errAt l k = 0 := by simp [errAt, hy, h, ha]

theorem scan_at {l : List Sm} {k : Nat} {v : Int} (hk : 1 ≤ k) (h : ∀ j, 1 ≤ j → j < k → errAt l j = 0) (he : errAt l k = v) (hv : v ≠ 0) : scanI l = v := by
  refine (scan_hit hk ?_ (by rw [he]; exact hv) h).trans he
  rcases Nat.lt_or_ge k l.length with h1 | h1
  · exact h1
  · exact absurd (by simpa [errAt, List.getElem?_eq_none h1] using he.symm) hv

theorem err_before {l : List Sm} {k : Nat} (h : ∀ j, 1 ≤ j → j < k → errAt l j = 0) (hk : errAt l k = 0) : ∀ j, 1 ≤ j → j < k + 1 → errAt l j = 0 := by
  intro j h1 hlt
  by_cases e : j = k
  · subst e; exact hk
  · exact h j h1 (by omega)

set_option maxHeartbeats 400000 in
theorem refCheck_any (A : Option Addr) (n c : Nat) (l : List Sm) (w : World) (h : Syms w w.heap.size A n l) (hn : n * 32 ≤ 140737488351232) :
    Calls Try.prog 25 #[.agg #[.slice A n c]] w fun e w' => e = .returned (.int .i64 (checkI l)) ∧ Below w.heap.size w w' := by
  have hneq := run_neq_sym
  by_cases h96 : 96 < n
  · have hf := Lib.hid (show checkI l = 3 by simp only [checkI]; rw [if_pos (by rw [h.len]; exact h96)])
    go_enter Try.func25, Try.ntmps25
    go_wp2
    go_ret
    exact ⟨ret_int hf.out.symm, (Below.refl _ _).alloc (Nat.le_refl _) _⟩
  · rcases Nat.eq_zero_or_pos n with h0 | h0
    · have hf := Lib.hid (show checkI l = 110 by
        have : l = [] := List.eq_nil_of_length_eq_zero (h.len.trans h0)
        subst this; rfl)
      subst h0
      go_enter Try.func25, Try.ntmps25
      go_wp2
      go_quiet (fail)
      go_wp2
      go_ret
      exact ⟨ret_int hf.out.symm, bl_drewN ((Below.refl _ _).alloc (Nat.le_refl _) _) _⟩
    · have h0' : (((n : Nat) : Int) == 0) = false := beq_eq_false_iff_ne.2 (by omega)
      go_enter Try.func25, Try.ntmps25
      go_wp2
      obtain ⟨W, hW⟩ : ∃ W, w.alloc (.cells #[.slice A n c] 24) = W := ⟨_, rfl⟩
      have hWB : Below w.heap.size w W := by rw [← hW]; exact (Below.refl _ _).alloc (Nat.le_refl _) _
      have hz : w.heap.size + 1 = W.heap.size := by rw [← hW]; clear hW; simp
      have x1 : W.cell? ⟨w.heap.size, 0, none⟩ = some (.slice A n c) := by rw [← hW]; clear hW; go_simp
      rw [hW]
      have g := h.below hWB
      have hok := Lib.hid h.ok
      clear hW h
      have hlt0 : w.heap.size < W.heap.size := by omega
      clear hz
      obtain ⟨b, off, rfl, hb0, hc⟩ := g.ad h0
      have hb : b < W.heap.size := Nat.lt_trans hb0 hlt0
      obtain ⟨y, hy⟩ : ∃ y, l[0]? = some y := ⟨_, List.getElem?_eq_getElem (by rw [g.len]; exact h0)⟩
      obtain ⟨c1, c2, c3⟩ := hc 0 y hy
      simp only [Nat.zero_mul, Nat.add_zero] at c1 c2 c3
      have Hy := Lib.hid hy
      clear hy
      have Hc := Lib.hid hc
      clear hc
      by_cases hyt : y = truthSm
      · have hs := smB_true hyt
        have hf := Lib.hid (show checkI l = scanI l by
          simp only [checkI]; rw [if_neg (by rw [g.len]; exact h96), if_neg (by rw [Hy.out, hyt]; simp)])
        clear hyt
        go_region_held3 (fun w' => w'.cell? ⟨w.heap.size, 0, none⟩ = some (.slice (some ⟨b, off, none⟩) n c) ∧ w'.cell? ⟨b, off, none⟩ = some (.string y.name) ∧ w'.cell? ⟨b, off + 1, none⟩ = some (.int .i64 y.arity) ∧ w'.cell? ⟨b, off + 2, none⟩ = some (.bool y.pred) ∧ Below W.heap.size W w')
          (first | (go_keep; done) | exact ⟨x1, c1, c2, c3, (Below.refl _ _).drew⟩ | (have hB' : Below W.heap.size W w' := ⟨hbT.os, hbT.tape, hbT.output, hbT.size, hbT.block⟩; exact ⟨cell_on hB' hlt0 x1, cell_on hB' hb c1, cell_on hB' hb c2, cell_on hB' hb c3, hB'⟩))
          (first | (go_at_call 41; refine (Truth_any _).mono ?_; rintro e w' ⟨rfl, hbT⟩))
        have hB1 : Below W.heap.size W w' := ⟨hbT.os, hbT.tape, hbT.output, hbT.size, hbT.block⟩
        clear hs c1 c2 c3 Hy hbT
        go_wp2
        go_loopw [3] (fun i wr => ∃ k : Nat, 1 ≤ k ∧ k ≤ n ∧ i = .int .i64 k ∧ Below W.heap.size W wr ∧ Hid (∀ j, 1 ≤ j → j < k → errAt l j = 0)) (fun i _ => n - (intOf i).toNat)
        case atStart => exact ⟨1, Nat.le_refl _, h0, rfl, hB1, fun j h1 h2 => by omega⟩
        case round =>
          clear hB1
          obtain ⟨k, hk1, hk, rfl, hBr, HA⟩ := hrel
          have z1 := cell_on hBr hlt0 x1
          by_cases hlt : k < n
          · obtain ⟨y, hy⟩ : ∃ y, l[k]? = some y := ⟨_, List.getElem?_eq_getElem (by rw [g.len]; exact hlt)⟩
            obtain ⟨c1, c2, c3⟩ := Hc.out k y hy
            have d1 := cell_on hBr hb c1
            have d2 := cell_on hBr hb c2
            have d3 := cell_on hBr hb c3
            have hyok : y.Ok := hok.out y (List.mem_of_getElem? hy)
            have Hy := Lib.hid hy
            clear hy
            by_cases he : oneI y.name y.arity = 0
            · have he' : (oneI y.name y.arity != 0) = false := by simp [he]
              have He := Lib.hid he
              clear he
              go_wp2_with (first | (go_at_call 42; refine (One_any y _ hyok).mono ?_; rintro e w1 ⟨rfl, hb1⟩) | fail)
              have hB2 := hBr.trans (hb1.mono hBr.size)
              clear d1 d2 d3 z1
              have z1 := cell_on hB2 hlt0 x1
              have d1 := cell_on hB2 hb c1
              have d2 := cell_on hB2 hb c2
              have d3 := cell_on hB2 hb c3
              have hbw : b < w1.heap.size := Nat.lt_of_lt_of_le hb hB2.size
              have hlt1 : w.heap.size < w1.heap.size := Nat.lt_of_lt_of_le hlt0 hB2.size
              have g1 : Syms w1 w.heap.size (some ⟨b, off, none⟩) n l := g.below (hB2.mono (Nat.le_of_lt hlt0))
              have h64 : n ≤ 9223372036854775807 := by omega
              have G1 := Lib.hid (And.intro g1 h64)
              clear g1 h64
              by_cases ha : atI l y < k
              · go_region_held3 (fun w' => w'.cell? ⟨w.heap.size, 0, none⟩ = some (.slice (some ⟨b, off, none⟩) n c) ∧ w'.cell? ⟨b, off + k * 3, none⟩ = some (.string y.name) ∧ w'.cell? ⟨b, off + k * 3 + 1, none⟩ = some (.int .i64 y.arity) ∧ w'.cell? ⟨b, off + k * 3 + 2, none⟩ = some (.bool y.pred) ∧ Below w1.heap.size w1 w')
                  (first | (go_keep; done) | exact ⟨z1, d1, d2, d3, (Below.refl _ _).drew⟩ | (have hB' : Below w1.heap.size w1 w' := ⟨hbT.os, hbT.tape, hbT.output, hbT.size, hbT.block⟩; exact ⟨cell_on hB' hlt1 z1, cell_on hB' hbw d1, cell_on hB' hbw d2, cell_on hB' hbw d3, hB'⟩))
                  (first | (go_at_call 43; refine (At_any _ _ _ w.heap.size l y _ (G1.out.1.drewN 1) (Nat.le_of_lt hlt1) G1.out.2).mono ?_; rintro e w' ⟨rfl, hbT⟩))
                go_wp2
                go_ret
                exact ⟨ret_int (hf.out.trans (scan_at hk1 HA.out (err_same Hy.out He.out ha) (by decide))).symm, hWB.trans ((hB2.trans (Below.mono ⟨hbT.os, hbT.tape, hbT.output, hbT.size, hbT.block⟩ hB2.size)).mono (Nat.le_of_lt hlt0))⟩
              · go_region_held3 (fun w' => w'.cell? ⟨w.heap.size, 0, none⟩ = some (.slice (some ⟨b, off, none⟩) n c) ∧ w'.cell? ⟨b, off + k * 3, none⟩ = some (.string y.name) ∧ w'.cell? ⟨b, off + k * 3 + 1, none⟩ = some (.int .i64 y.arity) ∧ w'.cell? ⟨b, off + k * 3 + 2, none⟩ = some (.bool y.pred) ∧ Below w1.heap.size w1 w')
                  (first | (go_keep; done) | exact ⟨z1, d1, d2, d3, (Below.refl _ _).drew⟩ | (have hB' : Below w1.heap.size w1 w' := ⟨hbT.os, hbT.tape, hbT.output, hbT.size, hbT.block⟩; exact ⟨cell_on hB' hlt1 z1, cell_on hB' hbw d1, cell_on hB' hbw d2, cell_on hB' hbw d3, hB'⟩))
                  (first | (go_at_call 43; refine (At_any _ _ _ w.heap.size l y _ (G1.out.1.drewN 1) (Nat.le_of_lt hlt1) G1.out.2).mono ?_; rintro e w' ⟨rfl, hbT⟩))
                go_wp2
                go_roundw
                case rel => exact ⟨k + 1, by omega, by omega, by go_num, hB2.trans (Below.mono ⟨hbT.os, hbT.tape, hbT.output, hbT.size, hbT.block⟩ hB2.size), err_before HA.out (err_ok Hy.out He.out (Int.not_lt.2 ha))⟩
                case measure => simp [intOf]; omega
            · have he' : (oneI y.name y.arity != 0) = true := by simp [he]
              have He := Lib.hid he
              clear he
              go_wp2_with (first | (go_at_call 42; refine (One_any y _ hyok).mono ?_; rintro e w1 ⟨rfl, hb1⟩) | fail)
              go_ret
              exact ⟨ret_int (hf.out.trans (scan_at hk1 HA.out (err_one Hy.out He.out) He.out)).symm, hWB.trans ((hBr.trans (hb1.mono hBr.size)).mono (Nat.le_of_lt hlt0))⟩
          · have : k = n := by omega
            subst this
            go_wp2
            go_ret
            exact ⟨ret_int (hf.out.trans (scan_miss (fun j h1 h2 => HA.out j h1 (by rw [← g.len]; exact h2)))).symm, hWB.trans (hBr.mono (by omega))⟩
      · have hs := smB_false hyt
        have hf := Lib.hid (show checkI l = 110 by
          simp only [checkI]; rw [if_neg (by rw [g.len]; exact h96), if_pos (by rw [Hy.out]; simpa using hyt)])
        clear hyt
        go_region_held3 (fun w' => w'.cell? ⟨w.heap.size, 0, none⟩ = some (.slice (some ⟨b, off, none⟩) n c) ∧ w'.cell? ⟨b, off, none⟩ = some (.string y.name) ∧ w'.cell? ⟨b, off + 1, none⟩ = some (.int .i64 y.arity) ∧ w'.cell? ⟨b, off + 2, none⟩ = some (.bool y.pred) ∧ Below W.heap.size W w')
          (first | (go_keep; done) | exact ⟨x1, c1, c2, c3, (Below.refl _ _).drew⟩ | (have hB' : Below W.heap.size W w' := ⟨hbT.os, hbT.tape, hbT.output, hbT.size, hbT.block⟩; exact ⟨cell_on hB' hlt0 x1, cell_on hB' hb c1, cell_on hB' hb c2, cell_on hB' hb c3, hB'⟩))
          (first | (go_at_call 41; refine (Truth_any _).mono ?_; rintro e w' ⟨rfl, hbT⟩))
        have hB1 : Below W.heap.size W w' := ⟨hbT.os, hbT.tape, hbT.output, hbT.size, hbT.block⟩
        go_wp2
        go_ret
        exact ⟨ret_int hf.out.symm, hWB.trans (hB1.mono (Nat.le_of_lt hlt0))⟩

end Go.Proofs.Ytgjmodclgdkodaa

