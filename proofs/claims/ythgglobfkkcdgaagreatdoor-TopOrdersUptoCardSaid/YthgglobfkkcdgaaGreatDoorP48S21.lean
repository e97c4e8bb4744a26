import Derived.Test.YthgglobfkkcdgaaGreatDoorP48S20
import Derived.Laws.EntriesVeiled
import Derived.Test.YthgglobfkkcdgaaGreatDoorP48S17
import Derived.Test.YthgglobfkkcdgaaGreatDoorP48S2
import Derived.Test.YthgglobfkkcdgaaGreatDoorP48S1
import Derived.Test.YthgglobfkkcdgaaGreatDoorP48S5
import Derived.Test.YthgglobfkkcdgaaGreatDoorP48S4
import Derived.Test.YthgglobfkkcdgaaGreatDoorP48S12
import Derived.Test.YthgglobfkkcdgaaGreatDoorP48S13
namespace Go.Proofs.YthgglobfkkcdgaaGreatDoor
open Go.RowKit Go.Shelf
set_option maxRecDepth 100000
section
variable {k : FuncId} {fs cv : Array Value} {n0 : Nat}
end
end Go.Proofs.YthgglobfkkcdgaaGreatDoor
namespace Go.Proofs.YthgglobfkkcdgaaGreatDoor
open Go.RowKit Go.Shelf
set_option maxRecDepth 100000
section
variable {k : FuncId} {fs cv : Array Value} {n0 : Nat}
end
end Go.Proofs.YthgglobfkkcdgaaGreatDoor
namespace Go.Proofs.YthgglobfkkcdgaaGreatDoor
open Go.RowKit Go.Shelf
set_option maxRecDepth 100000
theorem box_ott9 {w W : World} {o : Odr} {s t : Tm} {P Q A A2 : Option Addr} {pc qc c c2 : Nat} (hW : (((w.alloc (.cells #[.bool o.lpo, .slice P o.prec.length pc, .slice Q o.wts.length qc, .int .i64 o.var] 38)).alloc (.cells #[.int .i64 s.fn, .slice A s.args.length c] 32)).alloc (.cells #[.int .i64 t.fn, .slice A2 t.args.length c2] 32)) = W) :
    Below w.heap.size w W ∧ W.heap[w.heap.size]? = some (.cells #[.bool o.lpo, .slice P o.prec.length pc, .slice Q o.wts.length qc, .int .i64 o.var] 38) ∧ W.heap[w.heap.size + 1]? = some (.cells #[.int .i64 s.fn, .slice A s.args.length c] 32) ∧ W.heap[w.heap.size + 2]? = some (.cells #[.int .i64 t.fn, .slice A2 t.args.length c2] 32) := by
  have e0 := heap_alloc_new w (.cells #[.bool o.lpo, .slice P o.prec.length pc, .slice Q o.wts.length qc, .int .i64 o.var] 38)
  obtain ⟨e1, e2⟩ := heap2 (w.alloc (.cells #[.bool o.lpo, .slice P o.prec.length pc, .slice Q o.wts.length qc, .int .i64 o.var] 38)) (.cells #[.int .i64 s.fn, .slice A s.args.length c] 32) (.cells #[.int .i64 t.fn, .slice A2 t.args.length c2] 32)
  have hz : (w.alloc (.cells #[.bool o.lpo, .slice P o.prec.length pc, .slice Q o.wts.length qc, .int .i64 o.var] 38)).heap.size = w.heap.size + 1 := by simp
  rw [hz] at e1 e2
  rw [← hW]
  refine ⟨(((Below.refl _ _).alloc (Nat.le_refl _) _).alloc (by simp) _).alloc (by simp; omega) _, ?_, e1, e2⟩
  rw [Below.heap_alloc _ _ _ (by simp; omega), Below.heap_alloc _ _ _ (by simp)]
  exact e0
theorem oCmp_any (o : Odr) (s t : Tm) (P Q A A2 : Option Addr) (pc qc c c2 : Nat) (w : World) (hrk : o.prec.length ≤ 140737488351232) (hM : OdrM w w.heap.size o P Q) (hs : TmK w s A c) (ht : TmK w t A2 c2) (hz : s.size + t.size ≤ 1073741824) :
    Calls Tryz.prog 8 #[.agg #[.bool o.lpo, .slice P o.prec.length pc, .slice Q o.wts.length qc, .int .i64 o.var], .agg #[.int .i64 s.fn, .slice A s.args.length c], .agg #[.int .i64 t.fn, .slice A2 t.args.length c2]] w fun e w' => e = .returned (.int .i64 (ordV o s t)) ∧ Below w.heap.size w w' := by
  obtain ⟨W, hW⟩ : ∃ W, (((w.alloc (.cells #[.bool o.lpo, .slice P o.prec.length pc, .slice Q o.wts.length qc, .int .i64 o.var] 38)).alloc (.cells #[.int .i64 s.fn, .slice A s.args.length c] 32)).alloc (.cells #[.int .i64 t.fn, .slice A2 t.args.length c2] 32)) = W := ⟨_, rfl⟩
  obtain ⟨hB, q0, q1, q2⟩ := box_ott9 hW
  have HL := Lib.hid (lpoCmp_at (pc := pc) (qc := qc) hrk (hM.on hB) (hs.on hB) (ht.on hB) hz W (Below.refl _ _))
  have HK := Lib.hid (kboCmp_at (pc := pc) (qc := qc) (hM.on hB) (hs.on hB) (ht.on hB) hz W (Below.refl _ _))
  have HW := Lib.hid hW
  obtain ⟨a0, a1, a2, a3⟩ := cells_four q0
  obtain ⟨b0, b1, _, _⟩ := cells_two q1
  obtain ⟨c0, c1, _, _⟩ := cells_two q2
  clear hW hM hs ht q0 q1 q2
  unfold ordV
  cases hl : o.lpo with
  | true =>
    rw [hl] at a0 HL
    go_enter Tryz.func8, Tryz.ntmps8
    go_upto_region 1 with fail
    rw [hl] at HW
    rw [HW.out]
    go_wp2_with (first
      | (go_at_call 22; (with_reducible refine HL.out.mono ?_); go_must (rintro e w1 ⟨rfl, hb1⟩))
      | fail)
    go_ret
    exact ⟨rfl, hB.trans (hb1.mono hB.size)⟩
  | false =>
    rw [hl] at a0 HK
    go_enter Tryz.func8, Tryz.ntmps8
    go_upto_region 1 with fail
    rw [hl] at HW
    rw [HW.out]
    go_wp2_with (first
      | (go_at_call 23; (with_reducible refine HK.out.mono ?_); go_must (rintro e w1 ⟨rfl, hb1⟩))
      | fail)
    go_ret
    exact ⟨rfl, hB.trans (hb1.mono hB.size)⟩
end Go.Proofs.YthgglobfkkcdgaaGreatDoor
namespace Go.Proofs.YthgglobfkkcdgaaGreatDoor
open Go.RowKit Go.Shelf
set_option maxRecDepth 100000
theorem Ints.at {w w' : World} {n B : Nat} {A : Option Addr} {l : List Int} (h : Ints w n A l) (hb : Below n w w') (hn : n ≤ B) : Ints w' B A l :=
  ⟨h.len, h.i64, fun hp => by
    obtain ⟨b, off, hA, hlt, hc⟩ := h.ad hp
    exact ⟨b, off, hA, Nat.lt_of_lt_of_le hlt hn, fun i x hx => cell_on hb hlt (hc i x hx)⟩⟩
theorem OdrM.at {w w' : World} {n B : Nat} {o : Odr} {P Q : Option Addr} (h : OdrM w n o P Q) (hb : Below n w w') (hn : n ≤ B) : OdrM w' B o P Q := ⟨h.p.at hb hn, h.q.at hb hn, h.v⟩
section
variable {o : Odr} {P Q : Option Addr} {pc qc n0 : Nat} {W : World}
end
end Go.Proofs.YthgglobfkkcdgaaGreatDoor
namespace Go.Proofs.YthgglobfkkcdgaaGreatDoor
open Go.RowKit Go.Shelf Go.Maps
set_option maxRecDepth 100000
set_option maxRecDepth 100000
theorem i64s (n : Int) (h1 : -100 ≤ n) (h2 : n ≤ 100) : I64 n := ⟨by omega, by omega⟩
end Go.Proofs.YthgglobfkkcdgaaGreatDoor
namespace Go.Proofs.YthgglobfkkcdgaaGreatDoor
open Go.RowKit Go.Shelf
set_option maxRecDepth 100000
end Go.Proofs.YthgglobfkkcdgaaGreatDoor
namespace Go.Proofs.YthgglobfkkcdgaaGreatDoor
open Go.RowKit Go.Shelf
set_option maxRecDepth 100000
end Go.Proofs.YthgglobfkkcdgaaGreatDoor
namespace Go.Proofs.YthgglobfkkcdgaaGreatDoor
open Go.RowKit Go.Shelf
set_option maxRecDepth 100000
section
variable {Fs : List Fct} {a0 : Act} {W : World} {dst : Option Tmp} {ty : TypeId} {pos : String} {after : Array Edge} {guard : Option (Nat × Bool)}
end
end Go.Proofs.YthgglobfkkcdgaaGreatDoor
namespace Go.Proofs.YthgglobfkkcdgaaGreatDoor
open Go.RowKit Go.Shelf
set_option maxRecDepth 100000
def prdB (sy : List Sm) (f : Int) : Bool := if 0 ≤ f then (match sy[f.toNat]? with | some s => s.pred | none => false) else false
theorem chkP_top {sy : List Sm} {t : Tm} (h : chkP sy t = 0) (h0 : 0 ≤ t.fn) : t.fn < (sy.length : Int) := by
  unfold chkP at h
  split at h
  · split at h
    · split at h
      · rename_i ho
        obtain ⟨f, xs⟩ := t
        refine Classical.byContradiction fun hlt => ?_
        rw [over_out (by simp only [Tm.fn] at h0; omega) (by simp only [Tm.fn] at hlt; omega)] at ho
        cases ho
      · cases h
    · cases h
  · cases h
end Go.Proofs.YthgglobfkkcdgaaGreatDoor
namespace Go.Proofs.YthgglobfkkcdgaaGreatDoor
open Go.RowKit Go.Shelf
set_option maxRecDepth 100000
end Go.Proofs.YthgglobfkkcdgaaGreatDoor
namespace Go.Proofs.YthgglobfkkcdgaaGreatDoor
open Go.RowKit Go.Shelf Go.Maps
set_option maxRecDepth 100000
end Go.Proofs.YthgglobfkkcdgaaGreatDoor
namespace Go.Proofs.YthgglobfkkcdgaaGreatDoor
open Go.RowKit Go.Shelf
set_option maxRecDepth 100000
end Go.Proofs.YthgglobfkkcdgaaGreatDoor
namespace Go.Proofs.YthgglobfkkcdgaaGreatDoor
open Go.RowKit Go.Shelf
set_option maxRecDepth 100000
def kA : Tm := .node 1 []
end Go.Proofs.YthgglobfkkcdgaaGreatDoor
namespace Go.Proofs.YthgglobfkkcdgaaGreatDoor
open Go.RowKit Go.Shelf
set_option maxRecDepth 100000
def GdT (sy : List Sm) (t : Tm) : Prop := Gd (arL sy) t
end Go.Proofs.YthgglobfkkcdgaaGreatDoor
namespace Go.Proofs.YthgglobfkkcdgaaGreatDoor
open Go.RowKit Go.Shelf
set_option maxRecDepth 100000
theorem found_i64 {l : List Bd} {v : Int} {x : Bd} {w : World} {N : Nat → Prop} {A : Option Addr} (hB : Binds w N A l) (h : findB l v = some x) : I64 x.t.fn := by
  obtain ⟨i, hi⟩ := List.mem_iff_getElem?.1 (List.mem_of_find?_eq_some h)
  obtain ⟨_, _, _, _, _, hat⟩ := hB.get hi
  exact hat.it
theorem appT_bound {l : List Bd} {f : Int} {xs : List Tm} {x : Bd} (hf : f < 0) (h : findB l (-1 - f) = some x) : appT (bdT l) (.node f xs) = x.t := by
  simp only [appT, if_pos hf, bdT, h, Option.map_some, Option.getD_some]
theorem appT_free {l : List Bd} {f : Int} {xs : List Tm} (h : ¬ f < 0 ∨ findB l (-1 - f) = none) : appT (bdT l) (.node f xs) = .node f (xs.map (appT (bdT l))) := by
  rw [← appL_eq]
  rcases h with h | h
  · simp only [appT, if_neg h, Option.getD_none]
  · simp only [appT, bdT, h, Option.map_none]
    split <;> rfl
theorem appT_fn64 {l : List Bd} {w : World} {N : Nat → Prop} {A : Option Addr} (hB : Binds w N A l) {t : Tm} (hf : I64 t.fn) : I64 (appT (bdT l) t).fn := by
  obtain ⟨f, xs⟩ := t
  by_cases h : f < 0
  · rcases hx : findB l (-1 - f) with _ | x
    · rw [appT_free (.inr hx)]; exact hf
    · rw [appT_bound h hx]; exact found_i64 hB hx
  · rw [appT_free (.inl h)]; exact hf
theorem appT_args {l : List Bd} (hsm : ∀ x ∈ l, x.t.size ≤ 4398046511104) {t : Tm} (ht : t.args.length ≤ 9223372036854775807) : (appT (bdT l) t).args.length ≤ 9223372036854775807 := by
  obtain ⟨f, xs⟩ := t
  by_cases h : f < 0
  · rcases hx : findB l (-1 - f) with _ | x
    · rw [appT_free (.inr hx)]; simpa [Tm.args] using ht
    · rw [appT_bound h hx]
      have h1 := hsm x (List.mem_of_find?_eq_some hx)
      rcases hxt : x.t with ⟨g, ys⟩
      rw [hxt] at h1
      have := sizes_len ys
      simp only [Tm.args, Tm.size] at h1 ⊢
      omega
  · rw [appT_free (.inl h)]; simpa [Tm.args] using ht
end Go.Proofs.YthgglobfkkcdgaaGreatDoor
namespace Go.Proofs.YthgglobfkkcdgaaGreatDoor
open Go.RowKit Go.Shelf
set_option maxRecDepth 20000
end Go.Proofs.YthgglobfkkcdgaaGreatDoor
namespace Go.Proofs.YthgglobfkkcdgaaGreatDoor
open Go.RowKit
set_option maxRecDepth 20000
set_option maxRecDepth 20000
def valT (l : List Tm) (f : Int) : Tm := if -1 - f < (l.length : Int) then l.getD (-1 - f).toNat (.node f []) else .node f []
mutual
def psT (l : List Tm) : Tm → Tm
  | .node f xs => if f < 0 then (if -1 - f < (l.length : Int) then l.getD (-1 - f).toNat (.node f []) else .node f xs) else .node f (psL l xs)
def psL (l : List Tm) : List Tm → List Tm
  | [] => []
  | t :: ts => psT l t :: psL l ts
end
theorem psT_var {ar : List Nat} {l : List Tm} {t : Tm} (hw : wfT ar t = true) (hv : t.fn < 0) : psT l t = valT l t.fn := by
  obtain ⟨f, xs⟩ := t
  change f < 0 at hv
  rw [wf_var hw hv, psT, if_pos hv]; rfl
theorem psT_sym {l : List Tm} {f : Int} {xs : List Tm} (hf : ¬ f < 0) : psT l (.node f xs) = .node f (psL l xs) := by rw [psT, if_neg hf]
theorem psL_mem {l : List Tm} : ∀ {xs : List Tm} {x : Tm}, x ∈ xs → psT l x ∈ psL l xs
  | [], _, h => by simp at h
  | y :: ys, x, h => by
    rw [psL]
    rcases List.mem_cons.1 h with rfl | h
    · simp
    · exact List.mem_cons_of_mem _ (psL_mem h)
end Go.Proofs.YthgglobfkkcdgaaGreatDoor
namespace Go.Proofs.YthgglobfkkcdgaaGreatDoor
open Go.RowKit
set_option maxRecDepth 20000
mutual
def vlT : Tm → List Int
  | .node f xs => if f < 0 then [f] else vlL xs
def vlL : List Tm → List Int
  | [] => []
  | t :: ts => vlT t ++ vlL ts
end
def sumM (m : Int → Nat) : List Int → Nat
  | [] => 0
  | x :: xs => m x + sumM m xs
theorem sumM_app (m : Int → Nat) : ∀ xs ys, sumM m (xs ++ ys) = sumM m xs + sumM m ys
  | [], ys => by simp [sumM]
  | x :: xs, ys => by rw [List.cons_append, sumM, sumM, sumM_app m xs ys]; omega
theorem sumM_perm {m : Int → Nat} {xs ys : List Int} (h : xs.Perm ys) : sumM m xs = sumM m ys := by
  induction h with
  | nil => rfl
  | cons x _ ih => rw [sumM, sumM, ih]
  | swap x y l => rw [sumM, sumM, sumM, sumM]; omega
  | trans _ _ ih1 ih2 => rw [ih1, ih2]
theorem sumM_le (m : Int → Nat) : ∀ (xs ys : List Int), (∀ v ∈ xs, xs.count v ≤ ys.count v) → sumM m xs ≤ sumM m ys
  | [], _, _ => by rw [sumM]; omega
  | x :: xs, ys, h => by
    have hx : x ∈ ys := by
      have := h x (by simp)
      rw [List.count_cons_self] at this
      exact List.count_pos_iff.1 (by omega)
    rw [sumM, sumM_perm (List.perm_cons_erase hx), sumM]
    have := sumM_le m xs (ys.erase x) fun v hv => by
      have h1 := h v (by simp [hv])
      rw [List.count_cons] at h1
      rw [List.count_erase]
      by_cases e : x = v
      · subst e; simp at h1 ⊢; omega
      · have e1 : (x == v) = false := by rw [beq_eq_false_iff_ne]; exact e
        rw [e1] at h1 ⊢
        simp at h1 ⊢; exact h1
    omega
section
variable {o : Odr} {ar : List Nat} {l : List Tm}
mutual
theorem vl_neg : ∀ t : Tm, ∀ v ∈ vlT t, v < 0
  | .node f xs, v, h => by
    rw [vlT] at h
    by_cases hf : f < 0
    · rw [if_pos hf] at h; simp at h; omega
    · rw [if_neg hf] at h; exact vlL_neg xs v h
theorem vlL_neg : ∀ xs : List Tm, ∀ v ∈ vlL xs, v < 0
  | [], v, h => by rw [vlL] at h; simp at h
  | x :: xs, v, h => by
    rw [vlL] at h
    rcases List.mem_append.1 h with h | h
    · exact vl_neg x v h
    · exact vlL_neg xs v h
end
mutual
theorem vl_count {v : Int} (hv : v < 0) : ∀ t : Tm, wfT ar t = true → (vlT t).count v = ofT v t
  | .node f xs, h => by
    rw [vlT, ofT]
    by_cases hf : f < 0
    · rw [if_pos hf, wf_var h hf, ofL, List.count_cons, List.count_nil]
      by_cases e : f = v
      · simp [e]
      · have e1 : (f == v) = false := by rw [beq_eq_false_iff_ne]; exact e
        rw [e1, if_neg e]; rfl
    · rw [if_neg hf, if_neg (by omega), vlL_count hv xs (wf_args h)]; omega
theorem vlL_count {v : Int} (hv : v < 0) : ∀ xs : List Tm, wfL ar xs = true → (vlL xs).count v = ofL v xs
  | [], _ => by rw [vlL, ofL]; rfl
  | x :: xs, h => by
    rw [wfL, Bool.and_eq_true] at h
    rw [vlL, ofL, List.count_append, vl_count hv x h.1, vlL_count hv xs h.2]
end
mutual
theorem of_put {v : Int} (hv : v < 0) : ∀ t : Tm, wfT ar t = true → ofT v (psT l t) = sumM (fun x => ofT v (valT l x)) (vlT t)
  | .node f xs, h => by
    rw [vlT]
    by_cases hf : f < 0
    · rw [if_pos hf, psT_var h hf, sumM, sumM]; rfl
    · rw [if_neg hf, psT_sym hf, ofT, if_neg (by omega), ofL_put hv xs (wf_args h)]; omega
theorem ofL_put {v : Int} (hv : v < 0) : ∀ xs : List Tm, wfL ar xs = true → ofL v (psL l xs) = sumM (fun x => ofT v (valT l x)) (vlL xs)
  | [], _ => by rw [psL, vlL, ofL, sumM]
  | x :: xs, h => by
    rw [wfL, Bool.and_eq_true] at h
    rw [psL, vlL, ofL, sumM_app, of_put hv x h.1, ofL_put hv xs h.2]
end
mutual
theorem ws_put (A : Adm o ar) : ∀ t : Tm, wfT ar t = true → wfT ar (psT l t) = true → wsT o (psT l t) = wsT o t + (sumM (fun x => (wsT o (valT l x) - o.var).toNat) (vlT t) : Int)
  | .node f xs, h, h2 => by
    rw [vlT]
    by_cases hf : f < 0
    · rw [if_pos hf]
      rw [psT_var h hf] at h2 ⊢
      have h3 := A.ws_ge _ h2
      have h4 : wsT o (.node f xs) = o.var := ws_var A h hf
      rw [h4, sumM, sumM]
      change wsT o (valT l f) = _
      change o.var ≤ wsT o (valT l f) at h3
      omega
    · rw [if_neg hf]
      rw [psT_sym hf] at h2 ⊢
      rw [wsT, wsT, wsL_put A xs (wf_args h) (wf_args h2)]; omega
theorem wsL_put (A : Adm o ar) : ∀ xs : List Tm, wfL ar xs = true → wfL ar (psL l xs) = true → wsL o (psL l xs) = wsL o xs + (sumM (fun x => (wsT o (valT l x) - o.var).toNat) (vlL xs) : Int)
  | [], _, _ => by rw [psL, vlL, wsL, sumM]; rfl
  | x :: xs, h, h2 => by
    rw [wfL, Bool.and_eq_true] at h
    rw [psL, wfL, Bool.and_eq_true] at h2
    rw [psL, vlL, wsL, wsL, sumM_app, ws_put A x h.1 h2.1, wsL_put A xs h.2 h2.2]; omega
end
theorem arn_put (A : Adm o ar) {f v : Int} (hf : ¬ f < 0) (hv : v < 0) : ∀ s : Tm, Gd ar s → Gd ar (psT l s) → arnT f v s = true → abvT o (psT l s) (valT l v) = true := by
  refine Tm.ind fun g xs ih hs hp ha => ?_
  by_cases h1 : xs.length = 1
  · match xs, h1, ih, hs, hp, ha with
    | [x], _, ih, hs, hp, ha =>
      rw [arnT_one, Bool.and_eq_true, beq_iff_eq, Bool.or_eq_true, beq_iff_eq] at ha
      obtain ⟨rfl, ha⟩ := ha
      rw [psT_sym hf] at hp ⊢
      have hx := hs.arg (x := x) (by simp)
      have hpx := hp.arg (psL_mem (l := l) (x := x) (xs := [x]) (by simp))
      have h2 := abv_arg A _ g _ hp (psL_mem (l := l) (x := x) (xs := [x]) (by simp))
      by_cases e : x.fn = v
      · rw [psT_var hx.wf (by omega), e] at h2
        exact h2
      · rcases ha with ha | ha
        · exact absurd ha e
        · have h3 := ih x (by simp) hx hpx ha
          have hval : Gd ar (valT l v) := by
            have hend : ∀ s : Tm, Gd ar s → Gd ar (psT l s) → arnT g v s = true → Gd ar (valT l v) := by
              refine Tm.ind fun g' xs' ih' hs' hp' ha' => ?_
              by_cases h1' : xs'.length = 1
              · match xs', h1', ih', hs', hp', ha' with
                | [x'], _, ih', hs', hp', ha' =>
                  rw [arnT_one, Bool.and_eq_true, beq_iff_eq, Bool.or_eq_true, beq_iff_eq] at ha'
                  obtain ⟨rfl, ha'⟩ := ha'
                  rw [psT_sym hf] at hp'
                  have hx' := hs'.arg (x := x') (by simp)
                  have hpx' := hp'.arg (psL_mem (l := l) (x := x') (xs := [x']) (by simp))
                  by_cases e' : x'.fn = v
                  · rw [psT_var hx'.wf (by omega), e'] at hpx'
                    exact hpx'
                  · rcases ha' with ha' | ha'
                    · exact absurd ha' e'
                    · exact ih' x' (by simp) hx' hpx' ha'
              · rw [arnT_no (t := .node g' xs') h1'] at ha'; cases ha'
            exact hend x hx hpx ha
          exact abv_trans A _ _ _ hp hpx hval h2 h3
  · rw [arnT_no (t := .node g xs) h1] at ha; cases ha
theorem abvL_put : ∀ (xs ys : List Tm), (∀ x ∈ xs, ∀ y ∈ ys, abvT o x y = true → abvT o (psT l x) (psT l y) = true) → abvL o xs ys = true → abvL o (psL l xs) (psL l ys) = true
  | [], _, _, h => by rw [abvL] at h; cases h
  | _ :: _, [], _, _ => by rw [psL, psL, abvL]
  | x :: xs, y :: ys, ih, h => by
    rw [abvL] at h
    rw [psL, psL, abvL]
    by_cases e : cmpT x y = 0
    · rw [if_pos e] at h
      rw [cmp_zero_iff] at e; subst e
      rw [if_pos (cmp_zero_iff.2 rfl)]
      exact abvL_put xs ys (fun a ha b hb => ih a (by simp [ha]) b (by simp [hb])) h
    · rw [if_neg e] at h
      have h3 := ih x (by simp) y (by simp) h
      have : ¬ cmpT (psT l x) (psT l y) = 0 := fun e => by
        rw [cmp_zero_iff] at e
        rw [e] at h3
        exact abv_irr h3
      rw [if_neg this]; exact h3
theorem abv_put (A : Adm o ar) : ∀ (s t : Tm), Gd ar s → Gd ar t → Gd ar (psT l s) → Gd ar (psT l t) → abvT o s t = true → abvT o (psT l s) (psT l t) = true := by
  intro s
  refine Tm.ind (P := fun s => ∀ t, Gd ar s → Gd ar t → Gd ar (psT l s) → Gd ar (psT l t) → abvT o s t = true → abvT o (psT l s) (psT l t) = true) (fun f xs ih t hs ht ps pt h => ?_) s
  have hP := (abv_iff A hs ht).1 h
  have hcnt : ∀ m : Int → Nat, sumM m (vlT t) ≤ sumM m (vlT (.node f xs)) := fun m => sumM_le m _ _ fun v hv => by
    have hn := vl_neg t v hv
    rw [vl_count hn t ht.wf, vl_count hn _ hs.wf]
    exact hP.cov v hn
  have w1 := ws_put (l := l) A _ hs.wf ps.wf
  have w2 := ws_put (l := l) A _ ht.wf pt.wf
  have w3 := hcnt fun x => (wsT o (valT l x) - o.var).toNat
  have hge := hP.ge
  by_cases he : wsT o (.node f xs) = wsT o t ∧ t.fn < 0
  · obtain ⟨hf, h4⟩ := hP.eq he.1
    rw [if_pos he.2] at h4
    rw [psT_var ht.wf he.2]
    exact arn_put A hf he.2 _ hs ps h4
  · rw [abv_iff A ps pt]
    refine ⟨fun v hv => ?_, by omega, fun e => ?_⟩
    · rw [of_put hv t ht.wf, of_put hv _ hs.wf]
      exact hcnt _
    · have heq : wsT o (.node f xs) = wsT o t := by omega
      have hg : ¬ t.fn < 0 := fun hg => he ⟨heq, hg⟩
      obtain ⟨hf, h4⟩ := hP.eq heq
      change ¬ f < 0 at hf
      rw [if_neg hg] at h4
      obtain ⟨g, ys⟩ := t
      change ¬ g < 0 at hg
      change if f = g then abvL o xs ys = true else o.prec.getD g.toNat 0 < o.prec.getD f.toNat 0 at h4
      rw [psT_sym hf] at ps ⊢
      rw [psT_sym hg] at pt ⊢
      refine ⟨hf, ?_⟩
      change if g < 0 then _ else if f = g then abvL o (psL l xs) (psL l ys) = true else o.prec.getD g.toNat 0 < o.prec.getD f.toNat 0
      rw [if_neg hg]
      by_cases e1 : f = g
      · rw [if_pos e1] at h4 ⊢
        exact abvL_put xs ys (fun x hx y hy hxy => ih x hx y (hs.arg hx) (ht.arg hy) (ps.arg (psL_mem hx)) (pt.arg (psL_mem hy)) hxy) h4
      · rw [if_neg e1] at h4 ⊢; exact h4
end
end Go.Proofs.YthgglobfkkcdgaaGreatDoor
namespace Go.Proofs.YthgglobfkkcdgaaGreatDoor
open Go.RowKit
set_option maxRecDepth 20000
section
variable {p : List Int} {l : List Tm}
theorem psT_var' {t : Tm} (hw : vnT t = true) (hv : t.fn < 0) : psT l t = valT l t.fn := by
  obtain ⟨f, xs⟩ := t
  have := vn_var hw hv
  injection this with _ h
  subst h
  change f < 0 at hv
  rw [psT, if_pos hv]; rfl
theorem psL_inv {y' : Tm} : ∀ {ys : List Tm}, y' ∈ psL l ys → ∃ y ∈ ys, psT l y = y'
  | [], h => by simp [psL] at h
  | y :: ys, h => by
    rw [psL] at h
    rcases List.mem_cons.1 h with rfl | h
    · exact ⟨y, by simp, rfl⟩
    · obtain ⟨z, hz, e⟩ := psL_inv h
      exact ⟨z, by simp [hz], e⟩
theorem lp_putvar {v : Int} (hv : v < 0) : ∀ s : Tm, vnT s = true → vnT (psT l s) = true → ¬ s.fn < 0 → 0 < ofT v s → lpT p (psT l s) (valT l v) = true := by
  refine Tm.ind fun f xs ih hs hp hf ho => ?_
  change ¬ f < 0 at hf
  rw [ofT, if_neg (by omega)] at ho
  obtain ⟨x, hx, hox⟩ := of_mem (v := v) (xs := xs) (by omega)
  have hsx := vn_args hs hx
  rw [psT_sym hf] at hp ⊢
  have hm := psL_mem (l := l) hx
  by_cases hxf : x.fn < 0
  · have hxv : x.fn = v := by
      rw [vn_var hsx hxf, ofT, ofL] at hox
      by_cases e : x.fn = v
      · exact e
      · rw [if_neg e] at hox; omega
    refine lp_sub hp hm (.inl ?_)
    rw [psT_var' hsx hxf, hxv]
  · exact lp_sub hp hm (.inr (ih x hx hsx (vn_args hp hm) hxf hox))
theorem lexB_put {A B : Tm → Tm → Bool} : ∀ (xs ys : List Tm), (∀ x ∈ xs, ∀ y ∈ ys, A x y = true → B (psT l x) (psT l y) = true) → lexB A xs ys = true → lexB B (psL l xs) (psL l ys) = true
  | [], _, _, h => by rw [lexB] at h; cases h
  | _ :: _, [], _, _ => by rw [psL, psL, lexB]
  | x :: xs, y :: ys, ih, h => by
    rw [lexB, Bool.or_eq_true, Bool.and_eq_true, decide_eq_true_eq, cmp_zero_iff] at h
    rw [psL, psL, lexB, Bool.or_eq_true, Bool.and_eq_true, decide_eq_true_eq, cmp_zero_iff]
    rcases h with h | ⟨rfl, h⟩
    · exact .inl (ih x (by simp) y (by simp) h)
    · exact .inr ⟨rfl, lexB_put xs ys (fun a ha b hb => ih a (by simp [ha]) b (by simp [hb])) h⟩
theorem lp_put : ∀ (n : Nat) (s t : Tm), s.size + t.size ≤ n → vnT s = true → vnT t = true → vnT (psT l s) = true → vnT (psT l t) = true → lpT p s t = true → lpT p (psT l s) (psT l t) = true
  | 0, s, _, h, _, _, _, _, _ => by have := size_pos s; omega
  | n + 1, .node f xs, t, hn, hs, ht, ps, pt, h => by
    obtain ⟨hf, r⟩ := lp_iff.1 h
    have e1 := psT_sym (l := l) (xs := xs) hf
    have deep : ¬ t.fn < 0 → (∀ y ∈ t.args, lpT p (.node f xs) y = true) → ∃ ys, psT l t = .node t.fn (psL l ys) ∧ t.args = ys ∧ ∀ y ∈ psL l ys, lpT p (psT l (.node f xs)) y = true := fun htn ha => by
      obtain ⟨g, ys⟩ := t
      change ¬ g < 0 at htn
      refine ⟨ys, psT_sym htn, rfl, fun y' hy' => ?_⟩
      obtain ⟨y, hy, rfl⟩ := psL_inv hy'
      rw [psT_sym htn] at pt
      exact lp_put n _ y (by have := size_arg (f := g) hy; omega) hs (vn_args ht hy) ps (vn_args pt hy') (ha y hy)
    cases r with
    | var h ho =>
      rw [psT_var' ht h]
      exact lp_putvar h _ hs ps hf ho
    | sub x hx h =>
      rw [e1] at ps ⊢
      have hm := psL_mem (l := l) hx
      refine lp_sub ps hm ?_
      rcases h with rfl | h
      · exact .inl rfl
      · exact .inr (lp_put n x t (by have := size_arg (f := f) hx; omega) (vn_args hs hx) ht (vn_args ps hm) pt h)
    | rank htn ha hr =>
      obtain ⟨ys, e2, e3, hall⟩ := deep htn ha
      rw [e2, e1]
      rw [e1] at hall
      exact lp_iff.2 ⟨hf, .rank htn hall hr⟩
    | lex htn ha he hl =>
      obtain ⟨ys, e2, e3, hall⟩ := deep htn ha
      rw [e2] at pt ⊢
      rw [e1] at ps ⊢
      rw [e1] at hall
      rw [e3] at hl
      refine lp_iff.2 ⟨hf, .lex htn hall he (lexB_put xs ys (fun x hx y hy hxy => ?_) hl)⟩
      have hyt : y ∈ t.args := by rw [e3]; exact hy
      exact lp_put n x y (by have := size_arg (f := f) hx; have := size_args hyt; omega) (vn_args hs hx) (vn_arg ht hyt) (vn_args ps (psL_mem hx)) (vn_args pt (psL_mem hy)) hxy
end
end Go.Proofs.YthgglobfkkcdgaaGreatDoor
