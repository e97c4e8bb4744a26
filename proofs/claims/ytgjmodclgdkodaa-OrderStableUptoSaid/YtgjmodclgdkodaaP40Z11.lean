import Derived.Test.YtgjmodclgdkodaaP40Z4
import Derived.Test.YtgjmodclgdkodaaP40Z10
import Derived.Test.YtgjmodclgdkodaaP40Z2
/- The document's own answers: Compare, Same. -/

namespace Go.Proofs.Ytgjmodclgdkodaa

open Go.RowKit
set_option maxRecDepth 100000

theorem head_ne {f g : Int} (h : f ≠ g) : headI f g = if f < 0 ∧ g < 0 then (if g < f then -1 else 1) else if f < g then -1 else 1 := by unfold headI; rw [if_neg h]

theorem head_nz {f g : Int} (h : f ≠ g) : ¬ headI f g = 0 := by
  rw [head_ne h]
  split
  · split <;> omega
  · split <;> omega

end Go.Proofs.Ytgjmodclgdkodaa

/- kbo: the document's own around, above. -/

namespace Go.Proofs.Ytgjmodclgdkodaa

open Go.RowKit Go.Shelf Go.Maps
set_option maxRecDepth 100000

/-- Does a term consist of f, once or more, around v? -/
def arnT (f v : Int) : Tm → Bool
  | .node g [x] => (g == f) && (x.fn == v || arnT f v x)
  | _ => false

theorem arnT_one {f v g : Int} {x : Tm} : arnT f v (.node g [x]) = ((g == f) && (x.fn == v || arnT f v x)) := by rw [arnT]

theorem arnT_no {f v : Int} {t : Tm} (h : ¬ t.args.length = 1) : arnT f v t = false := by
  obtain ⟨g, xs⟩ := t
  match xs, h with
  | [], _ => rw [arnT]; intro _ _ e; cases e
  | [x], h => exact absurd rfl h
  | x :: y :: ys, _ => rw [arnT]; intro _ _ e; cases e

theorem arnT_top {f v : Int} {t : Tm} (h : ¬ t.fn = f) : arnT f v t = false := by
  by_cases h1 : t.args.length = 1
  · obtain ⟨g, xs⟩ := t
    match xs, h1 with
    | [x], _ =>
      rw [arnT_one, show (g == f) = false by simpa [Tm.fn] using h, Bool.false_and]
  · exact arnT_no h1

theorem arnT_yes {f v : Int} {t x : Tm} (h : t.fn = f) (h1 : t.args.length = 1) (hx : t.args[0]? = some x) : arnT f v t = (x.fn == v || arnT f v x) := by
  obtain ⟨g, xs⟩ := t
  match xs, h1, hx with
  | [y], _, hx =>
    simp only [Tm.args, List.getElem?_cons_zero, Option.some.injEq] at hx
    subst hx
    rw [arnT_one, show (g == f) = true by simpa [Tm.fn] using h, Bool.true_and]

end Go.Proofs.Ytgjmodclgdkodaa

/- kbo, lpo: the boxes of an order and two terms. -/

namespace Go.Proofs.Ytgjmodclgdkodaa

open Go.RowKit Go.Shelf Go.Maps
set_option maxRecDepth 100000

/-- The boxes of an order and two terms that are parameters, and what stays of them. -/
theorem box_ott {w W : World} {o : Odr} {s t : Tm} {P Q A A2 : Option Addr} {pc qc c c2 : Nat} (hW : ((w.alloc (.cells #[.bool o.lpo, .slice P o.prec.length pc, .slice Q o.wts.length qc, .int .i64 o.var] 27)).alloc (.cells #[.int .i64 s.fn, .slice A s.args.length c] 39)).alloc (.cells #[.int .i64 t.fn, .slice A2 t.args.length c2] 39) = W) :
    Below w.heap.size w W ∧ W.heap.size = w.heap.size + 3 ∧ ∀ w', Below W.heap.size W w' → w'.cell? ⟨w.heap.size, 0, none⟩ = some (.bool o.lpo) ∧ w'.cell? ⟨w.heap.size, 1, none⟩ = some (.slice P o.prec.length pc) ∧ w'.cell? ⟨w.heap.size, 2, none⟩ = some (.slice Q o.wts.length qc) ∧ w'.cell? ⟨w.heap.size, 3, none⟩ = some (.int .i64 o.var) ∧
      w'.cell? ⟨w.heap.size + 1, 0, none⟩ = some (.int .i64 s.fn) ∧ w'.cell? ⟨w.heap.size + 1, 1, none⟩ = some (.slice A s.args.length c) ∧ w'.cell? ⟨w.heap.size + 2, 0, none⟩ = some (.int .i64 t.fn) ∧ w'.cell? ⟨w.heap.size + 2, 1, none⟩ = some (.slice A2 t.args.length c2) := by
  obtain ⟨q0, q1, q2⟩ := heap3 w (.cells #[.bool o.lpo, .slice P o.prec.length pc, .slice Q o.wts.length qc, .int .i64 o.var] 27) (.cells #[.int .i64 s.fn, .slice A s.args.length c] 39) (.cells #[.int .i64 t.fn, .slice A2 t.args.length c2] 39)
  rw [hW] at q0 q1 q2
  have hz : W.heap.size = w.heap.size + 3 := by rw [← hW]; simp
  refine ⟨by rw [← hW]; exact (((Below.refl _ _).alloc (Nat.le_refl _) _).alloc (by simp) _).alloc (by simp; omega) _, hz, fun w' hb => ?_⟩
  obtain ⟨a0, a1, a2, a3⟩ := cells_four ((hb.block _ (by omega)).trans q0)
  obtain ⟨b0, b1, _, _⟩ := cells_two ((hb.block _ (by omega)).trans q1)
  obtain ⟨d0, d1, _, _⟩ := cells_two ((hb.block _ (by omega)).trans q2)
  exact ⟨a0, a1, a2, a3, b0, b1, d0, d1⟩

end Go.Proofs.Ytgjmodclgdkodaa

/- kbo: the document's own above, Cmp. -/

namespace Go.Proofs.Ytgjmodclgdkodaa

open Go.RowKit Go.Shelf Go.Maps
set_option maxRecDepth 100000

mutual
/-- Is s above t, both known? -/
def abvT (o : Odr) : Tm → Tm → Bool
  | .node f xs, t => covU (.node f xs) t t && (if capI (wsT o (.node f xs)) = capI (wsT o t) then
      (if f < 0 then false else if t.fn < 0 then arnT f t.fn (.node f xs) else if f = t.fn then abvL o xs t.args else decide (o.prec.getD t.fn.toNat 0 < o.prec.getD f.toNat 0)) else decide (capI (wsT o t) < capI (wsT o (.node f xs))))
def abvL (o : Odr) : List Tm → List Tm → Bool
  | [], _ => false
  | _ :: _, [] => true
  | x :: xs, y :: ys => if cmpT x y = 0 then abvL o xs ys else abvT o x y
end

theorem abvT_eq (o : Odr) (s t : Tm) : abvT o s t = (covU s t t && (if capI (wsT o s) = capI (wsT o t) then
      (if s.fn < 0 then false else if t.fn < 0 then arnT s.fn t.fn s else if s.fn = t.fn then abvL o s.args t.args else decide (o.prec.getD t.fn.toNat 0 < o.prec.getD s.fn.toNat 0)) else decide (capI (wsT o t) < capI (wsT o s)))) := by
  obtain ⟨f, xs⟩ := s
  rw [abvT]; rfl

theorem abvL_same {o : Odr} {xs ys : List Tm} {k : Nat} {u v : Tm} (hu : xs[k]? = some u) (hv : ys[k]? = some v) (h : cmpT u v = 0) : abvL o (xs.drop k) (ys.drop k) = abvL o (xs.drop (k + 1)) (ys.drop (k + 1)) := by
  obtain ⟨h1, h2⟩ := List.getElem?_eq_some_iff.1 hu
  obtain ⟨h3, h4⟩ := List.getElem?_eq_some_iff.1 hv
  rw [List.drop_eq_getElem_cons h1, h2, List.drop_eq_getElem_cons h3, h4, abvL, if_pos h]

theorem abvL_other {o : Odr} {xs ys : List Tm} {k : Nat} {u v : Tm} (hu : xs[k]? = some u) (hv : ys[k]? = some v) (h : ¬ cmpT u v = 0) : abvL o (xs.drop k) (ys.drop k) = abvT o u v := by
  obtain ⟨h1, h2⟩ := List.getElem?_eq_some_iff.1 hu
  obtain ⟨h3, h4⟩ := List.getElem?_eq_some_iff.1 hv
  rw [List.drop_eq_getElem_cons h1, h2, List.drop_eq_getElem_cons h3, h4, abvL, if_neg h]

theorem abvL_end {o : Odr} {xs ys : List Tm} {k : Nat} (h1 : k ≤ xs.length) (h2 : k ≤ ys.length) (h : ¬ (k < xs.length ∧ k < ys.length)) : abvL o (xs.drop k) (ys.drop k) = decide (ys.length < xs.length) := by
  by_cases hx : k < xs.length
  · have hy : ys.drop k = [] := List.drop_eq_nil_of_le (by omega)
    rw [hy, List.drop_eq_getElem_cons hx, abvL, decide_eq_true (by omega)]
  · have hx0 : xs.drop k = [] := List.drop_eq_nil_of_le (by omega)
    rw [hx0, abvL, decide_eq_false (by omega)]

end Go.Proofs.Ytgjmodclgdkodaa

/- kbo: the document's own Cmp. -/

namespace Go.Proofs.Ytgjmodclgdkodaa

open Go.RowKit Go.Shelf Go.Maps
set_option maxRecDepth 100000

/-- What the document's own Cmp answers. -/
def cmpR (o : Odr) (s t : Tm) : Int := if knowT o s && knowT o t then (if cmpT s t = 0 then 2 else if abvT o s t then 3 else if abvT o t s then 1 else 0) else 0

end Go.Proofs.Ytgjmodclgdkodaa

/- kbo: in plain words: what the balance makes of two terms. -/

namespace Go.Proofs.Ytgjmodclgdkodaa

open Go.RowKit Go.Shelf Go.Maps
set_option maxRecDepth 100000

/-- The sum of what V tells above 0 of the first N variables. -/
def pS : Nat → (Int → Int) → Int
  | 0, _ => 0
  | N + 1, V => pS N V + max 0 (V (-1 - (N : Int)))

theorem pS_out : ∀ (N : Nat) (V V' : Int → Int) (f : Int), f < -(N : Int) → (∀ x, x ≠ f → V' x = V x) → pS N V' = pS N V
  | 0, _, _, _, _, _ => rfl
  | N + 1, V, V', f, hf, h => by
    rw [pS, pS, pS_out N V V' f (by omega) h, h (-1 - (N : Int)) (by omega)]

theorem pS_put : ∀ (N : Nat) (V V' : Int → Int) (f : Int), f < 0 → -(N : Int) ≤ f → (∀ x, x ≠ f → V' x = V x) → pS N V' = pS N V - max 0 (V f) + max 0 (V' f)
  | 0, _, _, _, h1, h2, _ => by omega
  | N + 1, V, V', f, h1, h2, h => by
    rw [pS, pS]
    by_cases e : f = -1 - (N : Int)
    · rw [pS_out N V V' f (by omega) h, ← e]; omega
    · rw [pS_put N V V' f h1 (by omega) h, h (-1 - (N : Int)) (fun e' => e e'.symm)]; omega

theorem pS_lo : ∀ (N : Nat) (V : Int → Int), 0 ≤ pS N V
  | 0, _ => Int.le_refl _
  | N + 1, V => by have := pS_lo N V; rw [pS]; omega

theorem pS_zero : ∀ (N : Nat) (V : Int → Int), (∀ v, v < 0 → V v ≤ 0) → pS N V = 0
  | 0, _, _ => rfl
  | N + 1, V, h => by have h1 := pS_zero N V h; have h2 := h (-1 - (N : Int)) (by omega); rw [pS, h1]; omega

theorem pS_pos : ∀ (N : Nat) (V : Int → Int) (v : Int), v < 0 → -(N : Int) ≤ v → 0 < V v → 0 < pS N V
  | 0, _, _, h1, h2, _ => by omega
  | N + 1, V, v, h1, h2, h => by
    rw [pS]
    by_cases e : v = -1 - (N : Int)
    · have := pS_lo N V; rw [← e]; omega
    · have := pS_pos N V v h1 (by omega) h; omega

structure InvB (N : Nat) (b : Bal) : Prop where
  a0 : b.a0 = pS N b.V
  a1 : b.a1 = pS N fun x => - b.V x

/-- What was laid between two balances. -/
structure Laid (N : Nat) (b b' : Bal) (d0 d1 : Int) (d : Int → Int) : Prop where
  w0 : b'.w0 = b.w0 + d0
  w1 : b'.w1 = b.w1 + d1
  V : ∀ v, v < 0 → b'.V v = b.V v + d v
  inv : InvB N b → InvB N b'

theorem Laid.refl (N : Nat) (b : Bal) : Laid N b b 0 0 fun _ => 0 := ⟨by omega, by omega, fun _ _ => by omega, id⟩

theorem Laid.cat {N : Nat} {b b' b'' : Bal} {d0 d1 e0 e1 g0 g1 : Int} {d e g : Int → Int} (h : Laid N b b' d0 d1 d) (k : Laid N b' b'' e0 e1 e) (h0 : g0 = d0 + e0) (h1 : g1 = d1 + e1) (hg : ∀ v, v < 0 → g v = d v + e v) : Laid N b b'' g0 g1 g :=
  ⟨by rw [k.w0, h.w0, h0]; omega, by rw [k.w1, h.w1, h1]; omega, fun v hv => by rw [k.V v hv, h.V v hv, hg v hv]; omega, fun i => k.inv (h.inv i)⟩

theorem Laid.to {N : Nat} {b b' : Bal} {d0 d1 g0 g1 : Int} {d g : Int → Int} (h : Laid N b b' d0 d1 d) (h0 : g0 = d0) (h1 : g1 = d1) (hg : ∀ v, v < 0 → g v = d v) : Laid N b b' g0 g1 g :=
  ⟨by rw [h.w0, h0], by rw [h.w1, h1], fun v hv => by rw [h.V v hv, hg v hv], h.inv⟩

theorem cnt_laid0 {o : Odr} {N : Nat} {b : Bal} {f : Int} (hv : f < 0 → -(N : Int) ≤ f) : Laid N b (cntB o 0 b f) (wtI o f) 0 fun v => if v = f then 1 else 0 := by
  by_cases hf : f < 0
  · by_cases h0 : 0 ≤ b.V f
    · rw [cntB_neg00 hf h0]
      refine ⟨rfl, by show b.w1 = b.w1 + 0; omega, fun v _ => ?_, fun i => ⟨?_, ?_⟩⟩
      · show (if v = f then b.V f + 1 else b.V v) = _; split <;> simp_all
      · show b.a0 + 1 = pS N fun x => if x = f then b.V f + 1 else b.V x
        rw [pS_put N b.V _ f hf (hv hf) (fun x hx => by rw [if_neg hx]), i.a0, if_pos rfl]; omega
      · show b.a1 = pS N fun x => - (if x = f then b.V f + 1 else b.V x)
        rw [pS_put N (fun x => - b.V x) _ f hf (hv hf) (fun x hx => by rw [if_neg hx]), i.a1, if_pos rfl]; omega
    · rw [cntB_neg01 hf h0]
      refine ⟨rfl, by show b.w1 = b.w1 + 0; omega, fun v _ => ?_, fun i => ⟨?_, ?_⟩⟩
      · show (if v = f then b.V f + 1 else b.V v) = _; split <;> simp_all
      · show b.a0 = pS N fun x => if x = f then b.V f + 1 else b.V x
        rw [pS_put N b.V _ f hf (hv hf) (fun x hx => by rw [if_neg hx]), i.a0, if_pos rfl]; omega
      · show b.a1 - 1 = pS N fun x => - (if x = f then b.V f + 1 else b.V x)
        rw [pS_put N (fun x => - b.V x) _ f hf (hv hf) (fun x hx => by rw [if_neg hx]), i.a1, if_pos rfl]; omega
  · rw [cntB_pos0 hf]
    exact ⟨rfl, by show b.w1 = b.w1 + 0; omega, fun v hv' => by show b.V v = _; rw [if_neg (by omega)]; omega, fun i => ⟨i.a0, i.a1⟩⟩

theorem cnt_laid1 {o : Odr} {N : Nat} {b : Bal} {f : Int} (hv : f < 0 → -(N : Int) ≤ f) : Laid N b (cntB o 1 b f) 0 (wtI o f) fun v => if v = f then -1 else 0 := by
  by_cases hf : f < 0
  · by_cases h0 : 0 ≤ -b.V f
    · rw [cntB_neg10 hf h0]
      refine ⟨by show b.w0 = b.w0 + 0; omega, rfl, fun v _ => ?_, fun i => ⟨?_, ?_⟩⟩
      · show (if v = f then b.V f + -1 else b.V v) = _; split <;> simp_all
      · show b.a0 = pS N fun x => if x = f then b.V f + -1 else b.V x
        rw [pS_put N b.V _ f hf (hv hf) (fun x hx => by rw [if_neg hx]), i.a0, if_pos rfl]; omega
      · show b.a1 + 1 = pS N fun x => - (if x = f then b.V f + -1 else b.V x)
        rw [pS_put N (fun x => - b.V x) _ f hf (hv hf) (fun x hx => by rw [if_neg hx]), i.a1, if_pos rfl]; omega
    · rw [cntB_neg11 hf h0]
      refine ⟨by show b.w0 = b.w0 + 0; omega, rfl, fun v _ => ?_, fun i => ⟨?_, ?_⟩⟩
      · show (if v = f then b.V f + -1 else b.V v) = _; split <;> simp_all
      · show b.a0 - 1 = pS N fun x => if x = f then b.V f + -1 else b.V x
        rw [pS_put N b.V _ f hf (hv hf) (fun x hx => by rw [if_neg hx]), i.a0, if_pos rfl]; omega
      · show b.a1 = pS N fun x => - (if x = f then b.V f + -1 else b.V x)
        rw [pS_put N (fun x => - b.V x) _ f hf (hv hf) (fun x hx => by rw [if_neg hx]), i.a1, if_pos rfl]; omega
  · rw [cntB_pos1 hf]
    exact ⟨by show b.w0 = b.w0 + 0; omega, rfl, fun v hv' => by show b.V v = _; rw [if_neg (by omega)]; omega, fun i => ⟨i.a0, i.a1⟩⟩

/-- All of a term's variables are among the first N. -/
def VB (N : Nat) (t : Tm) : Prop := ∀ v, v < 0 → 0 < ofT v t → -(N : Int) ≤ v

def VBL (N : Nat) (ts : List Tm) : Prop := ∀ v, v < 0 → 0 < ofL v ts → -(N : Int) ≤ v

theorem VB.top {N : Nat} {f : Int} {xs : List Tm} (h : VB N (.node f xs)) : f < 0 → -(N : Int) ≤ f := fun hf => h f hf (by rw [ofT, if_pos rfl]; omega)

theorem VB.args {N : Nat} {f : Int} {xs : List Tm} (h : VB N (.node f xs)) : VBL N xs := fun v hv hp => h v hv (by rw [ofT]; omega)

theorem VBL.head {N : Nat} {x : Tm} {xs : List Tm} (h : VBL N (x :: xs)) : VB N x := fun v hv hp => h v hv (by rw [ofL]; omega)

theorem VBL.tail {N : Nat} {x : Tm} {xs : List Tm} (h : VBL N (x :: xs)) : VBL N xs := fun v hv hp => h v hv (by rw [ofL]; omega)

theorem VB_ex (t : Tm) : ∃ N : Nat, VB N t := by
  have key : ∀ xs : List Tm, (∀ t ∈ xs, ∃ N : Nat, VB N t) → ∃ N : Nat, VBL N xs := by
    intro xs
    induction xs with
    | nil => intro _; exact ⟨0, fun v _ h => by rw [ofL] at h; omega⟩
    | cons x xs ih =>
      intro h
      obtain ⟨N1, h1⟩ := h x (by simp)
      obtain ⟨N2, h2⟩ := ih fun t ht => h t (by simp [ht])
      refine ⟨N1 + N2, fun v hv hp => ?_⟩
      rw [ofL] at hp
      by_cases e : 0 < ofT v x
      · have := h1 v hv e; omega
      · have := h2 v hv (by omega); omega
  refine Tm.ind (P := fun t => ∃ N : Nat, VB N t) (fun f xs ih => ?_) t
  obtain ⟨N, h⟩ := key xs ih
  refine ⟨N + f.natAbs, fun v hv hp => ?_⟩
  rw [ofT] at hp
  by_cases e : f = v
  · omega
  · rw [if_neg e] at hp; have := h v hv (by omega); omega

theorem lay_yes (o : Odr) (at_ : Int) (t : Tm) : ∀ b, (evT (lvis o at_) b t).2 = true ∧ layB o at_ b t = layL o at_ (cntB o at_ b t.fn) t.args := by
  have key : ∀ xs : List Tm, (∀ t ∈ xs, ∀ b, (evT (lvis o at_) b t).2 = true ∧ layB o at_ b t = layL o at_ (cntB o at_ b t.fn) t.args) → ∀ b, evL (lvis o at_) b xs = (layL o at_ b xs, true) := by
    intro xs
    induction xs with
    | nil => intro _ b; rw [evL, layL]
    | cons x xs ih =>
      intro h b
      rw [evL, (h x (by simp) b).1, if_pos rfl, ih (fun t ht => h t (by simp [ht])), layL]; rfl
  refine Tm.ind (P := fun t => ∀ b, (evT (lvis o at_) b t).2 = true ∧ layB o at_ b t = layL o at_ (cntB o at_ b t.fn) t.args) (fun f xs ih b => ?_) t
  have e : evT (lvis o at_) b (.node f xs) = evL (lvis o at_) (cntB o at_ b f) xs := by rw [evT]; rfl
  unfold layB
  rw [e, key xs ih]
  exact ⟨rfl, rfl⟩

mutual
theorem lay_laid0 {o : Odr} {N : Nat} : ∀ (t : Tm) (b : Bal), VB N t → Laid N b (layB o 0 b t) (wsT o t) 0 fun v => (ofT v t : Int)
  | .node f xs, b, h => by
    rw [(lay_yes o 0 (.node f xs) b).2]
    refine (cnt_laid0 (o := o) (b := b) h.top).cat (layL_laid0 xs _ h.args) (by rw [wsT]) (by omega) fun v _ => ?_
    rw [ofT]
    by_cases e : f = v
    · rw [if_pos e, if_pos e.symm]; omega
    · rw [if_neg e, if_neg (fun h => e h.symm)]; omega
theorem layL_laid0 {o : Odr} {N : Nat} : ∀ (ts : List Tm) (b : Bal), VBL N ts → Laid N b (layL o 0 b ts) (wsL o ts) 0 fun v => (ofL v ts : Int)
  | [], b, _ => by rw [layL]; exact (Laid.refl N b).to (by rw [wsL]) rfl fun v _ => by rw [ofL]; rfl
  | t :: ts, b, h => by
    rw [layL]
    exact (lay_laid0 t b h.head).cat (layL_laid0 ts _ h.tail) (by rw [wsL]) (by omega) fun v _ => by rw [ofL]; omega
end

mutual
theorem lay_laid1 {o : Odr} {N : Nat} : ∀ (t : Tm) (b : Bal), VB N t → Laid N b (layB o 1 b t) 0 (wsT o t) fun v => -(ofT v t : Int)
  | .node f xs, b, h => by
    rw [(lay_yes o 1 (.node f xs) b).2]
    refine (cnt_laid1 (o := o) (b := b) h.top).cat (layL_laid1 xs _ h.args) (by omega) (by rw [wsT]) fun v _ => ?_
    rw [ofT]
    by_cases e : f = v
    · rw [if_pos e, if_pos e.symm]; omega
    · rw [if_neg e, if_neg (fun h => e h.symm)]; omega
theorem layL_laid1 {o : Odr} {N : Nat} : ∀ (ts : List Tm) (b : Bal), VBL N ts → Laid N b (layL o 1 b ts) 0 (wsL o ts) fun v => -(ofL v ts : Int)
  | [], b, _ => by rw [layL]; exact (Laid.refl N b).to rfl (by rw [wsL]) fun v _ => by rw [ofL]; rfl
  | t :: ts, b, h => by
    rw [layL]
    exact (lay_laid1 t b h.head).cat (layL_laid1 ts _ h.tail) (by omega) (by rw [wsL]) fun v _ => by rw [ofL]; omega
end

mutual
theorem rsn_laid {o : Odr} {N : Nat} : ∀ (s : Tm) (b : Bal) (t : Tm), VB N s → VB N t → Laid N b (rsnB o s b t).1 (wsT o s) (wsT o t) fun v => (ofT v s : Int) - (ofT v t : Int)
  | .node f xs, b, .node g ys, hs, ht => by
    rw [rsnB]
    by_cases e : f = (Tm.node g ys).fn
    · rw [if_pos e]
      have h1 := cnt_laid0 (o := o) (b := b) hs.top
      have h2 := cnt_laid1 (o := o) (b := cntB o 0 b f) ht.top
      have h3 := arg_laid (o := o) xs (cntB o 1 (cntB o 0 b f) g) ys hs.args ht.args
      refine ((h1.cat h2 rfl rfl fun v _ => rfl).cat h3 (by rw [wsT]; omega) (by rw [wsT]; omega) fun v _ => ?_)
      change f = g at e
      subst e
      rw [ofT, ofT]
      by_cases e : f = v
      · rw [if_pos e, if_pos e.symm, if_pos e.symm]; omega
      · rw [if_neg e, if_neg (fun h => e h.symm), if_neg (fun h => e h.symm)]; omega
    · rw [if_neg e]
      exact (lay_laid0 (o := o) (.node f xs) b hs).cat (lay_laid1 (.node g ys) _ ht) (by omega) (by omega) fun v _ => by omega
theorem arg_laid {o : Odr} {N : Nat} : ∀ (xs : List Tm) (b : Bal) (ys : List Tm), VBL N xs → VBL N ys → Laid N b (argB o xs b ys).1 (wsL o xs) (wsL o ys) fun v => (ofL v xs : Int) - (ofL v ys : Int)
  | [], b, ys, _, hy => by
    rw [argB]
    exact (layL_laid1 ys b hy).to (by rw [wsL]) rfl fun v _ => by rw [ofL]; omega
  | x :: xs, b, [], hx, _ => by
    rw [argB]
    exact (layL_laid0 (x :: xs) b hx).to rfl (by rw [wsL]) fun v _ => by rw [ofL.eq_1 v]; omega
  | x :: xs, b, y :: ys, hx, hy => by
    rw [argB]
    have h1 := rsn_laid (o := o) x b y hx.head hy.head
    split
    · exact h1.cat (arg_laid xs _ ys hx.tail hy.tail) (by rw [wsL]) (by rw [wsL]) fun v _ => by rw [ofL, ofL]; omega
    · exact (h1.cat (layL_laid0 xs _ hx.tail) rfl rfl fun v _ => rfl).cat (layL_laid1 ys _ hy.tail) (by rw [wsL]; omega) (by rw [wsL]; omega) fun v _ => by rw [ofL, ofL]; omega
end

end Go.Proofs.Ytgjmodclgdkodaa

/- kbo: in plain words: the program's Cmp is the document's own. -/

namespace Go.Proofs.Ytgjmodclgdkodaa

open Go.RowKit Go.Shelf Go.Maps
set_option maxRecDepth 100000

theorem covL_iff {s t : Tm} : ∀ {xs : List Tm}, (∀ u ∈ xs, (covU s t u = true ↔ ∀ v, v < 0 → 0 < ofT v u → ofT v t ≤ ofT v s)) → (covL s t xs = true ↔ ∀ v, v < 0 → 0 < ofL v xs → ofT v t ≤ ofT v s)
  | [], _ => by rw [covL]; exact ⟨fun _ v _ h => by rw [ofL] at h; omega, fun _ => rfl⟩
  | x :: xs, h => by
    rw [covL, Bool.and_eq_true, h x (by simp), covL_iff fun u hu => h u (by simp [hu])]
    constructor
    · rintro ⟨h1, h2⟩ v hv hp
      rw [ofL] at hp
      by_cases e : 0 < ofT v x
      · exact h1 v hv e
      · exact h2 v hv (by omega)
    · intro h1
      exact ⟨fun v hv hp => h1 v hv (by rw [ofL]; omega), fun v hv hp => h1 v hv (by rw [ofL]; omega)⟩

theorem covU_iff {o : Odr} (s t u : Tm) : knowT o u = true → (covU s t u = true ↔ ∀ v, v < 0 → 0 < ofT v u → ofT v t ≤ ofT v s) := by
  refine Tm.ind (P := fun u => knowT o u = true → (covU s t u = true ↔ ∀ v, v < 0 → 0 < ofT v u → ofT v t ≤ ofT v s)) (fun f xs ih hk => ?_) u
  obtain ⟨k1, k2⟩ := know_node hk
  by_cases hf : f < 0
  · have hx : xs = [] := List.eq_nil_of_length_eq_zero ((know_top k1).2.2 hf)
    subst hx
    rw [covU, if_pos hf, decide_eq_true_eq]
    constructor
    · intro h v hv hp
      rw [ofT, ofL] at hp
      by_cases e : f = v
      · subst e; exact h
      · rw [if_neg e] at hp; omega
    · intro h
      exact h f hf (by rw [ofT, if_pos rfl]; omega)
  · rw [covU, if_neg hf, covL_iff fun u hu => ih u hu (knowL_mem k2 hu)]
    constructor
    · intro h v hv hp
      rw [ofT, if_neg (by omega)] at hp
      exact h v hv (by omega)
    · intro h v hv hp
      exact h v hv (by rw [ofT]; omega)

theorem cov_iff {o : Odr} {s t : Tm} (hk : knowT o t = true) : covU s t t = true ↔ ∀ v, v < 0 → ofT v t ≤ ofT v s := by
  rw [covU_iff s t t hk]
  constructor
  · intro h v hv
    by_cases e : 0 < ofT v t
    · exact h v hv e
    · omega
  · exact fun h v hv _ => h v hv

theorem arn_end {top v : Int} (ht : ¬ top < 0) (hv : v < 0) : ∀ t : Tm, t.fn = top → (arnT top v t = decide ((arndEnd top t).fn = v)) := by
  intro t
  refine Tm.ind (P := fun t => t.fn = top → (arnT top v t = decide ((arndEnd top t).fn = v))) (fun f xs ih hf => ?_) t
  change f = top at hf
  by_cases h1 : xs.length = 1
  · match xs, h1, ih with
    | [x], _, ih =>
      rw [arnT_one, arnd_step hf, show (f == top) = true by rw [beq_iff_eq]; exact hf, Bool.true_and]
      by_cases hx : x.fn = top
      · rw [ih x (by simp) hx, show (x.fn == v) = false by rw [beq_eq_false_iff_ne]; omega, Bool.false_or]
      · rw [arnT_top hx, Bool.or_false, arnd_stop (fun e => hx e.1)]
        rw [Bool.eq_iff_iff, beq_iff_eq, decide_eq_true_eq]
  · rw [arnT_no (t := .node f xs) h1, arnd_stop (t := .node f xs) (fun e => h1 e.2)]
    symm
    apply decide_eq_false
    show ¬ f = v
    omega

theorem abvL_asym {o : Odr} : ∀ (xs ys : List Tm), (∀ x ∈ xs, ∀ t, abvT o x t = true → abvT o t x = false) → abvL o xs ys = true → abvL o ys xs = false
  | [], _, _, h => by rw [abvL] at h; cases h
  | x :: xs, [], _, _ => by rw [abvL]
  | x :: xs, y :: ys, ih, h => by
    rw [abvL] at h ⊢
    by_cases e : cmpT x y = 0
    · have e' := cmp_zero_iff.1 e
      subst e'
      rw [if_pos e] at h ⊢
      exact abvL_asym xs ys (fun z hz => ih z (by simp [hz])) h
    · have e' : ¬ cmpT y x = 0 := fun h' => e (cmp_zero_iff.2 (cmp_zero_iff.1 h').symm)
      rw [if_neg e] at h
      rw [if_neg e']
      exact ih x (by simp) y h

theorem abv_asym {o : Odr} (s : Tm) : ∀ t, abvT o s t = true → abvT o t s = false := by
  refine Tm.ind (P := fun s => ∀ t, abvT o s t = true → abvT o t s = false) (fun f xs ih t h => ?_) s
  have ih' : ∀ x ∈ (Tm.node f xs).args, ∀ t, abvT o x t = true → abvT o t x = false := ih
  generalize Tm.node f xs = s at ih' h ⊢
  rw [abvT_eq, Bool.and_eq_true] at h
  rw [abvT_eq, Bool.and_eq_false_iff]
  right
  obtain ⟨_, h⟩ := h
  by_cases hw : capI (wsT o s) = capI (wsT o t)
  · rw [if_pos hw] at h
    rw [if_pos hw.symm]
    by_cases h1 : s.fn < 0
    · rw [if_pos h1] at h; cases h
    · rw [if_neg h1] at h
      by_cases h2 : t.fn < 0
      · rw [if_pos h2]
      · rw [if_neg h2] at h
        rw [if_neg h2, if_neg h1]
        by_cases h3 : s.fn = t.fn
        · rw [if_pos h3] at h
          rw [if_pos h3.symm]
          exact abvL_asym s.args t.args ih' h
        · rw [if_neg h3, decide_eq_true_eq] at h
          rw [if_neg (fun e => h3 e.symm)]
          exact decide_eq_false (by omega)
  · rw [if_neg hw, decide_eq_true_eq] at h
    rw [if_neg (fun e => hw e.symm)]
    exact decide_eq_false (by omega)

/-- How two known terms stand. -/
def cmpK (o : Odr) (s t : Tm) : Int := if cmpT s t = 0 then 2 else if abvT o s t then 3 else if abvT o t s then 1 else 0

theorem cmpK_two {o : Odr} {s t : Tm} : cmpK o s t = 2 ↔ s = t := by
  unfold cmpK
  rw [← cmp_zero_iff]
  by_cases e : cmpT s t = 0
  · rw [if_pos e]; exact ⟨fun _ => e, fun _ => rfl⟩
  · rw [if_neg e]
    constructor
    · intro h
      split at h
      · omega
      · split at h <;> omega
    · exact fun h => absurd h e

/-- What the arguments tell. -/
structure ArgK (o : Odr) (xs ys : List Tm) (q : Int) : Prop where
  same : xs = ys → q = 2
  diff : ¬ xs = ys → q = if abvL o xs ys then 3 else if abvL o ys xs then 1 else 0

theorem numI_rel0 (n : Nat) : relC (numI 0 ((n + 1 : Nat) : Int)) = 1 := by
  have : numI 0 ((n + 1 : Nat) : Int) = -1 := by unfold numI; rw [if_pos (by omega)]
  rw [this]; rfl

theorem numI_rel1 (n : Nat) : relC (numI ((n + 1 : Nat) : Int) 0) = 3 := by
  have : numI ((n + 1 : Nat) : Int) 0 = 1 := by unfold numI; rw [if_neg (by omega), if_pos (by omega)]
  rw [this]; rfl

theorem zero_cnt {o : Odr} {N : Nat} {b : Bal} {f : Int} (hv : f < 0 → -(N : Int) ≤ f) (hi : InvB N b) (hz : ∀ v, v < 0 → b.V v = 0) : InvB N (cntB o 1 (cntB o 0 b f) f) ∧ ∀ v, v < 0 → (cntB o 1 (cntB o 0 b f) f).V v = 0 := by
  have h1 := cnt_laid0 (o := o) (b := b) hv
  have h2 := cnt_laid1 (o := o) (b := cntB o 0 b f) hv
  refine ⟨h2.inv (h1.inv hi), fun v hv' => ?_⟩
  rw [h2.V v hv', h1.V v hv', hz v hv']
  split <;> omega

/-- Weights, variables on one side alone: out of them and of reason's answer. -/
theorem fin_of {o : Odr} {N : Nat} {b : Bal} {s t : Tm} {r : Bal × Int} (hl : Laid N b r.1 (wsT o s) (wsT o t) fun v => (ofT v s : Int) - (ofT v t : Int)) (hi : InvB N b) (hz : ∀ v, v < 0 → b.V v = 0) (hks : knowT o s = true) (hkt : knowT o t = true) (hs : VB N s) (ht : VB N t) :
    (0 < r.1.a1 ↔ covU s t t = false) ∧ (0 < r.1.a0 ↔ covU t s s = false) ∧ finQ b r = if numI (capI (wsT o s)) (capI (wsT o t)) = 0 then r.2 else relC (numI (capI (wsT o s)) (capI (wsT o t))) := by
  have hV : ∀ v, v < 0 → r.1.V v = (ofT v s : Int) - (ofT v t : Int) := fun v hv => by rw [hl.V v hv, hz v hv]; omega
  have hir := hl.inv hi
  refine ⟨?_, ?_, ?_⟩
  · rw [hir.a1]
    cases hc : covU s t t with
    | true =>
      have := (cov_iff hkt).1 hc
      rw [pS_zero N _ fun v hv => by rw [hV v hv]; have := this v hv; omega]
      simp
    | false =>
      have hn : ¬ ∀ v, v < 0 → ofT v t ≤ ofT v s := fun h => by rw [(cov_iff hkt).2 h] at hc; cases hc
      obtain ⟨v, hv⟩ := Classical.not_forall.1 hn
      obtain ⟨hv0, hv1⟩ := Classical.not_imp.1 hv
      exact ⟨fun _ => rfl, fun _ => pS_pos N _ v hv0 (ht v hv0 (by omega)) (by rw [hV v hv0]; omega)⟩
  · rw [hir.a0]
    cases hc : covU t s s with
    | true =>
      have := (cov_iff hks).1 hc
      rw [pS_zero N _ fun v hv => by rw [hV v hv]; have := this v hv; omega]
      simp
    | false =>
      have hn : ¬ ∀ v, v < 0 → ofT v s ≤ ofT v t := fun h => by rw [(cov_iff hks).2 h] at hc; cases hc
      obtain ⟨v, hv⟩ := Classical.not_forall.1 hn
      obtain ⟨hv0, hv1⟩ := Classical.not_imp.1 hv
      exact ⟨fun _ => rfl, fun _ => pS_pos N _ v hv0 (hs v hv0 (by omega)) (by rw [hV v hv0]; omega)⟩
  · unfold finQ
    rw [hl.w0, hl.w1, show b.w0 + wsT o s - b.w0 = wsT o s by omega, show b.w1 + wsT o t - b.w1 = wsT o t by omega]

/-- What is to be known of reason's answer. -/
structure RsnK (o : Odr) (s t : Tm) (q : Int) : Prop where
  same : s = t → q = 2
  diff : ¬ s = t → q = if (if s.fn < 0 then false else if t.fn < 0 then arnT s.fn t.fn s else if s.fn = t.fn then abvL o s.args t.args else decide (o.prec.getD t.fn.toNat 0 < o.prec.getD s.fn.toNat 0)) then 3 else
    if (if t.fn < 0 then false else if s.fn < 0 then arnT t.fn s.fn t else if t.fn = s.fn then abvL o t.args s.args else decide (o.prec.getD s.fn.toNat 0 < o.prec.getD t.fn.toNat 0)) then 1 else 0
  asym : abvL o s.args t.args = true → abvL o t.args s.args = false

theorem fin_eq_of {o : Odr} {N : Nat} {b : Bal} {s t : Tm} {r : Bal × Int} (hl : Laid N b r.1 (wsT o s) (wsT o t) fun v => (ofT v s : Int) - (ofT v t : Int)) (hi : InvB N b) (hz : ∀ v, v < 0 → b.V v = 0) (hks : knowT o s = true) (hkt : knowT o t = true) (hs : VB N s) (ht : VB N t) (hr : RsnK o s t r.2) :
    finB b r = cmpK o s t := by
  obtain ⟨c1, c0, cq⟩ := fin_of hl hi hz hks hkt hs ht
  unfold finB cmpK
  rw [cq]
  by_cases hst : s = t
  · subst hst
    have hn : numI (capI (wsT o s)) (capI (wsT o s)) = 0 := by unfold numI; simp
    rw [if_pos hn, hr.same rfl, if_pos (cmp_zero_iff.2 rfl)]
    unfold finR; simp
  · rw [if_neg (fun h => hst (cmp_zero_iff.1 h)), abvT_eq o s t, abvT_eq o t s]
    by_cases hw : capI (wsT o s) = capI (wsT o t)
    · have hn : numI (capI (wsT o s)) (capI (wsT o t)) = 0 := by unfold numI; rw [if_neg (by omega), if_neg (by omega)]
      rw [if_pos hn, if_pos hw, if_pos hw.symm, hr.diff hst]
      obtain ⟨B1, hB1⟩ : ∃ B : Bool, (if s.fn < 0 then false else if t.fn < 0 then arnT s.fn t.fn s else if s.fn = t.fn then abvL o s.args t.args else decide (o.prec.getD t.fn.toNat 0 < o.prec.getD s.fn.toNat 0)) = B := ⟨_, rfl⟩
      obtain ⟨B2, hB2⟩ : ∃ B : Bool, (if t.fn < 0 then false else if s.fn < 0 then arnT t.fn s.fn t else if t.fn = s.fn then abvL o t.args s.args else decide (o.prec.getD s.fn.toNat 0 < o.prec.getD t.fn.toNat 0)) = B := ⟨_, rfl⟩
      have hB : ¬ (B1 = true ∧ B2 = true) := by
        rintro ⟨e1, e2⟩
        rw [e1] at hB1
        rw [e2] at hB2
        by_cases h1 : s.fn < 0
        · rw [if_pos h1] at hB1; cases hB1
        · by_cases h2 : t.fn < 0
          · rw [if_pos h2] at hB2; cases hB2
          · rw [if_neg h1, if_neg h2] at hB1
            rw [if_neg h2, if_neg h1] at hB2
            by_cases h3 : s.fn = t.fn
            · rw [if_pos h3] at hB1
              rw [if_pos h3.symm, hr.asym hB1] at hB2
              cases hB2
            · rw [if_neg h3, decide_eq_true_eq] at hB1
              rw [if_neg (fun e => h3 e.symm), decide_eq_true_eq] at hB2
              omega
      rw [hB1, hB2]
      clear hB1 hB2 hr cq hl
      unfold finR
      simp only [c1, c0]
      cases B1 <;> cases B2 <;> cases covU s t t <;> cases covU t s s <;> simp_all
    · rw [if_neg hw, if_neg (show ¬ capI (wsT o t) = capI (wsT o s) from fun e => hw e.symm)]
      by_cases hlt : capI (wsT o s) < capI (wsT o t)
      · have hn : numI (capI (wsT o s)) (capI (wsT o t)) = -1 := by unfold numI; rw [if_pos hlt]
        rw [hn, decide_eq_false (show ¬ capI (wsT o t) < capI (wsT o s) by omega), decide_eq_true hlt, if_neg (show ¬ (-1 : Int) = 0 by decide)]
        unfold finR
        simp only [c1, c0, show relC (-1) = 1 from rfl]
        cases covU s t t <;> cases covU t s s <;> simp
      · have hgt : capI (wsT o t) < capI (wsT o s) := by omega
        have hn : numI (capI (wsT o s)) (capI (wsT o t)) = 1 := by unfold numI; rw [if_neg hlt, if_pos hgt]
        rw [hn, decide_eq_false hlt, decide_eq_true hgt, if_neg (show ¬ (1 : Int) = 0 by decide)]
        unfold finR
        simp only [c1, c0, show relC 1 = 3 from rfl]
        cases covU s t t <;> cases covU t s s <;> simp

theorem rsnB_same (o : Odr) (f : Int) (xs ys : List Tm) (b : Bal) : rsnB o (.node f xs) b (.node f ys) = argB o xs (cntB o 1 (cntB o 0 b f) f) ys := by rw [rsnB]; exact if_pos rfl

theorem rsnB_other (o : Odr) {f g : Int} (h : ¬ f = g) (xs ys : List Tm) (b : Bal) : rsnB o (.node f xs) b (.node g ys) = (layB o 1 (layB o 0 b (.node f xs)) (.node g ys), topsR o (.node f xs) (.node g ys)) := by rw [rsnB]; exact if_neg h

mutual
theorem fin_eq {o : Odr} {N : Nat} : ∀ (s : Tm) (b : Bal) (t : Tm), InvB N b → (∀ v, v < 0 → b.V v = 0) → knowT o s = true → knowT o t = true → VB N s → VB N t → finB b (rsnB o s b t) = cmpK o s t
  | .node f xs, b, .node g ys, hi, hz, hks, hkt, hs, ht => by
    refine fin_eq_of (rsn_laid (o := o) _ b _ hs ht) hi hz hks hkt hs ht ?_
    obtain ⟨k1, k2⟩ := know_node hks
    obtain ⟨k3, k4⟩ := know_node hkt
    simp only [Tm.fn, Tm.args] at k1 k2 k3 k4
    refine ⟨fun e => ?_, fun e => ?_, abvL_asym xs ys fun x _ => abv_asym x⟩
    · injection e with e1 e2
      subst e1; subst e2
      rw [rsnB_same]
      obtain ⟨i1, z1⟩ := zero_cnt (o := o) hs.top hi hz
      exact (arg_eq xs _ xs i1 z1 k2 k2 hs.args hs.args).same rfl
    · simp only [Tm.fn, Tm.args]
      by_cases hfg : f = g
      · subst hfg
        have hne : ¬ xs = ys := fun h => e (by rw [h])
        have hf0 : ¬ f < 0 := fun h => hne (by
          rw [List.eq_nil_of_length_eq_zero ((know_top k1).2.2 h), List.eq_nil_of_length_eq_zero ((know_top k3).2.2 h)])
        rw [rsnB_same]
        obtain ⟨i1, z1⟩ := zero_cnt (o := o) hs.top hi hz
        simp only [hf0, ↓reduceIte]
        exact (arg_eq xs _ ys i1 z1 k2 k4 hs.args ht.args).diff hne
      · rw [rsnB_other o hfg]
        show topsR o (.node f xs) (.node g ys) = _
        unfold topsR topsP
        have tf : ∀ (f : Int) (xs : List Tm), (Tm.node f xs).fn = f := fun _ _ => rfl
        simp only [tf]
        by_cases h1 : f < 0
        · by_cases h2 : g < 0
          · simp [h1, h2]
          · have ha := arn_end h2 h1 (.node g ys) rfl
            by_cases h3 : (arndEnd g (.node g ys)).fn = f
            · simp [h1, h2, h3, relT, ha]
            · simp [h1, h2, h3, relT, ha]
        · by_cases h2 : g < 0
          · have ha := arn_end h1 h2 (.node f xs) rfl
            by_cases h3 : (arndEnd f (.node f xs)).fn = g
            · simp [h1, h2, h3, ha]
            · simp [h1, h2, h3, ha]
          · have hgf : ¬ g = f := fun e => hfg e.symm
            by_cases h3 : o.prec.getD g.toNat 0 < o.prec.getD f.toNat 0
            · simp only [h1, h2, hfg, ↓reduceIte, h3, decide_true]
            · by_cases h4 : o.prec.getD f.toNat 0 = o.prec.getD g.toNat 0
              · have h5 : ¬ o.prec.getD f.toNat 0 < o.prec.getD g.toNat 0 := by omega
                simp only [h1, h2, hfg, hgf, ↓reduceIte, h4, decide_false, Bool.false_eq_true, Int.lt_irrefl]
              · have h5 : o.prec.getD f.toNat 0 < o.prec.getD g.toNat 0 := by omega
                simp only [h1, h2, hfg, hgf, ↓reduceIte, h3, h4, h5, decide_false, decide_true, Bool.false_eq_true]
theorem arg_eq {o : Odr} {N : Nat} : ∀ (xs : List Tm) (b : Bal) (ys : List Tm), InvB N b → (∀ v, v < 0 → b.V v = 0) → knowL o xs = true → knowL o ys = true → VBL N xs → VBL N ys → ArgK o xs ys (argB o xs b ys).2
  | [], b, [], _, _, _, _, _, _ => by
    rw [argB]; exact ⟨fun _ => rfl, fun h => absurd rfl h⟩
  | [], b, y :: ys, _, _, _, _, _, _ => by
    rw [argB]
    exact ⟨fun h => (by cases h), fun _ => by rw [abvL, abvL]; exact numI_rel0 ys.length⟩
  | x :: xs, b, [], _, _, _, _, _, _ => by
    rw [argB]
    exact ⟨fun h => (by cases h), fun _ => by rw [abvL]; exact numI_rel1 xs.length⟩
  | x :: xs, b, y :: ys, hi, hz, hkx, hky, hx, hy => by
    rw [knowL, Bool.and_eq_true] at hkx hky
    have h1 := fin_eq (o := o) x b y hi hz hkx.1 hky.1 hx.head hy.head
    have hl := rsn_laid (o := o) x b y hx.head hy.head
    rw [argB, h1]
    by_cases e : x = y
    · subst e
      rw [if_pos (cmpK_two.2 rfl)]
      have h2 := arg_eq (o := o) xs (rsnB o x b x).1 ys (hl.inv hi) (fun v hv => by rw [hl.V v hv, hz v hv]; omega) hkx.2 hky.2 hx.tail hy.tail
      refine ⟨fun h => h2.same (by injection h), fun h => ?_⟩
      rw [h2.diff (fun h' => h (by rw [h'])), abvL, abvL, if_pos (cmp_zero_iff.2 rfl), if_pos (cmp_zero_iff.2 rfl)]
    · rw [if_neg (fun h => e (cmpK_two.1 h))]
      refine ⟨fun h => absurd (by injection h) e, fun _ => ?_⟩
      have e1 : ¬ cmpT x y = 0 := fun h => e (cmp_zero_iff.1 h)
      have e2 : ¬ cmpT y x = 0 := fun h => e (cmp_zero_iff.1 h).symm
      rw [abvL, abvL, if_neg e1, if_neg e2]
      show cmpK o x y = _
      unfold cmpK
      rw [if_neg e1]
end

/-- The program's Cmp is the document's own. -/
theorem cmpO_eq (o : Odr) (s t : Tm) : cmpO o s t = cmpR o s t := by
  unfold cmpO cmpR
  cases hs : knowT o s with
  | false => rfl
  | true =>
    cases ht : knowT o t with
    | false => rfl
    | true =>
      obtain ⟨N1, h1⟩ := VB_ex s
      obtain ⟨N2, h2⟩ := VB_ex t
      have hi : InvB (N1 + N2) bal0 := ⟨(pS_zero (N1 + N2) bal0.V fun v _ => Int.le_refl 0).symm, (pS_zero (N1 + N2) (fun x => - bal0.V x) fun v _ => Int.le_refl 0).symm⟩
      have h := fin_eq (o := o) s bal0 t hi (fun _ _ => rfl) hs ht (fun v hv hp => by have := h1 v hv hp; omega) (fun v hv hp => by have := h2 v hv hp; omega)
      simp only [Bool.and_self, ↓reduceIte]
      rw [h]
      rfl

end Go.Proofs.Ytgjmodclgdkodaa

/- kbo: which orders may be; above each part; transitive; total on ground terms; kept beside others and under what is put in: all plain. -/

namespace Go.Proofs.Ytgjmodclgdkodaa

open Go.RowKit
set_option maxRecDepth 20000

/-- Which orders may be over symbols with so many arguments. -/
structure Adm (o : Odr) (ar : List Nat) : Prop where
  np : o.prec.length = ar.length
  nw : o.wts.length = ar.length
  inj : ∀ i k : Nat, i < ar.length → k < ar.length → o.prec.getD i 0 = o.prec.getD k 0 → i = k
  v1 : 1 ≤ o.var
  v2 : o.var ≤ 1000
  w0 : ∀ i : Nat, i < ar.length → 0 ≤ o.wts.getD i 0
  w1 : ∀ i : Nat, i < ar.length → o.wts.getD i 0 ≤ 1000
  a0 : ∀ i : Nat, i < ar.length → ar.getD i 0 = 0 → o.var ≤ o.wts.getD i 0
  a1 : ∀ i : Nat, i < ar.length → ar.getD i 0 = 1 → o.wts.getD i 0 = 0 → ∀ k : Nat, k < ar.length → k ≠ i → ¬ o.prec.getD i 0 < o.prec.getD k 0

section

variable {o : Odr} {ar : List Nat}

theorem Adm.wt_var (A : Adm o ar) {f : Int} (hf : f < 0) : wtI o f = o.var := by
  have := A.v1; have := A.v2
  unfold wtI capI; rw [if_pos hf]; omega

theorem Adm.wt_sym (A : Adm o ar) {f : Int} (hf : ¬ f < 0) (hl : f < (ar.length : Int)) : wtI o f = o.wts.getD f.toNat 0 := by
  have := A.w0 f.toNat (by omega); have := A.w1 f.toNat (by omega)
  unfold wtI capI; rw [if_neg hf]; omega

theorem Adm.wt_le (A : Adm o ar) {f : Int} (hl : f < (ar.length : Int)) : wtI o f ≤ 1000 := by
  by_cases hf : f < 0
  · rw [A.wt_var hf]; exact A.v2
  · rw [A.wt_sym hf hl]; exact A.w1 _ (by omega)

theorem wtI_lo (o : Odr) (f : Int) : 0 ≤ wtI o f := by unfold wtI capI; omega

theorem Adm.know (A : Adm o ar) : ∀ t : Tm, wfT ar t = true → knowT o t = true := by
  refine Tm.ind fun f xs ih h => ?_
  have hL : ∀ ys : List Tm, (∀ y ∈ ys, y ∈ xs) → knowL o ys = true := by
    intro ys
    induction ys with
    | nil => intro _; rfl
    | cons y ys ih2 =>
      intro hy
      rw [knowL, Bool.and_eq_true]
      exact ⟨ih y (hy y (by simp)) (wfL_mem (wf_args h) (hy y (by simp))), ih2 fun z hz => hy z (by simp [hz])⟩
  rw [knowT, Bool.and_eq_true]
  refine ⟨?_, hL xs fun _ h => h⟩
  unfold knowTop
  by_cases hf : f < 0
  · rw [if_pos hf, wf_var h hf]; rfl
  · have := (wf_sym h hf).1
    rw [if_neg hf, A.np, A.nw]
    simp [this]

theorem Adm.ws_ge (A : Adm o ar) : ∀ t : Tm, wfT ar t = true → o.var ≤ wsT o t := by
  refine Tm.ind fun f xs ih h => ?_
  rw [wsT]
  by_cases hf : f < 0
  · rw [A.wt_var hf, wf_var h hf, wsL]; omega
  · obtain ⟨h1, h2⟩ := wf_sym h hf
    match xs, h2, ih, h with
    | [], h2, _, _ =>
      rw [A.wt_sym hf h1, wsL]
      have := A.a0 f.toNat (by omega) h2.symm
      omega
    | x :: xs, h2, ih, h =>
      rw [wsL]
      have := ih x (by simp) (wfL_mem (wf_args h) (by simp))
      have := wsL_lo o xs
      have := wtI_lo o f
      omega

mutual
theorem Adm.ws_le (A : Adm o ar) : ∀ t : Tm, wfT ar t = true → wsT o t ≤ 1000 * (t.size : Int)
  | .node f xs, h => by
    have h1 := A.wsL_le xs (wf_args h)
    have h2 : wtI o f ≤ 1000 := by
      by_cases hf : f < 0
      · exact A.wt_le (by omega)
      · exact A.wt_le (wf_sym h hf).1
    rw [wsT, Tm.size]; omega
theorem Adm.wsL_le (A : Adm o ar) : ∀ xs : List Tm, wfL ar xs = true → wsL o xs ≤ 1000 * (sizes xs : Int)
  | [], _ => by rw [wsL, sizes]; omega
  | x :: xs, h => by
    rw [wfL, Bool.and_eq_true] at h
    have h1 := A.ws_le x h.1
    have h2 := A.wsL_le xs h.2
    rw [wsL, sizes]; omega
end

theorem Gd.cap (A : Adm o ar) {t : Tm} (h : Gd ar t) : capI (wsT o t) = wsT o t := by
  have h1 := A.ws_le t h.wf
  have h2 := wsT_lo o t
  have h3 := h.sz
  unfold capI; omega

/-- Above, in plain words. -/
def abvE (o : Odr) (s t : Tm) : Prop := ¬ s.fn < 0 ∧ (if t.fn < 0 then arnT s.fn t.fn s = true else if s.fn = t.fn then abvL o s.args t.args = true else o.prec.getD t.fn.toNat 0 < o.prec.getD s.fn.toNat 0)

structure AbvP (o : Odr) (s t : Tm) : Prop where
  cov : ∀ v, v < 0 → ofT v t ≤ ofT v s
  ge : wsT o t ≤ wsT o s
  eq : wsT o s = wsT o t → abvE o s t

theorem abv_iff (A : Adm o ar) {s t : Tm} (hs : Gd ar s) (ht : Gd ar t) : abvT o s t = true ↔ AbvP o s t := by
  rw [abvT_eq, Bool.and_eq_true, cov_iff (A.know t ht.wf), hs.cap A, ht.cap A]
  constructor
  · rintro ⟨h1, h2⟩
    by_cases he : wsT o s = wsT o t
    · rw [if_pos he] at h2
      refine ⟨h1, by omega, fun _ => ?_⟩
      by_cases hf : s.fn < 0
      · rw [if_pos hf] at h2; cases h2
      · rw [if_neg hf] at h2
        refine ⟨hf, ?_⟩
        by_cases hg : t.fn < 0
        · rw [if_pos hg] at h2 ⊢; exact h2
        · rw [if_neg hg] at h2 ⊢
          by_cases hfg : s.fn = t.fn
          · rw [if_pos hfg] at h2 ⊢; exact h2
          · rw [if_neg hfg, decide_eq_true_eq] at h2; rw [if_neg hfg]; exact h2
    · rw [if_neg he, decide_eq_true_eq] at h2
      exact ⟨h1, by omega, fun e => absurd e he⟩
  · rintro ⟨h1, h2, h3⟩
    refine ⟨h1, ?_⟩
    by_cases he : wsT o s = wsT o t
    · obtain ⟨hf, h4⟩ := h3 he
      rw [if_pos he, if_neg hf]
      by_cases hg : t.fn < 0
      · rw [if_pos hg] at h4 ⊢; exact h4
      · rw [if_neg hg] at h4 ⊢
        by_cases hfg : s.fn = t.fn
        · rw [if_pos hfg] at h4 ⊢; exact h4
        · rw [if_neg hfg] at h4 ⊢; simpa using h4
    · rw [if_neg he, decide_eq_true_eq]; omega

theorem abv_irr {s : Tm} : ¬ abvT o s s = true := fun h => by have := abv_asym s s h; rw [h] at this; cases this

/-- A symbol without weight and with one argument is highest. -/
theorem Adm.zero_top (A : Adm o ar) {f g : Int} (hf : ¬ f < 0) (hg : ¬ g < 0) (hfl : f < (ar.length : Int)) (hgl : g < (ar.length : Int)) (h1 : ar.getD f.toNat 0 = 1) (h0 : wtI o f = 0) (hne : ¬ f = g) : o.prec.getD g.toNat 0 < o.prec.getD f.toNat 0 := by
  rw [A.wt_sym hf hfl] at h0
  have := A.a1 f.toNat (by omega) h1 h0 g.toNat (by omega) (by omega)
  have := A.inj f.toNat g.toNat (by omega) (by omega)
  omega

theorem wsL_mem (A : Adm o ar) : ∀ {xs : List Tm} {x : Tm}, wfL ar xs = true → x ∈ xs → wsT o x + o.var * ((xs.length : Int) - 1) ≤ wsL o xs
  | [], _, _, h => by simp at h
  | y :: ys, x, hw, h => by
    rw [wfL, Bool.and_eq_true] at hw
    have hge : ∀ zs : List Tm, wfL ar zs = true → o.var * (zs.length : Int) ≤ wsL o zs := by
      intro zs
      induction zs with
      | nil => intro _; rw [wsL]; simp
      | cons z zs ih =>
        intro hz
        rw [wfL, Bool.and_eq_true] at hz
        have h1 := A.ws_ge z hz.1
        have h2 := ih hz.2
        rw [wsL, List.length_cons]
        have : o.var * ((zs.length + 1 : Nat) : Int) = o.var * (zs.length : Int) + o.var := by
          rw [Int.natCast_add]; simp [Int.mul_add]
        omega
    rw [wsL, List.length_cons]
    have e1 : o.var * (((ys.length + 1 : Nat) : Int) - 1) = o.var * (ys.length : Int) := by congr 1; omega
    rw [e1]
    rcases List.mem_cons.1 h with rfl | h
    · have := hge ys hw.2; omega
    · have h1 := wsL_mem A hw.2 h
      have h2 := A.ws_ge y hw.1
      have : o.var * ((ys.length : Int) - 1) = o.var * (ys.length : Int) - o.var := by rw [Int.mul_sub]; simp
      omega

/-- Where a part weighs as much as the whole: one argument, a symbol without weight. -/
theorem one_arg (A : Adm o ar) {f : Int} {xs : List Tm} {x : Tm} (h : Gd ar (.node f xs)) (hx : x ∈ xs) (he : wsT o (.node f xs) ≤ wsT o x) : ¬ f < 0 ∧ f < (ar.length : Int) ∧ ar.getD f.toNat 0 = 1 ∧ wtI o f = 0 ∧ xs = [x] ∧ wsT o (.node f xs) = wsT o x := by
  have h1 := wsL_mem A (wf_args h.wf) hx
  have h0 := wtI_lo o f
  have hf : ¬ f < 0 := fun hf => by rw [wf_var h.wf hf] at hx; simp at hx
  obtain ⟨h2, h3⟩ := wf_sym h.wf hf
  rw [wsT] at he ⊢
  match xs, hx, h1, he, h3 with
  | [y], hx, h1, he, h3 =>
    obtain rfl : x = y := by simpa using hx
    rw [wsL, wsL] at he ⊢
    refine ⟨hf, h2, h3.symm, by omega, rfl, by omega⟩
  | y :: z :: ys, hx, h1, he, h3 =>
    exfalso
    have hv := A.v1
    have : o.var * (((y :: z :: ys).length : Int) - 1) = o.var * (ys.length : Int) + o.var := by
      simp only [List.length_cons]
      have : (((ys.length + 1 + 1 : Nat)) : Int) - 1 = (ys.length : Int) + 1 := by omega
      rw [this, Int.mul_add]; simp
    have h9 : 0 ≤ o.var * (ys.length : Int) := Int.mul_nonneg (by omega) (by omega)
    omega

/-- A term is above each of its arguments. -/
theorem abv_arg (A : Adm o ar) : ∀ (x : Tm) (f : Int) (xs : List Tm), Gd ar (.node f xs) → x ∈ xs → abvT o (.node f xs) x = true := by
  intro x
  refine Tm.ind (P := fun x => ∀ (f : Int) (xs : List Tm), Gd ar (.node f xs) → x ∈ xs → abvT o (.node f xs) x = true) (fun g ys ih f xs h hx => ?_) x
  have hg := h.arg hx
  rw [abv_iff A h hg]
  by_cases hle : wsT o (.node f xs) ≤ wsT o (.node g ys)
  · obtain ⟨hf, hfl, hf1, hf0, rfl, heq⟩ := one_arg A h hx hle
    refine ⟨fun v _ => of_arg hx, by omega, fun _ => ⟨hf, ?_⟩⟩
    change if g < 0 then arnT f g (.node f [.node g ys]) = true else if f = g then abvL o [.node g ys] ys = true else o.prec.getD g.toNat 0 < o.prec.getD f.toNat 0
    by_cases hgn : g < 0
    · rw [if_pos hgn, arnT_one]
      simp [Tm.fn]
    · rw [if_neg hgn]
      by_cases hfg : f = g
      · subst hfg
        rw [if_pos rfl]
        have h2 := (wf_sym hg.wf hgn).2
        rw [hf1] at h2
        match ys, h2, ih, hg with
        | [y], _, ih, hg =>
          have h3 := ih y (by simp) f [y] hg (by simp)
          have hne : ¬ cmpT (.node f [y]) y = 0 := fun e => by
            rw [cmp_zero_iff] at e
            rw [← e] at h3
            exact abv_irr (by simpa [e] using h3)
          rw [abvL, if_neg hne]
          exact h3
      · rw [if_neg hfg]
        exact A.zero_top hf hgn hfl (wf_sym hg.wf hgn).1 hf1 hf0 hfg
  · exact ⟨fun v _ => of_arg hx, by omega, fun e => by omega⟩

end

section

variable {o : Odr} {ar : List Nat}

theorem arn_of (A : Adm o ar) {v : Int} (hv : v < 0) : ∀ s : Tm, Gd ar s → ¬ s.fn < 0 → wsT o s = o.var → 0 < ofT v s → arnT s.fn v s = true ∧ s.fn < (ar.length : Int) ∧ ar.getD s.fn.toNat 0 = 1 ∧ wtI o s.fn = 0 := by
  refine Tm.ind fun f xs ih h hf hw hof => ?_
  change ¬ f < 0 at hf
  have hex : ∃ x ∈ xs, 0 < ofT v x := by
    rw [ofT, if_neg (by omega)] at hof
    have : ∀ ys : List Tm, 0 < ofL v ys → ∃ x ∈ ys, 0 < ofT v x := by
      intro ys
      induction ys with
      | nil => intro h; rw [ofL] at h; omega
      | cons y ys ih =>
        intro h
        rw [ofL] at h
        by_cases hy : 0 < ofT v y
        · exact ⟨y, by simp, hy⟩
        · obtain ⟨x, hx, h⟩ := ih (by omega); exact ⟨x, by simp [hx], h⟩
    exact this xs (by omega)
  obtain ⟨x, hx, hox⟩ := hex
  have hgx := h.arg hx
  have h1 := A.ws_ge x hgx.wf
  obtain ⟨_, hfl, hf1, hf0, rfl, heq⟩ := one_arg A h hx (by omega)
  refine ⟨?_, hfl, hf1, hf0⟩
  change arnT f v (.node f [x]) = true
  rw [arnT_one, beq_self_eq_true, Bool.true_and, Bool.or_eq_true]
  by_cases hxn : x.fn < 0
  · left
    rw [var_of hgx.wf hxn, ofT, ofL] at hox
    by_cases e : x.fn = v
    · rw [e, beq_self_eq_true]
    · rw [if_neg e] at hox; omega
  · right
    obtain ⟨h2, h3, h4, h5⟩ := ih x (by simp) hgx hxn (by omega) hox
    have : f = x.fn := by
      by_cases e : f = x.fn
      · exact e
      · have h6 := A.zero_top hf hxn hfl h3 hf1 hf0 e
        have h7 := A.zero_top hxn hf h3 hfl h4 h5 (fun e' => e e'.symm)
        omega
    rw [this]; exact h2

theorem ws_var (A : Adm o ar) {t : Tm} (hw : wfT ar t = true) (hv : t.fn < 0) : wsT o t = o.var := by
  rw [var_of hw hv]
  change wsT o (.node t.fn []) = o.var
  rw [wsT, wsL, A.wt_var hv]; omega

theorem abvL_trans (A : Adm o ar) : ∀ (xs ys zs : List Tm), (∀ x ∈ xs, ∀ y z, Gd ar x → Gd ar y → Gd ar z → abvT o x y = true → abvT o y z = true → abvT o x z = true) → (∀ x ∈ xs, Gd ar x) → (∀ x ∈ ys, Gd ar x) → (∀ x ∈ zs, Gd ar x) →
    abvL o xs ys = true → abvL o ys zs = true → abvL o xs zs = true
  | [], _, _, _, _, _, _, h, _ => by rw [abvL] at h; cases h
  | _ :: _, [], _, _, _, _, _, _, h => by rw [abvL] at h; cases h
  | _ :: _, _ :: _, [], _, _, _, _, _, _ => by rw [abvL]
  | x :: xs, y :: ys, z :: zs, ih, gx, gy, gz, h1, h2 => by
    rw [abvL] at h1 h2 ⊢
    by_cases e1 : cmpT x y = 0
    · rw [if_pos e1] at h1
      rw [cmp_zero_iff] at e1; subst e1
      by_cases e2 : cmpT x z = 0
      · rw [if_pos e2] at h2 ⊢
        exact abvL_trans A xs ys zs (fun a ha => ih a (by simp [ha])) (fun a ha => gx a (by simp [ha])) (fun a ha => gy a (by simp [ha])) (fun a ha => gz a (by simp [ha])) h1 h2
      · rw [if_neg e2] at h2 ⊢; exact h2
    · rw [if_neg e1] at h1
      by_cases e2 : cmpT y z = 0
      · rw [cmp_zero_iff] at e2; subst e2
        rw [if_neg e1]; exact h1
      · rw [if_neg e2] at h2
        have h3 := ih x (by simp) y z (gx x (by simp)) (gy y (by simp)) (gz z (by simp)) h1 h2
        have : ¬ cmpT x z = 0 := fun e => by
          rw [cmp_zero_iff] at e; subst e
          exact abv_irr h3
        rw [if_neg this]; exact h3

/-- What is above what is above is above. -/
theorem abv_trans (A : Adm o ar) : ∀ (s t u : Tm), Gd ar s → Gd ar t → Gd ar u → abvT o s t = true → abvT o t u = true → abvT o s u = true := by
  intro s
  refine Tm.ind (P := fun s => ∀ (t u : Tm), Gd ar s → Gd ar t → Gd ar u → abvT o s t = true → abvT o t u = true → abvT o s u = true) (fun f xs ih t u hs ht hu h1 h2 => ?_) s
  obtain ⟨g, ys⟩ := t
  obtain ⟨k, zs⟩ := u
  rw [abv_iff A hs ht] at h1
  rw [abv_iff A ht hu] at h2
  rw [abv_iff A hs hu]
  refine ⟨fun v hv => Nat.le_trans (h2.cov v hv) (h1.cov v hv), Int.le_trans h2.ge h1.ge, fun he => ?_⟩
  have g1 := h1.ge
  have g2 := h2.ge
  obtain ⟨hf, h3⟩ := h1.eq (by omega)
  obtain ⟨hg, h4⟩ := h2.eq (by omega)
  refine ⟨hf, ?_⟩
  change ¬ f < 0 at hf
  change ¬ g < 0 at hg
  change if g < 0 then arnT f g (.node f xs) = true else if f = g then abvL o xs ys = true else o.prec.getD g.toNat 0 < o.prec.getD f.toNat 0 at h3
  change if k < 0 then arnT g k (.node g ys) = true else if g = k then abvL o ys zs = true else o.prec.getD k.toNat 0 < o.prec.getD g.toNat 0 at h4
  change if k < 0 then arnT f k (.node f xs) = true else if f = k then abvL o xs zs = true else o.prec.getD k.toNat 0 < o.prec.getD f.toNat 0
  rw [if_neg hg] at h3
  by_cases hk : k < 0
  · rw [if_pos hk]
    have h5 : 0 < ofT k (.node f xs) := by
      have h6 := h2.cov k hk
      have h7 := h1.cov k hk
      have h8 : ofT k (.node k zs) = 1 := of_var (t := .node k zs) hu.wf hk
      omega
    exact (arn_of A hk (.node f xs) hs hf (by rw [he]; exact ws_var A hu.wf hk) h5).1
  · rw [if_neg hk] at h4 ⊢
    by_cases e1 : f = g
    · subst e1
      rw [if_pos rfl] at h3
      by_cases e2 : f = k
      · subst e2
        rw [if_pos rfl] at h4 ⊢
        exact abvL_trans A xs ys zs (fun x hx y z gx gy gz => ih x hx y z gx gy gz) (gd_args hs) (gd_args ht) (gd_args hu) h3 h4
      · rw [if_neg e2] at h4 ⊢; exact h4
    · rw [if_neg e1] at h3
      by_cases e2 : g = k
      · subst e2
        rw [if_neg e1]; exact h3
      · rw [if_neg e2] at h4
        have : ¬ f = k := fun e => by subst e; omega
        rw [if_neg this]; omega

theorem abvL_tot : ∀ (xs ys : List Tm), xs.length = ys.length → (∀ x ∈ xs, ∀ y ∈ ys, cmpT x y = 0 ∨ abvT o x y = true ∨ abvT o y x = true) → xs = ys ∨ abvL o xs ys = true ∨ abvL o ys xs = true
  | [], [], _, _ => .inl rfl
  | [], _ :: _, h, _ => by simp at h
  | _ :: _, [], h, _ => by simp at h
  | x :: xs, y :: ys, h, ih => by
    rw [abvL, abvL]
    by_cases e : cmpT x y = 0
    · have e' := e
      rw [cmp_zero_iff] at e'; subst e'
      rw [if_pos e, if_pos e]
      rcases abvL_tot xs ys (by simpa using h) (fun a ha b hb => ih a (by simp [ha]) b (by simp [hb])) with rfl | h1 | h1
      · exact .inl rfl
      · exact .inr (.inl h1)
      · exact .inr (.inr h1)
    · have e' : ¬ cmpT y x = 0 := fun e' => by rw [cmp_zero_iff] at e'; subst e'; exact e (cmp_zero_iff.2 rfl)
      rw [if_neg e, if_neg e']
      rcases ih x (by simp) y (by simp) with h1 | h1 | h1
      · exact absurd h1 e
      · exact .inr (.inl h1)
      · exact .inr (.inr h1)

theorem abv_tot (A : Adm o ar) : ∀ (s t : Tm), Gd ar s → Gd ar t → grd s → grd t → cmpT s t = 0 ∨ abvT o s t = true ∨ abvT o t s = true := by
  intro s
  refine Tm.ind (P := fun s => ∀ t, Gd ar s → Gd ar t → grd s → grd t → cmpT s t = 0 ∨ abvT o s t = true ∨ abvT o t s = true) (fun f xs ih t hs ht gs gt => ?_) s
  obtain ⟨g, ys⟩ := t
  rw [abv_iff A hs ht, abv_iff A ht hs, cmp_zero_iff]
  have hf := grd_top gs
  have hg := grd_top gt
  have c1 : ∀ v, v < 0 → ofT v (.node g ys) ≤ ofT v (.node f xs) := fun v hv => by rw [gt v hv]; omega
  have c2 : ∀ v, v < 0 → ofT v (.node f xs) ≤ ofT v (.node g ys) := fun v hv => by rw [gs v hv]; omega
  by_cases h1 : wsT o (.node f xs) = wsT o (.node g ys)
  · obtain ⟨hf1, hf2⟩ := wf_sym hs.wf hf
    obtain ⟨hg1, hg2⟩ := wf_sym ht.wf hg
    by_cases e : f = g
    · subst e
      rcases abvL_tot (o := o) xs ys (by omega) (fun x hx y hy => ih x hx y (hs.arg hx) (ht.arg hy) (grd_arg gs hx) (grd_arg gt hy)) with rfl | h | h
      · exact .inl rfl
      · refine .inr (.inl ⟨c1, by omega, fun _ => ⟨hf, ?_⟩⟩)
        change if f < 0 then _ else if f = f then abvL o xs ys = true else _
        rw [if_neg hf, if_pos rfl]; exact h
      · refine .inr (.inr ⟨c2, by omega, fun _ => ⟨hf, ?_⟩⟩)
        change if f < 0 then _ else if f = f then abvL o ys xs = true else _
        rw [if_neg hf, if_pos rfl]; exact h
    · have := A.inj f.toNat g.toNat (by omega) (by omega)
      have hne : ¬ o.prec.getD f.toNat 0 = o.prec.getD g.toNat 0 := fun h => e (by have := this h; omega)
      by_cases hlt : o.prec.getD f.toNat 0 < o.prec.getD g.toNat 0
      · refine .inr (.inr ⟨c2, by omega, fun _ => ⟨hg, ?_⟩⟩)
        change if f < 0 then _ else if g = f then _ else o.prec.getD f.toNat 0 < o.prec.getD g.toNat 0
        rw [if_neg hf, if_neg (fun e' => e e'.symm)]; exact hlt
      · refine .inr (.inl ⟨c1, by omega, fun _ => ⟨hf, ?_⟩⟩)
        change if g < 0 then _ else if f = g then _ else o.prec.getD g.toNat 0 < o.prec.getD f.toNat 0
        rw [if_neg hg, if_neg e]; omega
  · by_cases h2 : wsT o (.node f xs) < wsT o (.node g ys)
    · exact .inr (.inr ⟨c2, by omega, fun e => absurd e.symm h1⟩)
    · exact .inr (.inl ⟨c1, by omega, fun e => absurd e h1⟩)

/-- What is above stays above beside others in the same term. -/
theorem wsL_app (o : Odr) : ∀ xs ys : List Tm, wsL o (xs ++ ys) = wsL o xs + wsL o ys
  | [], ys => by rw [List.nil_append, wsL]; omega
  | x :: xs, ys => by rw [List.cons_append, wsL, wsL, wsL_app o xs ys]; omega

theorem abvL_beside {s t : Tm} (hst : abvT o s t = true) : ∀ (l r r' : List Tm), abvL o (l ++ s :: r) (l ++ t :: r') = true
  | [], r, r' => by
    rw [List.nil_append, List.nil_append, abvL]
    have : ¬ cmpT s t = 0 := fun e => by rw [cmp_zero_iff] at e; subst e; exact abv_irr hst
    rw [if_neg this]; exact hst
  | x :: l, r, r' => by
    rw [List.cons_append, List.cons_append, abvL, if_pos (cmp_zero_iff.2 rfl)]
    exact abvL_beside hst l r r'

theorem abv_within (A : Adm o ar) {s t : Tm} {f : Int} {l r : List Tm} (h1 : Gd ar (.node f (l ++ s :: r))) (h2 : Gd ar (.node f (l ++ t :: r))) (hst : abvT o s t = true) : abvT o (.node f (l ++ s :: r)) (.node f (l ++ t :: r)) = true := by
  have hP := (abv_iff A (h1.arg (by simp)) (h2.arg (by simp))).1 hst
  rw [abv_iff A h1 h2]
  have hf : ¬ f < 0 := fun hf => by have := wf_var h1.wf hf; simp at this
  have hge := hP.ge
  refine ⟨fun v hv => ?_, ?_, fun _ => ⟨hf, ?_⟩⟩
  · have := hP.cov v hv
    rw [ofT, ofT, ofL_app, ofL_app, ofL, ofL]; omega
  · rw [wsT, wsT, wsL_app, wsL_app, wsL, wsL]; omega
  · change if f < 0 then _ else if f = f then abvL o (l ++ s :: r) (l ++ t :: r) = true else _
    rw [if_neg hf, if_pos rfl]
    exact abvL_beside hst l r r

end

end Go.Proofs.Ytgjmodclgdkodaa

/- kbo: an order that may be over a signature is admissible. -/

namespace Go.Proofs.Ytgjmodclgdkodaa

open Go.RowKit Go.Shelf Go.Maps
set_option maxRecDepth 100000

theorem chkO_adm {l : List Sm} {o : Odr} (hl : o.lpo = false) (h : chkO l o = 0) : Adm o (arL l) := by
  unfold chkO at h
  by_cases hc : ¬ (checkI l = 0 ∧ rankB o.prec l.length = true ∧ (o.lpo = true ∨ (o.wts.length = l.length ∧ 1 ≤ o.var ∧ o.var ≤ 1000 ∧ o.wts.getD 0 0 = o.var ∧ chkW l o = true)))
  · rw [if_neg hc] at h; cases h
  replace hc := Decidable.not_not.1 hc
  obtain ⟨_, hr, h⟩ := hc
  rcases h with h | ⟨hw, v1, v2, _, hW⟩
  · rw [hl] at h; cases h
  unfold rankB at hr
  rw [Bool.and_eq_true, decide_eq_true_eq, List.all_eq_true] at hr
  have hbad : ∀ i, i < l.length → badR o.prec i = false := fun i hi => by simpa using hr.2 i (List.mem_range.2 hi)
  have hne : ∀ i k, i < l.length → k < i → ¬ o.prec.getD i 0 = o.prec.getD k 0 := fun i k hi hk e => by
    have := hbad i hi
    rw [badR_same hk e] at this; cases this
  have hbw : ∀ i, i < l.length → ∃ s, l[i]? = some s ∧ badX s (o.wts.getD i 0) o.var (highB o.prec i) = false := fun i hi => by
    unfold chkW at hW
    rw [List.all_eq_true] at hW
    have h1 := hW i (List.mem_range.2 hi)
    obtain ⟨s, hs⟩ : ∃ s, l[i]? = some s := ⟨_, List.getElem?_eq_getElem hi⟩
    refine ⟨s, hs, ?_⟩
    unfold badW at h1
    rw [hs] at h1
    simpa using h1
  have hX : ∀ i, i < l.length → ∃ s, l[i]? = some s ∧ 0 ≤ o.wts.getD i 0 ∧ o.wts.getD i 0 ≤ 1000 ∧ (s.arity = 0 → o.var ≤ o.wts.getD i 0) ∧ (s.arity = 1 → o.wts.getD i 0 = 0 → highB o.prec i = true) := fun i hi => by
    obtain ⟨s, hs, hb⟩ := hbw i hi
    unfold badX at hb
    simp only [Bool.or_eq_false_iff, Bool.and_eq_false_iff, decide_eq_false_iff_not, Bool.not_eq_false'] at hb
    obtain ⟨⟨⟨b1, b2⟩, b3⟩, b4⟩ := hb
    refine ⟨s, hs, by omega, by omega, fun h0 => ?_, fun h1 h0 => ?_⟩
    · rcases b3 with b3 | b3
      · exact absurd h0 b3
      · omega
    · rcases b4 with (b4 | b4) | b4
      · exact absurd h1 b4
      · exact absurd h0 b4
      · exact b4
  have hlen := arL_len l
  refine ⟨by rw [hr.1, hlen], by rw [hw, hlen], fun i k hi hk e => ?_, v1, v2, fun i hi => ?_, fun i hi => ?_, fun i hi h0 => ?_, fun i hi h1 h0 k hk hne => ?_⟩
  · rw [hlen] at hi hk
    rcases Nat.lt_trichotomy i k with h | h | h
    · exact absurd e.symm (hne k i hk h)
    · exact h
    · exact absurd e (hne i k hi h)
  · rw [hlen] at hi; obtain ⟨s, _, h1, _⟩ := hX i hi; exact h1
  · rw [hlen] at hi; obtain ⟨s, _, _, h1, _⟩ := hX i hi; exact h1
  · rw [hlen] at hi; obtain ⟨s, hs, _, _, h1, _⟩ := hX i hi
    rw [arL_at hs] at h0
    exact h1 (arN_zero h0)
  · rw [hlen] at hi hk; obtain ⟨s, hs, _, _, _, h2⟩ := hX i hi
    rw [arL_at hs] at h1
    have hh := h2 (arN_one h1) h0
    unfold highB at hh
    rw [List.all_eq_true] at hh
    have := hh k (List.mem_range.2 (by rw [hr.1]; exact hk))
    unfold overI at this
    intro hlt
    rw [decide_eq_true hne, decide_eq_true hlt] at this
    cases this

end Go.Proofs.Ytgjmodclgdkodaa

/- kbo: the answers, in every world behind one; what they are, plain. -/

namespace Go.Proofs.Ytgjmodclgdkodaa

open Go.RowKit Go.Shelf Go.Maps
set_option maxRecDepth 100000

/-- The program's answers, in every world behind W. -/
theorem kboCmp_at {W : World} {o : Odr} {s t : Tm} {P Q A A2 : Option Addr} {pc qc c c2 : Nat} (hM : OdrM W W.heap.size o P Q) (hs : TmK W s A c) (ht : TmK W t A2 c2) (hz : s.size + t.size ≤ 1073741824) : ∀ w1, Below W.heap.size W w1 →
    Calls Try.prog 33 #[.agg #[.bool o.lpo, .slice P o.prec.length pc, .slice Q o.wts.length qc, .int .i64 o.var], .agg #[.int .i64 s.fn, .slice A s.args.length c], .agg #[.int .i64 t.fn, .slice A2 t.args.length c2]] w1 fun e w' => e = .returned (.int .i64 (cmpR o s t)) ∧ Below w1.heap.size w1 w' := fun w1 hb => by
  have := kboCmp_any o s t P Q A A2 pc qc c c2 w1 (hM.on hb) hs.i64 ht.i64 hz (hs.on hb).args (ht.on hb).args
  rwa [cmpO_eq] at this

section

variable {o : Odr} {ar : List Nat} {s t u : Tm}

theorem cmpR_gd (K : Adm o ar) (hs : Gd ar s) (ht : Gd ar t) : cmpR o s t = if cmpT s t = 0 then 2 else if abvT o s t then 3 else if abvT o t s then 1 else 0 := by
  unfold cmpR; rw [K.know s hs.wf, K.know t ht.wf]; rfl

theorem cmpR_two (K : Adm o ar) (hs : Gd ar s) (ht : Gd ar t) : cmpR o s t = 2 ↔ cmpT s t = 0 := by
  rw [cmpR_gd K hs ht]
  by_cases h : cmpT s t = 0
  · simp [h]
  · simp only [h, if_false]
    constructor
    · intro e; split at e <;> (try split at e) <;> cases e
    · intro e; exact e.elim

theorem cmpR_three (K : Adm o ar) (hs : Gd ar s) (ht : Gd ar t) : cmpR o s t = 3 ↔ abvT o s t = true := by
  rw [cmpR_gd K hs ht]
  by_cases h : cmpT s t = 0
  · have : s = t := cmp_zero_iff.1 h
    subst this
    simp only [h, if_true]
    constructor
    · intro e; cases e
    · intro e; exact absurd e abv_irr
  · simp only [h, if_false]
    cases h1 : abvT o s t
    · simp only [Bool.false_eq_true, if_false, iff_false]
      split <;> decide
    · simp

theorem cmpR_self (K : Adm o ar) (hs : Gd ar s) : cmpR o s s = 2 := (cmpR_two K hs hs).2 (cmp_zero_iff.2 rfl)

theorem cmpR_turn (K : Adm o ar) (hs : Gd ar s) (ht : Gd ar t) : cmpR o t s = turnI (cmpR o s t) := by
  rw [cmpR_gd K hs ht, cmpR_gd K ht hs]
  by_cases h : cmpT s t = 0
  · have : s = t := cmp_zero_iff.1 h
    subst this
    simp [h, turnI]
  · have h' : ¬ cmpT t s = 0 := fun e => by
      rw [cmp_zero_iff] at e; subst e; exact h (cmp_zero_iff.2 rfl)
    rw [if_neg h, if_neg h']
    cases h1 : abvT o s t
    · cases h2 : abvT o t s <;> simp [turnI]
    · rw [abv_asym s t h1]; simp [turnI]

theorem cmpR_trans (K : Adm o ar) (hs : Gd ar s) (ht : Gd ar t) (hu : Gd ar u) (h1 : cmpR o s t = 3) (h2 : cmpR o t u = 3) : cmpR o s u = 3 :=
  (cmpR_three K hs hu).2 (abv_trans K s t u hs ht hu ((cmpR_three K hs ht).1 h1) ((cmpR_three K ht hu).1 h2))

end

end Go.Proofs.Ytgjmodclgdkodaa

