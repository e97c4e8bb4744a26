import Derived.Test.YtgjmodclgdkodaaP40Z1
import Derived.Test.YtgjmodclgdkodaaP40Z19
import Derived.Test.YtgjmodclgdkodaaP40Z4
import Derived.Test.YtgjmodclgdkodaaP40Z11
import Derived.Test.YtgjmodclgdkodaaP40Z12
import Derived.Test.YtgjmodclgdkodaaP40Z20
import Derived.Deep.RegionLaw
import Derived.Test.YtgjmodclgdkodaaP40Z2
/- What a substitution makes of a term, plain. -/

namespace Go.Proofs.Ytgjmodclgdkodaa

open Go.RowKit Go.Shelf
set_option maxRecDepth 100000

theorem found_i64 {l : List Bd} {v : Int} {x : Bd} {w : World} {N : Nat → Prop} {A : Option Addr} (hB : Binds w N A l) (h : findB l v = some x) : I64 x.t.fn := by
  obtain ⟨i, hi⟩ := List.mem_iff_getElem?.1 (List.mem_of_find?_eq_some h)
  obtain ⟨_, _, _, _, _, hat⟩ := hB.get hi
  exact hat.it

theorem appT_bound {l : List Bd} {f : Int} {xs : List Tm} {x : Bd} (hf : f < 0) (h : findB l (-1 - f) = some x) : appT (bdT l) (.node f xs) = x.t := by
  simp only [appT, if_pos hf, bdT, h, Option.map_some, Option.getD_some]

theorem appT_free {l : List Bd} {f : Int} {xs : List Tm} (h : ¬ f < 0 ∨ findB l (-1 - f) = none) : appT (bdT l) (.node f xs) = .node f (xs.map (appT (bdT l))) := by
  rw [← appL_eq]
  rcases h with h | h
  · simp only [appT, if_neg h, Option.getD_none]
  · simp only [appT, bdT, h, Option.map_none]
    split <;> rfl

theorem appT_fn64 {l : List Bd} {w : World} {N : Nat → Prop} {A : Option Addr} (hB : Binds w N A l) {t : Tm} (hf : I64 t.fn) : I64 (appT (bdT l) t).fn := by
  obtain ⟨f, xs⟩ := t
  by_cases h : f < 0
  · rcases hx : findB l (-1 - f) with _ | x
    · rw [appT_free (.inr hx)]; exact hf
    · rw [appT_bound h hx]; exact found_i64 hB hx
  · rw [appT_free (.inl h)]; exact hf

theorem appT_args {l : List Bd} (hsm : ∀ x ∈ l, x.t.size ≤ 4398046511104) {t : Tm} (ht : t.args.length ≤ 9223372036854775807) : (appT (bdT l) t).args.length ≤ 9223372036854775807 := by
  obtain ⟨f, xs⟩ := t
  by_cases h : f < 0
  · rcases hx : findB l (-1 - f) with _ | x
    · rw [appT_free (.inr hx)]; simpa [Tm.args] using ht
    · rw [appT_bound h hx]
      have h1 := hsm x (List.mem_of_find?_eq_some hx)
      rcases hxt : x.t with ⟨g, ys⟩
      rw [hxt] at h1
      have := sizes_len ys
      simp only [Tm.args, Tm.size] at h1 ⊢
      omega
  · rw [appT_free (.inl h)]; simpa [Tm.args] using ht

end Go.Proofs.Ytgjmodclgdkodaa

/- order: a literal that is put into. -/

namespace Go.Proofs.Ytgjmodclgdkodaa

open Go.RowKit Go.Shelf
set_option maxRecDepth 20000

/-- A literal that is put into. -/
def Li.app (s : List Bd) (x : Li) : Li := ⟨x.neg, appT (bdT s) x.l, appT (bdT s) x.r⟩

theorem Li.app_mb (s : List Bd) (x : Li) : (x.app s).mb = x.mb.map (List.map (appT (bdT s))) := by
  unfold Li.app Li.mb membs
  cases x.neg <;> rfl

end Go.Proofs.Ytgjmodclgdkodaa

/- terms put in for variables, plain -/

namespace Go.Proofs.Ytgjmodclgdkodaa

open Go.RowKit
set_option maxRecDepth 20000
set_option maxRecDepth 20000

/-- A term with the rows' terms put in for its variables. -/
def valT (l : List Tm) (f : Int) : Tm := if -1 - f < (l.length : Int) then l.getD (-1 - f).toNat (.node f []) else .node f []

mutual
def psT (l : List Tm) : Tm → Tm
  | .node f xs => if f < 0 then (if -1 - f < (l.length : Int) then l.getD (-1 - f).toNat (.node f []) else .node f xs) else .node f (psL l xs)
def psL (l : List Tm) : List Tm → List Tm
  | [] => []
  | t :: ts => psT l t :: psL l ts
end

theorem psT_var {ar : List Nat} {l : List Tm} {t : Tm} (hw : wfT ar t = true) (hv : t.fn < 0) : psT l t = valT l t.fn := by
  obtain ⟨f, xs⟩ := t
  change f < 0 at hv
  rw [wf_var hw hv, psT, if_pos hv]; rfl

theorem psT_sym {l : List Tm} {f : Int} {xs : List Tm} (hf : ¬ f < 0) : psT l (.node f xs) = .node f (psL l xs) := by rw [psT, if_neg hf]

theorem psL_mem {l : List Tm} : ∀ {xs : List Tm} {x : Tm}, x ∈ xs → psT l x ∈ psL l xs
  | [], _, h => by simp at h
  | y :: ys, x, h => by
    rw [psL]
    rcases List.mem_cons.1 h with rfl | h
    · simp
    · exact List.mem_cons_of_mem _ (psL_mem h)

end Go.Proofs.Ytgjmodclgdkodaa

/- kbo: what is above stays above under what is put in: plain. -/

namespace Go.Proofs.Ytgjmodclgdkodaa

open Go.RowKit
set_option maxRecDepth 20000

mutual
def vlT : Tm → List Int
  | .node f xs => if f < 0 then [f] else vlL xs
def vlL : List Tm → List Int
  | [] => []
  | t :: ts => vlT t ++ vlL ts
end

def sumM (m : Int → Nat) : List Int → Nat
  | [] => 0
  | x :: xs => m x + sumM m xs

theorem sumM_app (m : Int → Nat) : ∀ xs ys, sumM m (xs ++ ys) = sumM m xs + sumM m ys
  | [], ys => by simp [sumM]
  | x :: xs, ys => by rw [List.cons_append, sumM, sumM, sumM_app m xs ys]; omega

theorem sumM_perm {m : Int → Nat} {xs ys : List Int} (h : xs.Perm ys) : sumM m xs = sumM m ys := by
  induction h with
  | nil => rfl
  | cons x _ ih => rw [sumM, sumM, ih]
  | swap x y l => rw [sumM, sumM, sumM, sumM]; omega
  | trans _ _ ih1 ih2 => rw [ih1, ih2]

theorem sumM_le (m : Int → Nat) : ∀ (xs ys : List Int), (∀ v ∈ xs, xs.count v ≤ ys.count v) → sumM m xs ≤ sumM m ys
  | [], _, _ => by rw [sumM]; omega
  | x :: xs, ys, h => by
    have hx : x ∈ ys := by
      have := h x (by simp)
      rw [List.count_cons_self] at this
      exact List.count_pos_iff.1 (by omega)
    rw [sumM, sumM_perm (List.perm_cons_erase hx), sumM]
    have := sumM_le m xs (ys.erase x) fun v hv => by
      have h1 := h v (by simp [hv])
      rw [List.count_cons] at h1
      rw [List.count_erase]
      by_cases e : x = v
      · subst e; simp at h1 ⊢; omega
      · have e1 : (x == v) = false := by rw [beq_eq_false_iff_ne]; exact e
        rw [e1] at h1 ⊢
        simp at h1 ⊢; exact h1
    omega

section

variable {o : Odr} {ar : List Nat} {l : List Tm}

mutual
theorem vl_neg : ∀ t : Tm, ∀ v ∈ vlT t, v < 0
  | .node f xs, v, h => by
    rw [vlT] at h
    by_cases hf : f < 0
    · rw [if_pos hf] at h; simp at h; omega
    · rw [if_neg hf] at h; exact vlL_neg xs v h
theorem vlL_neg : ∀ xs : List Tm, ∀ v ∈ vlL xs, v < 0
  | [], v, h => by rw [vlL] at h; simp at h
  | x :: xs, v, h => by
    rw [vlL] at h
    rcases List.mem_append.1 h with h | h
    · exact vl_neg x v h
    · exact vlL_neg xs v h
end

mutual
theorem vl_count {v : Int} (hv : v < 0) : ∀ t : Tm, wfT ar t = true → (vlT t).count v = ofT v t
  | .node f xs, h => by
    rw [vlT, ofT]
    by_cases hf : f < 0
    · rw [if_pos hf, wf_var h hf, ofL, List.count_cons, List.count_nil]
      by_cases e : f = v
      · simp [e]
      · have e1 : (f == v) = false := by rw [beq_eq_false_iff_ne]; exact e
        rw [e1, if_neg e]; rfl
    · rw [if_neg hf, if_neg (by omega), vlL_count hv xs (wf_args h)]; omega
theorem vlL_count {v : Int} (hv : v < 0) : ∀ xs : List Tm, wfL ar xs = true → (vlL xs).count v = ofL v xs
  | [], _ => by rw [vlL, ofL]; rfl
  | x :: xs, h => by
    rw [wfL, Bool.and_eq_true] at h
    rw [vlL, ofL, List.count_append, vl_count hv x h.1, vlL_count hv xs h.2]
end

mutual
theorem of_put {v : Int} (hv : v < 0) : ∀ t : Tm, wfT ar t = true → ofT v (psT l t) = sumM (fun x => ofT v (valT l x)) (vlT t)
  | .node f xs, h => by
    rw [vlT]
    by_cases hf : f < 0
    · rw [if_pos hf, psT_var h hf, sumM, sumM]; rfl
    · rw [if_neg hf, psT_sym hf, ofT, if_neg (by omega), ofL_put hv xs (wf_args h)]; omega
theorem ofL_put {v : Int} (hv : v < 0) : ∀ xs : List Tm, wfL ar xs = true → ofL v (psL l xs) = sumM (fun x => ofT v (valT l x)) (vlL xs)
  | [], _ => by rw [psL, vlL, ofL, sumM]
  | x :: xs, h => by
    rw [wfL, Bool.and_eq_true] at h
    rw [psL, vlL, ofL, sumM_app, of_put hv x h.1, ofL_put hv xs h.2]
end

mutual
theorem ws_put (A : Adm o ar) : ∀ t : Tm, wfT ar t = true → wfT ar (psT l t) = true → wsT o (psT l t) = wsT o t + (sumM (fun x => (wsT o (valT l x) - o.var).toNat) (vlT t) : Int)
  | .node f xs, h, h2 => by
    rw [vlT]
    by_cases hf : f < 0
    · rw [if_pos hf]
      rw [psT_var h hf] at h2 ⊢
      have h3 := A.ws_ge _ h2
      have h4 : wsT o (.node f xs) = o.var := ws_var A h hf
      rw [h4, sumM, sumM]
      change wsT o (valT l f) = _
      change o.var ≤ wsT o (valT l f) at h3
      omega
    · rw [if_neg hf]
      rw [psT_sym hf] at h2 ⊢
      rw [wsT, wsT, wsL_put A xs (wf_args h) (wf_args h2)]; omega
theorem wsL_put (A : Adm o ar) : ∀ xs : List Tm, wfL ar xs = true → wfL ar (psL l xs) = true → wsL o (psL l xs) = wsL o xs + (sumM (fun x => (wsT o (valT l x) - o.var).toNat) (vlL xs) : Int)
  | [], _, _ => by rw [psL, vlL, wsL, sumM]; rfl
  | x :: xs, h, h2 => by
    rw [wfL, Bool.and_eq_true] at h
    rw [psL, wfL, Bool.and_eq_true] at h2
    rw [psL, vlL, wsL, wsL, sumM_app, ws_put A x h.1 h2.1, wsL_put A xs h.2 h2.2]; omega
end

theorem arn_put (A : Adm o ar) {f v : Int} (hf : ¬ f < 0) (hv : v < 0) : ∀ s : Tm, Gd ar s → Gd ar (psT l s) → arnT f v s = true → abvT o (psT l s) (valT l v) = true := by
  refine Tm.ind fun g xs ih hs hp ha => ?_
  by_cases h1 : xs.length = 1
  · match xs, h1, ih, hs, hp, ha with
    | [x], _, ih, hs, hp, ha =>
      rw [arnT_one, Bool.and_eq_true, beq_iff_eq, Bool.or_eq_true, beq_iff_eq] at ha
      obtain ⟨rfl, ha⟩ := ha
      rw [psT_sym hf] at hp ⊢
      have hx := hs.arg (x := x) (by simp)
      have hpx := hp.arg (psL_mem (l := l) (x := x) (xs := [x]) (by simp))
      have h2 := abv_arg A _ g _ hp (psL_mem (l := l) (x := x) (xs := [x]) (by simp))
      by_cases e : x.fn = v
      · rw [psT_var hx.wf (by omega), e] at h2
        exact h2
      · rcases ha with ha | ha
        · exact absurd ha e
        · have h3 := ih x (by simp) hx hpx ha
          have hval : Gd ar (valT l v) := by
            have hend : ∀ s : Tm, Gd ar s → Gd ar (psT l s) → arnT g v s = true → Gd ar (valT l v) := by
              refine Tm.ind fun g' xs' ih' hs' hp' ha' => ?_
              by_cases h1' : xs'.length = 1
              · match xs', h1', ih', hs', hp', ha' with
                | [x'], _, ih', hs', hp', ha' =>
                  rw [arnT_one, Bool.and_eq_true, beq_iff_eq, Bool.or_eq_true, beq_iff_eq] at ha'
                  obtain ⟨rfl, ha'⟩ := ha'
                  rw [psT_sym hf] at hp'
                  have hx' := hs'.arg (x := x') (by simp)
                  have hpx' := hp'.arg (psL_mem (l := l) (x := x') (xs := [x']) (by simp))
                  by_cases e' : x'.fn = v
                  · rw [psT_var hx'.wf (by omega), e'] at hpx'
                    exact hpx'
                  · rcases ha' with ha' | ha'
                    · exact absurd ha' e'
                    · exact ih' x' (by simp) hx' hpx' ha'
              · rw [arnT_no (t := .node g' xs') h1'] at ha'; cases ha'
            exact hend x hx hpx ha
          exact abv_trans A _ _ _ hp hpx hval h2 h3
  · rw [arnT_no (t := .node g xs) h1] at ha; cases ha

theorem abvL_put : ∀ (xs ys : List Tm), (∀ x ∈ xs, ∀ y ∈ ys, abvT o x y = true → abvT o (psT l x) (psT l y) = true) → abvL o xs ys = true → abvL o (psL l xs) (psL l ys) = true
  | [], _, _, h => by rw [abvL] at h; cases h
  | _ :: _, [], _, _ => by rw [psL, psL, abvL]
  | x :: xs, y :: ys, ih, h => by
    rw [abvL] at h
    rw [psL, psL, abvL]
    by_cases e : cmpT x y = 0
    · rw [if_pos e] at h
      rw [cmp_zero_iff] at e; subst e
      rw [if_pos (cmp_zero_iff.2 rfl)]
      exact abvL_put xs ys (fun a ha b hb => ih a (by simp [ha]) b (by simp [hb])) h
    · rw [if_neg e] at h
      have h3 := ih x (by simp) y (by simp) h
      have : ¬ cmpT (psT l x) (psT l y) = 0 := fun e => by
        rw [cmp_zero_iff] at e
        rw [e] at h3
        exact abv_irr h3
      rw [if_neg this]; exact h3

/-- What is above stays above, whatever is put in. -/
theorem abv_put (A : Adm o ar) : ∀ (s t : Tm), Gd ar s → Gd ar t → Gd ar (psT l s) → Gd ar (psT l t) → abvT o s t = true → abvT o (psT l s) (psT l t) = true := by
  intro s
  refine Tm.ind (P := fun s => ∀ t, Gd ar s → Gd ar t → Gd ar (psT l s) → Gd ar (psT l t) → abvT o s t = true → abvT o (psT l s) (psT l t) = true) (fun f xs ih t hs ht ps pt h => ?_) s
  have hP := (abv_iff A hs ht).1 h
  have hcnt : ∀ m : Int → Nat, sumM m (vlT t) ≤ sumM m (vlT (.node f xs)) := fun m => sumM_le m _ _ fun v hv => by
    have hn := vl_neg t v hv
    rw [vl_count hn t ht.wf, vl_count hn _ hs.wf]
    exact hP.cov v hn
  have w1 := ws_put (l := l) A _ hs.wf ps.wf
  have w2 := ws_put (l := l) A _ ht.wf pt.wf
  have w3 := hcnt fun x => (wsT o (valT l x) - o.var).toNat
  have hge := hP.ge
  by_cases he : wsT o (.node f xs) = wsT o t ∧ t.fn < 0
  · obtain ⟨hf, h4⟩ := hP.eq he.1
    rw [if_pos he.2] at h4
    rw [psT_var ht.wf he.2]
    exact arn_put A hf he.2 _ hs ps h4
  · rw [abv_iff A ps pt]
    refine ⟨fun v hv => ?_, by omega, fun e => ?_⟩
    · rw [of_put hv t ht.wf, of_put hv _ hs.wf]
      exact hcnt _
    · have heq : wsT o (.node f xs) = wsT o t := by omega
      have hg : ¬ t.fn < 0 := fun hg => he ⟨heq, hg⟩
      obtain ⟨hf, h4⟩ := hP.eq heq
      change ¬ f < 0 at hf
      rw [if_neg hg] at h4
      obtain ⟨g, ys⟩ := t
      change ¬ g < 0 at hg
      change if f = g then abvL o xs ys = true else o.prec.getD g.toNat 0 < o.prec.getD f.toNat 0 at h4
      rw [psT_sym hf] at ps ⊢
      rw [psT_sym hg] at pt ⊢
      refine ⟨hf, ?_⟩
      change if g < 0 then _ else if f = g then abvL o (psL l xs) (psL l ys) = true else o.prec.getD g.toNat 0 < o.prec.getD f.toNat 0
      rw [if_neg hg]
      by_cases e1 : f = g
      · rw [if_pos e1] at h4 ⊢
        exact abvL_put xs ys (fun x hx y hy hxy => ih x hx y (hs.arg hx) (ht.arg hy) (ps.arg (psL_mem hx)) (pt.arg (psL_mem hy)) hxy) h4
      · rw [if_neg e1] at h4 ⊢; exact h4

end

end Go.Proofs.Ytgjmodclgdkodaa

/- lpo: kept under what is put in: plain. -/

namespace Go.Proofs.Ytgjmodclgdkodaa

open Go.RowKit
set_option maxRecDepth 20000

section

variable {p : List Int} {l : List Tm}

theorem psT_var' {t : Tm} (hw : vnT t = true) (hv : t.fn < 0) : psT l t = valT l t.fn := by
  obtain ⟨f, xs⟩ := t
  have := vn_var hw hv
  injection this with _ h
  subst h
  change f < 0 at hv
  rw [psT, if_pos hv]; rfl

theorem psL_inv {y' : Tm} : ∀ {ys : List Tm}, y' ∈ psL l ys → ∃ y ∈ ys, psT l y = y'
  | [], h => by simp [psL] at h
  | y :: ys, h => by
    rw [psL] at h
    rcases List.mem_cons.1 h with rfl | h
    · exact ⟨y, by simp, rfl⟩
    · obtain ⟨z, hz, e⟩ := psL_inv h
      exact ⟨z, by simp [hz], e⟩

theorem lp_putvar {v : Int} (hv : v < 0) : ∀ s : Tm, vnT s = true → vnT (psT l s) = true → ¬ s.fn < 0 → 0 < ofT v s → lpT p (psT l s) (valT l v) = true := by
  refine Tm.ind fun f xs ih hs hp hf ho => ?_
  change ¬ f < 0 at hf
  rw [ofT, if_neg (by omega)] at ho
  obtain ⟨x, hx, hox⟩ := of_mem (v := v) (xs := xs) (by omega)
  have hsx := vn_args hs hx
  rw [psT_sym hf] at hp ⊢
  have hm := psL_mem (l := l) hx
  by_cases hxf : x.fn < 0
  · have hxv : x.fn = v := by
      rw [vn_var hsx hxf, ofT, ofL] at hox
      by_cases e : x.fn = v
      · exact e
      · rw [if_neg e] at hox; omega
    refine lp_sub hp hm (.inl ?_)
    rw [psT_var' hsx hxf, hxv]
  · exact lp_sub hp hm (.inr (ih x hx hsx (vn_args hp hm) hxf hox))

theorem lexB_put {A B : Tm → Tm → Bool} : ∀ (xs ys : List Tm), (∀ x ∈ xs, ∀ y ∈ ys, A x y = true → B (psT l x) (psT l y) = true) → lexB A xs ys = true → lexB B (psL l xs) (psL l ys) = true
  | [], _, _, h => by rw [lexB] at h; cases h
  | _ :: _, [], _, _ => by rw [psL, psL, lexB]
  | x :: xs, y :: ys, ih, h => by
    rw [lexB, Bool.or_eq_true, Bool.and_eq_true, decide_eq_true_eq, cmp_zero_iff] at h
    rw [psL, psL, lexB, Bool.or_eq_true, Bool.and_eq_true, decide_eq_true_eq, cmp_zero_iff]
    rcases h with h | ⟨rfl, h⟩
    · exact .inl (ih x (by simp) y (by simp) h)
    · exact .inr ⟨rfl, lexB_put xs ys (fun a ha b hb => ih a (by simp [ha]) b (by simp [hb])) h⟩

/-- What is above stays above, whatever is put in. -/
theorem lp_put : ∀ (n : Nat) (s t : Tm), s.size + t.size ≤ n → vnT s = true → vnT t = true → vnT (psT l s) = true → vnT (psT l t) = true → lpT p s t = true → lpT p (psT l s) (psT l t) = true
  | 0, s, _, h, _, _, _, _, _ => by have := size_pos s; omega
  | n + 1, .node f xs, t, hn, hs, ht, ps, pt, h => by
    obtain ⟨hf, r⟩ := lp_iff.1 h
    have e1 := psT_sym (l := l) (xs := xs) hf
    have deep : ¬ t.fn < 0 → (∀ y ∈ t.args, lpT p (.node f xs) y = true) → ∃ ys, psT l t = .node t.fn (psL l ys) ∧ t.args = ys ∧ ∀ y ∈ psL l ys, lpT p (psT l (.node f xs)) y = true := fun htn ha => by
      obtain ⟨g, ys⟩ := t
      change ¬ g < 0 at htn
      refine ⟨ys, psT_sym htn, rfl, fun y' hy' => ?_⟩
      obtain ⟨y, hy, rfl⟩ := psL_inv hy'
      rw [psT_sym htn] at pt
      exact lp_put n _ y (by have := size_arg (f := g) hy; omega) hs (vn_args ht hy) ps (vn_args pt hy') (ha y hy)
    cases r with
    | var h ho =>
      rw [psT_var' ht h]
      exact lp_putvar h _ hs ps hf ho
    | sub x hx h =>
      rw [e1] at ps ⊢
      have hm := psL_mem (l := l) hx
      refine lp_sub ps hm ?_
      rcases h with rfl | h
      · exact .inl rfl
      · exact .inr (lp_put n x t (by have := size_arg (f := f) hx; omega) (vn_args hs hx) ht (vn_args ps hm) pt h)
    | rank htn ha hr =>
      obtain ⟨ys, e2, e3, hall⟩ := deep htn ha
      rw [e2, e1]
      rw [e1] at hall
      exact lp_iff.2 ⟨hf, .rank htn hall hr⟩
    | lex htn ha he hl =>
      obtain ⟨ys, e2, e3, hall⟩ := deep htn ha
      rw [e2] at pt ⊢
      rw [e1] at ps ⊢
      rw [e1] at hall
      rw [e3] at hl
      refine lp_iff.2 ⟨hf, .lex htn hall he (lexB_put xs ys (fun x hx y hy hxy => ?_) hl)⟩
      have hyt : y ∈ t.args := by rw [e3]; exact hy
      exact lp_put n x y (by have := size_arg (f := f) hx; have := size_args hyt; omega) (vn_args hs hx) (vn_arg ht hyt) (vn_args ps (psL_mem hx)) (vn_args pt (psL_mem hy)) hxy

end

end Go.Proofs.Ytgjmodclgdkodaa

/- order: what is put in leaves above as it is: plain. -/

namespace Go.Proofs.Ytgjmodclgdkodaa

open Go.RowKit Go.Shelf
set_option maxRecDepth 20000

section

variable {α : Type} {rel : α → α → Int} {D D' : α → Prop}

theorem strike_cnt2 (h : OrdOn rel D') {f : α → α} (hfD : ∀ x, D x → D' (f x)) (hf : ∀ x y, D x → D y → rel x y = 2 → rel (f x) (f y) = 2) {a z : α} (ha : D a) (hz : D' z) :
    ∀ {l l' : List α}, (∀ x ∈ l, D x) → strike rel a l = some l' → cntM rel z (l.map f) = cntM rel z (l'.map f) + if rel z (f a) = 2 then 1 else 0
  | [], l', _, e => by simp [strike] at e
  | y :: l, l', hl, e => by
    have hy := hl y (by simp)
    unfold strike at e
    split at e
    · rename_i e2
      simp only [Option.some.injEq] at e; subst e
      rw [List.map_cons, cnt_cons, h.congR (hfD a ha) (hfD y hy) hz (hf a y ha hy e2)]
    · simp only [Option.map_eq_some_iff] at e
      obtain ⟨l2, e2, rfl⟩ := e
      rw [List.map_cons, List.map_cons, cnt_cons, cnt_cons, strike_cnt2 h hfD hf ha hz (fun x hx => hl x (by simp [hx])) e2]
      omega

theorem left_cnt2 (h : OrdOn rel D') {f : α → α} (hfD : ∀ x, D x → D' (f x)) (hf : ∀ x y, D x → D y → rel x y = 2 → rel (f x) (f y) = 2) {z : α} (hz : D' z) :
    ∀ (m n : List α), (∀ x ∈ m, D x) → (∀ x ∈ n, D x) → cntM rel z (m.map f) + cntM rel z ((leftM rel m n).2.map f) = cntM rel z (n.map f) + cntM rel z ((leftM rel m n).1.map f)
  | [], n, _, _ => by simp [leftM, cnt_nil]
  | a :: m, n, hm, hn => by
    have ha := hm a (by simp)
    have hm' : ∀ x ∈ m, D x := fun x hx => hm x (by simp [hx])
    unfold leftM
    split
    · rename_i n' e
      have ih := left_cnt2 h hfD hf hz m n' hm' (fun x hx => hn x (strike_sub e x hx))
      have := strike_cnt2 h hfD hf ha hz hn e
      rw [List.map_cons, cnt_cons]
      omega
    · have ih := left_cnt2 h hfD hf hz m n hm' hn
      simp only [List.map_cons, cnt_cons]
      omega

/-- What keeps the members as they stand keeps multisets: of members of D; what becomes of them is of D'. -/
theorem mul_map2 (h : OrdOn rel D) (h' : OrdOn rel D') {f : α → α} (hfD : ∀ x, D x → D' (f x)) (hf : ∀ x y, D x → D y → rel x y = 2 → rel (f x) (f y) = 2) (hf3 : ∀ x y, D x → D y → rel x y = 3 → rel (f x) (f y) = 3) {m n : List α} (hm : ∀ x ∈ m, D x) (hn : ∀ x ∈ n, D x) :
    (mulR rel m n = 2 → mulR rel (m.map f) (n.map f) = 2) ∧ (mulR rel m n = 3 → mulR rel (m.map f) (n.map f) = 3) := by
  have hmf : ∀ x ∈ m.map f, D' x := fun x hx => by obtain ⟨y, hy, rfl⟩ := List.mem_map.1 hx; exact hfD y (hm y hy)
  have hnf : ∀ x ∈ n.map f, D' x := fun x hx => by obtain ⟨y, hy, rfl⟩ := List.mem_map.1 hx; exact hfD y (hn y hy)
  have hcn := fun z hz => left_cnt2 h' hfD hf (z := z) hz m n hm hn
  have hr := fun x hx => hm x ((left_sub (rel := rel) m n).1 x hx)
  have hc := fun x hx => hn x ((left_sub (rel := rel) m n).2 x hx)
  constructor
  · intro e
    obtain ⟨h1, h2⟩ := (left_empty h hm hn).2 ((mul_two h hm hn).1 e)
    refine (mul_two h' hmf hnf).2 fun z hz => ?_
    have := hcn z hz
    rw [h1, h2] at this
    simpa [cnt_nil] using this
  · intro e
    have hne : ¬ ((leftM rel m n).1 = [] ∧ (leftM rel m n).2 = []) := fun he => by
      rw [(mul_two h hm hn).2 ((left_empty h hm hn).1 he)] at e; cases e
    have hg := (left_gt h hm hn hne).2 ((mul_three h hm hn).1 e)
    have hrf : ∀ x ∈ (leftM rel m n).1.map f, D' x := fun x hx => by obtain ⟨y, hy, rfl⟩ := List.mem_map.1 hx; exact hfD y (hr y hy)
    have hcf : ∀ x ∈ (leftM rel m n).2.map f, D' x := fun x hx => by obtain ⟨y, hy, rfl⟩ := List.mem_map.1 hx; exact hfD y (hc y hy)
    have key : ∀ u, D' u → 0 < cntM rel u ((leftM rel m n).1.map f) → (∀ y, D' y → rel y u = 3 → ¬ 0 < cntM rel y ((leftM rel m n).1.map f)) → cntM rel u (n.map f) < cntM rel u (m.map f) := by
      intro u hu hpos hmx
      have hk := hcn u hu
      refine Classical.byContradiction fun hno => ?_
      obtain ⟨y', hy', e2⟩ := cnt_pos.1 (show 0 < cntM rel u ((leftM rel m n).2.map f) by omega)
      obtain ⟨y, hy, rfl⟩ := List.mem_map.1 hy'
      obtain ⟨x, hx, e3⟩ := hg y hy
      have e4 := hf3 x y (hr x hx) (hc y hy) e3
      have hDx := hfD x (hr x hx)
      refine hmx (f x) hDx (by rw [h'.congR hu (hcf _ hy') hDx e2]; exact e4) (cnt_pos.2 ⟨f x, List.mem_map.2 ⟨x, hx, rfl⟩, h'.self hDx⟩)
    have hrne : (leftM rel m n).1 ≠ [] := by
      intro he
      cases hcc : (leftM rel m n).2 with
      | nil => exact hne ⟨he, hcc⟩
      | cons y c =>
        obtain ⟨x, hx, _⟩ := hg y (by rw [hcc]; simp)
        rw [he] at hx; simp at hx
    refine (mul_three h' hmf hnf).2 ⟨?_, fun y hy hlt => ?_⟩
    · obtain ⟨x, hx⟩ := List.exists_mem_of_ne_nil _ hrne
      have hDx := hfD x (hr x hx)
      obtain ⟨u, hu, hS, hmx⟩ := maxS h' (S := fun u => 0 < cntM rel u ((leftM rel m n).1.map f)) hrf (fun _ _ h => h) (fun x y hx hy e hS => by rwa [← cnt_cong h' hx hy hrf e])
        ⟨f x, hDx, cnt_pos.2 ⟨f x, List.mem_map.2 ⟨x, hx, rfl⟩, h'.self hDx⟩⟩
      have := key u hu hS fun y hy e3 hp => hmx y hy hp e3
      exact ⟨u, hu, by omega⟩
    · have hk := hcn y hy
      obtain ⟨y', hy', e2⟩ := cnt_pos.1 (show 0 < cntM rel y ((leftM rel m n).2.map f) by omega)
      obtain ⟨y0, hy0, rfl⟩ := List.mem_map.1 hy'
      obtain ⟨x, hx, e3⟩ := hg y0 hy0
      have hDx := hfD x (hr x hx)
      have e4 := hf3 x y0 (hr x hx) (hc y0 hy0) e3
      have e5 : rel (f x) y = 3 := by rw [h'.congR hy (hcf _ hy') hDx e2]; exact e4
      obtain ⟨u, hu, ⟨e6, hS⟩, hmx⟩ := maxS h' (S := fun u => rel u y = 3 ∧ 0 < cntM rel u ((leftM rel m n).1.map f)) hrf (fun _ _ h => h.2)
        (fun x x' hx hx' e hS => by rw [← cnt_cong h' hx hx' hrf e, ← h'.cong hx hx' hy e]; exact hS)
        ⟨f x, hDx, e5, cnt_pos.2 ⟨f x, List.mem_map.2 ⟨x, hx, rfl⟩, h'.self hDx⟩⟩
      exact ⟨u, hu, e6, key u hu hS fun z hz e7 hp => hmx z hz ⟨h'.trans hz hu hy e7 e6, hp⟩ e7⟩

theorem OrdOn.sub (h : OrdOn rel D) (hd : ∀ x, D' x → D x) : OrdOn rel D' :=
  ⟨fun hx => h.self (hd _ hx), fun hx hy => h.turn (hd _ hx) (hd _ hy), fun hx hy hz => h.trans (hd _ hx) (hd _ hy) (hd _ hz), fun hx hy hz => h.cong (hd _ hx) (hd _ hy) (hd _ hz), fun hx hy => h.in4 (hd _ hx) (hd _ hy)⟩

end

section

variable {l : List Bd} {ar : List Nat}

/-- The terms of a substitution, by numbers. -/
def rowB (l : List Bd) (N : Nat) : List Tm := (List.range N).map fun i : Nat => (bdT l (i : Int)).getD (.node (-1 - (i : Int)) [])

def topB : List Bd → Nat
  | [] => 0
  | x :: l => max (x.v.toNat + 1) (topB l)

theorem topB_none {v : Int} (h0 : 0 ≤ v) : ∀ {l : List Bd}, (topB l : Int) ≤ v → bdT l v = none
  | [], _ => rfl
  | x :: l, h => by
    rw [topB] at h
    have h1 : ¬ x.v = v := by omega
    have ih := topB_none h0 (l := l) (by omega)
    unfold bdT findB at ih ⊢
    rw [List.find?_cons]
    simp [h1]
    simpa using ih

theorem app_val {f : Int} (hf : f < 0) : valT (rowB l (topB l)) f = (bdT l (-1 - f)).getD (.node f []) := by
  have hlen : (rowB l (topB l)).length = topB l := by unfold rowB; simp
  unfold valT
  rw [hlen]
  split
  · rename_i h
    obtain ⟨i, hi⟩ : ∃ i : Nat, -1 - f = (i : Int) := ⟨(-1 - f).toNat, by omega⟩
    rw [hi, Int.toNat_natCast]
    have hil : i < topB l := by omega
    unfold rowB
    rw [List.getD_eq_getElem?_getD, List.getElem?_map, List.getElem?_range hil]
    simp only [Option.map_some, Option.getD_some]
    rw [show (-1 - (i : Int)) = f by omega]
  · rename_i h
    rw [topB_none (by omega) (by omega)]; rfl

mutual
theorem app_ps : ∀ t : Tm, wfT ar t = true → appT (bdT l) t = psT (rowB l (topB l)) t
  | .node f xs, h => by
    by_cases hf : f < 0
    · have hx := wf_var h hf
      subst hx
      rw [psT_var h hf]
      show _ = valT _ f
      rw [app_val hf]
      simp [appT, hf, appL]
    · rw [psT_sym hf, appT, if_neg hf, Option.getD_none, app_psL xs (wf_args h)]
theorem app_psL : ∀ xs : List Tm, wfL ar xs = true → appL (bdT l) xs = psL (rowB l (topB l)) xs
  | [], _ => rfl
  | t :: ts, h => by
    rw [wfL, Bool.and_eq_true] at h
    rw [appL, psL, app_ps t h.1, app_psL ts h.2]
end

theorem find_mem {v : Int} {t : Tm} (h : bdT l v = some t) : ∃ x ∈ l, x.t = t := by
  unfold bdT at h
  cases hf : findB l v with
  | none => rw [hf] at h; cases h
  | some x =>
    rw [hf] at h
    injection h with h
    exact ⟨x, List.mem_of_find?_eq_some hf, h⟩

mutual
theorem app_wf (hl : ∀ x ∈ l, wfT ar x.t = true) : ∀ t : Tm, wfT ar t = true → wfT ar (appT (bdT l) t) = true
  | .node f xs, h => by
    by_cases hf : f < 0
    · have hx := wf_var h hf
      subst hx
      simp only [appT, hf, if_true, appL]
      cases hb : bdT l (-1 - f) with
      | none => exact h
      | some t => obtain ⟨x, hx, rfl⟩ := find_mem hb; exact hl x hx
    · rw [appT, if_neg hf, Option.getD_none]
      have h1 := app_wfL hl xs (wf_args h)
      rw [wfT, Bool.and_eq_true] at h ⊢
      refine ⟨?_, h1⟩
      have h2 := h.1
      rw [appL_eq, List.length_map]; exact h2
theorem app_wfL (hl : ∀ x ∈ l, wfT ar x.t = true) : ∀ xs : List Tm, wfL ar xs = true → wfL ar (appL (bdT l) xs) = true
  | [], _ => rfl
  | t :: ts, h => by
    rw [wfL, Bool.and_eq_true] at h
    rw [appL, wfL, app_wf hl t h.1, app_wfL hl ts h.2]; rfl
end

mutual
theorem app_sz (hl : ∀ x ∈ l, x.t.size ≤ 20) : ∀ t : Tm, (appT (bdT l) t).size ≤ 20 * t.size
  | .node f xs => by
    rw [appT]
    cases hb : (if f < 0 then bdT l (-1 - f) else none) with
    | none =>
      have := app_szL hl xs
      simp only [Option.getD_none, Tm.size]; omega
    | some t =>
      split at hb
      · obtain ⟨x, hx, rfl⟩ := find_mem hb
        have := hl x hx
        simp only [Option.getD_some, Tm.size]; omega
      · cases hb
theorem app_szL (hl : ∀ x ∈ l, x.t.size ≤ 20) : ∀ xs : List Tm, sizes (appL (bdT l) xs) ≤ 20 * sizes xs
  | [] => by simp [appL, sizes]
  | t :: ts => by
    have h1 := app_sz hl t
    have h2 := app_szL hl ts
    rw [appL, sizes, sizes]; omega
end

end

theorem tm_app {sy : List Sm} {o : Odr} {s : List Bd} (hc : chkO sy o = 0) {x y : Tm} (hx : GdT sy x) (hy : GdT sy y) (px : GdT sy (appT (bdT s) x)) (py : GdT sy (appT (bdT s) y)) :
    (tmI o x y = 2 → tmI o (appT (bdT s) x) (appT (bdT s) y) = 2) ∧ (tmI o x y = 3 → tmI o (appT (bdT s) x) (appT (bdT s) y) = 3) := by
  rw [tmI_eq hc hx hy, tmI_eq hc px py]
  constructor
  · intro e
    have := cmp_zero_iff.1 ((ordV_two hc hx hy).1 e)
    subst this
    exact (ord_terms hc).self px
  · intro e
    unfold ordV at e ⊢
    cases h : o.lpo with
    | true =>
      rw [h, if_pos rfl] at e
      rw [if_pos rfl]
      have K := chkO_admL hc
      have e1 := (cmpP_three K hx hy).1 e
      rw [cmpP_three K px py]
      rw [app_ps x hx.wf] at px ⊢
      rw [app_ps y hy.wf] at py ⊢
      exact lp_put _ x y (Nat.le_refl _) (wf_vn x hx.wf) (wf_vn y hy.wf) (wf_vn _ px.wf) (wf_vn _ py.wf) e1
    | false =>
      rw [h, if_neg (by decide)] at e
      rw [if_neg (by decide)]
      have K := chkO_adm h hc
      have e1 := (cmpR_three K hx hy).1 e
      rw [cmpR_three K px py]
      rw [app_ps x hx.wf] at px ⊢
      rw [app_ps y hy.wf] at py ⊢
      exact abv_put K x y hx hy px py e1

/-- What is put in leaves a literal above another one. -/
theorem lits_app {sy : List Sm} {o : Odr} {s : List Bd} (hc : chkO sy o = 0) (hs : ∀ b ∈ s, GdT sy b.t ∧ b.t.size ≤ 20) {x y : Li} (hx : GdT sy x.l ∧ GdT sy x.r) (hy : GdT sy y.l ∧ GdT sy y.r) (zx : x.l.size ≤ 1000 ∧ x.r.size ≤ 1000) (zy : y.l.size ≤ 1000 ∧ y.r.size ≤ 1000) :
    (litsO o x y = 2 → litsO o (x.app s) (y.app s) = 2) ∧ (litsO o x y = 3 → litsO o (x.app s) (y.app s) = 3) := by
  have hD : ∀ t, (GdT sy t ∧ t.size ≤ 1000) → GdT sy (appT (bdT s) t) := fun t ht => ⟨app_wf (fun b hb => (hs b hb).1.wf) t ht.1.wf, by have := app_sz (fun b hb => (hs b hb).2) t; have := ht.2; omega⟩
  have T := tm_ord hc
  have T' : OrdOn (tmI o) (fun t => GdT sy t ∧ t.size ≤ 1000) := T.sub fun _ h => h.1
  have k1 := fun u v (hu : GdT sy u ∧ u.size ≤ 1000) (hv : GdT sy v ∧ v.size ≤ 1000) => tm_app (s := s) hc hu.1 hv.1 (hD u hu) (hD v hv)
  have k2 := fun m n (hm : ∀ t ∈ m, GdT sy t ∧ t.size ≤ 1000) (hn : ∀ t ∈ n, GdT sy t ∧ t.size ≤ 1000) => mul_map2 T' T (f := appT (bdT s)) hD (fun u v hu hv => (k1 u v hu hv).1) (fun u v hu hv => (k1 u v hu hv).2) (m := m) (n := n) hm hn
  have hmb : ∀ z : Li, (GdT sy z.l ∧ GdT sy z.r) → (z.l.size ≤ 1000 ∧ z.r.size ≤ 1000) → ∀ m ∈ z.mb, ∀ t ∈ m, GdT sy t ∧ t.size ≤ 1000 := by
    intro z h1 h2 m hm t ht
    unfold Li.mb membs at hm
    split at hm
    · simp at hm; subst hm; simp at ht; rcases ht with rfl | rfl
      · exact ⟨h1.1, h2.1⟩
      · exact ⟨h1.2, h2.2⟩
    · simp at hm
      rcases hm with rfl | rfl
      · simp at ht; subst ht; exact ⟨h1.1, h2.1⟩
      · simp at ht; subst ht; exact ⟨h1.2, h2.2⟩
  unfold litsO
  rw [Li.app_mb, Li.app_mb]
  exact mul_map2 (mul_ord T') (mul_ord T) (f := List.map (appT (bdT s))) (fun m hm u hu => by obtain ⟨t, ht, rfl⟩ := List.mem_map.1 hu; exact hD t (hm t ht)) (fun m n hm hn => (k2 m n hm hn).1) (fun m n hm hn => (k2 m n hm hn).2) (hmb x hx zx) (hmb y hy zy)

end Go.Proofs.Ytgjmodclgdkodaa

/- Put, in plain words and in memory. -/

namespace Go.Proofs.Ytgjmodclgdkodaa

open Go.RowKit
set_option maxRecDepth 100000

/-- The term with s at a place. -/
def putT : Tm → List Int → Tm → Tm
  | _, [], s => s
  | t, i :: p, s => match t.args[i.toNat]? with
    | none => t
    | some u => .node t.fn (t.args.set i.toNat (putT u p s))

theorem sub_get {t s : Tm} {i : Int} {p : List Int} (h : subT t (i :: p) = some s) : 0 ≤ i ∧ ∃ u, t.args[i.toNat]? = some u ∧ subT u p = some s := by
  simp only [subT] at h
  split at h
  · rename_i h1
    cases hu : t.args[i.toNat]? with
    | none => rw [hu] at h; cases h
    | some u => rw [hu] at h; exact ⟨h1.1, u, rfl, h⟩
  · cases h

theorem put_self : ∀ {p : List Int} {t u : Tm}, subT t p = some u → putT t p u = t
  | [], t, u, h => by simp only [subT] at h; injection h with h; rw [h]; rfl
  | i :: p, t, s, h => by
    obtain ⟨_, u, hu, h1⟩ := sub_get h
    have := put_self h1
    obtain ⟨hlt, he⟩ := List.getElem?_eq_some_iff.1 hu
    simp only [putT, hu, this]
    rw [← he, List.set_getElem_self]
    exact Tm.eta t

/-- The place that is found, as one follows the rows. -/
def PathA (w : World) : List Int → Nat → Nat → Tm → Nat → Nat → Prop
  | [], b, o, _, b', o' => b' = b ∧ o' = o
  | i :: p, b, o, t, b', o' => ∃ gb go c u, 0 ≤ i ∧ w.cell? ⟨b, o + 1, none⟩ = some (.slice (some ⟨gb, go, none⟩) t.args.length c) ∧ t.args[i.toNat]? = some u ∧ PathA w p gb (go + i.toNat * 2) u b' o'

def FindP (t : Tm) (p : List Int) (w : World) (B b0 o0 : Nat) (e : Ending) (w' : World) : Prop := w' = w ∧
  match subT t p with
  | none => e = .returned (.pointer none)
  | some s => ∃ b off, e = .returned (.pointer (some ⟨b, off, none⟩)) ∧ PtrT w B b off s ∧ PathA w p b0 o0 t b off

/-- Where a place lies in a term's own rows: at its box, or in one of the rows; and no cell of it is frozen. -/
theorem path_in {w : World} : ∀ {p : List Int} {b o b' o' : Nat} {t : Tm} {A : Option Addr} {c lo hi : Nat}, PathA w p b o t b' o' → w.cell? ⟨b, o + 1, none⟩ = some (.slice A t.args.length c) → OwnT w lo hi A t.args →
    (p = [] ∧ b' = b ∧ o' = o) ∨ (lo ≤ b' ∧ b' < hi ∧ w.frozen? ⟨b', o', none⟩ = false ∧ w.frozen? ⟨b', o' + 1, none⟩ = false)
  | [], _, _, _, _, _, _, _, _, _, h, _, _ => .inl ⟨rfl, h.1, h.2⟩
  | i :: p, b, o, b', o', .node f xs, A, c, lo, hi, h, hc, hO => by
    obtain ⟨gb, go, c', u, h0, h1, h2, h3⟩ := h
    simp only [Tm.args] at hc h1 h2 hO
    rw [hc] at h1
    injection h1 with h1
    injection h1 with hA _ _
    have hlt := (List.getElem?_eq_some_iff.1 h2).1
    cases hO with
    | nil => simp at hlt
    | row _ _ rb cap _ vs A' c2 m hlo hpos hlen hrow hm0 hmn hm hi64 e0 e1 hs =>
      injection hA with hA
      injection hA with r1 r2 _
      subst r1; subst r2
      have hml := mono_to hm (show i.toNat + 1 ≤ xs.length by omega) (Nat.le_refl _)
      have hm1 := mono_to hm (Nat.zero_le i.toNat) (by omega)
      have hvs : vs.length = xs.length * 2 := hrow.1
      have hmi := hm i.toNat hlt
      have hcell : w.cell? ⟨rb, 0 + i.toNat * 2 + 1, none⟩ = some (.slice (A' i.toNat) u.args.length (c2 i.toNat)) := by
        rw [Nat.zero_add, hrow.cellAt (i.toNat * 2 + 1) (by omega)]
        exact e1 _ _ h2
      rcases path_in h3 hcell (hs _ _ h2) with ⟨_, rfl, rfl⟩ | ⟨k1, k2, k3⟩
      · exact .inr ⟨hlo, by omega, hrow.frozenAt (0 + i.toNat * 2), hrow.frozenAt (0 + i.toNat * 2 + 1)⟩
      · exact .inr ⟨by omega, by omega, k3⟩

/-- Two cells of a block hold a term's; all else is as it was. -/
structure Wrote (w w2 : World) (b' o' : Nat) (s : Tm) (As : Option Addr) (cs : Nat) : Prop where
  blk : ∀ g, g ≠ b' → w2.heap[g]? = w.heap[g]?
  cell : ∀ o2, o2 ≠ o' → o2 ≠ o' + 1 → w2.cell? ⟨b', o2, none⟩ = w.cell? ⟨b', o2, none⟩
  c0 : w2.cell? ⟨b', o', none⟩ = some (.int .i64 s.fn)
  c1 : w2.cell? ⟨b', o' + 1, none⟩ = some (.slice As s.args.length cs)

theorem wrote_two {w : World} {b o : Nat} {x y : Value} (s : Tm) (As : Option Addr) (cs : Nat) (h0 : w.cell? ⟨b, o, none⟩ = some x) (h1 : w.cell? ⟨b, o + 1, none⟩ = some y) :
    Wrote w ((w.setCell ⟨b, o, none⟩ (.int .i64 s.fn)).setCell ⟨b, o + 1, none⟩ (.slice As s.args.length cs)) b o s As cs := by
  have ne : ∀ {i j : Nat}, i ≠ j → (⟨b, i, none⟩ : Addr) ≠ ⟨b, j, none⟩ := fun h e => h (by injection e)
  refine ⟨fun g hg => (heap_setCell_other _ _ _ _ hg).trans (heap_setCell_other _ _ _ _ hg), fun o2 h2 h3 => ?_, ?_, ?_⟩
  · rw [World.cell?_setCell_other _ _ _ _ (ne (Ne.symm h3)), World.cell?_setCell_other _ _ _ _ (ne (Ne.symm h2))]
  · rw [World.cell?_setCell_other _ _ _ _ (ne (by omega)), World.cell?_setCell_same _ _ _ h0]
  · exact World.cell?_setCell_same _ _ _ (u := y) (by rw [World.cell?_setCell_other _ _ _ _ (ne (by omega))]; exact h1)

/-- A term's own rows, and s laid at a place in them: the term with s there. -/
theorem put_args {w w2 : World} {s : Tm} {As : Option Addr} {cs lo2 hi2 : Nat} {N : Nat → Prop} (hs64 : I64 s.fn) (hsO : OwnT w lo2 hi2 As s.args) (hN2 : ∀ g, lo2 ≤ g → g < hi2 → N g) : ∀ {p : List Int} {b o b' o' : Nat} {t v : Tm} {A : Option Addr} {c lo hi : Nat}, PathA w p b o t b' o' → subT t p = some v → I64 t.fn →
    w.cell? ⟨b, o, none⟩ = some (.int .i64 t.fn) → w.cell? ⟨b, o + 1, none⟩ = some (.slice A t.args.length c) → OwnT w lo hi A t.args → b < lo → b < lo2 → hi ≤ lo2 → (∀ g, lo ≤ g → g < hi → N g) → Wrote w w2 b' o' s As cs →
    ∃ A2 c2, I64 (putT t p s).fn ∧ w2.cell? ⟨b, o, none⟩ = some (.int .i64 (putT t p s).fn) ∧ w2.cell? ⟨b, o + 1, none⟩ = some (.slice A2 (putT t p s).args.length c2) ∧ ArgsN w2 N A2 (putT t p s).args
  | [], b, o, b', o', t, v, A, c, lo, hi, h, _, _, _, _, _, hbl, hb2, _, _, hW => by
    obtain ⟨rfl, rfl⟩ := h
    exact ⟨As, cs, hs64, hW.c0, hW.c1, (hsO.keep fun g h1 h2 => hW.blk g (by omega)).argsN.wide fun g h => hN2 g h.1 h.2⟩
  | i :: p, b, o, b', o', .node f xs, v, A, c, lo, hi, h, hv, hf, hc0, hc, hO, hbl, hb2, hh2, hhB, hW => by
    obtain ⟨gb, go, c', u, h0, h1, h2, h3⟩ := h
    obtain ⟨_, u', hu', hv'⟩ := sub_get hv
    simp only [Tm.args, Tm.fn] at hc0 hc h1 h2 hO hu' hf
    rw [h2] at hu'
    cases hu'
    rw [hc] at h1
    injection h1 with h1
    injection h1 with hA _ _
    have hlt := (List.getElem?_eq_some_iff.1 h2).1
    cases hO with
    | nil => simp at hlt
    | row _ _ rb cap _ vs A' c2 m hlo hpos hlen hrow hm0 hmn hm hi64 e0 e1 hs =>
      injection hA with hA
      injection hA with r1 r2 _
      subst r1; subst r2
      have hml := mono_to hm (show i.toNat + 1 ≤ xs.length by omega) (Nat.le_refl _)
      have hm1 := mono_to hm (Nat.zero_le i.toNat) (by omega)
      have hvs : vs.length = xs.length * 2 := hrow.1
      have hmi := hm i.toNat hlt
      have hce : ∀ k, k < xs.length * 2 → w.cell? ⟨rb, 0 + k, none⟩ = vs[k]? := fun k hk => by rw [Nat.zero_add]; exact hrow.cellAt k (by omega)
      have hcell : w.cell? ⟨rb, 0 + i.toNat * 2 + 1, none⟩ = some (.slice (A' i.toNat) u.args.length (c2 i.toNat)) := (hce (i.toNat * 2 + 1) (by omega)).trans (e1 _ _ h2)
      have hcell0 : w.cell? ⟨rb, 0 + i.toNat * 2, none⟩ = some (.int .i64 u.fn) := (hce (i.toNat * 2) (by omega)).trans (e0 _ _ h2)
      obtain ⟨A3, c3, q1, q2, q3, q4⟩ := put_args hs64 hsO hN2 h3 hv' (hi64 _ _ h2) hcell0 hcell (hs _ _ h2) (by omega) (by omega) (by omega) (fun g k1 k2 => hhB g (by omega) (by omega)) hW
      have hwhere : (b' = rb ∧ o' = 0 + i.toNat * 2) ∨ (m i.toNat ≤ b' ∧ b' < m (i.toNat + 1)) := by
        rcases path_in h3 hcell (hs _ _ h2) with ⟨_, rfl, rfl⟩ | ⟨k1, k2, _⟩
        · exact .inl ⟨rfl, rfl⟩
        · exact .inr ⟨k1, k2⟩
      have hbb : b ≠ b' := by omega
      have hcb : ∀ o2, w2.cell? ⟨b, o2, none⟩ = w.cell? ⟨b, o2, none⟩ := fun o2 => cell_of_heap (hW.blk b hbb)
      have hother : ∀ k, k ≠ i.toNat * 2 → k ≠ i.toNat * 2 + 1 → w2.cell? ⟨rb, 0 + k, none⟩ = w.cell? ⟨rb, 0 + k, none⟩ := fun k k1 k2 => by
        rcases hwhere with ⟨rfl, rfl⟩ | ⟨k3, k4⟩
        · exact hW.cell _ (by omega) (by omega)
        · exact cell_of_heap (hW.blk rb (by omega))
      have hput : putT (.node f xs) (i :: p) s = .node f (xs.set i.toNat (putT u p s)) := by simp only [putT, Tm.args, h2, Tm.fn]
      rw [hput]
      simp only [Tm.fn, Tm.args, List.length_set]
      refine ⟨some ⟨rb, 0, none⟩, c, hf, (hcb o).trans hc0, (hcb (o + 1)).trans hc, ?_⟩
      have hget : ∀ (j : Nat) (z : Tm), (xs.set i.toNat (putT u p s))[j]? = some z → (j = i.toNat ∧ z = putT u p s) ∨ (j ≠ i.toNat ∧ xs[j]? = some z) := by
        intro j z hz
        by_cases e : j = i.toNat
        · subst e
          rw [List.getElem?_set_self hlt] at hz
          injection hz with hz
          exact .inl ⟨rfl, hz.symm⟩
        · rw [List.getElem?_set_ne (Ne.symm e)] at hz
          exact .inr ⟨e, hz⟩
      have hj : ∀ {j : Nat} {z : Tm}, xs[j]? = some z → j < xs.length := fun e => (List.getElem?_eq_some_iff.1 e).1
      refine .row rb 0 _ (fun j => if j = i.toNat then A3 else A' j) (fun j => if j = i.toNat then c3 else c2 j) (hhB rb hlo (by omega)) (by rw [List.length_set]; exact hlen) (fun j z hz => ?_) (fun j z hz => ?_) (fun j z hz => ?_) (fun j z hz => ?_)
      · rcases hget j z hz with ⟨rfl, rfl⟩ | ⟨e, hz'⟩
        · exact q1
        · exact hi64 j z hz'
      · rcases hget j z hz with ⟨rfl, rfl⟩ | ⟨e, hz'⟩
        · exact q2
        · exact (hother (j * 2) (by omega) (by omega)).trans ((hce (j * 2) (by have := hj hz'; omega)).trans (e0 j z hz'))
      · rcases hget j z hz with ⟨rfl, rfl⟩ | ⟨e, hz'⟩
        · simp only [if_true]; exact q3
        · simp only [if_neg e]
          exact (hother (j * 2 + 1) (by omega) (by omega)).trans ((hce (j * 2 + 1) (by have := hj hz'; omega)).trans (e1 j z hz'))
      · rcases hget j z hz with ⟨rfl, rfl⟩ | ⟨e, hz'⟩
        · simp only [if_true]; exact q4
        · simp only [if_neg e]
          have hjl := hj hz'
          have g1 := mono_to hm (Nat.zero_le j) (by omega)
          have g2 := mono_to hm (show j + 1 ≤ xs.length by omega) (Nat.le_refl _)
          refine ((hs j z hz').keep fun g k1 k2 => hW.blk g ?_).argsN.wide fun g h => hhB g (by omega) (by omega)
          rcases hwhere with ⟨rfl, _⟩ | ⟨k3, k4⟩
          · omega
          · rcases Nat.lt_or_gt_of_ne e with h5 | h5
            · have := mono_to hm (show j + 1 ≤ i.toNat by omega) (by omega)
              omega
            · have := mono_to hm (show i.toNat + 1 ≤ j by omega) (by omega)
              omega

theorem path_keep {w w' : World} (hk : ∀ b o v, w.cell? ⟨b, o, none⟩ = some v → w'.cell? ⟨b, o, none⟩ = some v) : ∀ {p : List Int} {b o b' o' : Nat} {t : Tm}, PathA w p b o t b' o' → PathA w' p b o t b' o'
  | [], _, _, _, _, _, h => h
  | _ :: _, _, _, _, _, _, h => by
    obtain ⟨gb, go, c, u, h0, h1, h2, h3⟩ := h
    exact ⟨gb, go, c, u, h0, hk _ _ _ h1, h2, path_keep hk h3⟩

theorem frozen_of_heap {w w' : World} {b o : Nat} (h : w'.heap[b]? = w.heap[b]?) : w'.frozen? ⟨b, o, none⟩ = w.frozen? ⟨b, o, none⟩ := by simp [World.frozen?, h]

theorem cell_grow {w w' : World} (h : Below w.heap.size w w') : ∀ b o v, w.cell? ⟨b, o, none⟩ = some v → w'.cell? ⟨b, o, none⟩ = some v := fun _ _ _ e => cell_on h (World.block_lt_of_cell? w _ e) e

end Go.Proofs.Ytgjmodclgdkodaa

/- The document's own answer: Copy. -/

namespace Go.Proofs.Ytgjmodclgdkodaa

open Go.RowKit Go.Shelf
set_option maxRecDepth 100000

/-- What lies apart since a world, but for the row of v itself. -/
def Apart (lo : Nat) (v : Value) (w : World) (g : Nat) : Prop := lo ≤ g ∧ g < w.heap.size ∧ v.ownBlock ≠ some g

/-- A copy of t, in new memory: the row of its arguments is the call's own. -/
def RCopyPost (t : Tm) (w : World) (e : Ending) (w' : World) : Prop := ∃ v l, e = .returned (.agg #[.int .i64 t.fn, v]) ∧ l.map Ti.t = t.args ∧ RowT w' w.heap.size v l (Apart w.heap.size v w') ∧ Below w.heap.size w w'

def RCopyAt (t : Tm) : Prop := t.size ≤ 4398046511104 → ∀ (A : Option Addr) (c : Nat) (w : World), I64 t.fn → Args w w.heap.size A t.args → Calls Try.prog 63 #[.agg #[.int .i64 t.fn, .slice A t.args.length c]] w (RCopyPost t w)

/-- What the loop has laid: the box, its row. -/
structure RCopyI (w wr : World) (f : Int) (xs : List Tm) (k : Nat) (v : Value) (l : List Ti) : Prop where
  box : wr.heap[w.heap.size + 2]? = some (.cells #[.int .i64 f, v] 39)
  key : l.map Ti.t = xs.take k
  row : RowT wr (w.heap.size + 3) v l (Apart (w.heap.size + 3) v wr)

theorem RCopyI.len {w wr : World} {f : Int} {xs : List Tm} {k : Nat} {v : Value} {l : List Ti} (h : RCopyI w wr f xs k v l) (hk : k ≤ xs.length) : l.length = k := by
  have := congrArg List.length h.key
  simpa [Nat.min_eq_left hk] using this

theorem row_own {W : World} {base n : Nat} {e : TypeId} {size : Nat} {v : Value} {vs : List Value} (h : W.ownsRow base e size v n vs) : ∃ A c, v = .slice A n c := by
  rcases h.2 with ⟨hv, h0⟩ | ⟨g, cap, cur, hv, _⟩
  · exact ⟨none, 0, by rw [hv, h0]⟩
  · exact ⟨_, cap, hv⟩

theorem RowT.base {w : World} {base base' : Nat} {v : Value} {l : List Ti} {N : Nat → Prop} (h : RowT w base v l N) (hb : base' ≤ base) : RowT w base' v l N := by
  refine ⟨⟨h.row.1, ?_⟩, h.i64, h.sub⟩
  rcases h.row.2 with h0 | ⟨g, cap, cur, hv, h1, hrest⟩
  · exact .inl h0
  · exact .inr ⟨g, cap, cur, hv, Nat.le_trans hb h1, hrest⟩

/-- One more: the copy of the next argument, its box, the row that has grown, the store. -/
theorem RCopyI.next {w wr w4 w5 : World} {f : Int} {xs : List Tm} {k : Nat} {v v4 v5 : Value} {l l4 : List Ti} {u : Tm} {A4 : Option Addr} {c4 : Nat} {o : Obj} (h : RCopyI w wr f xs k v l) (hu : xs[k]? = some u) (hi : I64 u.fn) (hl4 : l4.map Ti.t = u.args) (h64 : u.args.length ≤ 9223372036854775807) (hv4 : v4 = .slice A4 u.args.length c4)
    (hR4 : RowT w4 wr.heap.size v4 l4 (Apart wr.heap.size v4 w4)) (hb4 : Below wr.heap.size wr w4) (hown : w5.ownsRow (w.heap.size + 3) 39 2 v5 (k + 1) (l.flatMap Ti.cells ++ (⟨u, A4, c4⟩ : Ti).cells))
    (hgr : (w4.alloc o).grownBy w5 v.ownBlock) (hat : v5.ownBlock = v.ownBlock ∨ v5.ownBlock = some (w4.alloc o).heap.size) :
    RCopyI w (w5.setCell ⟨w.heap.size + 2, 1, none⟩ v5) f xs (k + 1) v5 (l ++ [⟨u, A4, c4⟩]) := by
  have hkl := (List.getElem?_eq_some_iff.1 hu).1
  have hlen := h.len (by omega)
  have hlt := row_lt h.row.row
  have hs4 := hb4.size
  have hs5 := hgr.size
  have hbs : w.heap.size + 2 < wr.heap.size := (Array.getElem?_eq_some_iff.1 h.box).1
  have hK : ∀ g, g < wr.heap.size → v.ownBlock ≠ some g → w5.heap[g]? = wr.heap[g]? := fun g h1 h2 => (hgr.block g (by simp; omega) (fun e => h2 e.symm)).trans ((Below.heap_alloc w4 o g (by omega)).trans (hb4.block g h1))
  have hK4 : ∀ g, g < w4.heap.size → v.ownBlock ≠ some g → w5.heap[g]? = w4.heap[g]? := fun g h1 h2 => (hgr.block g (by simp; omega) (fun e => h2 e.symm)).trans (Below.heap_alloc w4 o g h1)
  have hb2 : v.ownBlock ≠ some (w.heap.size + 2) := fun e => by have := (hlt _ e).1; omega
  have hbox5 := (hK _ hbs hb2).trans h.box
  obtain ⟨_, z1⟩ := set2_two (u := .int .i64 f) (v := v5) hbox5
  have hset : ∀ g, g ≠ w.heap.size + 2 → (w5.setCell ⟨w.heap.size + 2, 1, none⟩ v5).heap[g]? = w5.heap[g]? := fun g e => heap_setCell_other _ _ _ _ e
  have hlt5 := row_lt hown
  have hv5 : ∀ g, g < wr.heap.size → v.ownBlock ≠ some g → v5.ownBlock ≠ some g := fun g h1 h2 e => by
    rcases hat with h3 | h3
    · rw [h3] at e; exact h2 e
    · rw [h3] at e; injection e with e; simp at e; omega
  have hv54 : ∀ g, wr.heap.size ≤ g → g < w4.heap.size → v5.ownBlock ≠ some g := fun g h1 h2 e => by
    rcases hat with h3 | h3
    · rw [h3] at e; have := (hlt _ e).2; omega
    · rw [h3] at e; injection e with e; simp at e; omega
  have hsz5 : w4.heap.size + 1 ≤ w5.heap.size := by simpa using hs5
  refine ⟨?_, ?_, ?_⟩
  · exact heap_setCell_same w5 _ 1 _ _ _ hbox5
  · rw [List.map_append, h.key, List.take_add_one, hu]; rfl
  · refine RowT.push (w := wr) (N := Apart (w.heap.size + 3) v wr) h.row ?_ hi ?_ (fun g hg => ?_) (fun g hg => ⟨hg.1, by have := hg.2.1; simp; omega, hv5 g hg.2.1 hg.2.2⟩)
    · rw [hlen]
      exact row_keep hown fun g e => hset g (by have := (hlt5 g e).1; omega)
    · have hl4l : l4.length ≤ 9223372036854775807 := by have := congrArg List.length hl4; simp at this; omega
      obtain ⟨A', c', e, hA⟩ := hR4.argsN (M := fun g => wr.heap.size ≤ g ∧ g < w4.heap.size) hl4l (fun g e => row_lt hR4.row g e) (fun g hg => ⟨hg.1, hg.2.1⟩)
      rw [hv4] at e
      injection e with e1 _ _
      subst e1
      rw [hl4] at hA
      refine (hA.keep fun g hg => ?_).wide fun g hg => ⟨by omega, by simp; omega, hv54 g hg.1 hg.2⟩
      exact (hset g (by omega)).trans (hK4 g hg.2 fun e => by have := (hlt _ e).2; omega)
    · exact (hset g (by have := hg.1; omega)).trans (hK g hg.2.1 hg.2.2)

set_option maxHeartbeats 2000000 in
theorem refCopy_any (t : Tm) : RCopyAt t := by
  refine Tm.ind (P := RCopyAt) (fun f xs ih => ?_) t
  intro hsz A c w hf hA
  simp only [Tm.fn, Tm.args] at hf hA ⊢
  have hlen : xs.length ≤ 4398046511104 := by have := sizes_len xs; simp only [Tm.size] at hsz; omega
  obtain ⟨i0, hi, hz0, hz1, hz2⟩ := info_parts info_term
  obtain ⟨q0, q1, q2⟩ := heap3 w (.cells #[.int .i64 f, .slice A xs.length c] 39) (.cells #[.int .i64 0, .slice none 0 0] 39) (.cells #[.int .i64 f, .slice none 0 0] 39)
  obtain ⟨W, hW⟩ : ∃ W, (((w.alloc (.cells #[.int .i64 f, .slice A xs.length c] 39)).alloc (.cells #[.int .i64 0, .slice none 0 0] 39)).alloc (.cells #[.int .i64 f, .slice none 0 0] 39)) = W := ⟨_, rfl⟩
  have hB : Below w.heap.size w W := by rw [← hW]; exact (((Below.refl _ _).alloc (Nat.le_refl _) _).alloc (by simp) _).alloc (by simp; omega) _
  rw [hW] at q0 q1 q2
  have hWs : w.heap.size + 2 < W.heap.size := (Array.getElem?_eq_some_iff.1 q2).1
  have hI0 : RCopyI w W f xs 0 (.slice none 0 0) [] := ⟨q2, by simp, RowT.nil_ _ _ _⟩
  have HI0 := Lib.hid hI0
  have HA := Lib.hid hA
  have HW := Lib.hid hW
  clear hW hA q2 hI0
  go_enter Try.func63, Try.ntmps63
  go_wp2
  rw [HW.out]
  go_loopw [4] (fun i wr => ∃ (k : Nat) (v : Value) (l : List Ti), k ≤ xs.length ∧ i = .int .i64 (k : Int) ∧ Below (w.heap.size + 2) W wr ∧ Hid (RCopyI w wr f xs k v l)) (fun i _ => xs.length - (intOf i).toNat)
  case atStart => exact ⟨0, _, [], Nat.zero_le _, rfl, Below.refl _ _, HI0⟩
  case round =>
    obtain ⟨k, v, l, hk, rfl, hBr, H⟩ := hrel
    have hbx := H.out.box
    have hbs : w.heap.size + 2 < wr.heap.size := (Array.getElem?_eq_some_iff.1 hbx).1
    obtain ⟨a0, a1, _, _⟩ := cells_two ((hBr.block _ (by omega)).trans q0)
    obtain ⟨c0, c1, g0, g1⟩ := cells_two hbx
    have hBw : Below w.heap.size w wr := hB.trans (hBr.mono (by omega))
    by_cases hlt : k < xs.length
    · obtain ⟨u, hu⟩ : ∃ u, xs[k]? = some u := ⟨_, List.getElem?_eq_getElem hlt⟩
      obtain ⟨bb, off, A1, c1', rfl, ha⟩ := HA.out.get hu
      have hbw := ha.hb
      have e0 := cell_on hBw hbw ha.c0
      have e1 := cell_on hBw hbw ha.c1
      have hbb : bb < wr.heap.size := by omega
      have hs1 : Hid (Args wr.drew wr.drew.heap.size A1 u.args) := (ha.sub.on hBw).drewN 1
      have hi64 := ha.hi
      have hmem := List.mem_of_getElem? hu
      have hszt : u.size ≤ 4398046511104 := by have := size_mem hmem; simp only [Tm.size] at hsz; omega
      have hul : u.args.length ≤ 9223372036854775807 := ha.sub.len
      have Hu := Lib.hid hu
      have hrow := H.out.row.row
      have hll := H.out.len hk
      rw [hll] at hrow
      obtain ⟨Av, cv, hv⟩ := row_own hrow
      subst hv
      have hrl := row_lt hrow
      have Hrow := Lib.hid hrow
      have hSS : ∀ w', Below wr.heap.size wr w' → w'.cell? ⟨w.heap.size + 2, 1, none⟩ = some (.slice Av k cv) ∧ w'.cell? ⟨w.heap.size, 1, none⟩ = some (.slice (some ⟨bb, off, none⟩) xs.length c) ∧ w'.cell? ⟨bb, off + k * 2, none⟩ = some (.int .i64 u.fn) ∧ w'.cell? ⟨bb, off + k * 2 + 1, none⟩ = some (.slice A1 u.args.length c1') := fun w' h => ⟨cell_on h hbs c1, cell_on h (by omega) a1, cell_on h hbb e0, cell_on h hbb e1⟩
      have hne : ∀ g, g < w.heap.size + 3 → (Value.slice Av k cv).ownBlock ≠ some g := fun g h e => by have := (hrl g e).1; omega
      have hBX : ∀ w' : World, (∀ g, g < wr.heap.size → (Value.slice Av k cv).ownBlock ≠ some g → w'.heap[g]? = wr.heap[g]?) → w'.cell? ⟨w.heap.size + 2, 1, none⟩ = some (.slice Av k cv) ∧ w'.frozen? ⟨w.heap.size + 2, 1, none⟩ = false := fun w' h => ⟨(cell_of_heap (h _ hbs (hne _ (by omega)))).trans c1, (frozen_of_heap (h _ hbs (hne _ (by omega)))).trans g1⟩
      clear hu ha hrow
      go_wp2
      go_region_law
        (first
          | (go_simp
             go_at_call 63
             refine (ih u hmem hszt A1 c1' wr.drew hi64 hs1.out).mono ?_
             rintro e w4 ⟨v4, l4, rfl, hl4, hR4, hb4⟩
             have hB4 : Below wr.heap.size wr w4 := ⟨hb4.os, hb4.tape, hb4.output, hb4.size, hb4.block⟩
             obtain ⟨A4, c4, hv4⟩ := row_own hR4.row
             have hl4l : l4.length = u.args.length := by rw [← hl4, List.length_map]
             rw [hl4l] at hv4
             have HR4 := Lib.hid hR4
             obtain ⟨k4, _, _, _⟩ := hSS _ hB4
             obtain ⟨k4', _, _, _⟩ := hSS _ (hB4.alloc hB4.size (.cells #[.int .i64 u.fn, .slice A4 u.args.length c4] 39))
             subst hv4
             clear hR4
             dsimp only)
          | (refine step_append_at rfl (.tmp 16) (.tmp 23) 37 rfl (w.heap.size + 3) 39 i0 (.agg #[.int .i64 0, .slice none 0 0]) 2 32 Try.underlying37 hi hz0 hz1 hz2 rfl (by decide) (.slice Av k cv) k _ (by simp [Act.eval]) (row_keep Hrow.out fun g e => (Below.heap_alloc w4 _ g (Nat.lt_of_lt_of_le (hrl g e).2 hB4.size)).trans (hB4.block g (hrl g e).2)) ⟨w4.heap.size, 0, none⟩ 1 1 [.int .i64 u.fn, .slice A4 u.args.length c4] (by simp [Act.eval]) rfl (cells_new_two _ _ _ _) (by simp [Value.oneCell']) (by unfold maxLen; omega) (by omega) (by have := hB4.size; simp; omega) ?_
             intro v5 w5 hown5 hgr5 hat5
             have hK5 : ∀ g, g < wr.heap.size → (Value.slice Av k cv).ownBlock ≠ some g → w5.heap[g]? = wr.heap[g]? := fun g h1 h2 => (hgr5.block g (by have := hB4.size; simp; omega) (fun e => h2 e.symm)).trans ((Below.heap_alloc w4 _ g (by have := hB4.size; omega)).trans (hB4.block g h1))
             obtain ⟨k1, kf⟩ := hBX w5 hK5
             obtain ⟨g5, cap5, hv5⟩ := ownsRow_succ hown5
             have Hown5 := Lib.hid hown5
             have Hgr5 := Lib.hid hgr5
             have Hat5 := Lib.hid hat5
             subst hv5
             clear hown5 hgr5 hat5 hK5)
          | fail)
      all_goals
        have hst := H.out.next Hu.out hi64 hl4 hul rfl HR4.out hB4 Hown5.out Hgr5.out Hat5.out
        have hBe : Below (w.heap.size + 2) W w5 := ((hBr.trans (hB4.mono (by omega))).alloc (by have := hB4.size; omega) _).grown Hgr5.out (by have := hB4.size; simp; omega) (fun g e => by have := (hrl g e).1; omega)
        go_wp2
        go_roundw
        case rel => exact ⟨k + 1, _, _, by omega, by go_num, hBe.setCell (Nat.le_refl _) _, hst⟩
        case measure => simp [intOf]; omega
    · obtain rfl : k = xs.length := by omega
      have hrow := H.out.row.row
      have hll := H.out.len hk
      rw [hll] at hrow
      obtain ⟨Av, cv, hv⟩ := row_own hrow
      subst hv
      have hkey := Lib.hid H.out.key
      have HR := Lib.hid H.out.row
      obtain ⟨b0, b1, bg0, bg1⟩ := cells_two ((hBr.block _ (by omega)).trans q1)
      clear hrow
      go_wp2
      have z1 : (wr.setCell ⟨w.heap.size + 1, 0, none⟩ (.int .i64 f)).heap[w.heap.size + 1]? = some (.cells #[.int .i64 f, .slice none 0 0] 39) := heap_setCell_same wr _ 0 _ _ _ ((hBr.block _ (by omega)).trans q1)
      have z2 : ((wr.setCell ⟨w.heap.size + 1, 0, none⟩ (.int .i64 f)).setCell ⟨w.heap.size + 1, 1, none⟩ (.slice Av xs.length cv)).heap[w.heap.size + 1]? = some (.cells #[.int .i64 f, .slice Av xs.length cv] 39) := heap_setCell_same _ _ 1 _ _ _ z1
      have p0 := (cells_two z1).1
      have p1 := (cells_two z2).2.1
      have hoth : ∀ g, g ≠ w.heap.size + 1 → ((wr.setCell ⟨w.heap.size + 1, 0, none⟩ (.int .i64 f)).setCell ⟨w.heap.size + 1, 1, none⟩ (.slice Av xs.length cv)).heap[g]? = wr.heap[g]? := fun g e => (heap_setCell_other _ _ _ _ e).trans (heap_setCell_other _ _ _ _ e)
      refine bodyPost_ret (v := .agg #[.int .i64 f, .slice Av xs.length cv]) (by simp [results, Try.results63, go_sem, p0, p1]) rfl ⟨_, l, rfl, by rw [hkey.out, List.take_length]; rfl, ?_, ?_⟩
      · have hk3 := (HR.out.keep (fun g e => hoth g (by have := (row_lt HR.out.row g e).1; omega)) (fun g e => hoth g (by have := e.1; omega))).base (base' := w.heap.size) (by omega)
        exact hk3.wide fun g e => show Apart _ _ _ g from ⟨by have := e.1; omega, by have := e.2.1; simpa using this, e.2.2⟩
      · exact (hBw.setCell (by show _ ≤ w.heap.size + 1; omega) _).setCell (by show _ ≤ w.heap.size + 1; omega) _

end Go.Proofs.Ytgjmodclgdkodaa

/- The document's own Copy, again: its rows have room for what they hold. (gen_ek.py) -/

namespace Go.Proofs.Ytgjmodclgdkodaa

open Go.RowKit Go.Shelf
set_option maxRecDepth 100000

/-- The slice v is the call's own; it holds the terms l, whose arguments lie in N's blocks. -/
structure RowTK (w : World) (base : Nat) (v : Value) (l : List Ti) (N : Nat → Prop) : Prop where
  row : w.ownsRow base 39 2 v l.length (l.flatMap Ti.cells)
  i64 : ∀ x ∈ l, I64 x.t.fn
  sub : ∀ x ∈ l, ArgsK w N x.A x.c x.t.args

section

variable {w w' : World} {base base' : Nat} {v : Value} {l : List Ti} {N M : Nat → Prop}

theorem RowTK.nil_ (w : World) (base : Nat) (N : Nat → Prop) : RowTK w base (.slice none 0 0) [] N :=
  ⟨World.ownsRow_nil w _ _ _, fun x hx => by simp at hx, fun x hx => by simp at hx⟩

theorem RowTK.keep (h : RowTK w base v l N) (hv : ∀ g, v.ownBlock = some g → w'.heap[g]? = w.heap[g]?) (hN : ∀ g, N g → w'.heap[g]? = w.heap[g]?) : RowTK w' base v l N :=
  ⟨row_keep h.row hv, h.i64, fun x hx => (h.sub x hx).keep hN⟩

theorem RowTK.wide (h : RowTK w base v l N) (hk : ∀ g, N g → M g) : RowTK w base v l M := ⟨h.row, h.i64, fun x hx => (h.sub x hx).wide hk⟩

theorem RowTK.shape (h : RowTK w base v l N) : ∃ A c, v = .slice A l.length c := by
  rcases h.row.2 with ⟨hv, h0⟩ | ⟨g, cap, cur, hv, _⟩
  · exact ⟨none, 0, by rw [hv, h0]⟩
  · exact ⟨_, cap, hv⟩

/-- The row, read. -/
theorem RowTK.argsK (h : RowTK w base v l N) (hl : l.length ≤ 9223372036854775807) (hv : ∀ g, v.ownBlock = some g → M g) (hN : ∀ g, N g → M g) : ∃ A c, v = .slice A l.length c ∧ ArgsK w M A c (l.map Ti.t) := by
  rcases h.row.2 with ⟨rfl, h0⟩ | ⟨g, cap, cur, rfl, hb, hg, hcap, _⟩
  · obtain rfl : l = [] := List.eq_nil_of_length_eq_zero h0
    exact ⟨none, 0, rfl, .nil _ _⟩
  · refine ⟨_, _, rfl, .row g 0 cap _ (fun i => ((l[i]?).map Ti.A).getD none) (fun i => ((l[i]?).map Ti.c).getD 0) (by simpa using hcap) (hv g rfl) (by simpa using hl) (fun i t e => ?_) (fun i t e => ?_) (fun i t e => ?_) fun i t e => ?_⟩
    all_goals
      rw [List.getElem?_map] at e
      cases hx : l[i]? with
      | none => rw [hx] at e; cases e
      | some x =>
        rw [hx] at e
        injection e with e
        subst e
        have hlt := (List.getElem?_eq_some_iff.1 hx).1
        have hm := List.mem_of_getElem? hx
        have q0 := ti_get l i 0 (by omega)
        have q1 := ti_get l i 1 (by omega)
        have c0 := h.row.cellAt (i * 2) (by omega)
        have c1 := h.row.cellAt (i * 2 + 1) (by omega)
        rw [Nat.add_zero, hx] at q0
        rw [hx] at q1
        rw [q0] at c0
        rw [q1] at c1
        try simp only [Option.map_some, Option.getD_some]
        try rw [Nat.zero_add]
        first | exact h.i64 x hm | exact c0 | exact c1 | exact (h.sub x hm).wide hN

/-- One more. -/
theorem RowTK.push {x : Ti} {v' : Value} (h : RowTK w base v l N) (hrow : w'.ownsRow base 39 2 v' (l.length + 1) (l.flatMap Ti.cells ++ x.cells)) (hi : I64 x.t.fn) (hx : ArgsK w' M x.A x.c x.t.args) (hk : ∀ g, N g → w'.heap[g]? = w.heap[g]?) (hNM : ∀ g, N g → M g) : RowTK w' base v' (l ++ [x]) M := by
  refine ⟨?_, ?_, ?_⟩
  · rw [List.length_append, List.flatMap_append]
    simpa using hrow
  · intro y hy
    rcases List.mem_append.1 hy with hy | hy
    · exact h.i64 y hy
    · simp only [List.mem_cons, List.not_mem_nil, or_false] at hy
      subst hy; exact hi
  · intro y hy
    rcases List.mem_append.1 hy with hy | hy
    · exact ((h.sub y hy).keep hk).wide hNM
    · simp only [List.mem_cons, List.not_mem_nil, or_false] at hy
      subst hy; exact hx

end

/-- A copy of t, in new memory: the row of its arguments is the call's own. -/
def RCopyPostK (t : Tm) (w : World) (e : Ending) (w' : World) : Prop := ∃ v l, e = .returned (.agg #[.int .i64 t.fn, v]) ∧ l.map Ti.t = t.args ∧ RowTK w' w.heap.size v l (Apart w.heap.size v w') ∧ Below w.heap.size w w'

def RCopyAtK (t : Tm) : Prop := t.size ≤ 4398046511104 → ∀ (A : Option Addr) (c : Nat) (w : World), I64 t.fn → Args w w.heap.size A t.args → Calls Try.prog 63 #[.agg #[.int .i64 t.fn, .slice A t.args.length c]] w (RCopyPostK t w)

/-- What the loop has laid: the box, its row. -/
structure RCopyIK (w wr : World) (f : Int) (xs : List Tm) (k : Nat) (v : Value) (l : List Ti) : Prop where
  box : wr.heap[w.heap.size + 2]? = some (.cells #[.int .i64 f, v] 39)
  key : l.map Ti.t = xs.take k
  row : RowTK wr (w.heap.size + 3) v l (Apart (w.heap.size + 3) v wr)

theorem RCopyIK.len {w wr : World} {f : Int} {xs : List Tm} {k : Nat} {v : Value} {l : List Ti} (h : RCopyIK w wr f xs k v l) (hk : k ≤ xs.length) : l.length = k := by
  have := congrArg List.length h.key
  simpa [Nat.min_eq_left hk] using this

theorem RowTK.base {w : World} {base base' : Nat} {v : Value} {l : List Ti} {N : Nat → Prop} (h : RowTK w base v l N) (hb : base' ≤ base) : RowTK w base' v l N := by
  refine ⟨⟨h.row.1, ?_⟩, h.i64, h.sub⟩
  rcases h.row.2 with h0 | ⟨g, cap, cur, hv, h1, hrest⟩
  · exact .inl h0
  · exact .inr ⟨g, cap, cur, hv, Nat.le_trans hb h1, hrest⟩

/-- One more: the copy of the next argument, its box, the row that has grown, the store. -/
theorem RCopyIK.next {w wr w4 w5 : World} {f : Int} {xs : List Tm} {k : Nat} {v v4 v5 : Value} {l l4 : List Ti} {u : Tm} {A4 : Option Addr} {c4 : Nat} {o : Obj} (h : RCopyIK w wr f xs k v l) (hu : xs[k]? = some u) (hi : I64 u.fn) (hl4 : l4.map Ti.t = u.args) (h64 : u.args.length ≤ 9223372036854775807) (hv4 : v4 = .slice A4 u.args.length c4)
    (hR4 : RowTK w4 wr.heap.size v4 l4 (Apart wr.heap.size v4 w4)) (hb4 : Below wr.heap.size wr w4) (hown : w5.ownsRow (w.heap.size + 3) 39 2 v5 (k + 1) (l.flatMap Ti.cells ++ (⟨u, A4, c4⟩ : Ti).cells))
    (hgr : (w4.alloc o).grownBy w5 v.ownBlock) (hat : v5.ownBlock = v.ownBlock ∨ v5.ownBlock = some (w4.alloc o).heap.size) :
    RCopyIK w (w5.setCell ⟨w.heap.size + 2, 1, none⟩ v5) f xs (k + 1) v5 (l ++ [⟨u, A4, c4⟩]) := by
  have hkl := (List.getElem?_eq_some_iff.1 hu).1
  have hlen := h.len (by omega)
  have hlt := row_lt h.row.row
  have hs4 := hb4.size
  have hs5 := hgr.size
  have hbs : w.heap.size + 2 < wr.heap.size := (Array.getElem?_eq_some_iff.1 h.box).1
  have hK : ∀ g, g < wr.heap.size → v.ownBlock ≠ some g → w5.heap[g]? = wr.heap[g]? := fun g h1 h2 => (hgr.block g (by simp; omega) (fun e => h2 e.symm)).trans ((Below.heap_alloc w4 o g (by omega)).trans (hb4.block g h1))
  have hK4 : ∀ g, g < w4.heap.size → v.ownBlock ≠ some g → w5.heap[g]? = w4.heap[g]? := fun g h1 h2 => (hgr.block g (by simp; omega) (fun e => h2 e.symm)).trans (Below.heap_alloc w4 o g h1)
  have hb2 : v.ownBlock ≠ some (w.heap.size + 2) := fun e => by have := (hlt _ e).1; omega
  have hbox5 := (hK _ hbs hb2).trans h.box
  obtain ⟨_, z1⟩ := set2_two (u := .int .i64 f) (v := v5) hbox5
  have hset : ∀ g, g ≠ w.heap.size + 2 → (w5.setCell ⟨w.heap.size + 2, 1, none⟩ v5).heap[g]? = w5.heap[g]? := fun g e => heap_setCell_other _ _ _ _ e
  have hlt5 := row_lt hown
  have hv5 : ∀ g, g < wr.heap.size → v.ownBlock ≠ some g → v5.ownBlock ≠ some g := fun g h1 h2 e => by
    rcases hat with h3 | h3
    · rw [h3] at e; exact h2 e
    · rw [h3] at e; injection e with e; simp at e; omega
  have hv54 : ∀ g, wr.heap.size ≤ g → g < w4.heap.size → v5.ownBlock ≠ some g := fun g h1 h2 e => by
    rcases hat with h3 | h3
    · rw [h3] at e; have := (hlt _ e).2; omega
    · rw [h3] at e; injection e with e; simp at e; omega
  have hsz5 : w4.heap.size + 1 ≤ w5.heap.size := by simpa using hs5
  refine ⟨?_, ?_, ?_⟩
  · exact heap_setCell_same w5 _ 1 _ _ _ hbox5
  · rw [List.map_append, h.key, List.take_add_one, hu]; rfl
  · refine RowTK.push (w := wr) (N := Apart (w.heap.size + 3) v wr) h.row ?_ hi ?_ (fun g hg => ?_) (fun g hg => ⟨hg.1, by have := hg.2.1; simp; omega, hv5 g hg.2.1 hg.2.2⟩)
    · rw [hlen]
      exact row_keep hown fun g e => hset g (by have := (hlt5 g e).1; omega)
    · have hl4l : l4.length ≤ 9223372036854775807 := by have := congrArg List.length hl4; simp at this; omega
      obtain ⟨A', c', e, hA⟩ := hR4.argsK (M := fun g => wr.heap.size ≤ g ∧ g < w4.heap.size) hl4l (fun g e => row_lt hR4.row g e) (fun g hg => ⟨hg.1, hg.2.1⟩)
      rw [hv4] at e
      injection e with e1 _ e3
      subst e1
      subst e3
      rw [hl4] at hA
      refine (hA.keep fun g hg => ?_).wide fun g hg => ⟨by omega, by simp; omega, hv54 g hg.1 hg.2⟩
      exact (hset g (by omega)).trans (hK4 g hg.2 fun e => by have := (hlt _ e).2; omega)
    · exact (hset g (by have := hg.1; omega)).trans (hK g hg.2.1 hg.2.2)

set_option maxHeartbeats 2000000 in
theorem refCopyK_any (t : Tm) : RCopyAtK t := by
  refine Tm.ind (P := RCopyAtK) (fun f xs ih => ?_) t
  intro hsz A c w hf hA
  simp only [Tm.fn, Tm.args] at hf hA ⊢
  have hlen : xs.length ≤ 4398046511104 := by have := sizes_len xs; simp only [Tm.size] at hsz; omega
  obtain ⟨i0, hi, hz0, hz1, hz2⟩ := info_parts info_term
  obtain ⟨q0, q1, q2⟩ := heap3 w (.cells #[.int .i64 f, .slice A xs.length c] 39) (.cells #[.int .i64 0, .slice none 0 0] 39) (.cells #[.int .i64 f, .slice none 0 0] 39)
  obtain ⟨W, hW⟩ : ∃ W, (((w.alloc (.cells #[.int .i64 f, .slice A xs.length c] 39)).alloc (.cells #[.int .i64 0, .slice none 0 0] 39)).alloc (.cells #[.int .i64 f, .slice none 0 0] 39)) = W := ⟨_, rfl⟩
  have hB : Below w.heap.size w W := by rw [← hW]; exact (((Below.refl _ _).alloc (Nat.le_refl _) _).alloc (by simp) _).alloc (by simp; omega) _
  rw [hW] at q0 q1 q2
  have hWs : w.heap.size + 2 < W.heap.size := (Array.getElem?_eq_some_iff.1 q2).1
  have hI0 : RCopyIK w W f xs 0 (.slice none 0 0) [] := ⟨q2, by simp, RowTK.nil_ _ _ _⟩
  have HI0 := Lib.hid hI0
  have HA := Lib.hid hA
  have HW := Lib.hid hW
  clear hW hA q2 hI0
  go_enter Try.func63, Try.ntmps63
  go_wp2
  rw [HW.out]
  go_loopw [4] (fun i wr => ∃ (k : Nat) (v : Value) (l : List Ti), k ≤ xs.length ∧ i = .int .i64 (k : Int) ∧ Below (w.heap.size + 2) W wr ∧ Hid (RCopyIK w wr f xs k v l)) (fun i _ => xs.length - (intOf i).toNat)
  case atStart => exact ⟨0, _, [], Nat.zero_le _, rfl, Below.refl _ _, HI0⟩
  case round =>
    obtain ⟨k, v, l, hk, rfl, hBr, H⟩ := hrel
    have hbx := H.out.box
    have hbs : w.heap.size + 2 < wr.heap.size := (Array.getElem?_eq_some_iff.1 hbx).1
    obtain ⟨a0, a1, _, _⟩ := cells_two ((hBr.block _ (by omega)).trans q0)
    obtain ⟨c0, c1, g0, g1⟩ := cells_two hbx
    have hBw : Below w.heap.size w wr := hB.trans (hBr.mono (by omega))
    by_cases hlt : k < xs.length
    · obtain ⟨u, hu⟩ : ∃ u, xs[k]? = some u := ⟨_, List.getElem?_eq_getElem hlt⟩
      obtain ⟨bb, off, A1, c1', rfl, ha⟩ := HA.out.get hu
      have hbw := ha.hb
      have e0 := cell_on hBw hbw ha.c0
      have e1 := cell_on hBw hbw ha.c1
      have hbb : bb < wr.heap.size := by omega
      have hs1 : Hid (Args wr.drew wr.drew.heap.size A1 u.args) := (ha.sub.on hBw).drewN 1
      have hi64 := ha.hi
      have hmem := List.mem_of_getElem? hu
      have hszt : u.size ≤ 4398046511104 := by have := size_mem hmem; simp only [Tm.size] at hsz; omega
      have hul : u.args.length ≤ 9223372036854775807 := ha.sub.len
      have Hu := Lib.hid hu
      have hrow := H.out.row.row
      have hll := H.out.len hk
      rw [hll] at hrow
      obtain ⟨Av, cv, hv⟩ := row_own hrow
      subst hv
      have hrl := row_lt hrow
      have Hrow := Lib.hid hrow
      have hSS : ∀ w', Below wr.heap.size wr w' → w'.cell? ⟨w.heap.size + 2, 1, none⟩ = some (.slice Av k cv) ∧ w'.cell? ⟨w.heap.size, 1, none⟩ = some (.slice (some ⟨bb, off, none⟩) xs.length c) ∧ w'.cell? ⟨bb, off + k * 2, none⟩ = some (.int .i64 u.fn) ∧ w'.cell? ⟨bb, off + k * 2 + 1, none⟩ = some (.slice A1 u.args.length c1') := fun w' h => ⟨cell_on h hbs c1, cell_on h (by omega) a1, cell_on h hbb e0, cell_on h hbb e1⟩
      have hne : ∀ g, g < w.heap.size + 3 → (Value.slice Av k cv).ownBlock ≠ some g := fun g h e => by have := (hrl g e).1; omega
      have hBX : ∀ w' : World, (∀ g, g < wr.heap.size → (Value.slice Av k cv).ownBlock ≠ some g → w'.heap[g]? = wr.heap[g]?) → w'.cell? ⟨w.heap.size + 2, 1, none⟩ = some (.slice Av k cv) ∧ w'.frozen? ⟨w.heap.size + 2, 1, none⟩ = false := fun w' h => ⟨(cell_of_heap (h _ hbs (hne _ (by omega)))).trans c1, (frozen_of_heap (h _ hbs (hne _ (by omega)))).trans g1⟩
      clear hu ha hrow
      go_wp2
      go_region_law
        (first
          | (go_simp
             go_at_call 63
             refine (ih u hmem hszt A1 c1' wr.drew hi64 hs1.out).mono ?_
             rintro e w4 ⟨v4, l4, rfl, hl4, hR4, hb4⟩
             have hB4 : Below wr.heap.size wr w4 := ⟨hb4.os, hb4.tape, hb4.output, hb4.size, hb4.block⟩
             obtain ⟨A4, c4, hv4⟩ := row_own hR4.row
             have hl4l : l4.length = u.args.length := by rw [← hl4, List.length_map]
             rw [hl4l] at hv4
             have HR4 := Lib.hid hR4
             obtain ⟨k4, _, _, _⟩ := hSS _ hB4
             obtain ⟨k4', _, _, _⟩ := hSS _ (hB4.alloc hB4.size (.cells #[.int .i64 u.fn, .slice A4 u.args.length c4] 39))
             subst hv4
             clear hR4
             dsimp only)
          | (refine step_append_at rfl (.tmp 16) (.tmp 23) 37 rfl (w.heap.size + 3) 39 i0 (.agg #[.int .i64 0, .slice none 0 0]) 2 32 Try.underlying37 hi hz0 hz1 hz2 rfl (by decide) (.slice Av k cv) k _ (by simp [Act.eval]) (row_keep Hrow.out fun g e => (Below.heap_alloc w4 _ g (Nat.lt_of_lt_of_le (hrl g e).2 hB4.size)).trans (hB4.block g (hrl g e).2)) ⟨w4.heap.size, 0, none⟩ 1 1 [.int .i64 u.fn, .slice A4 u.args.length c4] (by simp [Act.eval]) rfl (cells_new_two _ _ _ _) (by simp [Value.oneCell']) (by unfold maxLen; omega) (by omega) (by have := hB4.size; simp; omega) ?_
             intro v5 w5 hown5 hgr5 hat5
             have hK5 : ∀ g, g < wr.heap.size → (Value.slice Av k cv).ownBlock ≠ some g → w5.heap[g]? = wr.heap[g]? := fun g h1 h2 => (hgr5.block g (by have := hB4.size; simp; omega) (fun e => h2 e.symm)).trans ((Below.heap_alloc w4 _ g (by have := hB4.size; omega)).trans (hB4.block g h1))
             obtain ⟨k1, kf⟩ := hBX w5 hK5
             obtain ⟨g5, cap5, hv5⟩ := ownsRow_succ hown5
             have Hown5 := Lib.hid hown5
             have Hgr5 := Lib.hid hgr5
             have Hat5 := Lib.hid hat5
             subst hv5
             clear hown5 hgr5 hat5 hK5)
          | fail)
      all_goals
        have hst := H.out.next Hu.out hi64 hl4 hul rfl HR4.out hB4 Hown5.out Hgr5.out Hat5.out
        have hBe : Below (w.heap.size + 2) W w5 := ((hBr.trans (hB4.mono (by omega))).alloc (by have := hB4.size; omega) _).grown Hgr5.out (by have := hB4.size; simp; omega) (fun g e => by have := (hrl g e).1; omega)
        go_wp2
        go_roundw
        case rel => exact ⟨k + 1, _, _, by omega, by go_num, hBe.setCell (Nat.le_refl _) _, hst⟩
        case measure => simp [intOf]; omega
    · obtain rfl : k = xs.length := by omega
      have hrow := H.out.row.row
      have hll := H.out.len hk
      rw [hll] at hrow
      obtain ⟨Av, cv, hv⟩ := row_own hrow
      subst hv
      have hkey := Lib.hid H.out.key
      have HR := Lib.hid H.out.row
      obtain ⟨b0, b1, bg0, bg1⟩ := cells_two ((hBr.block _ (by omega)).trans q1)
      clear hrow
      go_wp2
      have z1 : (wr.setCell ⟨w.heap.size + 1, 0, none⟩ (.int .i64 f)).heap[w.heap.size + 1]? = some (.cells #[.int .i64 f, .slice none 0 0] 39) := heap_setCell_same wr _ 0 _ _ _ ((hBr.block _ (by omega)).trans q1)
      have z2 : ((wr.setCell ⟨w.heap.size + 1, 0, none⟩ (.int .i64 f)).setCell ⟨w.heap.size + 1, 1, none⟩ (.slice Av xs.length cv)).heap[w.heap.size + 1]? = some (.cells #[.int .i64 f, .slice Av xs.length cv] 39) := heap_setCell_same _ _ 1 _ _ _ z1
      have p0 := (cells_two z1).1
      have p1 := (cells_two z2).2.1
      have hoth : ∀ g, g ≠ w.heap.size + 1 → ((wr.setCell ⟨w.heap.size + 1, 0, none⟩ (.int .i64 f)).setCell ⟨w.heap.size + 1, 1, none⟩ (.slice Av xs.length cv)).heap[g]? = wr.heap[g]? := fun g e => (heap_setCell_other _ _ _ _ e).trans (heap_setCell_other _ _ _ _ e)
      refine bodyPost_ret (v := .agg #[.int .i64 f, .slice Av xs.length cv]) (by simp [results, Try.results63, go_sem, p0, p1]) rfl ⟨_, l, rfl, by rw [hkey.out, List.take_length]; rfl, ?_, ?_⟩
      · have hk3 := (HR.out.keep (fun g e => hoth g (by have := (row_lt HR.out.row g e).1; omega)) (fun g e => hoth g (by have := e.1; omega))).base (base' := w.heap.size) (by omega)
        exact hk3.wide fun g e => show Apart _ _ _ g from ⟨by have := e.1; omega, by have := e.2.1; simpa using this, e.2.2⟩
      · exact (hBw.setCell (by show _ ≤ w.heap.size + 1; omega) _).setCell (by show _ ≤ w.heap.size + 1; omega) _

theorem refCopyK_at (t : Tm) (A : Option Addr) (c : Nat) (w : World) (hsz : t.size ≤ 4398046511104) (hf : I64 t.fn) (hA : Args w w.heap.size A t.args) :
    Calls Try.prog 63 #[.agg #[.int .i64 t.fn, .slice A t.args.length c]] w fun e w' => ∃ A' c', e = .returned (.agg #[.int .i64 t.fn, .slice A' t.args.length c']) ∧ ArgsK w' (fun g => w.heap.size ≤ g ∧ g < w'.heap.size) A' c' t.args ∧ Below w.heap.size w w' := by
  refine (refCopyK_any t hsz A c w hf hA).mono ?_
  rintro e w' ⟨v, l, rfl, hl, hR, hb⟩
  have hlen : l.length = t.args.length := by rw [← hl, List.length_map]
  obtain ⟨A', c', rfl, hN⟩ := hR.argsK (M := fun g => w.heap.size ≤ g ∧ g < w'.heap.size) (by rw [hlen]; exact hA.len) (fun g e => row_lt hR.row g e) (fun g hg => ⟨hg.1, hg.2.1⟩)
  rw [hl] at hN
  exact ⟨A', c', by rw [hlen], hN, hb⟩

end Go.Proofs.Ytgjmodclgdkodaa

/- The document's own Get, again: its rows have room for what they hold. (gen_eka.py) -/

namespace Go.Proofs.Ytgjmodclgdkodaa

open Go.RowKit Go.Shelf
set_option maxRecDepth 100000

/-- A term of memory of its own; the row of its arguments is the call's own. -/
def OwnRowK (t : Tm) (w : World) (v : Value) (w' : World) : Prop := ∃ l, l.map Ti.t = t.args ∧ RowTK w' w.heap.size v l (Apart w.heap.size v w')

def RGetPostK (l : List Bd) (v : Int) (w : World) (e : Ending) (w' : World) : Prop := Below w.heap.size w w' ∧
  match findB l v with
  | none => e = .returned (.tuple #[.agg #[.int .i64 0, .slice none 0 0], .bool false])
  | some x => ∃ v4, e = .returned (.tuple #[.agg #[.int .i64 x.t.fn, v4], .bool true]) ∧ I64 x.t.fn ∧ OwnRowK x.t w v4 w'

theorem rgetK_yes {l : List Bd} {v : Int} {x : Bd} {w w1 w2 : World} {v4 : Value} (hf : findB l v = some x) (hi : I64 x.t.fn) {b : Nat} (hb0 : w.heap.size ≤ b) (hb : b < w1.heap.size) (h1 : Below w.heap.size w w1) {l4 : List Ti} (hl : l4.map Ti.t = x.t.args) (hR : RowTK w2 w1.heap.size v4 l4 (Apart w1.heap.size v4 w2)) (h2 : Below w1.heap.size w1 w2) :
    RGetPostK l v w (.returned (.tuple #[.agg #[.int .i64 x.t.fn, v4], .bool true])) ((w2.setCell ⟨b, 0, none⟩ (.int .i64 x.t.fn)).setCell ⟨b, 1, none⟩ v4) := by
  have hoth : ∀ g, g ≠ b → ((w2.setCell ⟨b, 0, none⟩ (.int .i64 x.t.fn)).setCell ⟨b, 1, none⟩ v4).heap[g]? = w2.heap[g]? := fun g e => (heap_setCell_other _ _ _ _ e).trans (heap_setCell_other _ _ _ _ e)
  have hs := h1.size
  refine ⟨((h1.trans (h2.mono hs)).setCell (by show _ ≤ b; omega) _).setCell (by show _ ≤ b; omega) _, ?_⟩
  rw [hf]
  refine ⟨v4, rfl, hi, l4, hl, ?_⟩
  have hk := (hR.keep (fun g e => hoth g (by have := (row_lt hR.row g e).1; omega)) (fun g e => hoth g (by have := e.1; omega))).base (base' := w.heap.size) hs
  exact hk.wide fun g e => ⟨Nat.le_trans hs e.1, by have := e.2.1; simpa using this, e.2.2⟩

set_option maxHeartbeats 2000000 in
theorem refGetK_any (l : List Bd) (v : Int) (A : Option Addr) (c : Nat) (w : World) (hsm : ∀ x ∈ l, x.t.size ≤ 4398046511104) (hA : Binds w (· < w.heap.size) A l) :
    Calls Try.prog 46 #[.slice A l.length c, .int .i64 v] w (RGetPostK l v w) := by
  obtain ⟨W, hW⟩ : ∃ W, w.alloc (.cells #[.int .i64 0, .slice none 0 0] 39) = W := ⟨_, rfl⟩
  have hB : Below w.heap.size w W := by rw [← hW]; exact (Below.refl _ _).alloc (Nat.le_refl _) _
  have q0 := heap_alloc_new w (.cells #[.int .i64 0, .slice none 0 0] 39)
  rw [hW] at q0
  have hWs : w.heap.size < W.heap.size := (Array.getElem?_eq_some_iff.1 q0).1
  have hlen := hA.len
  have HA := Lib.hid hA
  have Hsm := Lib.hid hsm
  have HW := Lib.hid hW
  clear hA hW hsm
  go_enter Try.func46, Try.ntmps46
  go_upto_region 1 with fail
  rw [HW.out]
  go_wp2
  go_loopw [6] (fun i wr => ∃ k : Nat, k ≤ l.length ∧ i = .int .i64 (k : Int) ∧ wr = W ∧ Hid (∀ j, j < k → ∀ x, l[j]? = some x → ¬ x.v = v)) (fun i _ => l.length - (intOf i).toNat)
  case atStart => exact ⟨0, Nat.zero_le _, rfl, rfl, Lib.hid fun j hj => by omega⟩
  case round =>
    obtain ⟨k, hk, rfl, rfl, Hn⟩ := hrel
    by_cases hlt : k < l.length
    · obtain ⟨x, hx⟩ : ∃ x, l[k]? = some x := ⟨_, List.getElem?_eq_getElem hlt⟩
      obtain ⟨b, off, A', c', rfl, h⟩ := HA.out.get hx
      have e0 := cell_on hB h.hb h.c0
      have e1 := cell_on hB h.hb h.c1
      have e2 := cell_on hB h.hb h.c2
      have Hx := Lib.hid hx
      by_cases hv : x.v = v
      · have hfind : Hid (findB l v = some x) := Lib.hid (by
          unfold findB
          rw [List.find?_eq_some_iff_getElem]
          obtain ⟨h1, h2⟩ := List.getElem?_eq_some_iff.1 hx
          exact ⟨decide_eq_true hv, k, h1, h2, fun j hj => by have := Hn.out j hj _ (List.getElem?_eq_getElem (by omega)); simpa using this⟩)
        have hv' : ((x.v : Int) == v) = true := by simp [hv]
        have HC := Lib.hid (refCopyK_any x.t (Hsm.out x (List.mem_of_getElem? hx)) A' c' wr h.it ((h.sub.keep fun g e => hB.block g e).args fun g e => Nat.lt_of_lt_of_le e hB.size))
        have hit := Lib.hid h.it
        clear hx h hv
        go_wp2_with (first
          | (go_at_call 63; (with_reducible refine HC.out.mono ?_); go_must (rintro e w2 ⟨v4, l4, rfl, hl4, hR4, hb4⟩; obtain ⟨Av, cv, hv4⟩ := row_own hR4.row; subst hv4; have hl4 := Lib.hid hl4; have hR4 := Lib.hid hR4; have y3 := (hb4.block _ hWs).trans q0; obtain ⟨d0, d1, g0, g1⟩ := cells_two y3))
          | fail)
        obtain ⟨z0, z1⟩ := set2_two (u := .int .i64 x.t.fn) (v := .slice Av l4.length cv) y3
        have k0 := (cells_two z0).1
        have k1 := (cells_two z1).2.1
        exact bodyPost_ret (v := .tuple #[.agg #[.int .i64 x.t.fn, .slice Av l4.length cv], .bool true]) (by simp [results, Try.results46, go_sem, k0, k1]) rfl (rgetK_yes hfind.out hit.out (Nat.le_refl _) hWs hB hl4.out hR4.out hb4)
      · have hv' : ((x.v : Int) == v) = false := by simp [hv]
        clear hx h
        go_wp2
        go_roundw
        case rel => exact ⟨k + 1, by omega, by go_num, trivial, Lib.hid fun j hj y hy => by
          rcases Nat.lt_or_ge j k with h | h
          · exact Hn.out j h y hy
          · obtain rfl : j = k := by omega
            rw [Hx.out] at hy; injection hy with hy; rw [← hy]; exact hv⟩
        case measure => simp [intOf]; omega
    · obtain rfl : k = l.length := by omega
      have hfind : Hid (findB l v = none) := Lib.hid (findB_none fun i y hy => Hn.out i (List.getElem?_eq_some_iff.1 hy).1 y hy)
      obtain ⟨a0, a1, f0, f1⟩ := cells_two q0
      go_wp2
      obtain ⟨z0, z1⟩ := set2_two (u := .int .i64 0) (v := .slice none 0 0) q0
      have k0 := (cells_two z0).1
      have k1 := (cells_two z1).2.1
      refine bodyPost_ret (v := .tuple #[.agg #[.int .i64 0, .slice none 0 0], .bool false]) (by simp [results, Try.results46, go_sem, k0, k1]) rfl ⟨(hB.setCell (by show _ ≤ w.heap.size; omega) _).setCell (by show _ ≤ w.heap.size; omega) _, ?_⟩
      rw [hfind.out]

end Go.Proofs.Ytgjmodclgdkodaa

