import Derived.Test.YthgglobfkkcdgaaGreatDoorP48S5
import Derived.Test.YthgglobfkkcdgaaGreatDoorP48S12
import Derived.Test.YthgglobfkkcdgaaGreatDoorP48S11
namespace Go.Proofs.YthgglobfkkcdgaaGreatDoor
open Go.RowKit Go.Shelf Go.Maps
set_option maxRecDepth 100000
theorem kboCmp_at {W : World} {o : Odr} {s t : Tm} {P Q A A2 : Option Addr} {pc qc c c2 : Nat} (hM : OdrM W W.heap.size o P Q) (hs : TmK W s A c) (ht : TmK W t A2 c2) (hz : s.size + t.size ≤ 1073741824) : ∀ w1, Below W.heap.size W w1 →
    Calls Tryz.prog 23 #[.agg #[.bool o.lpo, .slice P o.prec.length pc, .slice Q o.wts.length qc, .int .i64 o.var], .agg #[.int .i64 s.fn, .slice A s.args.length c], .agg #[.int .i64 t.fn, .slice A2 t.args.length c2]] w1 fun e w' => e = .returned (.int .i64 (cmpR o s t)) ∧ Below w1.heap.size w1 w' := fun w1 hb => by
  have := kboCmp_any o s t P Q A A2 pc qc c c2 w1 (hM.on hb) hs.i64 ht.i64 hz (hs.on hb).args (ht.on hb).args
  rwa [cmpO_eq] at this
section
variable {o : Odr} {ar : List Nat} {s t u : Tm}
theorem cmpR_gd (K : Adm o ar) (hs : Gd ar s) (ht : Gd ar t) : cmpR o s t = if cmpT s t = 0 then 2 else if abvT o s t then 3 else if abvT o t s then 1 else 0 := by
  unfold cmpR; rw [K.know s hs.wf, K.know t ht.wf]; rfl
theorem cmpR_two (K : Adm o ar) (hs : Gd ar s) (ht : Gd ar t) : cmpR o s t = 2 ↔ cmpT s t = 0 := by
  rw [cmpR_gd K hs ht]
  by_cases h : cmpT s t = 0
  · simp [h]
  · simp only [h, if_false]
    constructor
    · intro e; split at e <;> (try split at e) <;> cases e
    · intro e; exact e.elim
theorem cmpR_three (K : Adm o ar) (hs : Gd ar s) (ht : Gd ar t) : cmpR o s t = 3 ↔ abvT o s t = true := by
  rw [cmpR_gd K hs ht]
  by_cases h : cmpT s t = 0
  · have : s = t := cmp_zero_iff.1 h
    subst this
    simp only [h, if_true]
    constructor
    · intro e; cases e
    · intro e; exact absurd e abv_irr
  · simp only [h, if_false]
    cases h1 : abvT o s t
    · simp only [Bool.false_eq_true, if_false, iff_false]
      split <;> decide
    · simp
theorem cmpR_turn (K : Adm o ar) (hs : Gd ar s) (ht : Gd ar t) : cmpR o t s = turnI (cmpR o s t) := by
  rw [cmpR_gd K hs ht, cmpR_gd K ht hs]
  by_cases h : cmpT s t = 0
  · have : s = t := cmp_zero_iff.1 h
    subst this
    simp [h, turnI]
  · have h' : ¬ cmpT t s = 0 := fun e => by
      rw [cmp_zero_iff] at e; subst e; exact h (cmp_zero_iff.2 rfl)
    rw [if_neg h, if_neg h']
    cases h1 : abvT o s t
    · cases h2 : abvT o t s <;> simp [turnI]
    · rw [abv_asym s t h1]; simp [turnI]
theorem cmpR_trans (K : Adm o ar) (hs : Gd ar s) (ht : Gd ar t) (hu : Gd ar u) (h1 : cmpR o s t = 3) (h2 : cmpR o t u = 3) : cmpR o s u = 3 :=
  (cmpR_three K hs hu).2 (abv_trans K s t u hs ht hu ((cmpR_three K hs ht).1 h1) ((cmpR_three K ht hu).1 h2))
end
end Go.Proofs.YthgglobfkkcdgaaGreatDoor
namespace Go.Proofs.YthgglobfkkcdgaaGreatDoor
open Go.RowKit
set_option maxRecDepth 20000
def lexB (A : Tm → Tm → Bool) : List Tm → List Tm → Bool
  | [], _ => false
  | _ :: _, [] => true
  | x :: xs, y :: ys => A x y || (decide (cmpT x y = 0) && lexB A xs ys)
def rkI (p : List Int) (f : Int) : Int := p.getD f.toNat 0
def lpN (p : List Int) : Nat → Tm → Tm → Bool
  | 0, _, _ => false
  | n + 1, .node f xs, t => !decide (f < 0) && ((decide (t.fn < 0) && decide (0 < ofT t.fn (.node f xs))) || (xs.any fun x => decide (cmpT x t = 0) || lpN p n x t) ||
      (!decide (t.fn < 0) && ((t.args.all fun y => lpN p n (.node f xs) y) && (decide (rkI p t.fn < rkI p f) || (decide (f = t.fn) && lexB (lpN p n) xs t.args)))))
def lpT (p : List Int) (s t : Tm) : Bool := lpN p (s.size + t.size) s t
theorem lexB_congr {A B : Tm → Tm → Bool} : ∀ (xs ys : List Tm), (∀ x ∈ xs, ∀ y ∈ ys, A x y = B x y) → lexB A xs ys = lexB B xs ys
  | [], _, _ => rfl
  | _ :: _, [], _ => rfl
  | x :: xs, y :: ys, h => by
    rw [lexB, lexB, lexB_congr xs ys fun a ha b hb => h a (by simp [ha]) b (by simp [hb]), h x (by simp) y (by simp)]
theorem size_arg {f : Int} {xs : List Tm} {x : Tm} (h : x ∈ xs) : x.size < (Tm.node f xs).size := by
  have := size_mem h
  rw [Tm.size]; omega
theorem size_args {t y : Tm} (h : y ∈ t.args) : y.size < t.size := by
  obtain ⟨f, xs⟩ := t
  exact size_arg h
theorem all_congr' {A B : Tm → Bool} : ∀ (xs : List Tm), (∀ x ∈ xs, A x = B x) → xs.all A = xs.all B
  | [], _ => rfl
  | x :: xs, h => by rw [List.all_cons, List.all_cons, h x (by simp), all_congr' xs fun y hy => h y (by simp [hy])]
theorem any_congr' {A B : Tm → Bool} : ∀ (xs : List Tm), (∀ x ∈ xs, A x = B x) → xs.any A = xs.any B
  | [], _ => rfl
  | x :: xs, h => by rw [List.any_cons, List.any_cons, h x (by simp), any_congr' xs fun y hy => h y (by simp [hy])]
theorem lpN_more (p : List Int) : ∀ (n m : Nat) (s t : Tm), s.size + t.size ≤ n → n ≤ m → lpN p n s t = lpN p m s t
  | 0, m, s, t, h, _ => by have := size_pos s; omega
  | n + 1, 0, s, t, _, h => by omega
  | n + 1, m + 1, .node f xs, t, h, hm => by
    rw [lpN, lpN]
    rw [any_congr' xs (B := fun x => decide (cmpT x t = 0) || lpN p m x t) fun x hx => by rw [lpN_more p n m x t (by have := size_arg (f := f) hx; omega) (by omega)],
      all_congr' t.args (B := fun y => lpN p m (.node f xs) y) fun y hy => lpN_more p n m _ y (by have := size_args hy; omega) (by omega),
      lexB_congr (B := lpN p m) xs t.args fun x hx y hy => lpN_more p n m x y (by have := size_arg (f := f) hx; have := size_args hy; omega) (by omega)]
theorem lpT_of (p : List Int) {n : Nat} {s t : Tm} (h : s.size + t.size ≤ n) : lpN p n s t = lpT p s t := (lpN_more p _ n s t (Nat.le_refl _) h).symm
theorem lpT_eq (p : List Int) (f : Int) (xs : List Tm) (t : Tm) : lpT p (.node f xs) t = (!decide (f < 0) && ((decide (t.fn < 0) && decide (0 < ofT t.fn (.node f xs))) || (xs.any fun x => decide (cmpT x t = 0) || lpT p x t) ||
      (!decide (t.fn < 0) && ((t.args.all fun y => lpT p (.node f xs) y) && (decide (rkI p t.fn < rkI p f) || (decide (f = t.fn) && lexB (lpT p) xs t.args)))))) := by
  have hp := size_pos t
  rw [← lpT_of p (n := (Tm.node f xs).size + t.size - 1 + 1) (by omega), lpN]
  rw [any_congr' xs (B := fun x => decide (cmpT x t = 0) || lpT p x t) fun x hx => by rw [lpT_of p (by have := size_arg (f := f) hx; omega)],
    all_congr' t.args (B := fun y => lpT p (.node f xs) y) fun y hy => lpT_of p (by have := size_args hy; omega),
    lexB_congr (B := lpT p) xs t.args fun x hx y hy => lpT_of p (by have := size_arg (f := f) hx; have := size_args hy; omega)]
section
variable {p : List Int}
inductive LpR (p : List Int) (f : Int) (xs : List Tm) (t : Tm) : Prop
  | var (h : t.fn < 0) (ho : 0 < ofT t.fn (.node f xs))
  | sub (x : Tm) (hx : x ∈ xs) (h : x = t ∨ lpT p x t = true)
  | rank (h : ¬ t.fn < 0) (ha : ∀ y ∈ t.args, lpT p (.node f xs) y = true) (hr : rkI p t.fn < rkI p f)
  | lex (h : ¬ t.fn < 0) (ha : ∀ y ∈ t.args, lpT p (.node f xs) y = true) (he : f = t.fn) (hl : lexB (lpT p) xs t.args = true)
theorem lp_iff {f : Int} {xs : List Tm} {t : Tm} : lpT p (.node f xs) t = true ↔ ¬ f < 0 ∧ LpR p f xs t := by
  rw [lpT_eq]
  simp only [Bool.and_eq_true, Bool.or_eq_true, Bool.not_eq_true', decide_eq_false_iff_not, decide_eq_true_eq, List.any_eq_true, List.all_eq_true]
  constructor
  · rintro ⟨h0, (⟨h1, h2⟩ | ⟨x, hx, h⟩) | ⟨h1, h2, h3⟩⟩
    · exact ⟨h0, .var h1 h2⟩
    · exact ⟨h0, .sub x hx (h.imp (fun e => cmp_zero_iff.1 e) id)⟩
    · rcases h3 with h3 | ⟨h3, h4⟩
      · exact ⟨h0, .rank h1 h2 h3⟩
      · exact ⟨h0, .lex h1 h2 h3 h4⟩
  · rintro ⟨h0, h⟩
    refine ⟨h0, ?_⟩
    cases h with
    | var h ho => exact .inl (.inl ⟨h, ho⟩)
    | sub x hx h => exact .inl (.inr ⟨x, hx, h.imp (fun e => cmp_zero_iff.2 e) id⟩)
    | rank h ha hr => exact .inr ⟨h, ha, .inl hr⟩
    | lex h ha he hl => exact .inr ⟨h, ha, .inr ⟨he, hl⟩⟩
mutual
def vnT : Tm → Bool
  | .node f xs => (!decide (f < 0) || decide (xs.length = 0)) && vnTL xs
def vnTL : List Tm → Bool
  | [] => true
  | t :: ts => vnT t && vnTL ts
end
theorem vnTL_mem : ∀ {xs : List Tm} {t : Tm}, vnTL xs = true → t ∈ xs → vnT t = true
  | [], _, _, h => by simp at h
  | x :: xs, t, h, ht => by
    rw [vnTL, Bool.and_eq_true] at h
    rcases List.mem_cons.1 ht with rfl | ht
    · exact h.1
    · exact vnTL_mem h.2 ht
theorem vn_args {f : Int} {xs : List Tm} {x : Tm} (h : vnT (.node f xs) = true) (hx : x ∈ xs) : vnT x = true := by
  rw [vnT, Bool.and_eq_true] at h
  exact vnTL_mem h.2 hx
theorem vn_arg {t y : Tm} (h : vnT t = true) (hy : y ∈ t.args) : vnT y = true := by
  obtain ⟨f, xs⟩ := t
  exact vn_args h hy
theorem vn_var {t : Tm} (h : vnT t = true) (hf : t.fn < 0) : t = .node t.fn [] := by
  obtain ⟨f, xs⟩ := t
  change f < 0 at hf
  rw [vnT, Bool.and_eq_true, Bool.or_eq_true, Bool.not_eq_true', decide_eq_false_iff_not, decide_eq_true_eq] at h
  rcases h.1 with h1 | h1
  · exact absurd hf h1
  · rw [List.eq_nil_of_length_eq_zero h1]; rfl
theorem of_mem {v : Int} : ∀ {xs : List Tm}, 0 < ofL v xs → ∃ x ∈ xs, 0 < ofT v x
  | [], h => by rw [ofL] at h; omega
  | y :: ys, h => by
    rw [ofL] at h
    by_cases hy : 0 < ofT v y
    · exact ⟨y, by simp, hy⟩
    · obtain ⟨x, hx, h⟩ := of_mem (v := v) (xs := ys) (by omega); exact ⟨x, by simp [hx], h⟩
theorem of_le {v : Int} : ∀ {xs : List Tm} {x : Tm}, x ∈ xs → ofT v x ≤ ofL v xs
  | [], _, h => by simp at h
  | y :: ys, x, h => by
    rw [ofL]
    rcases List.mem_cons.1 h with rfl | h
    · omega
    · have := of_le (v := v) h; omega
theorem lp_vars : ∀ (n : Nat) (s t : Tm) (v : Int), s.size + t.size ≤ n → vnT t = true → lpT p s t = true → v < 0 → 0 < ofT v t → 0 < ofT v s
  | 0, s, t, v, hn, _, _, _, _ => by have := size_pos s; omega
  | n + 1, .node f xs, t, v, hn, ht, h, hv, ho => by
    obtain ⟨hf, h⟩ := lp_iff.1 h
    have hargs : ¬ t.fn < 0 → (∀ y ∈ t.args, lpT p (.node f xs) y = true) → 0 < ofT v (.node f xs) := fun htn ha => by
      obtain ⟨g, ys⟩ := t
      rw [ofT] at ho
      change ¬ g < 0 at htn
      rw [if_neg (by omega)] at ho
      obtain ⟨y, hy, hoy⟩ := of_mem (show 0 < ofL v ys from by simpa using ho)
      exact lp_vars n _ y v (by have := size_arg (f := g) hy; omega) (vn_args ht hy) (ha y hy) hv hoy
    cases h with
    | var h1 h2 =>
      rw [vn_var ht h1, ofT, ofL] at ho
      by_cases e : t.fn = v
      · rw [← e]; exact h2
      · rw [if_neg e] at ho; omega
    | sub x hx h =>
      have hxo : 0 < ofT v x := by
        rcases h with rfl | h
        · exact ho
        · exact lp_vars n x t v (by have := size_arg (f := f) hx; omega) ht h hv ho
      rw [ofT]
      have := of_le (v := v) hx
      omega
    | rank h ha _ => exact hargs h ha
    | lex h ha _ _ => exact hargs h ha
theorem lexB_trans {A : Tm → Tm → Bool} : ∀ (xs ys zs : List Tm), (∀ x ∈ xs, ∀ y ∈ ys, ∀ z ∈ zs, A x y = true → A y z = true → A x z = true) → lexB A xs ys = true → lexB A ys zs = true → lexB A xs zs = true
  | [], _, _, _, h, _ => by rw [lexB] at h; cases h
  | _ :: _, [], _, _, _, h => by rw [lexB] at h; cases h
  | _ :: _, _ :: _, [], _, _, _ => by rw [lexB]
  | x :: xs, y :: ys, z :: zs, ht, h1, h2 => by
    rw [lexB, Bool.or_eq_true, Bool.and_eq_true, decide_eq_true_eq, cmp_zero_iff] at h1 h2 ⊢
    rcases h1 with h1 | ⟨rfl, h1⟩
    · rcases h2 with h2 | ⟨rfl, h2⟩
      · exact .inl (ht x (by simp) y (by simp) z (by simp) h1 h2)
      · exact .inl h1
    · rcases h2 with h2 | ⟨rfl, h2⟩
      · exact .inl h2
      · exact .inr ⟨rfl, lexB_trans xs ys zs (fun a ha b hb c hc => ht a (by simp [ha]) b (by simp [hb]) c (by simp [hc])) h1 h2⟩
theorem lexB_self {A : Tm → Tm → Bool} : ∀ xs : List Tm, (∀ x ∈ xs, A x x = false) → lexB A xs xs = false
  | [], _ => rfl
  | x :: xs, h => by rw [lexB, h x (by simp), lexB_self xs fun y hy => h y (by simp [hy])]; simp
theorem lp_trans_n : ∀ (n : Nat) (s t u : Tm), s.size + t.size + u.size ≤ n → vnT s = true → vnT t = true → vnT u = true → lpT p s t = true → lpT p t u = true → lpT p s u = true
  | 0, s, _, _, h, _, _, _, _, _ => by have := size_pos s; omega
  | n + 1, s, t, u, hn, hs, ht, hu, h1, h2 => by
    have ihT := lp_trans_n n
    obtain ⟨f, xs⟩ := s
    obtain ⟨g, ys⟩ := t
    have zt := size_pos (Tm.node g ys)
    have zu := size_pos u
    obtain ⟨hf, r1⟩ := lp_iff.1 h1
    have hg : ¬ g < 0 := (lp_iff.1 h2).1
    have deep : (∀ y ∈ ys, lpT p (.node f xs) y = true) → (rkI p g < rkI p f ∨ (f = g ∧ lexB (lpT p) xs ys = true)) → lpT p (.node f xs) u = true := fun ha hr => by
      have hall : (∀ z ∈ u.args, lpT p (.node g ys) z = true) → ∀ z ∈ u.args, lpT p (.node f xs) z = true := fun hz z hzm => ihT _ _ z (by have := size_args hzm; omega) hs ht (vn_arg hu hzm) h1 (hz z hzm)
      cases (lp_iff.1 h2).2 with
      | var h ho => exact lp_iff.2 ⟨hf, .var h (lp_vars _ _ _ _ (Nat.le_refl _) ht h1 h ho)⟩
      | sub y hy h =>
        rcases h with rfl | h
        · exact ha y hy
        · exact ihT _ y u (by have := size_arg (f := g) hy; omega) hs (vn_args ht hy) hu (ha y hy) h
      | rank h hz hr2 =>
        refine lp_iff.2 ⟨hf, .rank h (hall hz) ?_⟩
        rcases hr with hr | ⟨rfl, _⟩
        · omega
        · exact hr2
      | lex h hz he hl =>
        change g = u.fn at he
        rcases hr with hr | ⟨rfl, hl1⟩
        · exact lp_iff.2 ⟨hf, .rank h (hall hz) (by rw [← he]; exact hr)⟩
        · exact lp_iff.2 ⟨hf, .lex h (hall hz) he (lexB_trans xs ys u.args (fun x hx y hy z hz' => ihT x y z (by have := size_arg (f := f) hx; have := size_arg (f := f) hy; have := size_args hz'; omega) (vn_args hs hx) (vn_args ht hy) (vn_arg hu hz')) hl1 hl)⟩
    cases r1 with
    | var h _ => exact absurd h hg
    | sub x hx h =>
      refine lp_iff.2 ⟨hf, .sub x hx (.inr ?_)⟩
      rcases h with rfl | h
      · exact h2
      · exact ihT x _ u (by have := size_arg (f := f) hx; omega) (vn_args hs hx) ht hu h h2
    | rank h ha hr => exact deep ha (.inl hr)
    | lex h ha he hl => exact deep ha (.inr ⟨he, hl⟩)
theorem lp_trans {s t u : Tm} (hs : vnT s = true) (ht : vnT t = true) (hu : vnT u = true) (h1 : lpT p s t = true) (h2 : lpT p t u = true) : lpT p s u = true := lp_trans_n _ s t u (Nat.le_refl _) hs ht hu h1 h2
theorem lp_arg {f : Int} {xs : List Tm} {x : Tm} (hs : vnT (.node f xs) = true) (hx : x ∈ xs) : lpT p (.node f xs) x = true := by
  refine lp_iff.2 ⟨fun hf => ?_, .sub x hx (.inl rfl)⟩
  have := vn_var hs hf
  injection this with _ h
  rw [h] at hx
  simp at hx
theorem lp_irr : ∀ s : Tm, vnT s = true → lpT p s s = false := by
  refine Tm.ind fun f xs ih hs => ?_
  cases h : lpT p (.node f xs) (.node f xs) with
  | false => rfl
  | true =>
    exfalso
    obtain ⟨hf, r⟩ := lp_iff.1 h
    cases r with
    | var h _ => exact hf h
    | sub x hx h =>
      have hz := size_arg (f := f) hx
      rcases h with rfl | h
      · omega
      · have := lp_trans (vn_args hs hx) hs (vn_args hs hx) h (lp_arg hs hx)
        rw [ih x hx (vn_args hs hx)] at this
        cases this
    | rank _ _ hr => change rkI p f < rkI p f at hr; omega
    | lex _ _ _ hl =>
      change lexB (lpT p) xs xs = true at hl
      rw [lexB_self xs fun x hx => ih x hx (vn_args hs hx)] at hl
      cases hl
theorem lp_asym {s t : Tm} (hs : vnT s = true) (ht : vnT t = true) (h : lpT p s t = true) : lpT p t s = false := by
  cases h2 : lpT p t s with
  | false => rfl
  | true =>
    have := lp_trans hs ht hs h h2
    rw [lp_irr s hs] at this
    cases this
end
end Go.Proofs.YthgglobfkkcdgaaGreatDoor
namespace Go.Proofs.YthgglobfkkcdgaaGreatDoor
open Go.RowKit
set_option maxRecDepth 20000
section
variable {p : List Int}
theorem lp_sub {f : Int} {xs : List Tm} {x t : Tm} (hs : vnT (.node f xs) = true) (hx : x ∈ xs) (h : x = t ∨ lpT p x t = true) : lpT p (.node f xs) t = true := by
  refine lp_iff.2 ⟨fun hf => ?_, .sub x hx h⟩
  have := vn_var hs hf
  injection this with _ h
  rw [h] at hx
  simp at hx
theorem lexB_beside {A : Tm → Tm → Bool} {s t : Tm} (hst : A s t = true) : ∀ (l r r' : List Tm), lexB A (l ++ s :: r) (l ++ t :: r') = true
  | [], r, r' => by rw [List.nil_append, List.nil_append, lexB, hst]; rfl
  | x :: l, r, r' => by
    rw [List.cons_append, List.cons_append, lexB, decide_eq_true (cmp_zero_iff.2 rfl), lexB_beside hst l r r']; simp
theorem lp_within {s t : Tm} {f : Int} {l r : List Tm} (h1 : vnT (.node f (l ++ s :: r)) = true) (hst : lpT p s t = true) : lpT p (.node f (l ++ s :: r)) (.node f (l ++ t :: r)) = true := by
  have hf : ¬ f < 0 := fun hf => by
    have := vn_var h1 hf
    injection this with _ h
    simp at h
  refine lp_iff.2 ⟨hf, .lex hf (fun y hy => ?_) rfl (lexB_beside hst l r r)⟩
  change y ∈ l ++ t :: r at hy
  rcases List.mem_append.1 hy with hy | hy
  · exact lp_arg h1 (by simp [hy])
  · rcases List.mem_cons.1 hy with rfl | hy
    · exact lp_sub h1 (x := s) (by simp) (.inr hst)
    · exact lp_arg h1 (by simp [hy])
theorem lexB_tot {A : Tm → Tm → Bool} : ∀ (xs ys : List Tm), xs.length = ys.length → (∀ x ∈ xs, ∀ y ∈ ys, x = y ∨ A x y = true ∨ A y x = true) → xs = ys ∨ lexB A xs ys = true ∨ lexB A ys xs = true
  | [], [], _, _ => .inl rfl
  | [], _ :: _, h, _ => by simp at h
  | _ :: _, [], h, _ => by simp at h
  | x :: xs, y :: ys, h, ih => by
    rw [lexB, lexB]
    rcases ih x (by simp) y (by simp) with rfl | h1 | h1
    · rcases lexB_tot xs ys (by simpa using h) (fun a ha b hb => ih a (by simp [ha]) b (by simp [hb])) with rfl | h2 | h2
      · exact .inl rfl
      · right; left; rw [h2, decide_eq_true (cmp_zero_iff.2 rfl)]; simp
      · right; right; rw [h2, decide_eq_true (cmp_zero_iff.2 rfl)]; simp
    · right; left; rw [h1]; rfl
    · right; right; rw [h1]; rfl
structure AdmL (p : List Int) (ar : List Nat) : Prop where
  np : p.length = ar.length
  inj : ∀ i k : Nat, i < ar.length → k < ar.length → p.getD i 0 = p.getD k 0 → i = k
variable {ar : List Nat}
theorem wf_vn {ar : List Nat} : ∀ t : Tm, wfT ar t = true → vnT t = true := by
  refine Tm.ind fun f xs ih h => ?_
  have hL : ∀ ys : List Tm, (∀ y ∈ ys, y ∈ xs) → vnTL ys = true := by
    intro ys
    induction ys with
    | nil => intro _; rfl
    | cons y ys ih2 =>
      intro hy
      rw [vnTL, Bool.and_eq_true]
      exact ⟨ih y (hy y (by simp)) (wfL_mem (wf_args h) (hy y (by simp))), ih2 fun z hz => hy z (by simp [hz])⟩
  rw [vnT, Bool.and_eq_true]
  refine ⟨?_, hL xs fun _ h => h⟩
  by_cases hf : f < 0
  · rw [wf_var h hf]; simp
  · rw [decide_eq_false hf]; simp
theorem lp_tot (A : AdmL p ar) : ∀ (n : Nat) (s t : Tm), s.size + t.size ≤ n → wfT ar s = true → wfT ar t = true → grd s → grd t → s = t ∨ lpT p s t = true ∨ lpT p t s = true
  | 0, s, _, h, _, _, _, _ => by have := size_pos s; omega
  | n + 1, .node f xs, .node g ys, hn, hs, ht, gs, gt => by
    have hf := grd_top gs
    have hg := grd_top gt
    obtain ⟨hf1, hf2⟩ := wf_sym hs hf
    obtain ⟨hg1, hg2⟩ := wf_sym ht hg
    have vs := wf_vn _ hs
    have vt := wf_vn _ ht
    by_cases c1 : ∃ x ∈ xs, x = .node g ys ∨ lpT p x (.node g ys) = true
    · obtain ⟨x, hx, h⟩ := c1
      exact .inr (.inl (lp_sub vs hx h))
    by_cases c2 : ∃ y ∈ ys, y = .node f xs ∨ lpT p y (.node f xs) = true
    · obtain ⟨y, hy, h⟩ := c2
      exact .inr (.inr (lp_sub vt hy h))
    have a1 : ∀ y ∈ ys, lpT p (.node f xs) y = true := fun y hy => by
      rcases lp_tot A n (.node f xs) y (by have := size_arg (f := g) hy; omega) hs (wfL_mem (wf_args ht) hy) gs (grd_arg gt hy) with h | h | h
      · exact absurd ⟨y, hy, .inl h.symm⟩ c2
      · exact h
      · exact absurd ⟨y, hy, .inr h⟩ c2
    have a2 : ∀ x ∈ xs, lpT p (.node g ys) x = true := fun x hx => by
      rcases lp_tot A n x (.node g ys) (by have := size_arg (f := f) hx; omega) (wfL_mem (wf_args hs) hx) ht (grd_arg gs hx) gt with h | h | h
      · exact absurd ⟨x, hx, .inl h⟩ c1
      · exact absurd ⟨x, hx, .inr h⟩ c1
      · exact h
    by_cases e : f = g
    · subst e
      rcases lexB_tot (A := lpT p) xs ys (by omega) (fun x hx y hy => lp_tot A n x y (by have := size_arg (f := f) hx; have := size_arg (f := f) hy; omega) (wfL_mem (wf_args hs) hx) (wfL_mem (wf_args ht) hy) (grd_arg gs hx) (grd_arg gt hy)) with rfl | h | h
      · exact .inl rfl
      · exact .inr (.inl (lp_iff.2 ⟨hf, .lex hf a1 rfl h⟩))
      · exact .inr (.inr (lp_iff.2 ⟨hf, .lex hf a2 rfl h⟩))
    · have hne : ¬ rkI p f = rkI p g := fun h => e (by
        have := A.inj f.toNat g.toNat (by omega) (by omega) h
        omega)
      by_cases hlt : rkI p f < rkI p g
      · exact .inr (.inr (lp_iff.2 ⟨hg, .rank hf a2 hlt⟩))
      · exact .inr (.inl (lp_iff.2 ⟨hf, .rank hg a1 (show rkI p g < rkI p f by omega)⟩))
end
end Go.Proofs.YthgglobfkkcdgaaGreatDoor
namespace Go.Proofs.YthgglobfkkcdgaaGreatDoor
open Go.RowKit
set_option maxRecDepth 20000
def difL : List Tm → List Tm → List Tm × List Tm
  | x :: xs, y :: ys => if cmpT x y = 0 then difL xs ys else (x :: xs, y :: ys)
  | xs, ys => (xs, ys)
theorem difL_spec : ∀ (xs ys : List Tm), ∃ pre, xs = pre ++ (difL xs ys).1 ∧ ys = pre ++ (difL xs ys).2 ∧ ∀ a l b m, (difL xs ys).1 = a :: l → (difL xs ys).2 = b :: m → ¬ a = b
  | [], ys => ⟨[], by simp [difL], by simp [difL], fun a l b m h => by simp [difL] at h⟩
  | x :: xs, [] => ⟨[], by simp [difL], by simp [difL], fun a l b m _ h => by simp [difL] at h⟩
  | x :: xs, y :: ys => by
    by_cases e : cmpT x y = 0
    · have e' := cmp_zero_iff.1 e
      subst e'
      obtain ⟨pre, h1, h2, h3⟩ := difL_spec xs ys
      have hd : difL (x :: xs) (x :: ys) = difL xs ys := by rw [difL, if_pos e]
      rw [hd]
      exact ⟨x :: pre, by rw [List.cons_append, ← h1], by rw [List.cons_append, ← h2], h3⟩
    · have hd : difL (x :: xs) (y :: ys) = (x :: xs, y :: ys) := by rw [difL, if_neg e]
      rw [hd]
      refine ⟨[], rfl, rfl, fun a l b m h1 h2 => ?_⟩
      injection h1 with h1 _
      injection h2 with h2 _
      rw [← h1, ← h2]
      exact fun h => e (cmp_zero_iff.2 h)
section
variable {p : List Int}
theorem lexB_pre {A : Tm → Tm → Bool} : ∀ (pre l m : List Tm), (∀ x ∈ pre, A x x = false) → lexB A (pre ++ l) (pre ++ m) = lexB A l m
  | [], l, m, _ => rfl
  | x :: pre, l, m, h => by
    rw [List.cons_append, List.cons_append, lexB, h x (by simp), decide_eq_true (cmp_zero_iff.2 rfl), lexB_pre pre l m fun y hy => h y (by simp [hy])]; simp
def contB (s t : Tm) : Bool := decide (t.fn < 0) && (!decide (s.fn < 0) && decide (0 < ofT t.fn s))
def higB (p : List Int) (s t : Tm) : Bool := !decide (s.fn < 0) && (!decide (t.fn < 0) && decide (rkI p t.fn < rkI p s.fn))
def outB (p : List Int) (s t : Tm) : Bool := higB p s t && t.args.all fun y => lpT p s y
def leadB (p : List Int) (s t : Tm) : Bool := decide (s.fn = t.fn) && (match difL s.args t.args with
  | ([], _) => false
  | (_ :: _, []) => true
  | (a :: _, b :: m) => lpT p a b && m.all fun y => lpT p s y)
def covRow (s t : Tm) : List Tm := if s.fn = t.fn then (difL s.args t.args).1.tail else s.args
def covB (p : List Int) (s t : Tm) : Bool := !decide (t.fn < 0) && (!higB p s t && (covRow s t).any fun x => decide (cmpT x t = 0) || lpT p x t)
def fndB (p : List Int) (s t : Tm) : Bool := contB s t || (outB p s t || (leadB p s t || covB p s t))
theorem find_eq {s t : Tm} (hs : vnT s = true) (ht : vnT t = true) : fndB p s t = lpT p s t := by
  obtain ⟨f, xs⟩ := s
  rw [Bool.eq_iff_iff]
  obtain ⟨pre, e1, e2, e3⟩ := difL_spec xs t.args
  have below : ∀ y, lpT p (.node f xs) t = true → y ∈ t.args → lpT p (.node f xs) y = true := fun y h hy => lp_trans hs ht (vn_arg ht hy) h (by
    obtain ⟨g, ys⟩ := t
    exact lp_arg ht hy)
  constructor
  · intro h
    unfold fndB at h
    simp only [Bool.or_eq_true] at h
    rcases h with h | h | h | h
    · unfold contB at h
      simp only [Bool.and_eq_true, Bool.not_eq_true', decide_eq_false_iff_not, decide_eq_true_eq] at h
      exact lp_iff.2 ⟨h.2.1, .var h.1 h.2.2⟩
    · unfold outB higB at h
      simp only [Bool.and_eq_true, Bool.not_eq_true', decide_eq_false_iff_not, decide_eq_true_eq, List.all_eq_true] at h
      exact lp_iff.2 ⟨h.1.1, .rank h.1.2.1 h.2 h.1.2.2⟩
    · unfold leadB at h
      rw [Bool.and_eq_true, decide_eq_true_eq] at h
      obtain ⟨hfg, h⟩ := h
      change f = t.fn at hfg
      change (match difL xs t.args with | ([], _) => false | (_ :: _, []) => true | (a :: _, b :: m) => lpT p a b && m.all fun y => lpT p (.node f xs) y) = true at h
      have hirr : ∀ x ∈ pre, lpT p x x = false := fun x hx => lp_irr x (vn_args hs (by rw [e1]; simp [hx]))
      match hd : difL xs t.args with
      | ([], m) => rw [hd] at h; simp at h
      | (a :: l, m) =>
        rw [hd] at h e1 e2 e3
        simp only at h e1 e2 e3
        have hf : ¬ f < 0 := fun hf => by
          have := vn_var hs hf
          injection this with _ h'
          rw [h'] at e1
          simp at e1
        have hpre : ∀ y ∈ pre, lpT p (.node f xs) y = true := fun y hy => lp_arg hs (by rw [e1]; simp [hy])
        match m, h, e2 with
        | [], h, e2 =>
          refine lp_iff.2 ⟨hf, .lex (by rw [← hfg]; exact hf) (fun y hy => hpre y (by rw [e2] at hy; simpa using hy)) hfg ?_⟩
          rw [e1, e2, lexB_pre pre _ _ hirr, lexB]
        | b :: m, h, e2 =>
          rw [Bool.and_eq_true, List.all_eq_true] at h
          refine lp_iff.2 ⟨hf, .lex (by rw [← hfg]; exact hf) (fun y hy => ?_) hfg ?_⟩
          · rw [e2] at hy
            rcases List.mem_append.1 hy with hy | hy
            · exact hpre y hy
            · rcases List.mem_cons.1 hy with rfl | hy
              · exact lp_sub hs (x := a) (by rw [e1]; simp) (.inr h.1)
              · exact h.2 y hy
          · rw [e1, e2, lexB_pre pre _ _ hirr, lexB, h.1]; rfl
    · unfold covB at h
      simp only [Bool.and_eq_true, Bool.not_eq_true', List.any_eq_true, Bool.or_eq_true, decide_eq_true_eq] at h
      obtain ⟨_, _, x, hx, h⟩ := h
      refine lp_sub hs (x := x) ?_ (h.imp cmp_zero_iff.1 id)
      unfold covRow at hx
      by_cases hfg : (Tm.node f xs).fn = t.fn
      · rw [if_pos hfg] at hx
        rw [e1]
        exact List.mem_append_right _ (List.mem_of_mem_tail hx)
      · rw [if_neg hfg] at hx
        exact hx
  · intro h
    obtain ⟨hf, r⟩ := lp_iff.1 h
    have hcont : t.fn < 0 → 0 < ofT t.fn (.node f xs) → fndB p (.node f xs) t = true := fun h1 h2 => by
      unfold fndB contB
      rw [decide_eq_true h1, decide_eq_false (show ¬ (Tm.node f xs).fn < 0 from hf), decide_eq_true h2]; rfl
    have hout : ¬ t.fn < 0 → rkI p t.fn < rkI p f → fndB p (.node f xs) t = true := fun h1 h2 => by
      have hh : outB p (.node f xs) t = true := by
        unfold outB higB
        rw [decide_eq_false (show ¬ (Tm.node f xs).fn < 0 from hf), decide_eq_false h1, decide_eq_true (show rkI p t.fn < rkI p (Tm.node f xs).fn from h2), Bool.and_eq_true, List.all_eq_true]
        exact ⟨rfl, fun y hy => below y h hy⟩
      unfold fndB; rw [hh]; simp
    have hlead : f = t.fn → (∀ a l b m, difL xs t.args = (a :: l, b :: m) → lpT p a b = true) → (∀ m, difL xs t.args ≠ ([], m)) → fndB p (.node f xs) t = true := fun h1 h2 h3 => by
      have hh : leadB p (.node f xs) t = true := by
        unfold leadB
        rw [decide_eq_true (show (Tm.node f xs).fn = t.fn from h1), Bool.true_and]
        change (match difL xs t.args with | ([], _) => false | (_ :: _, []) => true | (a :: _, b :: m) => lpT p a b && m.all fun y => lpT p (.node f xs) y) = true
        match hd : difL xs t.args with
        | ([], m) => exact absurd hd (h3 m)
        | (a :: l, []) => rfl
        | (a :: l, b :: m) =>
          rw [hd] at e2
          simp only at e2
          simp only [Bool.and_eq_true, List.all_eq_true]
          exact ⟨h2 a l b m hd, fun y hy => below y h (by rw [e2]; simp [hy])⟩
      unfold fndB; rw [hh]; simp
    cases r with
    | var h1 h2 => exact hcont h1 h2
    | sub x hx hxt =>
      by_cases htv : t.fn < 0
      · refine hcont htv ?_
        have h0 : 0 < ofT t.fn x := by
          rcases hxt with rfl | hxt
          · rw [vn_var (vn_args hs hx) htv, ofT]
            change 0 < (if x.fn = x.fn then 1 else 0) + ofL x.fn []
            rw [if_pos rfl]; omega
          · refine lp_vars _ x t t.fn (Nat.le_refl _) ht hxt htv ?_
            rw [vn_var ht htv]
            change 0 < ofT t.fn (.node t.fn [])
            rw [ofT, if_pos rfl]; omega
        have h1 := of_le (v := t.fn) hx
        rw [ofT]; omega
      · by_cases hr : rkI p t.fn < rkI p f
        · exact hout htv hr
        · have hhig : higB p (.node f xs) t = false := by
            unfold higB
            rw [decide_eq_false (show ¬ rkI p t.fn < rkI p (Tm.node f xs).fn from hr)]; simp
          have hcov : x ∈ covRow (.node f xs) t → fndB p (.node f xs) t = true := fun hm => by
            have hh : covB p (.node f xs) t = true := by
              unfold covB
              rw [decide_eq_false htv, hhig]
              simp only [Bool.not_false, Bool.true_and, List.any_eq_true, Bool.or_eq_true, decide_eq_true_eq]
              exact ⟨x, hm, hxt.imp cmp_zero_iff.2 id⟩
            unfold fndB; rw [hh]; simp
          by_cases hfg : f = t.fn
          · rw [e1] at hx
            have targ : ∀ y ∈ t.args, lpT p t y = true := fun y hy => by
              obtain ⟨g, ys⟩ := t
              exact lp_arg ht hy
            have hxs : ∀ y, y ∈ (difL xs t.args).1 → y ∈ xs := fun y hy => by rw [e1]; exact List.mem_append_right _ hy
            rcases List.mem_append.1 hx with hx | hx
            · exfalso
              have hxy : x ∈ t.args := by rw [e2]; simp [hx]
              have hvx := vn_arg ht hxy
              have h1 := targ x hxy
              rcases hxt with rfl | hxt
              · rw [lp_irr x hvx] at h1; cases h1
              · have := lp_trans hvx ht hvx hxt h1
                rw [lp_irr x hvx] at this; cases this
            · match hd : (difL xs t.args).1, hx with
              | a :: l, hx =>
                rcases List.mem_cons.1 hx with rfl | hx
                · refine hlead hfg (fun a' l' b m hdd => ?_) (fun m hdd => ?_)
                  · rw [hdd] at hd
                    injection hd with hd _
                    subst hd
                    have hb : b ∈ t.args := by rw [e2, hdd]; simp
                    have h1 := targ b hb
                    rcases hxt with rfl | hxt
                    · exact h1
                    · exact lp_trans (vn_args hs (hxs _ (by rw [hdd]; simp))) ht (vn_arg ht hb) hxt h1
                  · rw [hdd] at hd; cases hd
                · refine hcov ?_
                  unfold covRow
                  rw [if_pos (show (Tm.node f xs).fn = t.fn from hfg)]
                  change x ∈ (difL xs t.args).1.tail
                  rw [hd]; exact hx
          · refine hcov ?_
            unfold covRow
            rw [if_neg (show ¬ (Tm.node f xs).fn = t.fn from hfg)]; exact hx
    | rank h1 ha hr => exact hout h1 hr
    | lex h1 ha he hl =>
      have hirr : ∀ x ∈ pre, lpT p x x = false := fun x hx => lp_irr x (vn_args hs (by rw [e1]; simp [hx]))
      rw [(congr (congrArg (lexB (lpT p)) e1) e2).trans (lexB_pre pre _ _ hirr)] at hl
      refine hlead he (fun a l b m hdd => ?_) (fun m hdd => ?_)
      · rw [hdd] at hl e1 e2
        simp only at hl e1 e2
        rw [lexB, Bool.or_eq_true, Bool.and_eq_true, decide_eq_true_eq, cmp_zero_iff] at hl
        rcases hl with hl | ⟨hl, _⟩
        · exact hl
        · exact absurd hl (e3 a l b m (by rw [hdd]) (by rw [hdd]))
      · rw [hdd] at hl
        simp only at hl
        rw [lexB] at hl; cases hl
end
end Go.Proofs.YthgglobfkkcdgaaGreatDoor
namespace Go.Proofs.YthgglobfkkcdgaaGreatDoor
open Go.RowKit
set_option maxRecDepth 20000
def lkN (R : Nat) (L : List (Int × Int)) (b l : Int) : Int × List (Int × Int) :=
  if (b, l) ∈ L then ((R : Int) + (L.idxOf (b, l) : Nat), L) else ((R : Int) + (L.length : Nat), L ++ [(b, l)])
mutual
def nmT (R : Nat) : List (Int × Int) → Tm → Int × List (Int × Int)
  | L, .node f xs => nmL R L f xs
def nmL (R : Nat) : List (Int × Int) → Int → List Tm → Int × List (Int × Int)
  | L, n, [] => (n, L)
  | L, n, x :: xs => nmL R (lkN R (nmT R L x).2 n (nmT R L x).1).2 (lkN R (nmT R L x).2 n (nmT R L x).1).1 xs
end
inductive Dec (R : Nat) (L : List (Int × Int)) : Int → Int → List Tm → Prop
  | sym (n : Int) (h : n < (R : Int)) : Dec R L n n []
  | lk (k : Nat) (b l f g : Int) (xs ys : List Tm) (h : L[k]? = some (b, l)) (h1 : Dec R L b f xs) (h2 : Dec R L l g ys) : Dec R L ((R : Int) + (k : Int)) f (xs ++ [.node g ys])
section
variable {R : Nat} {L L' : List (Int × Int)}
theorem Dec.mono {n f : Int} {xs : List Tm} (h : Dec R L n f xs) (hp : L <+: L') : Dec R L' n f xs := by
  induction h with
  | sym n h => exact .sym n h
  | lk k b l f g xs ys h _ _ ih1 ih2 =>
    refine .lk k b l f g xs ys ?_ ih1 ih2
    obtain ⟨r, rfl⟩ := hp
    rw [List.getElem?_append_left (List.getElem?_eq_some_iff.1 h).1]; exact h
theorem Dec.fun {n f : Int} {xs : List Tm} (h : Dec R L n f xs) : ∀ (f' : Int) (xs' : List Tm), Dec R L n f' xs' → f = f' ∧ xs = xs' := by
  induction h with
  | sym n h =>
    intro f' xs' h'
    cases h' with
    | sym _ _ => exact ⟨rfl, rfl⟩
    | lk k b l f g xs ys _ _ _ => omega
  | lk k b l f g xs ys h _ _ ih1 ih2 =>
    intro f' xs' h'
    generalize hn : (R : Int) + (k : Int) = n at h'
    cases h' with
    | sym _ h0 => omega
    | lk k' b' l' f' g' xs' ys' h' h1' h2' =>
      have hk : k = k' := by omega
      subst hk
      rw [h] at h'
      injection h' with h'
      injection h' with e1 e2
      subst e1 e2
      obtain ⟨rfl, rfl⟩ := ih1 _ _ h1'
      obtain ⟨rfl, rfl⟩ := ih2 _ _ h2'
      exact ⟨rfl, rfl⟩
theorem Dec.inj (hL : L.Nodup) {n f : Int} {xs : List Tm} (h : Dec R L n f xs) : ∀ m : Int, Dec R L m f xs → n = m := by
  induction h with
  | sym n h =>
    intro m h'
    generalize hx : ([] : List Tm) = xs at h'
    cases h' with
    | sym _ _ => rfl
    | lk k b l f g xs ys _ _ _ => simp at hx
  | lk k b l f g xs ys h _ _ ih1 ih2 =>
    intro m h'
    generalize hx : xs ++ [Tm.node g ys] = zs at h'
    cases h' with
    | sym _ _ => simp at hx
    | lk k' b' l' f' g' xs' ys' h' h1' h2' =>
      obtain ⟨e1, e2⟩ := List.append_inj' hx rfl
      subst e1
      injection e2 with e2 _
      injection e2 with e3 e4
      subst e3 e4
      have hb := ih1 _ h1'
      have hl := ih2 _ h2'
      subst hb hl
      have hk : k = k' := (List.getElem?_inj (List.getElem?_eq_some_iff.1 h).1 hL).1 (h.trans h'.symm)
      rw [hk]
theorem idx_get {a : Int × Int} : ∀ {L : List (Int × Int)}, a ∈ L → L[L.idxOf a]? = some a
  | [], h => by simp at h
  | b :: L, h => by
    by_cases e : b = a
    · subst e; simp
    · have h' : a ∈ L := by
        rcases List.mem_cons.1 h with h | h
        · exact absurd h.symm e
        · exact h
      have hbe : (b == a) = false := by simpa using e
      rw [List.idxOf_cons, hbe, cond_false, List.getElem?_cons_succ]
      exact idx_get h'
theorem lk_spec (hL : L.Nodup) (b l : Int) : (lkN R L b l).2.Nodup ∧ L <+: (lkN R L b l).2 ∧ ∃ k : Nat, (lkN R L b l).1 = (R : Int) + (k : Int) ∧ (lkN R L b l).2[k]? = some (b, l) := by
  unfold lkN
  by_cases h : (b, l) ∈ L
  · rw [if_pos h]
    exact ⟨hL, List.prefix_rfl, _, rfl, idx_get h⟩
  · rw [if_neg h]
    refine ⟨?_, List.prefix_append _ _, L.length, rfl, by simp⟩
    rw [List.nodup_append]
    exact ⟨hL, by simp, fun x hx y hy => by simp at hy; subst hy; exact fun e => h (e ▸ hx)⟩
mutual
def rkT (R : Nat) : Tm → Bool
  | .node f xs => decide (f < (R : Int)) && rkL R xs
def rkL (R : Nat) : List Tm → Bool
  | [] => true
  | t :: ts => rkT R t && rkL R ts
end
mutual
theorem nm_spec : ∀ (t : Tm) (L : List (Int × Int)), L.Nodup → rkT R t = true → (nmT R L t).2.Nodup ∧ L <+: (nmT R L t).2 ∧ Dec R (nmT R L t).2 (nmT R L t).1 t.fn t.args
  | .node f xs, L, hL, hr => by
    rw [rkT, Bool.and_eq_true, decide_eq_true_eq] at hr
    rw [nmT]
    have h := nmL_spec xs L f f [] hL (.sym f hr.1) hr.2
    rw [List.nil_append] at h
    exact h
theorem nmL_spec : ∀ (xs : List Tm) (L : List (Int × Int)) (n f : Int) (pre : List Tm), L.Nodup → Dec R L n f pre → rkL R xs = true → (nmL R L n xs).2.Nodup ∧ L <+: (nmL R L n xs).2 ∧ Dec R (nmL R L n xs).2 (nmL R L n xs).1 f (pre ++ xs)
  | [], L, n, f, pre, hL, hD, _ => by
    rw [nmL, List.append_nil]
    exact ⟨hL, List.prefix_rfl, hD⟩
  | x :: xs, L, n, f, pre, hL, hD, hr => by
    rw [rkL, Bool.and_eq_true] at hr
    rw [nmL]
    obtain ⟨h1, h2, h3⟩ := nm_spec x L hL hr.1
    obtain ⟨h4, h5, k, h6, h7⟩ := lk_spec (R := R) h1 n (nmT R L x).1
    have hx : Dec R (lkN R (nmT R L x).2 n (nmT R L x).1).2 (lkN R (nmT R L x).2 n (nmT R L x).1).1 f (pre ++ [x]) := by
      have e : pre ++ [x] = pre ++ [.node x.fn x.args] := by cases x; rfl
      rw [h6, e]
      exact .lk k _ _ f x.fn pre x.args h7 ((hD.mono h2).mono h5) (h3.mono h5)
    obtain ⟨h8, h9, h10⟩ := nmL_spec xs _ _ f (pre ++ [x]) h4 hx hr.2
    exact ⟨h8, (h2.trans h5).trans h9, by rw [List.append_assoc] at h10; exact h10⟩
end
noncomputable def numO (R : Nat) (L : List (Int × Int)) (t : Tm) : Int := open Classical in if h : ∃ n, Dec R L n t.fn t.args then h.choose else 0
theorem num_of (hL : L.Nodup) {n : Int} {t : Tm} (h : Dec R L n t.fn t.args) : numO R L t = n := by
  unfold numO
  have hx : ∃ n, Dec R L n t.fn t.args := ⟨n, h⟩
  rw [dif_pos hx]
  exact Dec.inj hL hx.choose_spec n h
theorem num_inj (hL : L.Nodup) {n m : Int} {s t : Tm} (hs : Dec R L n s.fn s.args) (ht : Dec R L m t.fn t.args) (h : numO R L s = numO R L t) : s = t := by
  rw [num_of hL hs, num_of hL ht] at h
  subst h
  obtain ⟨e1, e2⟩ := hs.fun _ _ ht
  cases s; cases t
  simp only [Tm.fn, Tm.args] at e1 e2
  rw [e1, e2]
end
end Go.Proofs.YthgglobfkkcdgaaGreatDoor
