/- Names of variables make no difference to a normal form, in plain words. Clause: a substitution put into a clause. SubstNames: the law. -/
import Derived.Test.YtdeegdndfblnkaaYA9
import Derived.Test.YtdeegdndfblnkaaU5
import Derived.Test.YtdeegdndfblnkaaDL
import Derived.Test.YtdeegdndfblnkaaVA
import Derived.Test.YtdeegdndfblnkaaYA4
import Derived.Test.YtdeegdndfblnkaaYAJ
namespace Go.Proofs.Ytdeegdndfblnkaa
open Go.RowKit Go.Shelf
set_option maxRecDepth 100000

theorem idx_map {g : Int → Int} : ∀ (L : List Int) (v : Int), (∀ x ∈ L, g x = g v → x = v) → (L.map g).idxOf (g v) = L.idxOf v
  | [], _, _ => rfl
  | x :: L, v, h => by
    have ih := idx_map L v fun y hy => h y (by simp [hy])
    rw [List.map_cons, List.idxOf_cons, List.idxOf_cons]
    by_cases e : x = v
    · subst e; simp
    · have hg : g x ≠ g v := fun h' => e (h x (by simp) h')
      rw [beq_false_of_ne e, beq_false_of_ne hg]
      simp [ih]
theorem ord_map {g : Int → Int} : ∀ (r l : List Int), (∀ x ∈ l ++ r, ∀ y ∈ l ++ r, g x = g y → x = y) → (r.map g).foldl ordI (l.map g) = (r.foldl ordI l).map g
  | [], _, _ => rfl
  | v :: r, l, h => by
    simp only [List.map_cons, List.foldl_cons]
    have e : ordI (l.map g) (g v) = (ordI l v).map g := by
      unfold ordI
      by_cases hm : v ∈ l
      · rw [if_pos hm, if_pos (List.mem_map.2 ⟨v, hm, rfl⟩)]
      · rw [if_neg hm, if_neg, List.map_append]
        · rfl
        · intro hc
          obtain ⟨x, hx, e⟩ := List.mem_map.1 hc
          have := h x (by simp [hx]) v (by simp) e
          subst this
          exact hm hx
    rw [e]
    have hsub : ∀ x ∈ ordI l v ++ r, x ∈ l ++ v :: r := fun x hx => by
      rcases List.mem_append.1 hx with hx | hx
      · unfold ordI at hx
        split at hx
        · simp [hx]
        · rcases List.mem_append.1 hx with hx | hx
          · simp [hx]
          · simp at hx; subst hx; simp
      · simp [hx]
    exact ord_map r (ordI l v) fun x hx y hy => h x (hsub x hx) y (hsub y hy)
theorem idx_inj {L : List Int} {x y : Int} (hx : x ∈ L) (hy : y ∈ L) (h : L.idxOf x = L.idxOf y) : x = y := by
  have h1 := List.getElem_idxOf (List.idxOf_lt_length_of_mem hx)
  have h2 := List.getElem_idxOf (List.idxOf_lt_length_of_mem hy)
  rw [← h1, ← h2]
  congr 1

theorem lowL_all : ∀ xs : List Tm, lowL xs = xs.all lowT
  | [] => by simp only [lowL, List.all_nil]
  | t :: ts => by simp only [lowL, lowL_all ts, List.all_cons]
theorem nuL_map (L : List Int) : ∀ xs : List Tm, nuL L xs = xs.map (nuT L)
  | [] => by simp only [nuL, List.map_nil]
  | t :: ts => by simp only [nuL, nuL_map L ts, List.map_cons]
theorem vnL_flat : ∀ xs : List Tm, vnL xs = xs.flatMap vn
  | [] => by simp only [vnL, List.flatMap_nil]
  | t :: ts => by simp only [vnL, vnL_flat ts, List.flatMap_cons]
theorem sizes_same {g : Tm → Tm} : ∀ xs : List Tm, (∀ t ∈ xs, (g t).size = t.size) → sizes (xs.map g) = sizes xs
  | [], _ => by simp only [List.map_nil]
  | t :: ts, h => by simp only [List.map_cons, sizes, h t (by simp), sizes_same ts fun u hu => h u (by simp [hu])]

/-- Of a term whose variables are low: moved. -/
structure MovOK (b : Int) (t : Tm) : Prop where
  vars : vn (movT b t) = (vn t).map (· + b)
  plain : plainT (movT b t) = true
  size : (movT b t).size = t.size
  nu : ∀ L : List Int, nuT (L.map (· + b)) (movT b t) = nuT L t
theorem mov_low {b : Int} (h0 : 0 ≤ b) (h1 : b ≤ 1000000) (t : Tm) : lowT t = true → MovOK b t := by
  refine Tm.ind (P := fun t => lowT t = true → MovOK b t) (fun f xs ih => ?_) t
  intro hl
  rw [lowT] at hl
  by_cases hf : f < 0
  · rw [if_pos hf] at hl
    obtain ⟨h48, hx⟩ := of_decide_eq_true hl
    obtain rfl := List.eq_nil_of_length_eq_zero hx
    have hm : movI b (-1 - f) = -1 - f + b := by
      unfold movI
      split
      · rfl
      · omega
    have hF : movF b f = f - b := by unfold movF; rw [if_pos hf, hm]; omega
    have e : movT b (.node f []) = .node (f - b) [] := by rw [movT_eq, hF]; rfl
    have hn : f - b < 0 := by omega
    refine ⟨?_, ?_, ?_, fun L => ?_⟩
    · rw [e]; simp only [vn, if_pos hf, if_pos hn, vnL, List.append_nil, List.map_cons, List.map_nil]; congr 1; omega
    · rw [e]; simp [plainT, plainL]
    · rw [e]; simp [Tm.size]
    · rw [e]
      simp only [nuT, nuL, nuF, if_pos hf, if_pos hn]
      have := idx_map (g := (· + b)) L (-1 - f) fun x _ h => by omega
      rw [show -1 - (f - b) = -1 - f + b by omega, this]
  · rw [if_neg hf, lowL_all, List.all_eq_true] at hl
    have hF : movF b f = f := by unfold movF; rw [if_neg hf]
    have ih' : ∀ t ∈ xs, MovOK b t := fun t ht => ih t ht (hl t ht)
    refine ⟨?_, ?_, ?_, fun L => ?_⟩
    · rw [movT_eq, hF]
      simp only [vn, if_neg hf, List.nil_append, vnL_flat, List.flatMap_map, List.map_flatMap]
      exact flatMap_same fun t ht => (ih' t ht).vars
    · rw [movT_eq, hF, plainT, plainL_eq, decide_eq_true (show (0 : Int) ≤ f by omega), Bool.true_or, Bool.and_true, List.all_map, List.all_eq_true]
      exact fun t ht => (ih' t ht).plain
    · rw [movT_eq]; simp only [Tm.size]; rw [sizes_same xs fun t ht => (ih' t ht).size]
    · rw [movT_eq, hF]
      simp only [nuT, nuF, if_neg hf, nuL_map, List.map_map]
      congr 1
      exact List.map_congr_left fun t ht => (ih' t ht).nu L
where
  flatMap_same {α β : Type} {f g : α → List β} : ∀ {l : List α}, (∀ t ∈ l, f t = g t) → l.flatMap f = l.flatMap g
    | [], _ => rfl
    | x :: l, h => by
      rw [List.flatMap_cons, List.flatMap_cons, h x (by simp), flatMap_same fun t ht => h t (by simp [ht])]
theorem low_plain (t : Tm) : lowT t = true → plainT t = true := by
  refine Tm.ind (P := fun t => lowT t = true → plainT t = true) (fun f xs ih => ?_) t
  intro hl
  rw [lowT] at hl
  rw [plainT, plainL_eq]
  by_cases hf : f < 0
  · rw [if_pos hf] at hl
    obtain ⟨_, hx⟩ := of_decide_eq_true hl
    obtain rfl := List.eq_nil_of_length_eq_zero hx
    simp
  · rw [if_neg hf, lowL_all, List.all_eq_true] at hl
    rw [decide_eq_true (show (0 : Int) ≤ f by omega), Bool.true_or, Bool.and_true, List.all_eq_true]
    exact fun t ht => ih t ht (hl t ht)

/-- A term's numbers told anew, twice. -/
structure NuOK (L : List Int) (t : Tm) : Prop where
  vars : vn (nuT L t) = (vn t).map fun v => ((L.idxOf v : Nat) : Int)
  size : (nuT L t).size = t.size
  again : (∀ v ∈ vn t, v ∈ L) → nuT (L.map fun v => ((L.idxOf v : Nat) : Int)) (nuT L t) = nuT L t
theorem nu_ok (L : List Int) (t : Tm) : NuOK L t := by
  refine Tm.ind (P := NuOK L) (fun f xs ih => ?_) t
  have hsz : sizes (xs.map (nuT L)) = sizes xs := sizes_same xs fun t ht => (ih t ht).size
  refine ⟨?_, ?_, fun hv => ?_⟩
  · simp only [nuT, nuL_map, vn, vnL_flat, List.map_append, List.flatMap_map, List.map_flatMap]
    congr 1
    · by_cases hf : f < 0
      · have hn : nuF L f < 0 := by unfold nuF; rw [if_pos hf]; omega
        rw [if_pos hn, if_pos hf]
        unfold nuF
        rw [if_pos hf]
        simp only [List.map_cons, List.map_nil]
        congr 1; omega
      · have hn : ¬ nuF L f < 0 := by unfold nuF; rw [if_neg hf]; exact hf
        rw [if_neg hn, if_neg hf]; rfl
    · exact mov_low.flatMap_same fun t ht => (ih t ht).vars
  · simp only [nuT, nuL_map, Tm.size, hsz]
  · simp only [vn] at hv
    have hvx : ∀ t ∈ xs, ∀ v ∈ vn t, v ∈ L := fun t ht v h => hv v (List.mem_append.2 (.inr (by rw [vnL_flat]; exact List.mem_flatMap.2 ⟨t, ht, h⟩)))
    simp only [nuT, nuL_map, List.map_map]
    congr 1
    · by_cases hf : f < 0
      · have hm : -1 - f ∈ L := hv _ (by simp [hf])
        have hF : nuF L f = -1 - ((L.idxOf (-1 - f) : Nat) : Int) := by unfold nuF; rw [if_pos hf]
        rw [hF]
        unfold nuF
        rw [if_pos (show -1 - ((L.idxOf (-1 - f) : Nat) : Int) < 0 by omega)]
        have := idx_map (g := fun v => ((L.idxOf v : Nat) : Int)) L (-1 - f) fun x hx h => idx_inj hx hm (by omega)
        rw [show -1 - (-1 - ((L.idxOf (-1 - f) : Nat) : Int)) = ((L.idxOf (-1 - f) : Nat) : Int) by omega, this]
      · have hF : nuF L f = f := by unfold nuF; rw [if_neg hf]
        rw [hF]
        unfold nuF
        rw [if_neg hf]
    · exact List.map_congr_left fun t ht => (ih t ht).again (hvx t ht)

/-- What Normal tells, put in. -/
theorem app_nu (L : List Int) (t : Tm) : plainT t = true → (∀ v ∈ vn t, v ∈ L) → appT (bdT ((rnN L).map (bdN L))) t = nuT L t := by
  refine Tm.ind (P := fun t => plainT t = true → (∀ v ∈ vn t, v ∈ L) → appT (bdT ((rnN L).map (bdN L))) t = nuT L t) (fun f xs ih => ?_) t
  intro hp hv
  rw [plainT, plainL_eq, Bool.and_eq_true, List.all_eq_true] at hp
  obtain ⟨hpx, hp⟩ := hp
  simp only [vn] at hv
  have hvx : ∀ t ∈ xs, ∀ v ∈ vn t, v ∈ L := fun t ht v h => hv v (List.mem_append.2 (.inr (by rw [vnL_flat]; exact List.mem_flatMap.2 ⟨t, ht, h⟩)))
  have hmap : appL (bdT ((rnN L).map (bdN L))) xs = nuL L xs := by
    rw [appL_eq, nuL_map]
    exact List.map_congr_left fun t ht => ih t ht (hpx t ht) (hvx t ht)
  simp only [appT, nuT]
  by_cases hf : f < 0
  · have hx : xs.length = 0 := by
      rw [Bool.or_eq_true, decide_eq_true_eq, decide_eq_true_eq] at hp
      omega
    obtain rfl := List.eq_nil_of_length_eq_zero hx
    have hm : -1 - f ∈ L := hv _ (by simp [hf])
    have hfd := find_bdN L (-1 - f) (rnN L)
    have hnf := nf_nuN hf hm
    rw [if_pos hf]
    unfold bdT
    rcases hb : findB ((rnN L).map (bdN L)) (-1 - f) with _ | y
    · rw [nf_none hb] at hnf
      simp only [Option.map_none, Option.getD_none, appL, nuL]
      rw [← hnf]
    · rw [nf_some hf hb] at hnf
      rw [hb] at hfd
      split at hfd
      · injection hfd with hfd
        subst hfd
        simp only [Option.map_some, Option.getD_some, nuL]
        rw [← hnf]; rfl
      · cases hfd
  · rw [if_neg hf, Option.getD_none, hmap]
    unfold nuF
    rw [if_neg hf]

/-- Of clauses. -/
def mvC (b : Int) (cl : List Lt) : List Lt := cl.map fun x => ⟨x.neg, movT b x.l, movT b x.r⟩
def apC (g : Int → Option Tm) (cl : List Lt) : List Lt := cl.map fun x => ⟨x.neg, appT g x.l, appT g x.r⟩
theorem vnC_flat : ∀ cl : List Lt, vnC cl = cl.flatMap fun x => vn x.l ++ vn x.r
  | [] => by simp only [vnC, List.flatMap_nil]
  | x :: cl => by simp only [vnC, vnC_flat cl, List.flatMap_cons, List.append_assoc]
section
variable {cl : List Lt} {b : Int}
theorem mvC_vars (h0 : 0 ≤ b) (h1 : b ≤ 1000000) (h : ∀ x ∈ cl, lowT x.l = true ∧ lowT x.r = true) : vnC (mvC b cl) = (vnC cl).map (· + b) := by
  rw [vnC_flat, vnC_flat]
  unfold mvC
  rw [List.flatMap_map, List.map_flatMap]
  exact mov_low.flatMap_same fun x hx => by
    simp only [List.map_append]
    rw [(mov_low h0 h1 x.l (h x hx).1).vars, (mov_low h0 h1 x.r (h x hx).2).vars]
theorem mvC_ord (h0 : 0 ≤ b) (h1 : b ≤ 1000000) (h : ∀ x ∈ cl, lowT x.l = true ∧ lowT x.r = true) : (vnC (mvC b cl)).foldl ordI [] = ((vnC cl).foldl ordI []).map (· + b) := by
  rw [mvC_vars h0 h1 h]
  exact ord_map (g := (· + b)) (vnC cl) [] fun x _ y _ e => by omega
theorem mvC_nu (h0 : 0 ≤ b) (h1 : b ≤ 1000000) (h : ∀ x ∈ cl, lowT x.l = true ∧ lowT x.r = true) : nuC ((vnC (mvC b cl)).foldl ordI []) (mvC b cl) = nuC ((vnC cl).foldl ordI []) cl := by
  rw [mvC_ord h0 h1 h]
  unfold nuC mvC
  rw [List.map_map]
  refine List.map_congr_left fun x hx => ?_
  simp only [Function.comp]
  rw [(mov_low h0 h1 x.l (h x hx).1).nu, (mov_low h0 h1 x.r (h x hx).2).nu]
theorem nuC_vars (L : List Int) (cl : List Lt) : vnC (nuC L cl) = (vnC cl).map fun v => ((L.idxOf v : Nat) : Int) := by
  rw [vnC_flat, vnC_flat]
  unfold nuC
  rw [List.flatMap_map, List.map_flatMap]
  exact mov_low.flatMap_same fun x _ => by
    simp only [List.map_append]
    rw [(nu_ok _ x.l).vars, (nu_ok _ x.r).vars]
theorem nuC_ord (cl : List Lt) : (vnC (nuC ((vnC cl).foldl ordI []) cl)).foldl ordI [] = ((vnC cl).foldl ordI []).map fun v => ((((vnC cl).foldl ordI []).idxOf v : Nat) : Int) := by
  rw [nuC_vars]
  refine ord_map (g := fun v => ((((vnC cl).foldl ordI []).idxOf v : Nat) : Int)) (vnC cl) [] fun x hx y hy e => ?_
  exact idx_inj (ord_sub _ [] x (by simpa using hx)) (ord_sub _ [] y (by simpa using hy)) (Int.ofNat_inj.1 e)
theorem nuC_again (cl : List Lt) : nuC ((vnC (nuC ((vnC cl).foldl ordI []) cl)).foldl ordI []) (nuC ((vnC cl).foldl ordI []) cl) = nuC ((vnC cl).foldl ordI []) cl := by
  rw [nuC_ord]
  conv => lhs; unfold nuC
  conv => rhs; unfold nuC
  rw [List.map_map]
  refine List.map_congr_left fun x hx => ?_
  obtain ⟨h1, h2⟩ := vnC_mem hx
  simp only [Function.comp]
  rw [(nu_ok _ x.l).again fun v hv => ord_sub _ _ _ (h1 v hv), (nu_ok _ x.r).again fun v hv => ord_sub _ _ _ (h2 v hv)]
theorem nuC_none (cl : List Lt) : rnN ((vnC (nuC ((vnC cl).foldl ordI []) cl)).foldl ordI []) = [] := by
  rw [nuC_ord]
  refine List.eq_nil_iff_forall_not_mem.2 fun v hv => ?_
  obtain ⟨h1, h2⟩ := rnN_mem.1 hv
  obtain ⟨u, hu, rfl⟩ := List.mem_map.1 h1
  have := idx_map (g := fun v => ((((vnC cl).foldl ordI []).idxOf v : Nat) : Int)) ((vnC cl).foldl ordI []) u fun x hx h => idx_inj hx hu (by omega)
  unfold mvI at h2
  rw [this] at h2
  simp at h2
theorem apC_nu (h : ∀ x ∈ cl, plainT x.l = true ∧ plainT x.r = true) : apC (bdT ((rnN ((vnC cl).foldl ordI [])).map (bdN ((vnC cl).foldl ordI [])))) cl = nuC ((vnC cl).foldl ordI []) cl := by
  unfold apC nuC
  refine List.map_congr_left fun x hx => ?_
  obtain ⟨h1, h2⟩ := vnC_mem hx
  rw [app_nu _ x.l (h x hx).1 fun v hv => ord_sub _ _ _ (h1 v hv), app_nu _ x.r (h x hx).2 fun v hv => ord_sub _ _ _ (h2 v hv)]
end

end Go.Proofs.Ytdeegdndfblnkaa

namespace Go.Proofs.Ytdeegdndfblnkaa
open Go.RowKit Go.Shelf
set_option maxRecDepth 100000

theorem putter_chg (l : List Bd) (A : Option Addr) (c bs n B0 : Nat) (hn : n < B0) :
    ChgC (fun t => t.size ≤ 4398046511104) (fun (s : Unit) t => (s, appT (bdT l) t)) 97 #[.pointer (some ⟨n, 0, none⟩)] (fun _ => False) (· < B0) (· < B0)
      (fun _ W => PutC l A c bs B0 W ∧ Boxed W n 81 (.func (.func 91) #[] #[.pointer (some ⟨bs, 0, none⟩)])) B0 where
  ent := enters_of Try.func97 (by kernel_rfl) rfl
  call := fun s t At ct W hB0 hI hf hV hA => (putter1_any l A c bs B0 t hV At ct n W hB0 hI.2 hI.1 hf (hA.args fun g e => Nat.lt_of_lt_of_le e hB0)).mono fun e w' ⟨A', c', he, h1, h2, h3⟩ =>
    ⟨A', c', he, h1, h2, ⟨hI.1.keep ((Keeps.of_below h3).mono fun g e => Nat.lt_of_lt_of_le e hB0), (h3.block n (Nat.lt_of_lt_of_le hn hB0)).trans hI.2⟩, KeepsC.of_below h3⟩
  stay := fun s W W' h hk => ⟨h.1.keep hk, (hk.block n hn).trans h.2⟩
  cb := fun g e => e.elim
  db := fun g e => e
  nb := fun g e => e
  nc := fun g _ e => e

theorem litsL_app (g : Int → Option Tm) : ∀ cl : List Lt, (litsL (fun (s : Unit) t => (s, appT g t)) () cl).2 = apC g cl
  | [] => by simp only [litsL, apC, List.map_nil]
  | x :: cl => by
    have ih := litsL_app g cl
    simp only [litsL, sidesL, apC, List.map_cons]
    rw [ih]
    rfl

set_option maxHeartbeats 1000000 in
theorem subClause_any (l : List Bd) (A : Option Addr) (c : Nat) (cl : List Lt) (At : Option Addr) (ct : Nat) (w : World) (hl : l.length ≤ 4611686018427387904) (hA : Binds w (· < w.heap.size) A l) (hr : Rise l) (hsm : ∀ x ∈ l, x.t.size ≤ 4398046511104) (hlen : cl.length ≤ 1048576)
    (hsz : ∀ x ∈ cl, x.l.size ≤ 4398046511104 ∧ x.r.size ≤ 4398046511104) (hT : Lits w (· < w.heap.size) At cl) :
    Calls Try.prog 25 #[.slice A l.length c, .slice At cl.length ct] w fun e w' => ∃ A' c', e = .returned (.slice A' cl.length c') ∧ Lits w' (fun g => w.heap.size ≤ g ∧ g < w'.heap.size) A' (apC (bdT l) cl) ∧ Below w.heap.size w w' := by
  have H1 := Lib.hid (putter_any l A c w (by omega) hA hr)
  have H2 : ∀ (n : Nat) (w1 : World), w.heap.size ≤ n → Boxed w1 n 81 (.func (.func 91) #[] #[.pointer (some ⟨w.heap.size, 0, none⟩)]) → Boxed w1 w.heap.size 23 (.slice A l.length c) → Below w.heap.size w w1 →
      Calls Try.prog 60 #[.slice At cl.length ct, .func (.func 97) #[] #[.pointer (some ⟨n, 0, none⟩)]] w1 fun e w' => ∃ A' c', e = .returned (.slice A' cl.length c') ∧ Lits w' (fun g => w1.heap.size ≤ g ∧ g < w'.heap.size) A' (apC (bdT l) cl) ∧ Below w1.heap.size w1 w' := by
    intro n w1 hn hbn hbs hb
    have h := literals_any (putter_chg l A c w.heap.size n w1.heap.size hbn.lt) cl (by omega) hsz () At ct w1 (Nat.le_refl _) ⟨⟨hl, (hA.keep fun g e => hb.block g e).wide fun g e => Nat.lt_of_lt_of_le e hb.size, hr, hsm, hbs.lt, hbs⟩, hbn⟩ ((hT.keep fun g e => hb.block g e).wide fun g e => Nat.lt_of_lt_of_le e hb.size)
    rw [litsL_len, litsL_app] at h
    exact h.mono fun e w' ⟨A', c', he, h1, _, h3⟩ => ⟨A', c', he, h1, Keeps.below h3 fun g hg => ⟨hg, fun e => e⟩⟩
  have H2 := Lib.hid H2
  clear hA hT
  go_enter Try.func25, Try.ntmps25
  go_wp2_with (first
    | (go_at_call 57; (with_reducible refine H1.out.mono ?_); go_must (rintro e w1 ⟨n, rfl, hn, hbn, hbs, hb1⟩; have H3 := Lib.hid (H2.out n w1 hn hbn hbs hb1); clear hbn hbs))
    | (go_at_call 60; (with_reducible refine H3.out.mono ?_); go_must (rintro e w2 ⟨A2, c2, rfl, hL2, hb2⟩; have HL2 := Lib.hid hL2; clear hL2))
    | fail)
  go_ret
  exact ⟨A2, c2, rfl, HL2.out.wide fun g e => ⟨by have := hb1.size; omega, e.2⟩, hb1.trans (hb2.mono hb1.size)⟩

end Go.Proofs.Ytdeegdndfblnkaa

namespace Go.Proofs.Ytdeegdndfblnkaa
open Go.RowKit Go.Shelf
set_option maxRecDepth 100000

/-- May a literal be asked? -/
def okLt (x : Lt) : Bool := decide (x.l.size ≤ 300) && (decide (x.r.size ≤ 300) && (plainT x.l && (plainT x.r && (smallT x.l && smallT x.r))))
theorem okLt_low {x : Lt} (h : okLt x = true) : x.l.size ≤ 300 ∧ x.r.size ≤ 300 ∧ lowT x.l = true ∧ lowT x.r = true := by
  simp only [okLt, smallT, Bool.and_eq_true, decide_eq_true_eq] at h
  exact ⟨h.1, h.2.1, h.2.2.2.2.1.2, h.2.2.2.2.2.2⟩
theorem mvC_len (b : Int) (cl : List Lt) : (mvC b cl).length = cl.length := by unfold mvC; rw [List.length_map]
theorem clamp_le (b : Int) : (0 : Int) ≤ max (min b 1000000) 0 ∧ max (min b 1000000) 0 ≤ 1000000 := by omega
theorem mvC_size {b : Int} {cl : List Lt} (h0 : 0 ≤ b) (h1 : b ≤ 1000000) (h : ∀ x ∈ cl, okLt x = true) : ∀ x ∈ mvC b cl, x.l.size ≤ 300 ∧ x.r.size ≤ 300 := by
  intro x hx
  obtain ⟨y, hy, rfl⟩ := List.mem_map.1 hx
  obtain ⟨a1, a2, a3, a4⟩ := okLt_low (h y hy)
  exact ⟨by show (movT b y.l).size ≤ 300; rw [(mov_low h0 h1 y.l a3).size]; exact a1, by show (movT b y.r).size ≤ 300; rw [(mov_low h0 h1 y.r a4).size]; exact a2⟩
theorem nuC_size {L : List Int} {cl : List Lt} (h : ∀ x ∈ cl, x.l.size ≤ 300 ∧ x.r.size ≤ 300) : ∀ x ∈ nuC L cl, x.l.size ≤ 300 ∧ x.r.size ≤ 300 := by
  intro x hx
  obtain ⟨y, hy, rfl⟩ := List.mem_map.1 hx
  obtain ⟨a1, a2⟩ := h y hy
  exact ⟨by show (nuT L y.l).size ≤ 300; rw [(nu_ok L y.l).size]; exact a1, by show (nuT L y.r).size ≤ 300; rw [(nu_ok L y.r).size]; exact a2⟩
theorem bdN_rise (L : List Int) : Rise ((rnN L).map (bdN L)) := by
  intro i j x y hij hx hy
  rw [List.getElem?_map] at hx hy
  obtain ⟨u, hu, rfl⟩ := Option.map_eq_some_iff.1 hx
  obtain ⟨v, hv, rfl⟩ := Option.map_eq_some_iff.1 hy
  obtain ⟨h1, h2⟩ := List.getElem?_eq_some_iff.1 hu
  obtain ⟨h3, h4⟩ := List.getElem?_eq_some_iff.1 hv
  show u ≤ v
  rcases Nat.lt_or_ge i j with h | h
  · have := List.pairwise_iff_getElem.1 (rnN_rise L) i j h1 h3 h
    rw [h2, h4] at this; exact this
  · obtain rfl : i = j := by omega
    rw [← h2, ← h4]; exact Int.le_refl _
theorem bdN_small (L S : List Int) : ∀ x ∈ S.map (bdN L), x.t.size ≤ 4398046511104 := fun x hx => by
  obtain ⟨v, _, rfl⟩ := List.mem_map.1 hx
  show Tm.size (.node _ []) ≤ _
  simp [Tm.size, sizes]

/-- What is asked of a literal's sides, in whatever later world. -/
structure LtCalls (w wr : World) (x : Lt) (b off : Nat) (B1 : Option Addr) (d1 : Nat) (B2 : Option Addr) (d2 : Nat) : Prop where
  c1 : ∀ w1, Below wr.heap.size wr w1 → w1.cell? ⟨b, off + 1, none⟩ = some (.int .i64 x.l.fn) ∧ w1.cell? ⟨b, off + 1 + 1, none⟩ = some (.slice B1 x.l.args.length d1) ∧ w1.cell? ⟨b, off + 3, none⟩ = some (.int .i64 x.r.fn) ∧ w1.cell? ⟨b, off + 3 + 1, none⟩ = some (.slice B2 x.r.args.length d2)
  gl : ∀ w1, Below wr.heap.size wr w1 → Calls Try.prog 13 #[.agg #[.int .i64 x.l.fn, .slice B1 x.l.args.length d1], .int .i64 300] w1 fun e w' => e = .returned (.bool (!decide (x.l.size ≤ 300))) ∧ Below w1.heap.size w1 w'
  gr : ∀ w1, Below wr.heap.size wr w1 → Calls Try.prog 13 #[.agg #[.int .i64 x.r.fn, .slice B2 x.r.args.length d2], .int .i64 300] w1 fun e w' => e = .returned (.bool (!decide (x.r.size ≤ 300))) ∧ Below w1.heap.size w1 w'
  pl : ∀ w1, Below wr.heap.size wr w1 → Calls Try.prog 29 #[.agg #[.int .i64 x.l.fn, .slice B1 x.l.args.length d1]] w1 fun e w' => e = .returned (.bool (plainT x.l)) ∧ Below w1.heap.size w1 w'
  pr : ∀ w1, Below wr.heap.size wr w1 → Calls Try.prog 29 #[.agg #[.int .i64 x.r.fn, .slice B2 x.r.args.length d2]] w1 fun e w' => e = .returned (.bool (plainT x.r)) ∧ Below w1.heap.size w1 w'
  sl : ∀ w1, Below wr.heap.size wr w1 → Calls Try.prog 30 #[.agg #[.int .i64 x.l.fn, .slice B1 x.l.args.length d1], .int .i64 48] w1 fun e w' => e = .returned (.bool (smallT x.l)) ∧ Below w1.heap.size w1 w'
  sr : ∀ w1, Below wr.heap.size wr w1 → Calls Try.prog 30 #[.agg #[.int .i64 x.r.fn, .slice B2 x.r.args.length d2], .int .i64 48] w1 fun e w' => e = .returned (.bool (smallT x.r)) ∧ Below w1.heap.size w1 w'
theorem great_dec (n : Nat) : decide ((300 : Int) < (n : Int)) = !decide (n ≤ 300) := by
  by_cases h : n ≤ 300
  · rw [decide_eq_true h, decide_eq_false (by omega)]; rfl
  · rw [decide_eq_false h, decide_eq_true (by omega)]; rfl
theorem ltCalls_of {w wr : World} {x : Lt} {b off : Nat} {B1 B2 : Option Addr} {d1 d2 : Nat} (hBr : Below w.heap.size w wr) (hb : b < w.heap.size) (h : LtAt w (· < w.heap.size) b off x B1 d1 B2 d2) (s1 : x.l.size ≤ 4398046511104) (s2 : x.r.size ≤ 4398046511104) : LtCalls w wr x b off B1 d1 B2 d2 := by
  have hB : ∀ w1, Below wr.heap.size wr w1 → Below w.heap.size w w1 := fun w1 h => hBr.trans (h.mono hBr.size)
  have hL : ∀ w1, Below wr.heap.size wr w1 → Args w1 w1.heap.size B1 x.l.args := fun w1 h1 => (h.sl.keep fun g e => (hB w1 h1).block g e).args fun g e => Nat.lt_of_lt_of_le e (hB w1 h1).size
  have hR : ∀ w1, Below wr.heap.size wr w1 → Args w1 w1.heap.size B2 x.r.args := fun w1 h1 => (h.sr.keep fun g e => (hB w1 h1).block g e).args fun g e => Nat.lt_of_lt_of_le e (hB w1 h1).size
  refine ⟨fun w1 h1 => ⟨cell_on (hB w1 h1) hb h.v1, cell_on (hB w1 h1) hb h.v2, cell_on (hB w1 h1) hb h.v3, cell_on (hB w1 h1) hb h.v4⟩, fun w1 h1 => ?_, fun w1 h1 => ?_, fun w1 h1 => ?_, fun w1 h1 => ?_, fun w1 h1 => ?_, fun w1 h1 => ?_⟩
  · rw [← great_dec]; exact subGreat_any x.l 300 B1 d1 w1 (by omega) h.il (hL w1 h1)
  · rw [← great_dec]; exact subGreat_any x.r 300 B2 d2 w1 (by omega) h.ir (hR w1 h1)
  · exact plain_any x.l B1 d1 w1 h.il (hL w1 h1)
  · exact plain_any x.r B2 d2 w1 h.ir (hR w1 h1)
  · exact refSmall_any x.l B1 d1 w1 (by omega) h.il (hL w1 h1)
  · exact refSmall_any x.r B2 d2 w1 (by omega) h.ir (hR w1 h1)

theorem RnI.on {base : Nat} {wr w' : World} {ls : List Lt} {k : Nat} {v : Value} {r : List Li} (h : RnI base wr ls k v r) (hb : Below wr.heap.size wr w') : RnI base w' ls k v r :=
  ⟨h.key, (h.row.keep (fun g e => hb.block g (row_lt h.row.row g e).2) fun g e => hb.block g e.2.1).wide fun _ e => ⟨e.1, Nat.lt_of_lt_of_le e.2.1 hb.size, e.2.2⟩⟩

theorem Lits.up {cl : List Lt} {A : Option Addr} {w1 w2 : World} (h : Lits w1 (· < w1.heap.size) A cl) (hb : Below w1.heap.size w1 w2) : Lits w2 (· < w2.heap.size) A cl := (h.keep fun g e => hb.block g e).wide fun _ e => Nat.lt_of_lt_of_le e hb.size
theorem Binds.upB {l : List Bd} {A : Option Addr} {w1 w2 : World} (h : Binds w1 (· < w1.heap.size) A l) (hb : Below w1.heap.size w1 w2) : Binds w2 (· < w2.heap.size) A l := (h.keep fun g e => hb.block g e).wide fun _ e => Nat.lt_of_lt_of_le e hb.size
/-- What the calls behind the loop answer: a is the normal form of both clauses; sB, zB are what Normal tells of them. -/
structure NamesF (w wo : World) (n : Nat) (A Av : Option Addr) (c cv : Nat) (a : List Lt) (m : Nat) (sB : List Bd) (m2 : Nat) (zB : List Bd) : Prop where
  c1 : ∀ w1, Below wo.heap.size wo w1 → Calls Try.prog 27 #[.slice A n c] w1 fun e w' => ∃ A' c' B' d', e = .returned (.tuple #[.slice A' n c', .slice B' m d']) ∧ Lits w' (· < w'.heap.size) A' a ∧ Binds w' (· < w'.heap.size) B' sB ∧ Below w1.heap.size w1 w'
  c2 : ∀ w1, Below wo.heap.size wo w1 → Calls Try.prog 27 #[.slice Av n cv] w1 fun e w' => ∃ A' c' B' d', e = .returned (.tuple #[.slice A' n c', .slice B' m2 d']) ∧ Lits w' (· < w'.heap.size) A' a ∧ Binds w' (· < w'.heap.size) B' zB ∧ Below w1.heap.size w1 w'
  c3 : ∀ w1 A1 c1, Lits w1 (· < w1.heap.size) A1 a → Calls Try.prog 27 #[.slice A1 n c1] w1 fun e w' => ∃ A' c' B' d', e = .returned (.tuple #[.slice A' n c', .slice B' 0 d']) ∧ Lits w' (· < w'.heap.size) A' a ∧ Below w1.heap.size w1 w'
  s : ∀ w1 A1 c1 A2 c2, Lits w1 (· < w1.heap.size) A1 a → Lits w1 (· < w1.heap.size) A2 a → Calls Try.prog 23 #[.slice A1 n c1, .slice A2 n c2] w1 fun e w' => e = .returned (.bool true) ∧ Below w1.heap.size w1 w'
  k1 : ∀ w1 B d, Below wo.heap.size wo w1 → Binds w1 (· < w1.heap.size) B sB → Calls Try.prog 25 #[.slice B m d, .slice A n c] w1 fun e w' => ∃ A' c', e = .returned (.slice A' n c') ∧ Lits w' (· < w'.heap.size) A' a ∧ Below w1.heap.size w1 w'
  k2 : ∀ w1 B d, Below wo.heap.size wo w1 → Binds w1 (· < w1.heap.size) B zB → Calls Try.prog 25 #[.slice B m2 d, .slice Av n cv] w1 fun e w' => ∃ A' c', e = .returned (.slice A' n c') ∧ Lits w' (· < w'.heap.size) A' a ∧ Below w1.heap.size w1 w'
theorem norm_use {cl : List Lt} (hcl : cl.length ≤ 20) (hs : ∀ x ∈ cl, x.l.size ≤ 300 ∧ x.r.size ≤ 300) {A : Option Addr} {c : Nat} {w1 : World} (hA : Lits w1 (· < w1.heap.size) A cl) :
    Calls Try.prog 27 #[.slice A cl.length c] w1 fun e w' => ∃ A' c' B' d', e = .returned (.tuple #[.slice A' cl.length c', .slice B' (rnN ((vnC cl).foldl ordI [])).length d']) ∧ Lits w' (· < w'.heap.size) A' (nuC ((vnC cl).foldl ordI []) cl) ∧ Binds w' (· < w'.heap.size) B' ((rnN ((vnC cl).foldl ordI [])).map (bdN ((vnC cl).foldl ordI []))) ∧ Below w1.heap.size w1 w' := by
  have hv := vnC_bound hs
  have hr := rnN_len ((vnC cl).foldl ordI [])
  have ho := ord_len (vnC cl) []
  simp only [List.length_nil, Nat.zero_add] at ho
  refine (Normal_any cl (by omega) (fun x hx => ⟨Nat.le_trans (hs x hx).1 (by decide), Nat.le_trans (hs x hx).2 (by decide)⟩) (by omega) A c w1 hA).mono ?_
  rintro e w' ⟨A', c', v, rfl, hL, hR, hb⟩
  obtain ⟨B', d', rfl, hD⟩ := hR.binds (by omega)
  exact ⟨A', c', B', d', rfl, hL.wide fun g e => e.2, hD, hb⟩
theorem clause_use {cl : List Lt} (hcl : cl.length ≤ 20) (hs : ∀ x ∈ cl, x.l.size ≤ 300 ∧ x.r.size ≤ 300) (hp : ∀ x ∈ cl, plainT x.l = true ∧ plainT x.r = true) {A B : Option Addr} {c d : Nat} {w1 : World} (hA : Lits w1 (· < w1.heap.size) A cl) (hB : Binds w1 (· < w1.heap.size) B ((rnN ((vnC cl).foldl ordI [])).map (bdN ((vnC cl).foldl ordI [])))) :
    Calls Try.prog 25 #[.slice B (rnN ((vnC cl).foldl ordI [])).length d, .slice A cl.length c] w1 fun e w' => ∃ A' c', e = .returned (.slice A' cl.length c') ∧ Lits w' (· < w'.heap.size) A' (nuC ((vnC cl).foldl ordI []) cl) ∧ Below w1.heap.size w1 w' := by
  have hv := vnC_bound hs
  have hr := rnN_len ((vnC cl).foldl ordI [])
  have ho := ord_len (vnC cl) []
  simp only [List.length_nil, Nat.zero_add] at ho
  have h := subClause_any ((rnN ((vnC cl).foldl ordI [])).map (bdN ((vnC cl).foldl ordI []))) B d cl A c w1 (by rw [List.length_map]; omega) hB (bdN_rise _) (bdN_small _ _) (by omega) (fun x hx => ⟨Nat.le_trans (hs x hx).1 (by decide), Nat.le_trans (hs x hx).2 (by decide)⟩) hA
  rw [List.length_map, apC_nu hp] at h
  exact h.mono fun e w' ⟨A', c', he, hL, hb⟩ => ⟨A', c', he, hL.wide fun g e => e.2, hb⟩
theorem names_fin (cl : List Lt) (b : Int) (A Av : Option Addr) (c cv : Nat) (w wo : World) (h0 : 0 ≤ b) (h1 : b ≤ 1000000) (hcl : cl.length ≤ 20) (hok : ∀ x ∈ cl, okLt x = true) (hA : Lits w (· < w.heap.size) A cl) (hBr : Below w.heap.size w wo) (hD : Lits wo (· < wo.heap.size) Av (mvC b cl)) :
    ∃ a m sB m2 zB, NamesF w wo cl.length A Av c cv a m sB m2 zB := by
  have hlow : ∀ x ∈ cl, lowT x.l = true ∧ lowT x.r = true := fun x hx => (okLt_low (hok x hx)).2.2
  have hs : ∀ x ∈ cl, x.l.size ≤ 300 ∧ x.r.size ≤ 300 := fun x hx => ⟨(okLt_low (hok x hx)).1, (okLt_low (hok x hx)).2.1⟩
  have hnu := mvC_nu h0 h1 hlow
  have hms := mvC_size h0 h1 hok
  have hml := mvC_len b cl
  have hal := nuC_len ((vnC cl).foldl ordI []) cl
  have has := nuC_size (L := (vnC cl).foldl ordI []) hs
  have hpm : ∀ x ∈ mvC b cl, plainT x.l = true ∧ plainT x.r = true := fun x hx => by
    obtain ⟨y, hy, rfl⟩ := List.mem_map.1 hx
    exact ⟨(mov_low h0 h1 y.l (hlow y hy).1).plain, (mov_low h0 h1 y.r (hlow y hy).2).plain⟩
  have hAo := hA.up hBr
  refine ⟨nuC ((vnC cl).foldl ordI []) cl, (rnN ((vnC cl).foldl ordI [])).length, (rnN ((vnC cl).foldl ordI [])).map (bdN ((vnC cl).foldl ordI [])), (rnN ((vnC (mvC b cl)).foldl ordI [])).length, (rnN ((vnC (mvC b cl)).foldl ordI [])).map (bdN ((vnC (mvC b cl)).foldl ordI [])), ?_, ?_, ?_, ?_, ?_, ?_⟩
  · exact fun w1 hb => norm_use hcl hs (hAo.up hb)
  · intro w1 hb
    have := norm_use (c := cv) (by omega) hms (hD.up hb)
    rw [hml, hnu] at this
    exact this
  · intro w1 A1 c1 hL
    have := norm_use (c := c1) (by omega) has hL
    rw [hal, nuC_again, nuC_none] at this
    exact this.mono fun e w' ⟨A', c', B', d', he, h1, _, h3⟩ => ⟨A', c', B', d', he, h1, h3⟩
  · intro w1 A1 c1 A2 c2 hL1 hL2
    have := lawSame_any _ _ A1 A2 c1 c2 w1 hL1 hL2
    rwa [hal, sameC_refl] at this
  · exact fun w1 B d hb hB => clause_use hcl hs (fun x hx => ⟨low_plain _ (hlow x hx).1, low_plain _ (hlow x hx).2⟩) (hAo.up hb) hB
  · intro w1 B d hb hB
    have := clause_use (c := cv) (d := d) (by omega) hms hpm (hD.up hb) hB
    rw [hml, hnu] at this
    exact this

set_option maxHeartbeats 8000000 in
theorem SubstNames_any (cl : List Lt) (by0 : Int) (hsz : ∀ x ∈ cl, x.l.size ≤ 4398046511104 ∧ x.r.size ≤ 4398046511104) (A : Option Addr) (c : Nat) (w : World) (hA : Lits w (· < w.heap.size) A cl) :
    Calls Try.prog 5 #[.slice A cl.length c, .int .i64 by0] w fun e w' => e = .returned (.bool true) ∧ Below w.heap.size w w' := by
  by_cases hlong : 20 < cl.length
  · have hd : decide ((cl.length : Int) > 20) = true := decide_eq_true (by omega)
    clear hA
    go_enter Try.func5, Try.ntmps5
    go_wp2_with (first
      | (go_at_call 12; (with_reducible refine (subWakes_any w).mono ?_); go_must (rintro e w1 ⟨rfl, hb1⟩))
      | fail)
    go_ret
    exact ⟨rfl, hb1⟩
  · obtain ⟨i0, hi, hz0, hz1, hz2⟩ := info_parts info_lit
    have hd : decide ((cl.length : Int) > 20) = false := decide_eq_false (by omega)
    have hcl : cl.length ≤ 20 := by omega
    obtain ⟨hb0, hb1⟩ := clamp_le by0
    have HA := Lib.hid hA
    have Hsz := Lib.hid hsz
    have HN0 : Hid (∀ j, j < 0 → ∀ x, cl[j]? = some x → okLt x = true) := Lib.hid fun j hj => by omega
    clear hA hsz hlong
    go_enter Try.func5, Try.ntmps5
    go_upto_region 4 with fail
    obtain ⟨b, hb⟩ : ∃ b, max (min by0 1000000) 0 = b := ⟨_, rfl⟩
    rw [hb]
    have hb64 : I64 b := ⟨by omega, by omega⟩
    have hbl : 0 ≤ b ∧ b ≤ 1000000 := by omega
    have HI0 : Hid (RnI w.heap.size w (mvC b cl) 0 (.slice none 0 0) []) := ⟨by simp, RowG.nil_ _ _ _⟩
    have hnl := mvC_len b cl
    clear hb hb0 hb1
    go_wp2
    go_loopw [5, 22] (fun v i wr => ∃ (k : Nat) (r : List Li), k ≤ cl.length ∧ i = .int .i64 (k : Int) ∧ Below w.heap.size w wr ∧ Hid (∀ j, j < k → ∀ x, cl[j]? = some x → okLt x = true) ∧ Hid (RnI w.heap.size wr (mvC b cl) k v r)) (fun _ i _ => cl.length - (intOf i).toNat)
    case atStart => exact ⟨0, [], Nat.zero_le _, rfl, Below.refl _ _, HN0, HI0⟩
    case round =>
      obtain ⟨k, r, hk, rfl, hBr, HN, H⟩ := hrel
      clear hd
      have hrow := H.out.row.row
      have hll := H.out.len (by rw [hnl]; exact hk)
      rw [hll] at hrow
      obtain ⟨Av, cv, hv⟩ := row_own hrow
      subst hv
      by_cases hlt : k < cl.length
      · obtain ⟨x, hx⟩ : ∃ x, cl[k]? = some x := ⟨_, List.getElem?_eq_getElem hlt⟩
        obtain ⟨bb, off, B1, d1, B2, d2, rfl, hbb, h⟩ := HA.out.get hx
        obtain ⟨s1, s2⟩ := Hsz.out x (List.mem_of_getElem? hx)
        have HC := Lib.hid (ltCalls_of hBr hbb h s1 s2)
        obtain ⟨i00, i01, i02, i03⟩ := HC.out.c1 wr (Below.refl _ _)
        have Hx := Lib.hid hx
        have Hh := Lib.hid h
        have Hrow := Lib.hid hrow
        have Hll := Lib.hid hll
        clear hx h hrow hll
        rcases q0 : (!decide (x.l.size ≤ 300)) with _ | _
        · have Q0 := Lib.hid q0
          clear q0
          rcases q1 : (!decide (x.r.size ≤ 300)) with _ | _
          · have Q1 := Lib.hid q1
            clear q1
            rcases q2 : (plainT x.l) with _ | _
            · have Q2 := Lib.hid q2
              clear q2
              go_wp2_with (first
                | (go_at_call 13; (with_reducible refine (HC.out.gl wr (Below.refl _ _)).mono ?_); go_must (rintro e w1 ⟨rfl, hb1⟩; rw [Q0.out]; have hB1 := hb1; obtain ⟨j00, j01, j02, j03⟩ := HC.out.c1 w1 hB1))
                | (go_at_call 13; (with_reducible refine (HC.out.gr w1 hB1).mono ?_); go_must (rintro e w2 ⟨rfl, hb2⟩; rw [Q1.out]; have hB2 := hB1.trans (hb2.mono hB1.size); obtain ⟨j10, j11, j12, j13⟩ := HC.out.c1 w2 hB2))
                | (go_at_call 29; (with_reducible refine (HC.out.pl w2 hB2).mono ?_); go_must (rintro e w3 ⟨rfl, hb3⟩; rw [Q2.out]; have hB3 := hB2.trans (hb3.mono hB2.size); obtain ⟨j20, j21, j22, j23⟩ := HC.out.c1 w3 hB3))
                | (go_at_call 12; (with_reducible refine (subWakes_any w3).mono ?_); go_must (rintro e wz ⟨rfl, hbz⟩))
                | fail)
              go_ret
              exact ⟨rfl, hBr.trans ((hB3.trans (hbz.mono hB3.size)).mono hBr.size)⟩
            · have Q2 := Lib.hid q2
              clear q2
              rcases q3 : (plainT x.r) with _ | _
              · have Q3 := Lib.hid q3
                clear q3
                go_wp2_with (first
                  | (go_at_call 13; (with_reducible refine (HC.out.gl wr (Below.refl _ _)).mono ?_); go_must (rintro e w1 ⟨rfl, hb1⟩; rw [Q0.out]; have hB1 := hb1; obtain ⟨j00, j01, j02, j03⟩ := HC.out.c1 w1 hB1))
                  | (go_at_call 13; (with_reducible refine (HC.out.gr w1 hB1).mono ?_); go_must (rintro e w2 ⟨rfl, hb2⟩; rw [Q1.out]; have hB2 := hB1.trans (hb2.mono hB1.size); obtain ⟨j10, j11, j12, j13⟩ := HC.out.c1 w2 hB2))
                  | (go_at_call 29; (with_reducible refine (HC.out.pl w2 hB2).mono ?_); go_must (rintro e w3 ⟨rfl, hb3⟩; rw [Q2.out]; have hB3 := hB2.trans (hb3.mono hB2.size); obtain ⟨j20, j21, j22, j23⟩ := HC.out.c1 w3 hB3))
                  | (go_at_call 29; (with_reducible refine (HC.out.pr w3 hB3).mono ?_); go_must (rintro e w4 ⟨rfl, hb4⟩; rw [Q3.out]; have hB4 := hB3.trans (hb4.mono hB3.size); obtain ⟨j30, j31, j32, j33⟩ := HC.out.c1 w4 hB4))
                  | (go_at_call 12; (with_reducible refine (subWakes_any w4).mono ?_); go_must (rintro e wz ⟨rfl, hbz⟩))
                  | fail)
                go_ret
                exact ⟨rfl, hBr.trans ((hB4.trans (hbz.mono hB4.size)).mono hBr.size)⟩
              · have Q3 := Lib.hid q3
                clear q3
                rcases q4 : (smallT x.l) with _ | _
                · have Q4 := Lib.hid q4
                  clear q4
                  go_wp2_with (first
                    | (go_at_call 13; (with_reducible refine (HC.out.gl wr (Below.refl _ _)).mono ?_); go_must (rintro e w1 ⟨rfl, hb1⟩; rw [Q0.out]; have hB1 := hb1; obtain ⟨j00, j01, j02, j03⟩ := HC.out.c1 w1 hB1))
                    | (go_at_call 13; (with_reducible refine (HC.out.gr w1 hB1).mono ?_); go_must (rintro e w2 ⟨rfl, hb2⟩; rw [Q1.out]; have hB2 := hB1.trans (hb2.mono hB1.size); obtain ⟨j10, j11, j12, j13⟩ := HC.out.c1 w2 hB2))
                    | (go_at_call 29; (with_reducible refine (HC.out.pl w2 hB2).mono ?_); go_must (rintro e w3 ⟨rfl, hb3⟩; rw [Q2.out]; have hB3 := hB2.trans (hb3.mono hB2.size); obtain ⟨j20, j21, j22, j23⟩ := HC.out.c1 w3 hB3))
                    | (go_at_call 29; (with_reducible refine (HC.out.pr w3 hB3).mono ?_); go_must (rintro e w4 ⟨rfl, hb4⟩; rw [Q3.out]; have hB4 := hB3.trans (hb4.mono hB3.size); obtain ⟨j30, j31, j32, j33⟩ := HC.out.c1 w4 hB4))
                    | (go_at_call 30; (with_reducible refine (HC.out.sl w4 hB4).mono ?_); go_must (rintro e w5 ⟨rfl, hb5⟩; rw [Q4.out]; have hB5 := hB4.trans (hb5.mono hB4.size); obtain ⟨j40, j41, j42, j43⟩ := HC.out.c1 w5 hB5))
                    | (go_at_call 12; (with_reducible refine (subWakes_any w5).mono ?_); go_must (rintro e wz ⟨rfl, hbz⟩))
                    | fail)
                  go_ret
                  exact ⟨rfl, hBr.trans ((hB5.trans (hbz.mono hB5.size)).mono hBr.size)⟩
                · have Q4 := Lib.hid q4
                  clear q4
                  rcases q5 : (smallT x.r) with _ | _
                  · have Q5 := Lib.hid q5
                    clear q5
                    go_wp2_with (first
                      | (go_at_call 13; (with_reducible refine (HC.out.gl wr (Below.refl _ _)).mono ?_); go_must (rintro e w1 ⟨rfl, hb1⟩; rw [Q0.out]; have hB1 := hb1; obtain ⟨j00, j01, j02, j03⟩ := HC.out.c1 w1 hB1))
                      | (go_at_call 13; (with_reducible refine (HC.out.gr w1 hB1).mono ?_); go_must (rintro e w2 ⟨rfl, hb2⟩; rw [Q1.out]; have hB2 := hB1.trans (hb2.mono hB1.size); obtain ⟨j10, j11, j12, j13⟩ := HC.out.c1 w2 hB2))
                      | (go_at_call 29; (with_reducible refine (HC.out.pl w2 hB2).mono ?_); go_must (rintro e w3 ⟨rfl, hb3⟩; rw [Q2.out]; have hB3 := hB2.trans (hb3.mono hB2.size); obtain ⟨j20, j21, j22, j23⟩ := HC.out.c1 w3 hB3))
                      | (go_at_call 29; (with_reducible refine (HC.out.pr w3 hB3).mono ?_); go_must (rintro e w4 ⟨rfl, hb4⟩; rw [Q3.out]; have hB4 := hB3.trans (hb4.mono hB3.size); obtain ⟨j30, j31, j32, j33⟩ := HC.out.c1 w4 hB4))
                      | (go_at_call 30; (with_reducible refine (HC.out.sl w4 hB4).mono ?_); go_must (rintro e w5 ⟨rfl, hb5⟩; rw [Q4.out]; have hB5 := hB4.trans (hb5.mono hB4.size); obtain ⟨j40, j41, j42, j43⟩ := HC.out.c1 w5 hB5))
                      | (go_at_call 30; (with_reducible refine (HC.out.sr w5 hB5).mono ?_); go_must (rintro e w6 ⟨rfl, hb6⟩; rw [Q5.out]; have hB6 := hB5.trans (hb6.mono hB5.size); obtain ⟨j50, j51, j52, j53⟩ := HC.out.c1 w6 hB6))
                      | (go_at_call 12; (with_reducible refine (subWakes_any w6).mono ?_); go_must (rintro e wz ⟨rfl, hbz⟩))
                      | fail)
                    go_ret
                    exact ⟨rfl, hBr.trans ((hB6.trans (hbz.mono hB6.size)).mono hBr.size)⟩
                  · have Q5 := Lib.hid q5
                    clear q5
                    go_upto_region 10 with (first
                      | (go_at_call 13; (with_reducible refine (HC.out.gl wr (Below.refl _ _)).mono ?_); go_must (rintro e w1 ⟨rfl, hb1⟩; rw [Q0.out]; have hB1 := hb1; obtain ⟨j00, j01, j02, j03⟩ := HC.out.c1 w1 hB1))
                      | (go_at_call 13; (with_reducible refine (HC.out.gr w1 hB1).mono ?_); go_must (rintro e w2 ⟨rfl, hb2⟩; rw [Q1.out]; have hB2 := hB1.trans (hb2.mono hB1.size); obtain ⟨j10, j11, j12, j13⟩ := HC.out.c1 w2 hB2))
                      | (go_at_call 29; (with_reducible refine (HC.out.pl w2 hB2).mono ?_); go_must (rintro e w3 ⟨rfl, hb3⟩; rw [Q2.out]; have hB3 := hB2.trans (hb3.mono hB2.size); obtain ⟨j20, j21, j22, j23⟩ := HC.out.c1 w3 hB3))
                      | (go_at_call 29; (with_reducible refine (HC.out.pr w3 hB3).mono ?_); go_must (rintro e w4 ⟨rfl, hb4⟩; rw [Q3.out]; have hB4 := hB3.trans (hb4.mono hB3.size); obtain ⟨j30, j31, j32, j33⟩ := HC.out.c1 w4 hB4))
                      | (go_at_call 30; (with_reducible refine (HC.out.sl w4 hB4).mono ?_); go_must (rintro e w5 ⟨rfl, hb5⟩; rw [Q4.out]; have hB5 := hB4.trans (hb5.mono hB4.size); obtain ⟨j40, j41, j42, j43⟩ := HC.out.c1 w5 hB5))
                      | (go_at_call 30; (with_reducible refine (HC.out.sr w5 hB5).mono ?_); go_must (rintro e w6 ⟨rfl, hb6⟩; rw [Q5.out]; have hB6 := hB5.trans (hb6.mono hB5.size); obtain ⟨j50, j51, j52, j53⟩ := HC.out.c1 w6 hB6))
                      | fail)
                    have hok : okLt x = true := by
                      have z0 := Q0.out
                      have z1 := Q1.out
                      rw [Bool.not_eq_false'] at z0 z1
                      unfold okLt
                      rw [z0, z1, Q2.out, Q3.out, Q4.out, Q5.out]; rfl
                    have hnx : Hid (∀ j, j < k + 1 → ∀ x, cl[j]? = some x → okLt x = true) := Lib.hid fun j hj y hy => by
                      rcases Nat.lt_or_ge j k with h | h
                      · exact HN.out j h y hy
                      · obtain rfl : j = k := by omega
                        rw [Hx.out] at hy; injection hy with hy; subst hy
                        exact hok
                    have hz6 : w.heap.size ≤ w6.heap.size := Nat.le_trans hBr.size hB6.size
                    have hBw6 : Below w.heap.size w w6 := hBr.trans (hB6.mono hBr.size)
                    have H6 := Lib.hid (H.out.on hB6)
                    have Hrow6 := Lib.hid (row_keep Hrow.out fun g e => hB6.block g (row_lt Hrow.out g e).2)
                    have hrl := row_lt Hrow6.out
                    have hSS : ∀ w', Below w6.heap.size w6 w' → w'.cell? ⟨bb, off + k * 5, none⟩ = some (.bool x.neg) ∧ w'.cell? ⟨bb, off + k * 5 + 1, none⟩ = some (.int .i64 x.l.fn) ∧ w'.cell? ⟨bb, off + k * 5 + 1 + 1, none⟩ = some (.slice B1 x.l.args.length d1) ∧ w'.cell? ⟨bb, off + k * 5 + 3, none⟩ = some (.int .i64 x.r.fn) ∧ w'.cell? ⟨bb, off + k * 5 + 3 + 1, none⟩ = some (.slice B2 x.r.args.length d2) := fun w' hb => by
                      have hb' := hBw6.trans (hb.mono hz6)
                      exact ⟨cell_on hb' hbb Hh.out.v0, cell_on hb' hbb Hh.out.v1, cell_on hb' hbb Hh.out.v2, cell_on hb' hbb Hh.out.v3, cell_on hb' hbb Hh.out.v4⟩
                    have hDr : Below w6.heap.size w6 w6.drew := bl_drewN (Below.refl _ _) 1
                    have hAL : ∀ w', Below w6.heap.size w6 w' → Args w' w'.heap.size B1 x.l.args := fun w' hb => (Hh.out.sl.keep fun g e => (hBw6.trans (hb.mono hz6)).block g e).args fun g e => Nat.lt_of_lt_of_le e (Nat.le_trans hz6 hb.size)
                    have hAR : ∀ w', Below w6.heap.size w6 w' → Args w' w'.heap.size B2 x.r.args := fun w' hb => (Hh.out.sr.keep fun g e => (hBw6.trans (hb.mono hz6)).block g e).args fun g e => Nat.lt_of_lt_of_le e (Nat.le_trans hz6 hb.size)
                    have H1 := Lib.hid (subMove_any x.l b s1 B1 d1 w6.drew Hh.out.il hb64 (hAL _ hDr))
                    have H2 : ∀ w4, Below w6.heap.size w6 w4 → _ := fun w4 hb => subMove_any x.r b s2 B2 d2 w4 Hh.out.ir hb64 (hAR w4 hb)
                    have H2 := Lib.hid H2
                    have Hu := Lib.hid (show (mvC b cl)[k]? = some ⟨x.neg, movT b x.l, movT b x.r⟩ by unfold mvC; rw [List.getElem?_map, Hx.out]; rfl)
                    obtain ⟨j0, j1, j2, j3, j4⟩ := hSS _ hDr
                    obtain ⟨y1, hy1⟩ : ∃ y1, movT b x.l = y1 := ⟨_, rfl⟩
                    obtain ⟨y2, hy2⟩ : ∃ y2, movT b x.r = y2 := ⟨_, rfl⟩
                    rw [hy1] at H1 Hu
                    rw [hy2] at H2 Hu
                    have HSS := Lib.hid hSS
                    clear hy1 hy2 hSS hAL hAR hok j50 j51 j52 j53 i00 i01 i02 i03 j00 j01 j02 j03 j10 j11 j12 j13 j20 j21 j22 j23 j30 j31 j32 j33 j40 j41 j42 j43 Q0 Q1 Q2 Q3 Q4 Q5 HC hb1 hb2 hb3 hb4 hb5 hb6 hB1 hB2 hB3 hB4 hB5 hB6 Hx Hh Hrow H Hll HN HN0 HI0 HA Hsz s1 s2
                    go_region_law
                      (first
                        | (go_simp
                           go_at_call 31
                           with_reducible refine H1.out.mono ?_
                           rintro e w7 ⟨A7, c7, rfl, hl64, hO7, hb7⟩
                           have hB7 : Below w6.heap.size w6 w7 := ⟨hb7.os, hb7.tape, hb7.output, hb7.size, hb7.block⟩
                           obtain ⟨k0, k1, k2, k3, k4⟩ := HSS.out _ hB7
                           have HA7 := Lib.hid (show ArgsN w7 (fun g => w6.heap.size ≤ g ∧ g < w7.heap.size) A7 y1.args from hO7.argsN)
                           clear hO7
                           dsimp only)
                        | (go_simp
                           go_at_call 31
                           with_reducible refine (H2.out w7 hB7).mono ?_
                           rintro e w8 ⟨A8, c8, rfl, hr64, hO8, hb8⟩
                           obtain ⟨m0, m1, m2, m3, m4⟩ := HSS.out _ (hB7.trans (hb8.mono hB7.size))
                           have HA8 := Lib.hid hO8.argsN
                           clear hO8
                           dsimp only)
                        | (refine step_append_at rfl (.tmp 76) (.tmp 97) 25 rfl w.heap.size 33 i0 (.agg #[.bool false, .int .i64 0, .slice none 0 0, .int .i64 0, .slice none 0 0]) 5 72 Try.underlying25 hi hz0 hz1 hz2 rfl (by decide) (.slice Av k cv) k _ (by simp [Act.eval]) (row_keep Hrow6.out fun g e => (Below.heap_alloc w8 _ g (Nat.lt_of_lt_of_le (hrl g e).2 (Nat.le_trans hB7.size hb8.size))).trans ((hb8.block g (Nat.lt_of_lt_of_le (hrl g e).2 hB7.size)).trans (hB7.block g (hrl g e).2))) ⟨w8.heap.size, 0, none⟩ 1 1 [.bool x.neg, .int .i64 y1.fn, .slice A7 y1.args.length c7, .int .i64 y2.fn, .slice A8 y2.args.length c8] (by simp [Act.eval]) rfl (cells_new_lit _ _ _ _ _ _ _) (by simp [Value.oneCell']) (by unfold maxLen; omega) (by omega) (by have := hB7.size; have := hb8.size; have := hBr.size; simp; omega) ?_
                           intro v9 w9 hown9 hgr9 hat9
                           have Hown9 := Lib.hid hown9
                           have Hgr9 := Lib.hid hgr9
                           have Hat9 := Lib.hid hat9
                           clear hown9 hgr9 hat9)
                        | fail)
                    all_goals
                      have hst := H6.out.next hz6 Hu.out hl64 hr64 HA7.out hB7 HA8.out hb8 Hown9.out Hgr9.out Hat9.out
                      have hBe : Below w.heap.size w w9 := (((hBw6.trans (hB7.mono hz6)).trans (hb8.mono (Nat.le_trans hz6 hB7.size))).alloc (by have := hB7.size; have := hb8.size; omega) _).grown Hgr9.out (by have := hB7.size; have := hb8.size; simp; omega) (fun g e => (hrl g e).1)
                      go_wp2
                      go_roundw
                      case rel => exact ⟨k + 1, _, by omega, by go_num, hBe, hnx, hst⟩
                      case measure => simp [intOf]; omega
          · have Q1 := Lib.hid q1
            clear q1
            go_wp2_with (first
              | (go_at_call 13; (with_reducible refine (HC.out.gl wr (Below.refl _ _)).mono ?_); go_must (rintro e w1 ⟨rfl, hb1⟩; rw [Q0.out]; have hB1 := hb1; obtain ⟨j00, j01, j02, j03⟩ := HC.out.c1 w1 hB1))
              | (go_at_call 13; (with_reducible refine (HC.out.gr w1 hB1).mono ?_); go_must (rintro e w2 ⟨rfl, hb2⟩; rw [Q1.out]; have hB2 := hB1.trans (hb2.mono hB1.size); obtain ⟨j10, j11, j12, j13⟩ := HC.out.c1 w2 hB2))
              | (go_at_call 12; (with_reducible refine (subWakes_any w2).mono ?_); go_must (rintro e wz ⟨rfl, hbz⟩))
              | fail)
            go_ret
            exact ⟨rfl, hBr.trans ((hB2.trans (hbz.mono hB2.size)).mono hBr.size)⟩
        · have Q0 := Lib.hid q0
          clear q0
          go_wp2_with (first
            | (go_at_call 13; (with_reducible refine (HC.out.gl wr (Below.refl _ _)).mono ?_); go_must (rintro e w1 ⟨rfl, hb1⟩; rw [Q0.out]; have hB1 := hb1; obtain ⟨j00, j01, j02, j03⟩ := HC.out.c1 w1 hB1))
            | (go_at_call 12; (with_reducible refine (subWakes_any w1).mono ?_); go_must (rintro e wz ⟨rfl, hbz⟩))
            | fail)
          go_ret
          exact ⟨rfl, hBr.trans ((hB1.trans (hbz.mono hB1.size)).mono hBr.size)⟩
      · obtain rfl : k = cl.length := by omega
        obtain ⟨wo, rfl⟩ : ∃ wo, wo = wr := ⟨_, rfl⟩
        have hok : ∀ x ∈ cl, okLt x = true := fun x hx => by
          obtain ⟨i, hi⟩ := List.mem_iff_getElem?.1 hx
          exact HN.out i (List.getElem?_eq_some_iff.1 hi).1 x hi
        have hD : Lits wo (· < wo.heap.size) Av (mvC b cl) := by
          obtain ⟨A', c', hv, hL⟩ := H.out.row.lits (M := (· < wo.heap.size)) (by rw [hll]; omega) (fun g e => (row_lt H.out.row.row g e).2) (fun g hg => hg.2.1)
          injection hv with e1 _ _
          subst e1
          have hkey := H.out.key
          rw [← hnl, List.take_length] at hkey
          rw [hkey] at hL
          exact hL
        obtain ⟨a, m, sB, m2, zB, HF⟩ := names_fin cl b A Av c cv w wo hbl.1 hbl.2 hcl hok HA.out hBr hD
        have C1 := Lib.hid (HF.c1 wo (Below.refl _ _))
        have HF := Lib.hid HF
        clear hD hok H HN HA Hsz hrow hll hnl HN0 HI0
        go_wp2_with (first
          | (go_at_call 27; (with_reducible refine C1.out.mono ?_); go_must (rintro e w1 ⟨A1, c1, B1, d1, rfl, hL1, hD1, hb1⟩; have HL1 := Lib.hid hL1; have HD1 := Lib.hid hD1; have C2 := Lib.hid (HF.out.c2 w1 hb1); clear hL1 hD1))
          | (go_at_call 27; (with_reducible refine C2.out.mono ?_); go_must (rintro e w2 ⟨A2, c2, B2, d2, rfl, hL2, hD2, hb2⟩; have HL2 := Lib.hid hL2; have HD2 := Lib.hid hD2; have hB2 := bl_step hb1 hb2; have HM2 := Lib.hid (HL1.out.up hb2); have C3 := Lib.hid (HF.out.c3 w2 A1 c1 HM2.out); clear hL2 hD2))
          | (go_at_call 27; (with_reducible refine C3.out.mono ?_); go_must (rintro e w3 ⟨A3, c3, B3, d3, rfl, hL3, hb3⟩; have HL3 := Lib.hid hL3; have hB3 := bl_step hB2 hb3; have HM3 := Lib.hid (HM2.out.up hb3); have C4 := Lib.hid (HF.out.s w3 A1 c1 A2 c2 HM3.out (HL2.out.up hb3)); clear hL3))
          | (go_at_call 23; (with_reducible refine C4.out.mono ?_); go_must (rintro e w4 ⟨rfl, hb4⟩; have hB4 := bl_step hB3 hb4; have HM4 := Lib.hid (HM3.out.up hb4); have C5 := Lib.hid (HF.out.s w4 A1 c1 A3 c3 HM4.out (HL3.out.up hb4))))
          | (go_at_call 23; (with_reducible refine C5.out.mono ?_); go_must (rintro e w5 ⟨rfl, hb5⟩; have hB5 := bl_step hB4 hb5; have HM5 := Lib.hid (HM4.out.up hb5); have C6 := Lib.hid (HF.out.k1 w5 B1 d1 hB5 (((HD1.out.upB hb2).upB hb3).upB (bl_step hb4 hb5)))))
          | (go_at_call 25; (with_reducible refine C6.out.mono ?_); go_must (rintro e w6 ⟨A4, c4, rfl, hL4, hb6⟩; have hB6 := bl_step hB5 hb6; have HM6 := Lib.hid (HM5.out.up hb6); have C7 := Lib.hid (HF.out.s w6 A4 c4 A1 c1 hL4 HM6.out); clear hL4))
          | (go_at_call 23; (with_reducible refine C7.out.mono ?_); go_must (rintro e w7 ⟨rfl, hb7⟩; have hB7 := bl_step hB6 hb7; have HM7 := Lib.hid (HM6.out.up hb7); have C8 := Lib.hid (HF.out.k2 w7 B2 d2 hB7 ((((HD2.out.upB hb3).upB (bl_step hb4 hb5)).upB hb6).upB hb7))))
          | (go_at_call 25; (with_reducible refine C8.out.mono ?_); go_must (rintro e w8 ⟨A5, c5, rfl, hL5, hb8⟩; have hB8 := bl_step hB7 hb8; have C9 := Lib.hid (HF.out.s w8 A5 c5 A1 c1 hL5 (HM7.out.up hb8)); clear hL5))
          | (go_at_call 23; (with_reducible refine C9.out.mono ?_); go_must (rintro e w9 ⟨rfl, hb9⟩; have hB9 := bl_step hB8 hb9))
          | (go_at_call 12; (with_reducible refine (subWakes_any w9).mono ?_); go_must (rintro e wz ⟨rfl, hbz⟩; have hBz := bl_step hB9 hbz))
          | fail)
        go_ret
        exact ⟨rfl, hBr.trans (hBz.mono hBr.size)⟩

end Go.Proofs.Ytdeegdndfblnkaa
