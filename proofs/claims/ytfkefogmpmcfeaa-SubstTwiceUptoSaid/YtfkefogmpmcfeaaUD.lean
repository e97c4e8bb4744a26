/- Two substitutions together, merged in the order of their variables, in plain words. The document's own answer: Compose. -/
import Derived.Test.YtfkefogmpmcfeaaU14
import Derived.Test.YtfkefogmpmcfeaaU15
import Derived.Test.YtfkefogmpmcfeaaU27
import Derived.Test.YtfkefogmpmcfeaaUC
namespace Go.Proofs.Ytfkefogmpmcfeaa
open Go.RowKit Go.Shelf
set_option maxRecDepth 100000

/-- The first's binds (the second put in) and the second's others, by variable. -/
def mrg (g : Bd → Bd) : List Bd → List Bd → List Bd
  | [], ys => ys
  | x :: xs, [] => g x :: mrg g xs []
  | x :: xs, y :: ys => if x.v ≤ y.v then g x :: mrg g xs (if y.v = x.v then ys else y :: ys) else y :: mrg g (x :: xs) ys
  termination_by xs ys => xs.length + ys.length
  decreasing_by
    all_goals simp_wf
    all_goals (try split)
    all_goals (try simp only [List.length_cons])
    all_goals omega

theorem hasB_iff {l : List Bd} {v : Int} : hasB l v = true ↔ ∃ x ∈ l, x.v = v := by
  unfold hasB findB
  rw [List.find?_isSome]
  simp
theorem hasB_cons (x : Bd) (xs : List Bd) (v : Int) : hasB (x :: xs) v = (decide (x.v = v) || hasB xs v) := by
  rw [Bool.eq_iff_iff, hasB_iff]
  simp only [Bool.or_eq_true, decide_eq_true_eq, hasB_iff, List.mem_cons]
  constructor
  · rintro ⟨y, rfl | hy, e⟩
    · exact .inl e
    · exact .inr ⟨y, hy, e⟩
  · rintro (e | ⟨y, hy, e⟩)
    · exact ⟨x, .inl rfl, e⟩
    · exact ⟨y, .inr hy, e⟩
theorem filter_low {x : Bd} {xs ys : List Bd} (h : ∀ z ∈ ys, x.v < z.v) : (ys.filter fun z => !hasB (x :: xs) z.v) = ys.filter fun z => !hasB xs z.v := by
  apply List.filter_congr
  intro z hz
  have := h z hz
  rw [hasB_cons, decide_eq_false (by omega), Bool.false_or]

theorem mrg_perm (g : Bd → Bd) : ∀ (n : Nat) (xs ys : List Bd), xs.length + ys.length ≤ n → xs.Pairwise (fun x y => x.v < y.v) → ys.Pairwise (fun x y => x.v < y.v) →
    (mrg g xs ys).Perm (xs.map g ++ ys.filter fun z => !hasB xs z.v) := by
  intro n
  induction n with
  | zero =>
    intro xs ys h _ _
    obtain rfl : xs = [] := List.eq_nil_of_length_eq_zero (by omega)
    obtain rfl : ys = [] := List.eq_nil_of_length_eq_zero (by omega)
    simp [mrg]
  | succ n ih =>
    intro xs ys h hx hy
    match xs, ys with
    | [], ys =>
      have : (ys.filter fun z => !hasB [] z.v) = ys := List.filter_eq_self.2 fun z _ => by simp [hasB, findB]
      rw [mrg, this]
      exact .refl _
    | x :: xs, [] =>
      rw [mrg]
      have := ih xs [] (by simp at h ⊢; omega) (List.pairwise_cons.1 hx).2 .nil
      simpa using this
    | x :: xs, y :: ys =>
      obtain ⟨hx1, hx2⟩ := List.pairwise_cons.1 hx
      obtain ⟨hy1, hy2⟩ := List.pairwise_cons.1 hy
      simp only [List.length_cons] at h
      rw [mrg]
      by_cases hle : x.v ≤ y.v
      · rw [if_pos hle, List.map_cons, List.cons_append]
        refine .cons _ ?_
        by_cases he : y.v = x.v
        · rw [if_pos he]
          have hy3 : ∀ z ∈ ys, x.v < z.v := fun z hz => by have := hy1 z hz; omega
          rw [List.filter_cons_of_neg (by rw [hasB_cons, decide_eq_true he.symm]; simp), filter_low hy3]
          exact ih xs ys (by omega) hx2 hy2
        · rw [if_neg he]
          have hy3 : ∀ z ∈ y :: ys, x.v < z.v := fun z hz => by
            rcases List.mem_cons.1 hz with rfl | hz
            · omega
            · have := hy1 z hz; omega
          rw [filter_low hy3]
          exact ih xs (y :: ys) (by simp only [List.length_cons]; omega) hx2 hy
      · rw [if_neg hle]
        have hno : hasB (x :: xs) y.v = false := by
          rcases hh : hasB (x :: xs) y.v with _ | _
          · rfl
          · obtain ⟨z, hz, e⟩ := hasB_iff.1 hh
            rcases List.mem_cons.1 hz with rfl | hz
            · omega
            · have := hx1 z hz; omega
        rw [List.filter_cons_of_pos (by rw [hno]; rfl)]
        exact ((ih (x :: xs) ys (by simp only [List.length_cons]; omega) hx hy2).cons y).trans List.perm_middle.symm

theorem mrg_rise (g : Bd → Bd) (hg : ∀ x, (g x).v = x.v) : ∀ (n : Nat) (xs ys : List Bd), xs.length + ys.length ≤ n → xs.Pairwise (fun x y => x.v < y.v) → ys.Pairwise (fun x y => x.v < y.v) → (mrg g xs ys).Pairwise (fun x y => x.v < y.v) := by
  intro n
  induction n with
  | zero =>
    intro xs ys h _ _
    obtain rfl : xs = [] := List.eq_nil_of_length_eq_zero (by omega)
    obtain rfl : ys = [] := List.eq_nil_of_length_eq_zero (by omega)
    simp [mrg]
  | succ n ih =>
    intro xs ys h hx hy
    have hmem : ∀ (xs ys : List Bd), xs.Pairwise (fun x y => x.v < y.v) → ys.Pairwise (fun x y => x.v < y.v) → ∀ z ∈ mrg g xs ys, (∃ x ∈ xs, z.v = x.v) ∨ z ∈ ys := by
      intro xs ys hx hy z hz
      rcases List.mem_append.1 ((mrg_perm g _ xs ys (Nat.le_refl _) hx hy).mem_iff.1 hz) with h | h
      · obtain ⟨x, hx, rfl⟩ := List.mem_map.1 h
        exact .inl ⟨x, hx, hg x⟩
      · exact .inr (List.mem_filter.1 h).1
    match xs, ys with
    | [], ys => rw [mrg]; exact hy
    | x :: xs, [] =>
      obtain ⟨hx1, hx2⟩ := List.pairwise_cons.1 hx
      rw [mrg]
      refine .cons (fun z hz => ?_) (ih xs [] (by simp at h ⊢; omega) hx2 .nil)
      rcases hmem xs [] hx2 .nil z hz with ⟨u, hu, e⟩ | hu
      · rw [hg, e]; exact hx1 u hu
      · simp at hu
    | x :: xs, y :: ys =>
      obtain ⟨hx1, hx2⟩ := List.pairwise_cons.1 hx
      obtain ⟨hy1, hy2⟩ := List.pairwise_cons.1 hy
      simp only [List.length_cons] at h
      rw [mrg]
      by_cases hle : x.v ≤ y.v
      · rw [if_pos hle]
        by_cases he : y.v = x.v
        · rw [if_pos he]
          refine .cons (fun z hz => ?_) (ih xs ys (by omega) hx2 hy2)
          rw [hg]
          rcases hmem xs ys hx2 hy2 z hz with ⟨u, hu, e⟩ | hu
          · rw [e]; exact hx1 u hu
          · have := hy1 z hu; omega
        · rw [if_neg he]
          refine .cons (fun z hz => ?_) (ih xs (y :: ys) (by simp only [List.length_cons]; omega) hx2 hy)
          rw [hg]
          rcases hmem xs (y :: ys) hx2 hy z hz with ⟨u, hu, e⟩ | hu
          · rw [e]; exact hx1 u hu
          · rcases List.mem_cons.1 hu with rfl | hu
            · omega
            · have := hy1 z hu; omega
      · rw [if_neg hle]
        refine .cons (fun z hz => ?_) (ih (x :: xs) ys (by simp only [List.length_cons]; omega) hx hy2)
        rcases hmem (x :: xs) ys hx hy2 z hz with ⟨u, hu, e⟩ | hu
        · rcases List.mem_cons.1 hu with rfl | hu
          · omega
          · have := hx1 u hu; omega
        · exact hy1 z hu

/-- What Compose tells, in plain words. -/
def compB (la lb : List Bd) : List Bd := (mrg (thenB lb) la lb).filter fun x => !decide (selfB x)
theorem sorted_mrg {la lb S : List Bd} (ha : chkB la = true) (hb : chkB lb = true) (hp : S.Perm (bothB la lb)) (hs : S.Pairwise fun x y => x.v ≤ y.v) : S = mrg (thenB lb) la lb := by
  have hra := chkFrom_rise la (-1) ha
  have hrb := chkFrom_rise lb (-1) hb
  have hm := mrg_rise (thenB lb) (fun _ => rfl) _ la lb (Nat.le_refl _) hra hrb
  have hpm : S.Perm (mrg (thenB lb) la lb) := hp.trans (mrg_perm (thenB lb) _ la lb (Nat.le_refl _) hra hrb).symm
  refine List.Perm.eq_of_pairwise (le := fun x y : Bd => x.v ≤ y.v) (fun x y hx hy h1 h2 => ?_) hs (hm.imp fun h => Int.le_of_lt h) hpm
  have hx' := hpm.mem_iff.1 hx
  obtain ⟨i, hi⟩ := List.mem_iff_getElem?.1 hx'
  obtain ⟨j, hj⟩ := List.mem_iff_getElem?.1 hy
  obtain ⟨hi1, hi2⟩ := List.getElem?_eq_some_iff.1 hi
  obtain ⟨hj1, hj2⟩ := List.getElem?_eq_some_iff.1 hj
  rcases Nat.lt_trichotomy i j with h | h | h
  · have := List.pairwise_iff_getElem.1 hm i j hi1 hj1 h
    rw [hi2, hj2] at this; omega
  · subst h; rw [← hi2, ← hj2]
  · have := List.pairwise_iff_getElem.1 hm j i hj1 hi1 h
    rw [hi2, hj2] at this; omega
end Go.Proofs.Ytfkefogmpmcfeaa

namespace Go.Proofs.Ytfkefogmpmcfeaa
open Go.RowKit Go.Shelf
set_option maxRecDepth 100000

theorem refCheck_yes (l : List Bd) (A : Option Addr) (c : Nat) (w : World) (hl : l.length ≤ 9223372036854775806) (hA : Binds w (· < w.heap.size) A l) (h : chkB l = true) :
    Calls Try.prog 20 #[.slice A l.length c] w fun e w' => e = .returned (.int .i64 0) ∧ Below w.heap.size w w' :=
  (refCheck_any l A c w hl hA).mono fun e w' ⟨he, hb⟩ => ⟨by rw [he, chkN_yes h], hb⟩
theorem refCheck_no (l : List Bd) (A : Option Addr) (c : Nat) (w : World) (hl : l.length ≤ 9223372036854775806) (hA : Binds w (· < w.heap.size) A l) (h : chkB l = false) :
    Calls Try.prog 20 #[.slice A l.length c] w fun e w' => e = .returned (.int .i64 2) ∧ Below w.heap.size w w' :=
  (refCheck_any l A c w hl hA).mono fun e w' ⟨he, hb⟩ => ⟨by rw [he, chkN_no h], hb⟩

set_option maxHeartbeats 4000000 in
theorem refCompose_no (la lb : List Bd) (A : Option Addr) (c : Nat) (A2 : Option Addr) (c2 : Nat) (w : World) (hla : la.length ≤ 1048576) (hlb : lb.length ≤ 1048576) (hA : Binds w (· < w.heap.size) A la) (hA2 : Binds w (· < w.heap.size) A2 lb) (hn : chkB la = false ∨ chkB lb = false) :
    Calls Try.prog 31 #[.slice A la.length c, .slice A2 lb.length c2] w fun e w' => e = .returned (.tuple #[.slice none 0 0, .int .i64 2]) ∧ Below w.heap.size w w' := by
  rcases hc : chkB la with _ | _
  · have H := Lib.hid (refCheck_no la A c w (by omega) hA hc)
    clear hA hA2 hn hc
    go_enter Try.func31, Try.ntmps31
    go_wp2_with (first
      | (go_at_call 20; refine H.out.mono ?_; go_must (rintro e w1 ⟨rfl, hb1⟩))
      | fail)
    go_ret2
    exact ⟨rfl, hb1⟩
  · have H := Lib.hid (refCheck_yes la A c w (by omega) hA hc)
    have H2 : ∀ w1, Below w.heap.size w w1 → Calls Try.prog 20 #[.slice A2 lb.length c2] w1 fun e w' => e = .returned (.int .i64 2) ∧ Below w1.heap.size w1 w' := fun w1 hb => refCheck_no lb A2 c2 w1 (by omega) ((hA2.keep fun g e => hb.block g e).wide fun g e => Nat.lt_of_lt_of_le e hb.size) (by rcases hn with h | h; rw [hc] at h; cases h; exact h)
    have H2 := Lib.hid H2
    clear hA hA2 hn hc
    go_enter Try.func31, Try.ntmps31
    go_wp2_with (first
      | (go_at_call 20; (with_reducible refine H.out.mono ?_); go_must (rintro e w1 ⟨rfl, hb1⟩))
      | (go_at_call 20; (with_reducible refine (H2.out w1 hb1).mono ?_); go_must (rintro e w2 ⟨rfl, hb2⟩))
      | fail)
    go_ret2
    exact ⟨rfl, hb1.trans (hb2.mono hb1.size)⟩

/-- One more, as it lies. -/
theorem CmpI.push {n0 k : Nat} {wr w5 : World} {L : List Bd} {v v5 : Value} {l : List Bi} {x : Bd} {A4 : Option Addr} {c4 : Nat} {o : Obj} (h : CmpI n0 wr L v l) (hk : L.length = k) (hx : BiFx wr (Apart n0 v wr) ⟨x.v, x.t, A4, c4⟩)
    (hown : w5.ownsRow n0 81 3 v5 (k + 1) (l.flatMap Bi.cells ++ (⟨x.v, x.t, A4, c4⟩ : Bi).cells)) (hgr : (wr.alloc o).grownBy w5 v.ownBlock) (hat : v5.ownBlock = v.ownBlock ∨ v5.ownBlock = some (wr.alloc o).heap.size) : CmpI n0 w5 (L ++ [x]) v5 (l ++ [⟨x.v, x.t, A4, c4⟩]) := by
  have hlt := row_lt h.row.row
  have hs5 := hgr.size
  have hK : ∀ g, g < wr.heap.size → v.ownBlock ≠ some g → w5.heap[g]? = wr.heap[g]? := fun g h1 h2 => (hgr.block g (by simp; omega) (fun e => h2 e.symm)).trans (Below.heap_alloc wr o g h1)
  have hv5 : ∀ g, g < wr.heap.size → v.ownBlock ≠ some g → v5.ownBlock ≠ some g := fun g h1 h2 e => by
    rcases hat with h3 | h3
    · rw [h3] at e; exact h2 e
    · rw [h3] at e; injection e with e; simp at e; omega
  have hsz5 : wr.heap.size + 1 ≤ w5.heap.size := by simpa using hs5
  have hap : ∀ g, Apart n0 v wr g → Apart n0 v5 w5 g := fun g hg => ⟨hg.1, by have := hg.2.1; omega, hv5 g hg.2.1 hg.2.2⟩
  refine ⟨?_, ?_⟩
  · rw [List.map_append, h.key]; rfl
  · refine RowB.push (w := wr) (N := Apart n0 v wr) h.row ?_ ((hx.keep fun g hg => hK g hg.2.1 hg.2.2).wide hap) (fun g hg => hK g hg.2.1 hg.2.2) hap
    rw [h.len, hk]; exact hown

/-- The next of the two in order. -/
structure NextB (la lb : List Bd) (i j i' j' : Nat) (x : Bd) : Prop where
  eq : mrg (thenB lb) (la.drop i) (lb.drop j) = x :: mrg (thenB lb) (la.drop i') (lb.drop j')
  li : i' ≤ la.length
  lj : j' ≤ lb.length
  lt : i + j < i' + j'
theorem next_a0 {la lb : List Bd} {i j : Nat} {x : Bd} (hx : la[i]? = some x) (hj : lb.length ≤ j) (hl : j ≤ lb.length) : NextB la lb i j (i + 1) j (thenB lb x) := by
  obtain ⟨h1, h2⟩ := List.getElem?_eq_some_iff.1 hx
  refine ⟨?_, h1, hl, by omega⟩
  rw [List.drop_eq_getElem_cons h1, h2, List.drop_eq_nil_of_le hj, mrg]
theorem next_a1 {la lb : List Bd} {i j : Nat} {x y : Bd} (hx : la[i]? = some x) (hy : lb[j]? = some y) (h : x.v ≤ y.v) (hne : ¬ y.v = x.v) : NextB la lb i j (i + 1) j (thenB lb x) := by
  obtain ⟨h1, h2⟩ := List.getElem?_eq_some_iff.1 hx
  obtain ⟨h3, h4⟩ := List.getElem?_eq_some_iff.1 hy
  refine ⟨?_, h1, by omega, by omega⟩
  rw [List.drop_eq_getElem_cons h1, h2, List.drop_eq_getElem_cons h3, h4, mrg, if_pos h, if_neg hne]
theorem next_a2 {la lb : List Bd} {i j : Nat} {x y : Bd} (hx : la[i]? = some x) (hy : lb[j]? = some y) (h : x.v ≤ y.v) (he : y.v = x.v) : NextB la lb i j (i + 1) (j + 1) (thenB lb x) := by
  obtain ⟨h1, h2⟩ := List.getElem?_eq_some_iff.1 hx
  obtain ⟨h3, h4⟩ := List.getElem?_eq_some_iff.1 hy
  refine ⟨?_, h1, h3, by omega⟩
  rw [List.drop_eq_getElem_cons h1, h2, List.drop_eq_getElem_cons h3, h4, mrg, if_pos h, if_pos he]
theorem next_b0 {la lb : List Bd} {i j : Nat} {y : Bd} (hi : la.length ≤ i) (hl : i ≤ la.length) (hy : lb[j]? = some y) : NextB la lb i j i (j + 1) y := by
  obtain ⟨h3, h4⟩ := List.getElem?_eq_some_iff.1 hy
  refine ⟨?_, hl, h3, by omega⟩
  rw [List.drop_eq_nil_of_le hi, List.drop_eq_getElem_cons h3, h4, mrg, mrg]
theorem next_b1 {la lb : List Bd} {i j : Nat} {x y : Bd} (hx : la[i]? = some x) (hy : lb[j]? = some y) (h : ¬ x.v ≤ y.v) : NextB la lb i j i (j + 1) y := by
  obtain ⟨h1, h2⟩ := List.getElem?_eq_some_iff.1 hx
  obtain ⟨h3, h4⟩ := List.getElem?_eq_some_iff.1 hy
  refine ⟨?_, by omega, h3, by omega⟩
  rw [List.drop_eq_getElem_cons h1, h2, List.drop_eq_getElem_cons h3, h4, mrg, if_neg h]

/-- How far the document's Compose has come. -/
structure RcI (la lb : List Bd) (n0 : Nat) (wr : World) (i j : Nat) (v : Value) (l : List Bi) (L : List Bd) : Prop where
  li : i ≤ la.length
  lj : j ≤ lb.length
  row : CmpI n0 wr L v l
  eq : L ++ (mrg (thenB lb) (la.drop i) (lb.drop j)).filter (fun x => !decide (selfB x)) = compB la lb
  cnt : L.length ≤ i + j
theorem RcI.start (la lb : List Bd) (n0 : Nat) (wr : World) : RcI la lb n0 wr 0 0 (.slice none 0 0) [] [] := ⟨Nat.zero_le _, Nat.zero_le _, ⟨rfl, RowB.nil_ _ _ _⟩, by simp [compB], by simp⟩

/-- The next one, in its box b. -/
structure RcX (la lb : List Bd) (n0 b : Nat) (wx : World) (i j i' j' : Nat) (v : Value) (l : List Bi) (L : List Bd) (x : Bd) (A : Option Addr) (c : Nat) : Prop where
  nx : NextB la lb i j i' j' x
  box : wx.heap[b]? = some (.cells #[.int .i64 x.v, .int .i64 x.t.fn, .slice A x.t.args.length c] 81)
  row : CmpI n0 wx L v l
  fx : BiFx wx (Apart n0 v wx) ⟨x.v, x.t, A, c⟩
theorem rcx_of {la lb : List Bd} {n0 b i j i' j' : Nat} {wr W w4 : World} {v : Value} {l : List Bi} {L : List Bd} {x : Bd} {A : Option Addr} {c : Nat} {p q r : Value} (h : CmpI n0 wr L v l) (hn : n0 ≤ wr.heap.size) (hb : b = wr.heap.size) (hWx : Below wr.heap.size wr W) (hbox : W.heap[b]? = some (.cells #[p, q, r] 81))
    (h4 : Below W.heap.size W w4) (nx : NextB la lb i j i' j' x) (hv : I64 x.v) (hi : I64 x.t.fn) (hA : ArgsN w4 (fun g => W.heap.size ≤ g ∧ g < w4.heap.size) A x.t.args) :
    RcX la lb n0 b (((w4.setCell ⟨b, 0, none⟩ (.int .i64 x.v)).setCell ⟨b, 1, none⟩ (.int .i64 x.t.fn)).setCell ⟨b, 2, none⟩ (.slice A x.t.args.length c)) i j i' j' v l L x A c := by
  have hoth : ∀ g, g ≠ b → (((w4.setCell ⟨b, 0, none⟩ (.int .i64 x.v)).setCell ⟨b, 1, none⟩ (.int .i64 x.t.fn)).setCell ⟨b, 2, none⟩ (.slice A x.t.args.length c)).heap[g]? = w4.heap[g]? := fun g e => (heap_setCell_other _ _ _ _ e).trans ((heap_setCell_other _ _ _ _ e).trans (heap_setCell_other _ _ _ _ e))
  have hlt := row_lt h.row.row
  have hbW : b < W.heap.size := (Array.getElem?_eq_some_iff.1 hbox).1
  have hs4 := h4.size
  have hold : ∀ g, g < wr.heap.size → (((w4.setCell ⟨b, 0, none⟩ (.int .i64 x.v)).setCell ⟨b, 1, none⟩ (.int .i64 x.t.fn)).setCell ⟨b, 2, none⟩ (.slice A x.t.args.length c)).heap[g]? = wr.heap[g]? := fun g e => (hoth g (by omega)).trans ((h4.block g (by omega)).trans (hWx.block g e))
  refine ⟨nx, set3_three ((h4.block b hbW).trans hbox), ⟨h.key, (h.row.keep (fun g e => hold g (hlt g e).2) fun g e => hold g e.2.1).wide fun g e => ⟨e.1, by have := e.2.1; simp; omega, e.2.2⟩⟩, hv, hi, ?_⟩
  refine (hA.keep fun g hg => hoth g (by omega)).wide fun g hg => ⟨by omega, by have := hg.2; simp; omega, fun e => by have := (hlt g e).2; omega⟩
end Go.Proofs.Ytfkefogmpmcfeaa
