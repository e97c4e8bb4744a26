import Derived.Test.YtnmpeodngipfcaaP22Z11
import Derived.Test.YtnmpeodngipfcaaP22Z1
import Derived.Test.YtnmpeodngipfcaaP22Z2
import Derived.Deep.RegionLaw
/- boxes of a term -/

namespace Go.Proofs.Ytnmpeodngipfcaa

open Go.RowKit Go.Shelf Go.Maps
set_option maxRecDepth 100000
set_option maxRecDepth 100000

/-- The boxes of a signature, an order and a term. -/
structure Box3 (w : World) (b : Nat) (o : Odr) (t : Tm) (As P Q A : Option Addr) (n cs pc qc c : Nat) : Prop where
  so : BoxSO w b o As P Q n cs pc qc
  t0 : w.cell? ⟨b + 2, 0, none⟩ = some (.int .i64 t.fn)
  t1 : w.cell? ⟨b + 2, 1, none⟩ = some (.slice A t.args.length c)

theorem box3_of {w W : World} {o : Odr} {t : Tm} {As P Q A : Option Addr} {n cs pc qc c : Nat} (hW : (((w.alloc (.cells #[.slice As n cs] 36)).alloc (.cells #[.bool o.lpo, .slice P o.prec.length pc, .slice Q o.wts.length qc, .int .i64 o.var] 24)).alloc (.cells #[.int .i64 t.fn, .slice A t.args.length c] 27)) = W) : Below w.heap.size w W ∧ ∀ w1, Below W.heap.size W w1 → Box3 w1 w.heap.size o t As P Q A n cs pc qc c := by
  obtain ⟨q0, q1, q2⟩ := heap3 w (.cells #[.slice As n cs] 36) (.cells #[.bool o.lpo, .slice P o.prec.length pc, .slice Q o.wts.length qc, .int .i64 o.var] 24) (.cells #[.int .i64 t.fn, .slice A t.args.length c] 27)
  rw [hW] at q0 q1 q2
  have hz : w.heap.size + 3 = W.heap.size := by rw [← hW]; simp
  refine ⟨by rw [← hW]; exact (((Below.refl _ _).alloc (Nat.le_refl _) _).alloc (by simp) _).alloc (by simp; omega) _, fun w1 hb => ?_⟩
  obtain ⟨a0, a1, _, _⟩ := cells_two ((hb.block _ (by omega)).trans q2)
  exact ⟨boxSO_of ((hb.block _ (by omega)).trans q0) ((hb.block _ (by omega)).trans q1), a0, a1⟩

end Go.Proofs.Ytnmpeodngipfcaa

/- what is visited in a term, plain -/

namespace Go.Proofs.Ytnmpeodngipfcaa

open Go.RowKit
set_option maxRecDepth 20000
set_option maxRecDepth 20000

section

variable {ar : List Nat}

theorem visL_mem {q : List Int} {u : Tm} : ∀ (xs : List Tm) (p : List Int) (k : Nat), (q, u) ∈ visL p k xs → ∃ x ∈ xs, ∃ p', (q, u) ∈ vis p' x
  | [], p, k, h => by simp [visL] at h
  | x :: xs, p, k, h => by
    simp only [visL, List.mem_append] at h
    rcases h with h | h
    · exact ⟨x, by simp, _, h⟩
    · obtain ⟨y, hy, p', h'⟩ := visL_mem xs p _ h
      exact ⟨y, by simp [hy], p', h'⟩

theorem vis_gd : ∀ (t : Tm) (p q : List Int) (u : Tm), Gd ar t → (q, u) ∈ vis p t → Gd ar u := by
  refine Tm.ind fun f xs ih p q u hg h => ?_
  rw [vis_eq, List.mem_cons] at h
  rcases h with h | h
  · injection h with _ h
    rw [h]; exact hg
  · obtain ⟨x, hx, p', h'⟩ := visL_mem _ _ _ h
    exact ih x hx p' q u (hg.arg hx) h'

theorem vis_size : ∀ (t : Tm) (p q : List Int) (u : Tm), (q, u) ∈ vis p t → u.size ≤ t.size := by
  refine Tm.ind fun f xs ih p q u h => ?_
  rw [vis_eq, List.mem_cons] at h
  rcases h with h | h
  · injection h with _ h
    rw [h]; exact Nat.le_refl _
  · obtain ⟨x, hx, p', h'⟩ := visL_mem _ _ _ h
    have h1 := ih x hx p' q u h'
    have h2 := size_mem (show x ∈ xs from hx)
    rw [Tm.size]; omega

end

end Go.Proofs.Ytnmpeodngipfcaa

/- lpo: a term is above each of its parts, by their places: plain. -/

namespace Go.Proofs.Ytnmpeodngipfcaa

open Go.RowKit
set_option maxRecDepth 20000

theorem lp_vis {pr : List Int} {ar : List Nat} : ∀ (t : Tm) (pa q : List Int) (u : Tm), Gd ar t → (q, u) ∈ visL pa 0 t.args → lpT pr t u = true := by
  refine Tm.ind fun f xs ih pa q u hg h => ?_
  obtain ⟨x, hx, p', h'⟩ := visL_mem _ _ _ h
  have h1 := lp_arg (p := pr) (wf_vn _ hg.wf) hx
  rw [vis_eq, List.mem_cons] at h'
  rcases h' with h' | h'
  · injection h' with _ h'
    rw [h']; exact h1
  · have h2 := ih x hx p' q u (hg.arg hx) h'
    exact lp_trans (wf_vn _ hg.wf) (wf_vn _ (hg.arg hx).wf) (wf_vn _ (vis_gd x p' q u (hg.arg hx) (by rw [vis_eq]; exact List.mem_cons_of_mem _ h')).wf) h1 h2

end Go.Proofs.Ytnmpeodngipfcaa

/- Put, in plain words and in memory. -/

namespace Go.Proofs.Ytnmpeodngipfcaa

open Go.RowKit
set_option maxRecDepth 100000

/-- The term with s at a place. -/
def putT : Tm → List Int → Tm → Tm
  | _, [], s => s
  | t, i :: p, s => match t.args[i.toNat]? with
    | none => t
    | some u => .node t.fn (t.args.set i.toNat (putT u p s))

theorem sub_get {t s : Tm} {i : Int} {p : List Int} (h : subT t (i :: p) = some s) : 0 ≤ i ∧ ∃ u, t.args[i.toNat]? = some u ∧ subT u p = some s := by
  simp only [subT] at h
  split at h
  · rename_i h1
    cases hu : t.args[i.toNat]? with
    | none => rw [hu] at h; cases h
    | some u => rw [hu] at h; exact ⟨h1.1, u, rfl, h⟩
  · cases h

theorem put_self : ∀ {p : List Int} {t u : Tm}, subT t p = some u → putT t p u = t
  | [], t, u, h => by simp only [subT] at h; injection h with h; rw [h]; rfl
  | i :: p, t, s, h => by
    obtain ⟨_, u, hu, h1⟩ := sub_get h
    have := put_self h1
    obtain ⟨hlt, he⟩ := List.getElem?_eq_some_iff.1 hu
    simp only [putT, hu, this]
    rw [← he, List.set_getElem_self]
    exact Tm.eta t

/-- The place that is found, as one follows the rows. -/
def PathA (w : World) : List Int → Nat → Nat → Tm → Nat → Nat → Prop
  | [], b, o, _, b', o' => b' = b ∧ o' = o
  | i :: p, b, o, t, b', o' => ∃ gb go c u, 0 ≤ i ∧ w.cell? ⟨b, o + 1, none⟩ = some (.slice (some ⟨gb, go, none⟩) t.args.length c) ∧ t.args[i.toNat]? = some u ∧ PathA w p gb (go + i.toNat * 2) u b' o'

def FindP (t : Tm) (p : List Int) (w : World) (B b0 o0 : Nat) (e : Ending) (w' : World) : Prop := w' = w ∧
  match subT t p with
  | none => e = .returned (.pointer none)
  | some s => ∃ b off, e = .returned (.pointer (some ⟨b, off, none⟩)) ∧ PtrT w B b off s ∧ PathA w p b0 o0 t b off

/-- Where a place lies in a term's own rows: at its box, or in one of the rows; and no cell of it is frozen. -/
theorem path_in {w : World} : ∀ {p : List Int} {b o b' o' : Nat} {t : Tm} {A : Option Addr} {c lo hi : Nat}, PathA w p b o t b' o' → w.cell? ⟨b, o + 1, none⟩ = some (.slice A t.args.length c) → OwnT w lo hi A t.args →
    (p = [] ∧ b' = b ∧ o' = o) ∨ (lo ≤ b' ∧ b' < hi ∧ w.frozen? ⟨b', o', none⟩ = false ∧ w.frozen? ⟨b', o' + 1, none⟩ = false)
  | [], _, _, _, _, _, _, _, _, _, h, _, _ => .inl ⟨rfl, h.1, h.2⟩
  | i :: p, b, o, b', o', .node f xs, A, c, lo, hi, h, hc, hO => by
    obtain ⟨gb, go, c', u, h0, h1, h2, h3⟩ := h
    simp only [Tm.args] at hc h1 h2 hO
    rw [hc] at h1
    injection h1 with h1
    injection h1 with hA _ _
    have hlt := (List.getElem?_eq_some_iff.1 h2).1
    cases hO with
    | nil => simp at hlt
    | row _ _ rb cap _ vs A' c2 m hlo hpos hlen hrow hm0 hmn hm hi64 e0 e1 hs =>
      injection hA with hA
      injection hA with r1 r2 _
      subst r1; subst r2
      have hml := mono_to hm (show i.toNat + 1 ≤ xs.length by omega) (Nat.le_refl _)
      have hm1 := mono_to hm (Nat.zero_le i.toNat) (by omega)
      have hvs : vs.length = xs.length * 2 := hrow.1
      have hmi := hm i.toNat hlt
      have hcell : w.cell? ⟨rb, 0 + i.toNat * 2 + 1, none⟩ = some (.slice (A' i.toNat) u.args.length (c2 i.toNat)) := by
        rw [Nat.zero_add, hrow.cellAt (i.toNat * 2 + 1) (by omega)]
        exact e1 _ _ h2
      rcases path_in h3 hcell (hs _ _ h2) with ⟨_, rfl, rfl⟩ | ⟨k1, k2, k3⟩
      · exact .inr ⟨hlo, by omega, hrow.frozenAt (0 + i.toNat * 2), hrow.frozenAt (0 + i.toNat * 2 + 1)⟩
      · exact .inr ⟨by omega, by omega, k3⟩

/-- Two cells of a block hold a term's; all else is as it was. -/
structure Wrote (w w2 : World) (b' o' : Nat) (s : Tm) (As : Option Addr) (cs : Nat) : Prop where
  blk : ∀ g, g ≠ b' → w2.heap[g]? = w.heap[g]?
  cell : ∀ o2, o2 ≠ o' → o2 ≠ o' + 1 → w2.cell? ⟨b', o2, none⟩ = w.cell? ⟨b', o2, none⟩
  c0 : w2.cell? ⟨b', o', none⟩ = some (.int .i64 s.fn)
  c1 : w2.cell? ⟨b', o' + 1, none⟩ = some (.slice As s.args.length cs)

theorem wrote_two {w : World} {b o : Nat} {x y : Value} (s : Tm) (As : Option Addr) (cs : Nat) (h0 : w.cell? ⟨b, o, none⟩ = some x) (h1 : w.cell? ⟨b, o + 1, none⟩ = some y) :
    Wrote w ((w.setCell ⟨b, o, none⟩ (.int .i64 s.fn)).setCell ⟨b, o + 1, none⟩ (.slice As s.args.length cs)) b o s As cs := by
  have ne : ∀ {i j : Nat}, i ≠ j → (⟨b, i, none⟩ : Addr) ≠ ⟨b, j, none⟩ := fun h e => h (by injection e)
  refine ⟨fun g hg => (heap_setCell_other _ _ _ _ hg).trans (heap_setCell_other _ _ _ _ hg), fun o2 h2 h3 => ?_, ?_, ?_⟩
  · rw [World.cell?_setCell_other _ _ _ _ (ne (Ne.symm h3)), World.cell?_setCell_other _ _ _ _ (ne (Ne.symm h2))]
  · rw [World.cell?_setCell_other _ _ _ _ (ne (by omega)), World.cell?_setCell_same _ _ _ h0]
  · exact World.cell?_setCell_same _ _ _ (u := y) (by rw [World.cell?_setCell_other _ _ _ _ (ne (by omega))]; exact h1)

/-- A term's own rows, and s laid at a place in them: the term with s there. -/
theorem put_args {w w2 : World} {s : Tm} {As : Option Addr} {cs lo2 hi2 : Nat} {N : Nat → Prop} (hs64 : I64 s.fn) (hsO : OwnT w lo2 hi2 As s.args) (hN2 : ∀ g, lo2 ≤ g → g < hi2 → N g) : ∀ {p : List Int} {b o b' o' : Nat} {t v : Tm} {A : Option Addr} {c lo hi : Nat}, PathA w p b o t b' o' → subT t p = some v → I64 t.fn →
    w.cell? ⟨b, o, none⟩ = some (.int .i64 t.fn) → w.cell? ⟨b, o + 1, none⟩ = some (.slice A t.args.length c) → OwnT w lo hi A t.args → b < lo → b < lo2 → hi ≤ lo2 → (∀ g, lo ≤ g → g < hi → N g) → Wrote w w2 b' o' s As cs →
    ∃ A2 c2, I64 (putT t p s).fn ∧ w2.cell? ⟨b, o, none⟩ = some (.int .i64 (putT t p s).fn) ∧ w2.cell? ⟨b, o + 1, none⟩ = some (.slice A2 (putT t p s).args.length c2) ∧ ArgsN w2 N A2 (putT t p s).args
  | [], b, o, b', o', t, v, A, c, lo, hi, h, _, _, _, _, _, hbl, hb2, _, _, hW => by
    obtain ⟨rfl, rfl⟩ := h
    exact ⟨As, cs, hs64, hW.c0, hW.c1, (hsO.keep fun g h1 h2 => hW.blk g (by omega)).argsN.wide fun g h => hN2 g h.1 h.2⟩
  | i :: p, b, o, b', o', .node f xs, v, A, c, lo, hi, h, hv, hf, hc0, hc, hO, hbl, hb2, hh2, hhB, hW => by
    obtain ⟨gb, go, c', u, h0, h1, h2, h3⟩ := h
    obtain ⟨_, u', hu', hv'⟩ := sub_get hv
    simp only [Tm.args, Tm.fn] at hc0 hc h1 h2 hO hu' hf
    rw [h2] at hu'
    cases hu'
    rw [hc] at h1
    injection h1 with h1
    injection h1 with hA _ _
    have hlt := (List.getElem?_eq_some_iff.1 h2).1
    cases hO with
    | nil => simp at hlt
    | row _ _ rb cap _ vs A' c2 m hlo hpos hlen hrow hm0 hmn hm hi64 e0 e1 hs =>
      injection hA with hA
      injection hA with r1 r2 _
      subst r1; subst r2
      have hml := mono_to hm (show i.toNat + 1 ≤ xs.length by omega) (Nat.le_refl _)
      have hm1 := mono_to hm (Nat.zero_le i.toNat) (by omega)
      have hvs : vs.length = xs.length * 2 := hrow.1
      have hmi := hm i.toNat hlt
      have hce : ∀ k, k < xs.length * 2 → w.cell? ⟨rb, 0 + k, none⟩ = vs[k]? := fun k hk => by rw [Nat.zero_add]; exact hrow.cellAt k (by omega)
      have hcell : w.cell? ⟨rb, 0 + i.toNat * 2 + 1, none⟩ = some (.slice (A' i.toNat) u.args.length (c2 i.toNat)) := (hce (i.toNat * 2 + 1) (by omega)).trans (e1 _ _ h2)
      have hcell0 : w.cell? ⟨rb, 0 + i.toNat * 2, none⟩ = some (.int .i64 u.fn) := (hce (i.toNat * 2) (by omega)).trans (e0 _ _ h2)
      obtain ⟨A3, c3, q1, q2, q3, q4⟩ := put_args hs64 hsO hN2 h3 hv' (hi64 _ _ h2) hcell0 hcell (hs _ _ h2) (by omega) (by omega) (by omega) (fun g k1 k2 => hhB g (by omega) (by omega)) hW
      have hwhere : (b' = rb ∧ o' = 0 + i.toNat * 2) ∨ (m i.toNat ≤ b' ∧ b' < m (i.toNat + 1)) := by
        rcases path_in h3 hcell (hs _ _ h2) with ⟨_, rfl, rfl⟩ | ⟨k1, k2, _⟩
        · exact .inl ⟨rfl, rfl⟩
        · exact .inr ⟨k1, k2⟩
      have hbb : b ≠ b' := by omega
      have hcb : ∀ o2, w2.cell? ⟨b, o2, none⟩ = w.cell? ⟨b, o2, none⟩ := fun o2 => cell_of_heap (hW.blk b hbb)
      have hother : ∀ k, k ≠ i.toNat * 2 → k ≠ i.toNat * 2 + 1 → w2.cell? ⟨rb, 0 + k, none⟩ = w.cell? ⟨rb, 0 + k, none⟩ := fun k k1 k2 => by
        rcases hwhere with ⟨rfl, rfl⟩ | ⟨k3, k4⟩
        · exact hW.cell _ (by omega) (by omega)
        · exact cell_of_heap (hW.blk rb (by omega))
      have hput : putT (.node f xs) (i :: p) s = .node f (xs.set i.toNat (putT u p s)) := by simp only [putT, Tm.args, h2, Tm.fn]
      rw [hput]
      simp only [Tm.fn, Tm.args, List.length_set]
      refine ⟨some ⟨rb, 0, none⟩, c, hf, (hcb o).trans hc0, (hcb (o + 1)).trans hc, ?_⟩
      have hget : ∀ (j : Nat) (z : Tm), (xs.set i.toNat (putT u p s))[j]? = some z → (j = i.toNat ∧ z = putT u p s) ∨ (j ≠ i.toNat ∧ xs[j]? = some z) := by
        intro j z hz
        by_cases e : j = i.toNat
        · subst e
          rw [List.getElem?_set_self hlt] at hz
          injection hz with hz
          exact .inl ⟨rfl, hz.symm⟩
        · rw [List.getElem?_set_ne (Ne.symm e)] at hz
          exact .inr ⟨e, hz⟩
      have hj : ∀ {j : Nat} {z : Tm}, xs[j]? = some z → j < xs.length := fun e => (List.getElem?_eq_some_iff.1 e).1
      refine .row rb 0 _ (fun j => if j = i.toNat then A3 else A' j) (fun j => if j = i.toNat then c3 else c2 j) (hhB rb hlo (by omega)) (by rw [List.length_set]; exact hlen) (fun j z hz => ?_) (fun j z hz => ?_) (fun j z hz => ?_) (fun j z hz => ?_)
      · rcases hget j z hz with ⟨rfl, rfl⟩ | ⟨e, hz'⟩
        · exact q1
        · exact hi64 j z hz'
      · rcases hget j z hz with ⟨rfl, rfl⟩ | ⟨e, hz'⟩
        · exact q2
        · exact (hother (j * 2) (by omega) (by omega)).trans ((hce (j * 2) (by have := hj hz'; omega)).trans (e0 j z hz'))
      · rcases hget j z hz with ⟨rfl, rfl⟩ | ⟨e, hz'⟩
        · simp only [if_true]; exact q3
        · simp only [if_neg e]
          exact (hother (j * 2 + 1) (by omega) (by omega)).trans ((hce (j * 2 + 1) (by have := hj hz'; omega)).trans (e1 j z hz'))
      · rcases hget j z hz with ⟨rfl, rfl⟩ | ⟨e, hz'⟩
        · simp only [if_true]; exact q4
        · simp only [if_neg e]
          have hjl := hj hz'
          have g1 := mono_to hm (Nat.zero_le j) (by omega)
          have g2 := mono_to hm (show j + 1 ≤ xs.length by omega) (Nat.le_refl _)
          refine ((hs j z hz').keep fun g k1 k2 => hW.blk g ?_).argsN.wide fun g h => hhB g (by omega) (by omega)
          rcases hwhere with ⟨rfl, _⟩ | ⟨k3, k4⟩
          · omega
          · rcases Nat.lt_or_gt_of_ne e with h5 | h5
            · have := mono_to hm (show j + 1 ≤ i.toNat by omega) (by omega)
              omega
            · have := mono_to hm (show i.toNat + 1 ≤ j by omega) (by omega)
              omega

theorem path_keep {w w' : World} (hk : ∀ b o v, w.cell? ⟨b, o, none⟩ = some v → w'.cell? ⟨b, o, none⟩ = some v) : ∀ {p : List Int} {b o b' o' : Nat} {t : Tm}, PathA w p b o t b' o' → PathA w' p b o t b' o'
  | [], _, _, _, _, _, h => h
  | _ :: _, _, _, _, _, _, h => by
    obtain ⟨gb, go, c, u, h0, h1, h2, h3⟩ := h
    exact ⟨gb, go, c, u, h0, hk _ _ _ h1, h2, path_keep hk h3⟩

theorem frozen_of_heap {w w' : World} {b o : Nat} (h : w'.heap[b]? = w.heap[b]?) : w'.frozen? ⟨b, o, none⟩ = w.frozen? ⟨b, o, none⟩ := by simp [World.frozen?, h]

theorem cell_grow {w w' : World} (h : Below w.heap.size w w') : ∀ b o v, w.cell? ⟨b, o, none⟩ = some v → w'.cell? ⟨b, o, none⟩ = some v := fun _ _ _ e => cell_on h (World.block_lt_of_cell? w _ e) e

end Go.Proofs.Ytnmpeodngipfcaa

/- The document's own answer: Copy. -/

namespace Go.Proofs.Ytnmpeodngipfcaa

open Go.RowKit Go.Shelf
set_option maxRecDepth 100000

/-- What lies apart since a world, but for the row of v itself. -/
def Apart (lo : Nat) (v : Value) (w : World) (g : Nat) : Prop := lo ≤ g ∧ g < w.heap.size ∧ v.ownBlock ≠ some g

/-- A copy of t, in new memory: the row of its arguments is the call's own. -/
def RCopyPost (t : Tm) (w : World) (e : Ending) (w' : World) : Prop := ∃ v l, e = .returned (.agg #[.int .i64 t.fn, v]) ∧ l.map Ti.t = t.args ∧ RowT w' w.heap.size v l (Apart w.heap.size v w') ∧ Below w.heap.size w w'

def RCopyAt (t : Tm) : Prop := t.size ≤ 4398046511104 → ∀ (A : Option Addr) (c : Nat) (w : World), I64 t.fn → Args w w.heap.size A t.args → Calls Try.prog 50 #[.agg #[.int .i64 t.fn, .slice A t.args.length c]] w (RCopyPost t w)

/-- What the loop has laid: the box, its row. -/
structure RCopyI (w wr : World) (f : Int) (xs : List Tm) (k : Nat) (v : Value) (l : List Ti) : Prop where
  box : wr.heap[w.heap.size + 2]? = some (.cells #[.int .i64 f, v] 27)
  key : l.map Ti.t = xs.take k
  row : RowT wr (w.heap.size + 3) v l (Apart (w.heap.size + 3) v wr)

theorem RCopyI.len {w wr : World} {f : Int} {xs : List Tm} {k : Nat} {v : Value} {l : List Ti} (h : RCopyI w wr f xs k v l) (hk : k ≤ xs.length) : l.length = k := by
  have := congrArg List.length h.key
  simpa [Nat.min_eq_left hk] using this

theorem row_own {W : World} {base n : Nat} {e : TypeId} {size : Nat} {v : Value} {vs : List Value} (h : W.ownsRow base e size v n vs) : ∃ A c, v = .slice A n c := by
  rcases h.2 with ⟨hv, h0⟩ | ⟨g, cap, cur, hv, _⟩
  · exact ⟨none, 0, by rw [hv, h0]⟩
  · exact ⟨_, cap, hv⟩

theorem RowT.base {w : World} {base base' : Nat} {v : Value} {l : List Ti} {N : Nat → Prop} (h : RowT w base v l N) (hb : base' ≤ base) : RowT w base' v l N := by
  refine ⟨⟨h.row.1, ?_⟩, h.i64, h.sub⟩
  rcases h.row.2 with h0 | ⟨g, cap, cur, hv, h1, hrest⟩
  · exact .inl h0
  · exact .inr ⟨g, cap, cur, hv, Nat.le_trans hb h1, hrest⟩

/-- One more: the copy of the next argument, its box, the row that has grown, the store. -/
theorem RCopyI.next {w wr w4 w5 : World} {f : Int} {xs : List Tm} {k : Nat} {v v4 v5 : Value} {l l4 : List Ti} {u : Tm} {A4 : Option Addr} {c4 : Nat} {o : Obj} (h : RCopyI w wr f xs k v l) (hu : xs[k]? = some u) (hi : I64 u.fn) (hl4 : l4.map Ti.t = u.args) (h64 : u.args.length ≤ 9223372036854775807) (hv4 : v4 = .slice A4 u.args.length c4)
    (hR4 : RowT w4 wr.heap.size v4 l4 (Apart wr.heap.size v4 w4)) (hb4 : Below wr.heap.size wr w4) (hown : w5.ownsRow (w.heap.size + 3) 27 2 v5 (k + 1) (l.flatMap Ti.cells ++ (⟨u, A4, c4⟩ : Ti).cells))
    (hgr : (w4.alloc o).grownBy w5 v.ownBlock) (hat : v5.ownBlock = v.ownBlock ∨ v5.ownBlock = some (w4.alloc o).heap.size) :
    RCopyI w (w5.setCell ⟨w.heap.size + 2, 1, none⟩ v5) f xs (k + 1) v5 (l ++ [⟨u, A4, c4⟩]) := by
  have hkl := (List.getElem?_eq_some_iff.1 hu).1
  have hlen := h.len (by omega)
  have hlt := row_lt h.row.row
  have hs4 := hb4.size
  have hs5 := hgr.size
  have hbs : w.heap.size + 2 < wr.heap.size := (Array.getElem?_eq_some_iff.1 h.box).1
  have hK : ∀ g, g < wr.heap.size → v.ownBlock ≠ some g → w5.heap[g]? = wr.heap[g]? := fun g h1 h2 => (hgr.block g (by simp; omega) (fun e => h2 e.symm)).trans ((Below.heap_alloc w4 o g (by omega)).trans (hb4.block g h1))
  have hK4 : ∀ g, g < w4.heap.size → v.ownBlock ≠ some g → w5.heap[g]? = w4.heap[g]? := fun g h1 h2 => (hgr.block g (by simp; omega) (fun e => h2 e.symm)).trans (Below.heap_alloc w4 o g h1)
  have hb2 : v.ownBlock ≠ some (w.heap.size + 2) := fun e => by have := (hlt _ e).1; omega
  have hbox5 := (hK _ hbs hb2).trans h.box
  obtain ⟨_, z1⟩ := set2_two (u := .int .i64 f) (v := v5) hbox5
  have hset : ∀ g, g ≠ w.heap.size + 2 → (w5.setCell ⟨w.heap.size + 2, 1, none⟩ v5).heap[g]? = w5.heap[g]? := fun g e => heap_setCell_other _ _ _ _ e
  have hlt5 := row_lt hown
  have hv5 : ∀ g, g < wr.heap.size → v.ownBlock ≠ some g → v5.ownBlock ≠ some g := fun g h1 h2 e => by
    rcases hat with h3 | h3
    · rw [h3] at e; exact h2 e
    · rw [h3] at e; injection e with e; simp at e; omega
  have hv54 : ∀ g, wr.heap.size ≤ g → g < w4.heap.size → v5.ownBlock ≠ some g := fun g h1 h2 e => by
    rcases hat with h3 | h3
    · rw [h3] at e; have := (hlt _ e).2; omega
    · rw [h3] at e; injection e with e; simp at e; omega
  have hsz5 : w4.heap.size + 1 ≤ w5.heap.size := by simpa using hs5
  refine ⟨?_, ?_, ?_⟩
  · exact heap_setCell_same w5 _ 1 _ _ _ hbox5
  · rw [List.map_append, h.key, List.take_add_one, hu]; rfl
  · refine RowT.push (w := wr) (N := Apart (w.heap.size + 3) v wr) h.row ?_ hi ?_ (fun g hg => ?_) (fun g hg => ⟨hg.1, by have := hg.2.1; simp; omega, hv5 g hg.2.1 hg.2.2⟩)
    · rw [hlen]
      exact row_keep hown fun g e => hset g (by have := (hlt5 g e).1; omega)
    · have hl4l : l4.length ≤ 9223372036854775807 := by have := congrArg List.length hl4; simp at this; omega
      obtain ⟨A', c', e, hA⟩ := hR4.argsN (M := fun g => wr.heap.size ≤ g ∧ g < w4.heap.size) hl4l (fun g e => row_lt hR4.row g e) (fun g hg => ⟨hg.1, hg.2.1⟩)
      rw [hv4] at e
      injection e with e1 _ _
      subst e1
      rw [hl4] at hA
      refine (hA.keep fun g hg => ?_).wide fun g hg => ⟨by omega, by simp; omega, hv54 g hg.1 hg.2⟩
      exact (hset g (by omega)).trans (hK4 g hg.2 fun e => by have := (hlt _ e).2; omega)
    · exact (hset g (by have := hg.1; omega)).trans (hK g hg.2.1 hg.2.2)

set_option maxHeartbeats 2000000 in
theorem refCopy_any (t : Tm) : RCopyAt t := by
  refine Tm.ind (P := RCopyAt) (fun f xs ih => ?_) t
  intro hsz A c w hf hA
  simp only [Tm.fn, Tm.args] at hf hA ⊢
  have hlen : xs.length ≤ 4398046511104 := by have := sizes_len xs; simp only [Tm.size] at hsz; omega
  obtain ⟨i0, hi, hz0, hz1, hz2⟩ := info_parts info_term
  obtain ⟨q0, q1, q2⟩ := heap3 w (.cells #[.int .i64 f, .slice A xs.length c] 27) (.cells #[.int .i64 0, .slice none 0 0] 27) (.cells #[.int .i64 f, .slice none 0 0] 27)
  obtain ⟨W, hW⟩ : ∃ W, (((w.alloc (.cells #[.int .i64 f, .slice A xs.length c] 27)).alloc (.cells #[.int .i64 0, .slice none 0 0] 27)).alloc (.cells #[.int .i64 f, .slice none 0 0] 27)) = W := ⟨_, rfl⟩
  have hB : Below w.heap.size w W := by rw [← hW]; exact (((Below.refl _ _).alloc (Nat.le_refl _) _).alloc (by simp) _).alloc (by simp; omega) _
  rw [hW] at q0 q1 q2
  have hWs : w.heap.size + 2 < W.heap.size := (Array.getElem?_eq_some_iff.1 q2).1
  have hI0 : RCopyI w W f xs 0 (.slice none 0 0) [] := ⟨q2, by simp, RowT.nil_ _ _ _⟩
  have HI0 := Lib.hid hI0
  have HA := Lib.hid hA
  have HW := Lib.hid hW
  clear hW hA q2 hI0
  go_enter Try.func50, Try.ntmps50
  go_wp2
  rw [HW.out]
  go_loopw [4] (fun i wr => ∃ (k : Nat) (v : Value) (l : List Ti), k ≤ xs.length ∧ i = .int .i64 (k : Int) ∧ Below (w.heap.size + 2) W wr ∧ Hid (RCopyI w wr f xs k v l)) (fun i _ => xs.length - (intOf i).toNat)
  case atStart => exact ⟨0, _, [], Nat.zero_le _, rfl, Below.refl _ _, HI0⟩
  case round =>
    obtain ⟨k, v, l, hk, rfl, hBr, H⟩ := hrel
    have hbx := H.out.box
    have hbs : w.heap.size + 2 < wr.heap.size := (Array.getElem?_eq_some_iff.1 hbx).1
    obtain ⟨a0, a1, _, _⟩ := cells_two ((hBr.block _ (by omega)).trans q0)
    obtain ⟨c0, c1, g0, g1⟩ := cells_two hbx
    have hBw : Below w.heap.size w wr := hB.trans (hBr.mono (by omega))
    by_cases hlt : k < xs.length
    · obtain ⟨u, hu⟩ : ∃ u, xs[k]? = some u := ⟨_, List.getElem?_eq_getElem hlt⟩
      obtain ⟨bb, off, A1, c1', rfl, ha⟩ := HA.out.get hu
      have hbw := ha.hb
      have e0 := cell_on hBw hbw ha.c0
      have e1 := cell_on hBw hbw ha.c1
      have hbb : bb < wr.heap.size := by omega
      have hs1 : Hid (Args wr.drew wr.drew.heap.size A1 u.args) := (ha.sub.on hBw).drewN 1
      have hi64 := ha.hi
      have hmem := List.mem_of_getElem? hu
      have hszt : u.size ≤ 4398046511104 := by have := size_mem hmem; simp only [Tm.size] at hsz; omega
      have hul : u.args.length ≤ 9223372036854775807 := ha.sub.len
      have Hu := Lib.hid hu
      have hrow := H.out.row.row
      have hll := H.out.len hk
      rw [hll] at hrow
      obtain ⟨Av, cv, hv⟩ := row_own hrow
      subst hv
      have hrl := row_lt hrow
      have Hrow := Lib.hid hrow
      have hSS : ∀ w', Below wr.heap.size wr w' → w'.cell? ⟨w.heap.size + 2, 1, none⟩ = some (.slice Av k cv) ∧ w'.cell? ⟨w.heap.size, 1, none⟩ = some (.slice (some ⟨bb, off, none⟩) xs.length c) ∧ w'.cell? ⟨bb, off + k * 2, none⟩ = some (.int .i64 u.fn) ∧ w'.cell? ⟨bb, off + k * 2 + 1, none⟩ = some (.slice A1 u.args.length c1') := fun w' h => ⟨cell_on h hbs c1, cell_on h (by omega) a1, cell_on h hbb e0, cell_on h hbb e1⟩
      have hne : ∀ g, g < w.heap.size + 3 → (Value.slice Av k cv).ownBlock ≠ some g := fun g h e => by have := (hrl g e).1; omega
      have hBX : ∀ w' : World, (∀ g, g < wr.heap.size → (Value.slice Av k cv).ownBlock ≠ some g → w'.heap[g]? = wr.heap[g]?) → w'.cell? ⟨w.heap.size + 2, 1, none⟩ = some (.slice Av k cv) ∧ w'.frozen? ⟨w.heap.size + 2, 1, none⟩ = false := fun w' h => ⟨(cell_of_heap (h _ hbs (hne _ (by omega)))).trans c1, (frozen_of_heap (h _ hbs (hne _ (by omega)))).trans g1⟩
      clear hu ha hrow
      go_wp2
      go_region_law
        (first
          | (go_simp
             go_at_call 50
             refine (ih u hmem hszt A1 c1' wr.drew hi64 hs1.out).mono ?_
             rintro e w4 ⟨v4, l4, rfl, hl4, hR4, hb4⟩
             have hB4 : Below wr.heap.size wr w4 := ⟨hb4.os, hb4.tape, hb4.output, hb4.size, hb4.block⟩
             obtain ⟨A4, c4, hv4⟩ := row_own hR4.row
             have hl4l : l4.length = u.args.length := by rw [← hl4, List.length_map]
             rw [hl4l] at hv4
             have HR4 := Lib.hid hR4
             obtain ⟨k4, _, _, _⟩ := hSS _ hB4
             obtain ⟨k4', _, _, _⟩ := hSS _ (hB4.alloc hB4.size (.cells #[.int .i64 u.fn, .slice A4 u.args.length c4] 27))
             subst hv4
             clear hR4
             dsimp only)
          | (refine step_append_at rfl (.tmp 16) (.tmp 23) 25 rfl (w.heap.size + 3) 27 i0 (.agg #[.int .i64 0, .slice none 0 0]) 2 32 Try.underlying25 hi hz0 hz1 hz2 rfl (by decide) (.slice Av k cv) k _ (by simp [Act.eval]) (row_keep Hrow.out fun g e => (Below.heap_alloc w4 _ g (Nat.lt_of_lt_of_le (hrl g e).2 hB4.size)).trans (hB4.block g (hrl g e).2)) ⟨w4.heap.size, 0, none⟩ 1 1 [.int .i64 u.fn, .slice A4 u.args.length c4] (by simp [Act.eval]) rfl (cells_new_two _ _ _ _) (by simp [Value.oneCell']) (by unfold maxLen; omega) (by omega) (by have := hB4.size; simp; omega) ?_
             intro v5 w5 hown5 hgr5 hat5
             have hK5 : ∀ g, g < wr.heap.size → (Value.slice Av k cv).ownBlock ≠ some g → w5.heap[g]? = wr.heap[g]? := fun g h1 h2 => (hgr5.block g (by have := hB4.size; simp; omega) (fun e => h2 e.symm)).trans ((Below.heap_alloc w4 _ g (by have := hB4.size; omega)).trans (hB4.block g h1))
             obtain ⟨k1, kf⟩ := hBX w5 hK5
             obtain ⟨g5, cap5, hv5⟩ := ownsRow_succ hown5
             have Hown5 := Lib.hid hown5
             have Hgr5 := Lib.hid hgr5
             have Hat5 := Lib.hid hat5
             subst hv5
             clear hown5 hgr5 hat5 hK5)
          | fail)
      all_goals
        have hst := H.out.next Hu.out hi64 hl4 hul rfl HR4.out hB4 Hown5.out Hgr5.out Hat5.out
        have hBe : Below (w.heap.size + 2) W w5 := ((hBr.trans (hB4.mono (by omega))).alloc (by have := hB4.size; omega) _).grown Hgr5.out (by have := hB4.size; simp; omega) (fun g e => by have := (hrl g e).1; omega)
        go_wp2
        go_roundw
        case rel => exact ⟨k + 1, _, _, by omega, by go_num, hBe.setCell (Nat.le_refl _) _, hst⟩
        case measure => simp [intOf]; omega
    · obtain rfl : k = xs.length := by omega
      have hrow := H.out.row.row
      have hll := H.out.len hk
      rw [hll] at hrow
      obtain ⟨Av, cv, hv⟩ := row_own hrow
      subst hv
      have hkey := Lib.hid H.out.key
      have HR := Lib.hid H.out.row
      obtain ⟨b0, b1, bg0, bg1⟩ := cells_two ((hBr.block _ (by omega)).trans q1)
      clear hrow
      go_wp2
      have z1 : (wr.setCell ⟨w.heap.size + 1, 0, none⟩ (.int .i64 f)).heap[w.heap.size + 1]? = some (.cells #[.int .i64 f, .slice none 0 0] 27) := heap_setCell_same wr _ 0 _ _ _ ((hBr.block _ (by omega)).trans q1)
      have z2 : ((wr.setCell ⟨w.heap.size + 1, 0, none⟩ (.int .i64 f)).setCell ⟨w.heap.size + 1, 1, none⟩ (.slice Av xs.length cv)).heap[w.heap.size + 1]? = some (.cells #[.int .i64 f, .slice Av xs.length cv] 27) := heap_setCell_same _ _ 1 _ _ _ z1
      have p0 := (cells_two z1).1
      have p1 := (cells_two z2).2.1
      have hoth : ∀ g, g ≠ w.heap.size + 1 → ((wr.setCell ⟨w.heap.size + 1, 0, none⟩ (.int .i64 f)).setCell ⟨w.heap.size + 1, 1, none⟩ (.slice Av xs.length cv)).heap[g]? = wr.heap[g]? := fun g e => (heap_setCell_other _ _ _ _ e).trans (heap_setCell_other _ _ _ _ e)
      refine bodyPost_ret (v := .agg #[.int .i64 f, .slice Av xs.length cv]) (by simp [results, Try.results50, go_sem, p0, p1]) rfl ⟨_, l, rfl, by rw [hkey.out, List.take_length]; rfl, ?_, ?_⟩
      · have hk3 := (HR.out.keep (fun g e => hoth g (by have := (row_lt HR.out.row g e).1; omega)) (fun g e => hoth g (by have := e.1; omega))).base (base' := w.heap.size) (by omega)
        exact hk3.wide fun g e => show Apart _ _ _ g from ⟨by have := e.1; omega, by have := e.2.1; simpa using this, e.2.2⟩
      · exact (hBw.setCell (by show _ ≤ w.heap.size + 1; omega) _).setCell (by show _ ≤ w.heap.size + 1; omega) _

end Go.Proofs.Ytnmpeodngipfcaa

